/-
  What a number weighs, by the program and by the reference, whatever its bits. No condition.
-/
import Derived.Test.YtdfmebfkhcdphaaFl
import Derived.Laws.Externs
import GoSem.Extern.MathFloor
set_option linter.unusedSimpArgs false
set_option linter.unusedVariables false
namespace Go.Proofs.Ytdfmebfkhcdphaa
open Go.RowKit Go.Sort M

/-- A comparison of two floats, as the walks spell it. -/
theorem gt64 {x y : Nat} {b : Bool} (h : (Ieee.double.order x y == some .gt) = b) : (FloatKind.f64.format.order x y == some .gt) = b := h
theorem arch_floor (x m : Nat) (e : Int) (h : Ieee.double.read x = .number false m e) (w : World) :
    (callFunc 17 #[.float .f64 x]).run Try.prog w = .ok (.value (.float .f64 (fl ((m <<< e.toNat) / 2 ^ (-e).toNat)))) w := by
  rw [run_callFunc_extern Try.func17 (by kernel_rfl) (by kernel_rfl) (by kernel_rfl) (e := Extern.MathFloor.toIntegral "math.archFloor" .down) (by kernel_rfl)]
  have hd : FloatKind.f64.decode x = .number false m e := h
  have hi : (Extern.MathFloor.toIntegral "math.archFloor" .down #[.float .f64 x]) = (pure (.float .f64 (fl ((m <<< e.toNat) / 2 ^ (-e).toNat))) : Sem Value) := by
    rw [← floor_at]
    show (match FloatKind.f64.decode x with | .nan s t => _ | d => _) = _
    rw [hd]
  rw [hi]
  rfl
theorem floor_any (x m : Nat) (e : Int) (h : Ieee.double.read x = .number false m e) : Gives Try.prog 16 #[.float .f64 x] (.float .f64 (fl ((m <<< e.toNat) / 2 ^ (-e).toNat))) := by
  intro w
  have hc := arch_floor x m e h
  generalize (m <<< e.toNat) / 2 ^ (-e).toNat = T at hc ⊢
  clear h
  go_enter Try.func16, Try.ntmps16
  go_wp2_with (simp only [hc])
  go_ret
  exact ⟨rfl, by go_grown⟩
theorem weight_any (x : Nat) : Gives Try.prog 10 #[.float .f64 x] (.float .f64 (fl (wtN x))) := by
  intro w
  rcases wt_cases x with ⟨h1, hw⟩ | ⟨h1, h2, m, e, hr, hw⟩ | ⟨h1, h2, hw⟩
  · rw [hw, fl_big]
    clear hw
    replace h1 := gt64 h1
    go_enter Try.func10, Try.ntmps10
    go_wp2
    go_ret
    exact ⟨rfl, by go_grown⟩
  · have HF := floor_any x m e hr
    rw [← hw] at HF
    replace HF := Lib.hid HF
    clear hw hr
    replace h1 := gt64 h1
    replace h2 := gt64 h2
    go_enter Try.func10, Try.ntmps10
    go_wp2_with fail
    refine (HF.out _).mono ?_
    rintro e w1 ⟨rfl, hb1⟩
    go_wp2
    go_ret
    exact ⟨rfl, by go_grown⟩
  · rw [hw, fl_zero]
    clear hw
    replace h1 := gt64 h1
    replace h2 := gt64 h2
    go_enter Try.func10, Try.ntmps10
    go_wp2
    go_ret
    exact ⟨rfl, by go_grown⟩
theorem rweight_any (x : Nat) : Gives Try.prog 13 #[.float .f64 x] (.int .i64 (wtN x : Nat)) := by
  intro w
  have hl := wtN_le x
  rcases wt_cases x with ⟨h1, hw⟩ | ⟨h1, h2, m, e, hr, hw⟩ | ⟨h1, h2, hw⟩
  · rw [hw]
    clear hw
    replace h1 := gt64 h1
    go_enter Try.func13, Try.ntmps13
    go_wp2
    go_ret
    exact ⟨rfl, by go_grown⟩
  · have hi := toint_at x m e hr (by rw [← hw]; exact hl)
    rw [← hw] at hi
    have hc : ∀ w, (convert 23 3 (.float .f64 x)).run Try.prog w = .ok (.int .i64 (wtN x : Nat)) w := fun w => run_convert_float_int w _ _ .f64 .i64 x _ (by rw [Try.underlying23]; rfl) Try.underlying3 hi
    clear hw hr hi hl
    replace h1 := gt64 h1
    replace h2 := gt64 h2
    go_enter Try.func13, Try.ntmps13
    go_wp2_with (simp only [hc])
    go_ret
    exact ⟨rfl, by go_grown⟩
  · rw [hw]
    clear hw
    replace h1 := gt64 h1
    replace h2 := gt64 h2
    go_enter Try.func13, Try.ntmps13
    go_wp2
    go_ret
    exact ⟨rfl, by go_grown⟩
end Go.Proofs.Ytdfmebfkhcdphaa
