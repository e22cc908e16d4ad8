/-
  The given laws of chapter 3 as walks: each call hands back true, for every input. They ask what Kit tells of the library's variables.
-/
import Derived.Test.YtegaeifmikfpcaaDoorW3q
import Derived.Test.YtegaeifmikfpcaaDoorW3l
set_option linter.unusedSimpArgs false
set_option linter.unusedVariables false
namespace Go.Proofs.YtegaeifmikfpcaaDoor
open Go.RowKit Go.Sort M

theorem Kit.re {w : World} (h : Kit w.heap.size w) (d : Nat) (os : Array Obj) : Kit (grow (redrawn w d) os).heap.size (grow (redrawn w d) os) := h.up (below_regrown w d os)
theorem GivesK.at {f : FuncId} {args : Array Value} {v : Value} (h : GivesK f args v) (w : World) (hk : Kit w.heap.size w) (d : Nat) (os : Array Obj) :
    Calls Tryd.prog f args (grow (redrawn w d) os) fun e w'' => e = .returned v ∧ ∃ p : Regrown, w'' = grow (redrawn w p.d) p.os := Calls.regrown_of (h _ (hk.re d os))
theorem rshowK_any (hi lo : Nat) (n : Int) (ha : W64 hi) (hb : W64 lo) : Gives Tryd.prog 12 #[.agg #[.int .u64 hi, .int .u64 lo, .int .i64 n]] (.string ⟨(showK hi lo n).toArray⟩) := by
  unfold showK
  by_cases hr : rightB hi lo n = true
  · rw [if_pos hr]
    exact rshow_go hi lo n ha hb hr
  · rw [if_neg hr]
    intro w
    have hr' : rightB hi lo n = false := by simpa using hr
    have hrr := rright_any hi lo n ha hb
    rw [hr'] at hrr
    have HR := Lib.hid hrr
    clear hrr hr hr'
    go_enter Tryd.func12, Tryd.ntmps12
    go_wp2_with fail
    refine (HR.out _).mono ?_
    rintro e w1 ⟨rfl, hb1⟩
    have hk1 : Below w.heap.size w w1 := Below.trans (by go_grown) (hb1.mono (by go_size))
    clear hb1
    go_wp2
    go_ret
    exact ⟨rfl, hk1⟩
theorem eql_pfx3 (a b : Nat) (n : Int) (c d : Nat) (m : Int) (w : World) : (binOp .eql 26 (.agg #[.int .u64 a, .int .u64 b, .int .i64 n]) (.agg #[.int .u64 c, .int .u64 d, .int .i64 m])).run Tryd.prog w =
    .ok (.bool (decide (a = c ∧ b = d ∧ n = m))) w := by
  have e1 : decide (a = c ∧ b = d ∧ n = m) = (decide ((a : Int) = c) && (decide ((b : Int) = d) && decide (n = m))) := by
    rw [← Bool.decide_and, ← Bool.decide_and, decide_eq_decide]; omega
  rw [e1]
  by_cases h1 : (a : Int) = c <;> by_cases h2 : (b : Int) = d <;> by_cases h3 : n = m <;> simp [go_sem, h1, h2, h3]
theorem eql_pfx3i (a b n c d m : Int) (w : World) (h1 : a = c) (h2 : b = d) (h3 : n = m) : (binOp .eql 26 (.agg #[.int .u64 a, .int .u64 b, .int .i64 n]) (.agg #[.int .u64 c, .int .u64 d, .int .i64 m])).run Tryd.prog w = .ok (.bool true) w := by
  subst h1 h2 h3
  simp [go_sem]
theorem num3_any (e : Int) (w : World) : Calls Tryd.prog 10 #[.int .i64 e] w fun x w' => x = .returned (.int .i64 e) ∧ w = w' := by
  go_enter Tryd.func10, Tryd.ntmps10
  go_wp2
  go_ret
  exact ⟨rfl, rfl⟩
theorem showK_small {hi lo n : Nat} (h : n ≤ 128) (hr : rightB hi lo (n : Int) = true) : showK hi lo (n : Int) = showW (wordsL hi lo) ++ 47 :: dec3 n := by
  unfold showK
  rw [if_pos hr, Int.toNat_natCast, dec3_eq n (by omega)]
theorem show_zero : showK 0 0 0 = [58, 58, 47, 48] := by
  rw [show (0 : Int) = ((0 : Nat) : Int) from rfl, showK_small (by omega) (by decide +kernel)]; decide +kernel
theorem show_one : showK 281474976710656 0 16 = [49, 58, 58, 47, 49, 54] := by
  rw [show (16 : Int) = ((16 : Nat) : Int) from rfl, showK_small (by omega) (by decide +kernel)]; decide +kernel
set_option maxHeartbeats 1000000 in
theorem alive3_any : GivesK 7 #[] (.bool true) := by
  intro w hk
  have hA : GivesK 8 #[.string ⟨#[49, 58, 58, 47, 49, 54]⟩] (.tuple #[.agg #[.int .u64 281474976710656, .int .u64 0, .int .i64 16], .int .i64 0]) := by
    have := kread_any [49, 58, 58, 47, 49, 54] (by decide)
    rw [show readP [49, 58, 58, 47, 49, 54] = (281474976710656, 0, 16, 0) by decide +kernel] at this
    exact this
  have hS0 : GivesK 11 #[.agg #[.int .u64 0, .int .u64 0, .int .i64 0]] (.string ⟨#[58, 58, 47, 48]⟩) := by
    have := kshow_any 0 0 0 (W64.mk (by decide)) (W64.mk (by decide))
    rw [show_zero] at this
    exact this
  have hS1 : GivesK 11 #[.agg #[.int .u64 281474976710656, .int .u64 0, .int .i64 16]] (.string ⟨#[49, 58, 58, 47, 49, 54]⟩) := by
    have := kshow_any 281474976710656 0 16 (W64.mk (by decide)) (W64.mk (by decide))
    rw [show_one] at this
    exact this
  have HA := Lib.hid hA
  have HS0 := Lib.hid hS0
  have HS1 := Lib.hid hS1
  have HK := Lib.hid hk
  clear hA hS0 hS1 hk
  go_enter Tryd.func7, Tryd.ntmps7
  go_wp2_with fail
  refine (HA.out _ HK.out).mono ?_
  rintro e w1 ⟨rfl, hb1⟩
  have z1 := hb1.size
  go_wp2_with fail
  refine (HS0.out _ (HK.out.up (by go_grown))).mono ?_
  rintro e w2 ⟨rfl, hb2⟩
  have hw2 : Below w.heap.size w w2 := Below.trans (by go_grown) (hb2.mono (by simp; omega))
  have z2 : w1.heap.size < w2.heap.size := by have := hb2.size; simp at this; omega
  have c0 : w2.cell? ⟨w1.heap.size, 0, none⟩ = some (.int .u64 281474976710656) := by
    rw [hb2.cell (by simp <;> omega)]
    first | assumption | (simp [go_sem]; done) | (simp [go_sem, *]; done)
  have c1 : w2.cell? ⟨w1.heap.size, 1, none⟩ = some (.int .u64 0) := by
    rw [hb2.cell (by simp <;> omega)]
    first | assumption | (simp [go_sem]; done) | (simp [go_sem, *]; done)
  have c2 : w2.cell? ⟨w1.heap.size, 2, none⟩ = some (.int .i64 16) := by
    rw [hb2.cell (by simp <;> omega)]
    first | assumption | (simp [go_sem]; done) | (simp [go_sem, *]; done)
  clear hb2
  go_wp2_with fail
  refine (num3_any _ _).mono ?_
  rintro e w3 ⟨rfl, rfl⟩
  go_wp2_with fail
  refine (HS1.out _ (HK.out.up hw2)).mono ?_
  rintro e w3 ⟨rfl, hb3⟩
  go_wp2
  go_ret
  exact ⟨rfl, hw2.trans (hb3.mono hw2.size)⟩
set_option maxHeartbeats 2000000 in
theorem ktell_walk (s : ByteArray) (hi lo : Nat) (n : Int) (ha : W64 hi) (hb : W64 lo) : GivesK 3 #[.string s, .agg #[.int .u64 hi, .int .u64 lo, .int .i64 n]] (.bool true) := by
  intro w hk
  have HK := Lib.hid hk
  clear hk
  by_cases hs : s.size ≤ 200
  · have hl : s.data.toList.length ≤ 200 := by simpa using hs
    have hA := kread_any s.data.toList (by omega)
    have hB := rreadK_any s.data.toList (by omega)
    rw [← ba_of s] at hA hB
    rw [readP_eq] at hA
    generalize readK s.data.toList = R at hA hB
    obtain ⟨r1, r2, r3, r4⟩ := R
    have hA' : GivesK 8 #[.string s] (.tuple #[.agg #[.int .u64 r1, .int .u64 r2, .int .i64 r3], .int .i64 r4]) := hA
    have hB' : Gives Tryd.prog 9 #[.string s] (.tuple #[.agg #[.int .u64 r1, .int .u64 r2, .int .i64 r3], .int .i64 r4]) := hB
    have hS := kshow_any hi lo n ha hb
    have hR := rshowK_any hi lo n ha hb
    generalize showK hi lo n = X at hS hR
    have HA := Lib.hid hA'
    have HB := Lib.hid hB'
    have HS := Lib.hid hS
    have HR := Lib.hid hR
    clear hA hB hA' hB' hS hR hl
    have ea' : ∀ w, (binOp .eql 26 (.agg #[.int .u64 r1, .int .u64 r2, .int .i64 r3]) (.agg #[.int .u64 r1, .int .u64 r2, .int .i64 r3])).run Tryd.prog w = .ok (.bool true) w := fun w => eql_pfx3i _ _ _ _ _ _ w rfl rfl rfl
    go_enter Tryd.func3, Tryd.ntmps3
    go_wp2_with fail
    refine (alive3_any _ (HK.out.up (by go_grown))).mono ?_
    rintro e w0 ⟨rfl, hb0⟩
    have hw0 : Below w.heap.size w w0 := Below.trans (by go_grown) (hb0.mono (by go_size))
    have c0 : w0.cell? ⟨w.heap.size, 0, none⟩ = some (.int .u64 hi) := by
      rw [hb0.cell (by simp <;> omega)]
      first | assumption | (simp [go_sem]; done) | (simp [go_sem, *]; done)
    have c1 : w0.cell? ⟨w.heap.size, 1, none⟩ = some (.int .u64 lo) := by
      rw [hb0.cell (by simp <;> omega)]
      first | assumption | (simp [go_sem]; done) | (simp [go_sem, *]; done)
    have c2 : w0.cell? ⟨w.heap.size, 2, none⟩ = some (.int .i64 n) := by
      rw [hb0.cell (by simp <;> omega)]
      first | assumption | (simp [go_sem]; done) | (simp [go_sem, *]; done)
    have hz : w.heap.size < w0.heap.size := by have := hb0.size; simp at this; omega
    clear hb0
    go_wp2_with fail
    refine (HA.out _ (HK.out.up hw0)).mono ?_
    rintro e w1 ⟨rfl, hb1⟩
    obtain ⟨hc1, hf1⟩ := bcell hb1
    have c0 := (hc1 _ _ (by omega)).trans c0
    have c1 := (hc1 _ _ (by omega)).trans c1
    have c2 := (hc1 _ _ (by omega)).trans c2
    have hw0 := Below.trans hw0 (hb1.mono (by omega))
    have hz := Nat.lt_of_lt_of_le hz hb1.size
    clear hc1 hf1 hb1
    go_wp2_with fail
    refine (HB.out _).mono ?_
    rintro e w2 ⟨rfl, hb2⟩
    have d0 : w2.cell? ⟨w1.heap.size, 0, none⟩ = some (.int .u64 r1) := by
      rw [hb2.cell (by simp <;> omega)]
      first | assumption | (simp [go_sem]; done) | (simp [go_sem, *]; done)
    have d1 : w2.cell? ⟨w1.heap.size, 1, none⟩ = some (.int .u64 r2) := by
      rw [hb2.cell (by simp <;> omega)]
      first | assumption | (simp [go_sem]; done) | (simp [go_sem, *]; done)
    have d2 : w2.cell? ⟨w1.heap.size, 2, none⟩ = some (.int .i64 r3) := by
      rw [hb2.cell (by simp <;> omega)]
      first | assumption | (simp [go_sem]; done) | (simp [go_sem, *]; done)
    have hz2 : w1.heap.size < w2.heap.size := by have := hb2.size; simp at this; omega
    have hk2 : Below w1.heap.size w1 w2 := Below.trans (by go_grown) (hb2.mono (by go_size))
    obtain ⟨hc2, hf2⟩ := bcell hk2
    have c0 := (hc2 _ _ (by omega)).trans c0
    have c1 := (hc2 _ _ (by omega)).trans c1
    have c2 := (hc2 _ _ (by omega)).trans c2
    have hw0 := Below.trans hw0 (hk2.mono (by omega))
    have hz := Nat.lt_of_lt_of_le hz hk2.size
    clear hc2 hf2 hk2 hb2
    have HT2 := Lib.hid (HK.out.up hw0)
    go_wp2_with fail
    have kg := cell_grow
    refine region_whole (by kernel_rfl) (by kernel_rfl) ?_
    repeat (any_goals (first | go_big_quiet_step (first | (go_at_call 10; exact Calls.regrown_of ((num3_any _ _).mono fun _ _ ⟨h1, h2⟩ => ⟨h1, h2 ▸ Below.refl _ _⟩)) | (go_at_call 11; exact Calls.regrown_of (HS.out _ (Kit.re (HT2.out.up (by go_grown)) _ _))) | (go_at_call 12; exact Gives.at HR.out _ _ _)) | quiet_step (first | (go_at_call 10; exact Calls.regrown_of ((num3_any _ _).mono fun _ _ ⟨h1, h2⟩ => ⟨h1, h2 ▸ Below.refl _ _⟩)) | (go_at_call 11; exact Calls.regrown_of (HS.out _ (Kit.re (HT2.out.up (by go_grown)) _ _))) | (go_at_call 12; exact Gives.at HR.out _ _ _))))
    refine wpQuiet_nil ?_
    clear kg
    intro w3 hb3
    obtain ⟨hc3, hf3⟩ := bcell hb3
    have hw3 : Below w.heap.size w w3 := by
      refine Below.trans ?_ (hb3.mono ?_)
      · go_grown
      · first | omega | go_size
    go_wp2
    go_ret
    exact ⟨rfl, by go_grown⟩
  · go_enter Tryd.func3, Tryd.ntmps3
    go_wp2_with fail
    refine (alive3_any _ (HK.out.up (by go_grown))).mono ?_
    rintro e w0 ⟨rfl, hb0⟩
    have hw0 : Below w.heap.size w w0 := Below.trans (by go_grown) (hb0.mono (by go_size))
    clear hb0
    go_wp2
    go_ret
    exact ⟨rfl, hw0⟩
end Go.Proofs.YtegaeifmikfpcaaDoor
