/-
  The given laws of chapter 5 as walks: each call hands back true, for every input. No condition but that the words are words of 64 bits.
-/
import Derived.Test.YtlgcfchljcccnaaW5
set_option linter.unusedSimpArgs false
set_option linter.unusedVariables false
namespace Go.Proofs.Ytlgcfchljcccnaa
open Go.RowKit Go.Sort M

set_option maxHeartbeats 400000 in
theorem alive5_any : Gives Try.prog 5 #[] (.bool true) := by
  intro w
  have hm := mix_any 0
  rw [show mixZ 0 = 16294208416658607535 from by decide +kernel] at hm
  have HM := Lib.hid hm
  clear hm
  go_enter Try.func5, Try.ntmps5
  go_wp2_with fail
  refine (HM.out _).mono ?_
  rintro e w1 ⟨rfl, hb1⟩
  go_wp2
  go_ret
  exact ⟨rfl, by go_grown⟩

theorem mixer_tells (x s h l : Nat) (n : Int) (hx : W64 x) (hs : W64 s) (hh : W64 h) (hl : W64 l) :
    Gives Try.prog 3 #[.int .u64 x, .int .u64 s, .agg #[.int .u64 h, .int .u64 l, .int .i64 n]] (.bool true) := by
  intro w
  go_enter Try.func3, Try.ntmps3
  go_wp2_with fail
  refine (alive5_any _).mono ?_
  rintro e w0 ⟨rfl, hb0⟩
  obtain ⟨hc0, hf0⟩ := bcell hb0
  have hw0 : Below w.heap.size w w0 := by
    refine Below.trans ?_ (hb0.mono ?_)
    · go_grown
    · go_size
  have hz0 := hb0.size
  simp only [World.size_alloc] at hz0
  have z0 : w.heap.size < w0.heap.size := by omega
  go_wp2_with fail
  have kg := cell_grow
  refine region_whole (by kernel_rfl) (by kernel_rfl) ?_
  repeat (any_goals (first | go_big_quiet_step (first | (go_at_call 6; exact Gives.at (mix_any _) _ _ _) | (go_at_call 7; exact Gives.at (rmix_any _) _ _ _) | (go_at_call 8; exact Gives.at (hash_any _ _ _ _ hs hh hl) _ _ _) | (go_at_call 9; exact Gives.at (rhash_any _ _ _ _ hs hh hl) _ _ _)) | quiet_step (first | (go_at_call 6; exact Gives.at (mix_any _) _ _ _) | (go_at_call 7; exact Gives.at (rmix_any _) _ _ _) | (go_at_call 8; exact Gives.at (hash_any _ _ _ _ hs hh hl) _ _ _) | (go_at_call 9; exact Gives.at (rhash_any _ _ _ _ hs hh hl) _ _ _))))
  refine wpQuiet_nil ?_
  clear kg
  intro w1 hb1
  obtain ⟨hc1, hf1⟩ := bcell hb1
  have hw1 : Below w.heap.size w w1 := by
    refine Below.trans ?_ (hb1.mono ?_)
    · go_grown
    · first | omega | go_size
  go_wp2
  go_ret
  exact ⟨rfl, by go_grown⟩

theorem mixer_apart (x y : Nat) (hx : W64 x) (hy : W64 y) :
    Gives Try.prog 4 #[.int .u64 x, .int .u64 y] (.bool true) := by
  intro w
  have hq : ((mixN x : Int) == (mixN y : Int)) = ((x : Int) == (y : Int)) := by
    by_cases h : x = y
    · subst h; simp
    · have h2 : mixN x ≠ mixN y := fun e => h (mixN_inj x y hx hy e)
      have e1 : ((mixN x : Int) == (mixN y : Int)) = false := by simp [beq_eq_false_iff_ne]; omega
      have e2 : ((x : Int) == (y : Int)) = false := by simp [beq_eq_false_iff_ne]; omega
      rw [e1, e2]
  have hX := mix_any x
  have hY := mix_any y
  rw [mixZ_nat _ hx] at hX
  rw [mixZ_nat _ hy] at hY
  have HQ := Lib.hid hq
  have HX := Lib.hid hX
  have HY := Lib.hid hY
  clear hq hX hY
  go_enter Try.func4, Try.ntmps4
  go_wp2_with fail
  refine (alive5_any _).mono ?_
  rintro e w0 ⟨rfl, hb0⟩
  go_wp2_with fail
  refine (HX.out _).mono ?_
  rintro e w1 ⟨rfl, hb1⟩
  go_wp2_with fail
  refine (HY.out _).mono ?_
  rintro e w2 ⟨rfl, hb2⟩
  go_wp2
  go_ret
  exact ⟨ret_bool (by rw [HQ.out]; simp), (hb0.trans (hb1.mono hb0.size)).trans (hb2.mono (Nat.le_trans hb0.size hb1.size))⟩
end Go.Proofs.Ytlgcfchljcccnaa
