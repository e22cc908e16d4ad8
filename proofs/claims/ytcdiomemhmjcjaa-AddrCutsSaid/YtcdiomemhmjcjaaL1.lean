/-
  The given laws of chapter 1 as walks: each call hands back true, for every input. No condition but that the words are words of 64 bits.
-/
import Derived.Test.YtcdiomemhmjcjaaW1d
namespace Go.Proofs.Ytcdiomemhmjcjaa
open Go.RowKit Go.Sort M

set_option maxHeartbeats 400000 in
theorem alive1_any : Gives Try.prog 7 #[] (.bool true) := by
  intro w
  have hB := bit_any 9223372036854775808 0 0 (W64.mk (by decide)) (W64.mk (by decide))
  have hR := right_any 0 0 0 (W64.mk (by decide)) (W64.mk (by decide))
  have hC := common_any 0 0 0 0 (W64.mk (by decide)) (W64.mk (by decide)) (W64.mk (by decide)) (W64.mk (by decide))
  rw [show bitI 9223372036854775808 0 0 = 1 from by decide] at hB
  rw [show rightB 0 0 0 = true from by decide] at hR
  rw [commonN_self] at hC
  have HB := Lib.hid hB
  have HR := Lib.hid hR
  have HC := Lib.hid hC
  clear hB hR hC
  go_enter Try.func7, Try.ntmps7
  go_wp2_with fail
  refine (HB.out _).mono ?_
  rintro e w1 ⟨rfl, hb1⟩
  go_wp2_with fail
  refine (HR.out _).mono ?_
  rintro e w2 ⟨rfl, hb2⟩
  go_wp2_with fail
  refine (HC.out _).mono ?_
  rintro e w3 ⟨rfl, hb3⟩
  go_wp2
  go_ret
  exact ⟨rfl, (hb1.trans (hb2.mono hb1.size)).trans (hb3.mono (Nat.le_trans hb1.size hb2.size))⟩

/-- At the call of 'alive', made where the world is W. -/
theorem tells_walk (hi lo : Nat) (i n : Int) (ph pl : Nat) (pn : Int) (qh ql : Nat) (qn : Int) (ha : W64 hi) (hb : W64 lo) (hc : W64 ph) (hd : W64 pl) (he : W64 qh) (hf : W64 ql) :
    Gives Try.prog 3 #[.agg #[.int .u64 hi, .int .u64 lo], .int .i64 i, .int .i64 n, .agg #[.int .u64 ph, .int .u64 pl, .int .i64 pn], .agg #[.int .u64 qh, .int .u64 ql, .int .i64 qn]] (.bool true) := by
  intro w
  have ea := eql_addr
  go_enter Try.func3, Try.ntmps3
  go_wp2_with fail
  refine (alive1_any _).mono ?_
  rintro e w0 ⟨rfl, hb0⟩
  obtain ⟨hc0, hf0⟩ := bcell hb0
  have hw0 : Below w.heap.size w w0 := by
    refine Below.trans ?_ (hb0.mono ?_)
    · go_grown
    · go_size
  have hz0 := hb0.size
  simp only [World.size_alloc] at hz0
  have z0 : w.heap.size < w0.heap.size := by omega
  have z1 : w.heap.size + 1 < w0.heap.size := by omega
  have z2 : w.heap.size + 2 < w0.heap.size := by omega
  go_wp2_with fail
  have kg := cell_grow
  refine region_whole (by kernel_rfl) (by kernel_rfl) ?_
  repeat (any_goals (first | go_big_quiet_step (first | (go_at_call 8; exact Gives.at (bit_any _ _ _ ha hb) _ _ _) | (go_at_call 9; exact Gives.at (rbit_any _ _ _ ha hb) _ _ _) | (go_at_call 10; exact Gives.at (cut_any _ _ _ ha hb) _ _ _) | (go_at_call 11; exact Gives.at (rcut_any _ _ _ ha hb) _ _ _) | (go_at_call 12; exact Gives.at (right_any _ _ _ hc hd) _ _ _) | (go_at_call 13; exact Gives.at (rright_any _ _ _ hc hd) _ _ _) | (go_at_call 14; exact Gives.at (has_any _ _ _ _ _ hc hd ha hb) _ _ _) | (go_at_call 15; exact Gives.at (rhas_any _ _ _ _ _ hc hd ha hb) _ _ _) | (go_at_call 16; exact Gives.at (common_any _ _ _ _ ha hb hc hd) _ _ _) | (go_at_call 17; exact Gives.at (rcommon_any _ _ _ _ ha hb hc hd) _ _ _) | (go_at_call 18; exact Gives.at (less_any _ _ _ _ _ _) _ _ _) | (go_at_call 19; exact Gives.at (rless_any _ _ _ _ _ _) _ _ _)) | quiet_step (first | (go_at_call 8; exact Gives.at (bit_any _ _ _ ha hb) _ _ _) | (go_at_call 9; exact Gives.at (rbit_any _ _ _ ha hb) _ _ _) | (go_at_call 10; exact Gives.at (cut_any _ _ _ ha hb) _ _ _) | (go_at_call 11; exact Gives.at (rcut_any _ _ _ ha hb) _ _ _) | (go_at_call 12; exact Gives.at (right_any _ _ _ hc hd) _ _ _) | (go_at_call 13; exact Gives.at (rright_any _ _ _ hc hd) _ _ _) | (go_at_call 14; exact Gives.at (has_any _ _ _ _ _ hc hd ha hb) _ _ _) | (go_at_call 15; exact Gives.at (rhas_any _ _ _ _ _ hc hd ha hb) _ _ _) | (go_at_call 16; exact Gives.at (common_any _ _ _ _ ha hb hc hd) _ _ _) | (go_at_call 17; exact Gives.at (rcommon_any _ _ _ _ ha hb hc hd) _ _ _) | (go_at_call 18; exact Gives.at (less_any _ _ _ _ _ _) _ _ _) | (go_at_call 19; exact Gives.at (rless_any _ _ _ _ _ _) _ _ _))))
  refine wpQuiet_nil ?_
  clear kg
  intro w1 hb1
  obtain ⟨hc1, hf1⟩ := bcell hb1
  have hw1 : Below w.heap.size w w1 := by
    refine Below.trans ?_ (hb1.mono ?_)
    · go_grown
    · go_size
  go_wp2
  go_ret
  exact ⟨rfl, by go_grown⟩
end Go.Proofs.Ytcdiomemhmjcjaa
