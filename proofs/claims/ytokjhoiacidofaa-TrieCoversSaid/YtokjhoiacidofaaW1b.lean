/-
  What addr.Right, Has, Common and Less hand back, for every prefix and address. No condition but that the words are words of 64 bits.
-/
import Derived.Shelf.Small.Bits
import Derived.Shelf.Strconv.Itoa0
import Derived.Test.YtokjhoiacidofaaProg
import Derived.Test.YtokjhoiacidofaaW5
/-
  What the library's functions hand back, by the shelf's own theorems at this program's numbers. No condition but those that stand in each.
-/
namespace Go.Proofs
open Go.Shelf
def Try.lays134_ren : Go.Shelf.Ren := ⟨fun | 134 => 38 | 129 => 39 | n => n, fun | 53 => 23 | 3 => 3 | 4 => 4 | 46 => 70 | 5 => 5 | 9 => 9 | n => n, fun | n => n⟩
theorem Try.lays134 : Go.Proofs.Lays.n134 Try.prog Try.lays134_ren := {
  mixed := by kernel_rfl
  f129 := Try.func39.trans (congrArg some (by kernel_rfl))
  f134 := Try.func38.trans (congrArg some (by kernel_rfl))
  t3 := Try.underlying3
  a3 := Try.isAgg3
  z3 := Try.sizeOf3
  v3 := Try.zeroValue3
  t4 := Try.underlying4
  a4 := Try.isAgg4
  z4 := Try.sizeOf4
  v4 := Try.zeroValue4
  t5 := Try.underlying5
  a5 := Try.isAgg5
  z5 := Try.sizeOf5
  v5 := Try.zeroValue5
  t9 := Try.underlying9
  a9 := Try.isAgg9
  z9 := Try.sizeOf9
  v9 := Try.zeroValue9
  t46 := Try.underlying70
  a46 := Try.isAgg70
  z46 := Try.sizeOf70
  v46 := Try.zeroValue70
  t53 := Try.underlying23
  a53 := Try.isAgg23
  z53 := Try.sizeOf23
  v53 := Try.zeroValue23 }
theorem Try.bits_LeadingZeros64 (x : Int) (w : World) (h0 : 0 ≤ x) (h1 : x ≤ 18446744073709551615) :
    Calls Try.prog 38 #[.int .u64 x] w fun e w' => e = .returned (.int .i64 (64 - (Lib.bitLen x.toNat : Int))) ∧ w' = w := Any.bits_LeadingZeros64 Try.lays134 x w h0 h1
def Try.lays129_ren : Go.Shelf.Ren := ⟨fun | 129 => 39 | n => n, fun | 53 => 23 | 3 => 3 | 4 => 4 | 46 => 70 | 5 => 5 | 9 => 9 | n => n, fun | n => n⟩
theorem Try.lays129 : Go.Proofs.Lays.n129 Try.prog Try.lays129_ren := {
  mixed := by kernel_rfl
  f129 := Try.func39.trans (congrArg some (by kernel_rfl))
  t3 := Try.underlying3
  a3 := Try.isAgg3
  z3 := Try.sizeOf3
  v3 := Try.zeroValue3
  t4 := Try.underlying4
  a4 := Try.isAgg4
  z4 := Try.sizeOf4
  v4 := Try.zeroValue4
  t5 := Try.underlying5
  a5 := Try.isAgg5
  z5 := Try.sizeOf5
  v5 := Try.zeroValue5
  t9 := Try.underlying9
  a9 := Try.isAgg9
  z9 := Try.sizeOf9
  v9 := Try.zeroValue9
  t46 := Try.underlying70
  a46 := Try.isAgg70
  z46 := Try.sizeOf70
  v46 := Try.zeroValue70
  t53 := Try.underlying23
  a53 := Try.isAgg23
  z53 := Try.sizeOf23
  v53 := Try.zeroValue23 }
theorem Try.bits_Len64 (x : Int) (w : World) (h0 : 0 ≤ x) (h1 : x ≤ 18446744073709551615) :
    Calls Try.prog 39 #[.int .u64 x] w fun e w' => e = .returned (.int .i64 (Lib.bitLen x.toNat)) ∧ w' = w := Any.bits_Len64 Try.lays129 x w h0 h1
end Go.Proofs
/-
  What addr.Right, Has, Common and Less hand back, for every prefix and address. No condition but that the words are words of 64 bits.
-/
set_option linter.unusedSimpArgs false
set_option linter.unusedVariables false
namespace Go.Proofs.Ytokjhoiacidofaa
open Go.RowKit Go.Sort M

/-- Two addresses are held against each other word by word. -/
theorem eql_addr (a b c d : Nat) (w : World) : (binOp .eql 25 (.agg #[.int .u64 a, .int .u64 b]) (.agg #[.int .u64 c, .int .u64 d])).run Try.prog w = .ok (.bool (decide (a = c) && decide (b = d))) w := by
  have e1 : decide (a = c) = decide ((a : Int) = c) := by rw [decide_eq_decide]; omega
  have e2 : decide (b = d) = decide ((b : Int) = d) := by rw [decide_eq_decide]; omega
  rw [e1, e2]
  by_cases h1 : (a : Int) = c <;> by_cases h2 : (b : Int) = d <;> simp [go_sem, h1, h2]

set_option maxHeartbeats 400000 in
theorem right_any (hi lo : Nat) (n : Int) (ha : W64 hi) (hb : W64 lo) :
    Gives Try.prog 20 #[.agg #[.int .u64 hi, .int .u64 lo, .int .i64 n]] (.bool (rightB hi lo n)) := by
  intro w
  have ea := eql_addr
  by_cases h0 : 0 ≤ n
  · have d0 : decide (0 ≤ n) = true := by simpa using h0
    by_cases h1 : n ≤ 128
    · have d1 : decide (n ≤ 128) = true := by simpa using h1
      go_enter Try.func20, Try.ntmps20
      go_wp2_with fail
      have kg := cell_grow
      refine region_whole (by kernel_rfl) (by kernel_rfl) ?_
      repeat (any_goals (first | go_big_quiet_step ((go_at_call 31; exact Gives.at (cut_any hi lo n ha hb) _ _ _)) | quiet_step ((go_at_call 31; exact Gives.at (cut_any hi lo n ha hb) _ _ _))))
      refine wpQuiet_nil ?_
      clear kg
      intro w1 hb1
      obtain ⟨hc1, hf1⟩ := bcell hb1
      have hw1 : Below w.heap.size w w1 := by
        refine Below.trans ?_ (hb1.mono ?_)
        · go_grown
        · first | omega | go_size
      go_wp2
      go_ret
      refine ⟨ret_bool ?_, by go_grown⟩
      simp [rightB, h0, h1]
    · have d1 : decide (n ≤ 128) = false := by simpa using h1
      go_enter Try.func20, Try.ntmps20
      go_wp2_with fail
      have kg := cell_grow
      refine region_whole (by kernel_rfl) (by kernel_rfl) ?_
      repeat (any_goals (first | go_big_quiet_step (fail) | quiet_step (fail)))
      refine wpQuiet_nil ?_
      clear kg
      intro w1 hb1
      obtain ⟨hc1, hf1⟩ := bcell hb1
      have hw1 : Below w.heap.size w w1 := by
        refine Below.trans ?_ (hb1.mono ?_)
        · go_grown
        · first | omega | go_size
      go_wp2
      go_ret
      refine ⟨ret_bool ?_, by go_grown⟩
      unfold rightB
      rw [eq_comm, decide_eq_false_iff_not]
      omega
  · have d0 : decide (0 ≤ n) = false := by simpa using h0
    go_enter Try.func20, Try.ntmps20
    go_wp2_with fail
    have kg := cell_grow
    refine region_whole (by kernel_rfl) (by kernel_rfl) ?_
    repeat (any_goals (first | go_big_quiet_step (fail) | quiet_step (fail)))
    refine wpQuiet_nil ?_
    clear kg
    intro w1 hb1
    obtain ⟨hc1, hf1⟩ := bcell hb1
    have hw1 : Below w.heap.size w w1 := by
      refine Below.trans ?_ (hb1.mono ?_)
      · go_grown
      · first | omega | go_size
    go_wp2
    go_ret
    refine ⟨ret_bool ?_, by go_grown⟩
    unfold rightB
    rw [eq_comm, decide_eq_false_iff_not]
    omega

set_option maxHeartbeats 400000 in
theorem has_any (hi lo : Nat) (n : Int) (xh xl : Nat) (ha : W64 hi) (hb : W64 lo) (hc : W64 xh) (hd : W64 xl) :
    Gives Try.prog 29 #[.agg #[.int .u64 hi, .int .u64 lo, .int .i64 n], .agg #[.int .u64 xh, .int .u64 xl]] (.bool (hasB hi lo n xh xl)) := by
  intro w
  have ea := eql_addr
  have hr := right_any hi lo n ha hb
  cases hR : rightB hi lo n
  · rw [hR] at hr
    have HR := Lib.hid hR
    clear hR
    go_enter Try.func29, Try.ntmps29
    go_wp2_with fail
    have kg := cell_grow
    refine region_whole (by kernel_rfl) (by kernel_rfl) ?_
    repeat (any_goals (first | go_big_quiet_step ((go_at_call 20; exact Gives.at hr _ _ _)) | quiet_step ((go_at_call 20; exact Gives.at hr _ _ _))))
    refine wpQuiet_nil ?_
    clear kg
    intro w1 hb1
    obtain ⟨hc1, hf1⟩ := bcell hb1
    have hw1 : Below w.heap.size w w1 := by
      refine Below.trans ?_ (hb1.mono ?_)
      · go_grown
      · first | omega | go_size
    go_wp2
    go_ret
    refine ⟨ret_bool ?_, by go_grown⟩
    simp [hasB, HR.out]
  · rw [hR] at hr
    have HR := Lib.hid hR
    clear hR
    go_enter Try.func29, Try.ntmps29
    go_wp2_with fail
    have kg := cell_grow
    refine region_whole (by kernel_rfl) (by kernel_rfl) ?_
    repeat (any_goals (first | go_big_quiet_step (first | (go_at_call 20; exact Gives.at hr _ _ _) | (go_at_call 31; exact Gives.at (cut_any xh xl n hc hd) _ _ _)) | quiet_step (first | (go_at_call 20; exact Gives.at hr _ _ _) | (go_at_call 31; exact Gives.at (cut_any xh xl n hc hd) _ _ _))))
    refine wpQuiet_nil ?_
    clear kg
    intro w1 hb1
    obtain ⟨hc1, hf1⟩ := bcell hb1
    have hw1 : Below w.heap.size w w1 := by
      refine Below.trans ?_ (hb1.mono ?_)
      · go_grown
      · first | omega | go_size
    go_wp2
    go_ret
    refine ⟨ret_bool ?_, by go_grown⟩
    simp [hasB, HR.out]

set_option maxHeartbeats 400000 in
theorem common_any (h1 l1 h2 l2 : Nat) (ha : W64 h1) (hb : W64 l1) (hc : W64 h2) (hd : W64 l2) :
    Gives Try.prog 32 #[.agg #[.int .u64 h1, .int .u64 l1], .agg #[.int .u64 h2, .int .u64 l2]] (.int .i64 (commonN h1 l1 h2 l2)) := by
  intro w
  have hx : h1 ^^^ h2 < 2 ^ 64 := Nat.xor_lt_two_pow ha hc
  have hy : l1 ^^^ l2 < 2 ^ 64 := Nat.xor_lt_two_pow hb hd
  have b1 := bitLen_le (h1 ^^^ h2)
  have b2 := bitLen_le (l1 ^^^ l2)
  have x1 : bits .xor .u64 (h1 : Int) (h2 : Int) = ((h1 ^^^ h2 : Nat) : Int) := bits_xor_u64_nat _ _ ha.lt hc.lt
  have x2 : bits .xor .u64 (l1 : Int) (l2 : Int) = ((l1 ^^^ l2 : Nat) : Int) := bits_xor_u64_nat _ _ hb.lt hd.lt
  have c1 : ∀ w, Calls Try.prog 38 #[.int .u64 ((h1 ^^^ h2 : Nat) : Int)] w fun e w' => e = .returned (.int .i64 (64 - (Lib.bitLen (h1 ^^^ h2) : Int))) ∧ w = w' := fun w =>
    (Try.bits_LeadingZeros64 _ w (by omega) (by omega)).mono fun e w' ⟨he, hw⟩ => ⟨by rw [he, Int.toNat_natCast], hw.symm⟩
  have c2 : ∀ w, Calls Try.prog 38 #[.int .u64 ((l1 ^^^ l2 : Nat) : Int)] w fun e w' => e = .returned (.int .i64 (64 - (Lib.bitLen (l1 ^^^ l2) : Int))) ∧ w = w' := fun w =>
    (Try.bits_LeadingZeros64 _ w (by omega) (by omega)).mono fun e w' ⟨he, hw⟩ => ⟨by rw [he, Int.toNat_natCast], hw.symm⟩
  have C1 := Lib.hid c1
  have C2 := Lib.hid c2
  clear hx hy c1 c2
  by_cases e1 : h1 = h2
  · subst e1
    go_enter Try.func32, Try.ntmps32
    go_wp2_with (go_at_call 38; refine (C2.out _).mono ?_; rintro e w' ⟨rfl, rfl⟩)
    go_ret
    refine ⟨ret_num ?_, by go_grown⟩
    simp [commonN]
    omega
  · go_enter Try.func32, Try.ntmps32
    go_wp2_with (go_at_call 38; refine (C1.out _).mono ?_; rintro e w' ⟨rfl, rfl⟩)
    go_ret
    refine ⟨ret_num ?_, by go_grown⟩
    simp [commonN, e1]
    omega
end Go.Proofs.Ytokjhoiacidofaa
