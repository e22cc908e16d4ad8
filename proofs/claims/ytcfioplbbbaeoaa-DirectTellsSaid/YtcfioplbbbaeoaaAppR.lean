/-
  append of one row of routes to another one, each of the call's own or a table's. No condition but that both together are short of 2^40.
-/
import Derived.Test.YtcfioplbbbaeoaaW12b
import Derived.Test.YtcfioplbbbaeoaaRef12
import Derived.Laws.AppendOwnNone
import Derived.Maps.AppendAt
/-
  What the reference's answers on addresses hand back: the same as package addr's calls. No condition but that the words are words of 64 bits.
-/
set_option linter.unusedSimpArgs false
set_option linter.unusedVariables false
namespace Go.Proofs.Ytcfioplbbbaeoaa
open Go.RowKit Go.Sort M

set_option maxHeartbeats 400000 in
theorem rbit_any (hi lo : Nat) (i : Int) (ha : W64 hi) (hb : W64 lo) :
    Gives Try.prog 16 #[.agg #[.int .u64 hi, .int .u64 lo], .int .i64 i] (.int .i64 (bitI hi lo i)) := by
  intro w
  by_cases h : 0 ≤ i ∧ i < 128
  · obtain ⟨h0, h1⟩ := h
    by_cases h2 : i < 64
    · go_enter Try.func16, Try.ntmps16
      go_wp2
      go_ret
      refine ⟨?_, by go_grown⟩
      show Ending.returned (.int .i64 (wrap64 (bits BinOp.and IntKind.u64 _ 1))) = _
      obtain ⟨k, rfl⟩ := Int.eq_ofNat_of_zero_le h0
      rw [show (63 - (k : Int)).toNat = 63 - k by omega, shr_and_wrap hi _ ha, bitI_hi hi lo k (by omega)]
    · go_enter Try.func16, Try.ntmps16
      go_wp2
      go_ret
      refine ⟨?_, by go_grown⟩
      show Ending.returned (.int .i64 (wrap64 (bits BinOp.and IntKind.u64 _ 1))) = _
      obtain ⟨k, rfl⟩ := Int.eq_ofNat_of_zero_le h0
      rw [show (127 - (k : Int)).toNat = 127 - k by omega, shr_and_wrap lo _ hb, bitI_lo hi lo k (by omega) (by omega)]
  · have hz := bitI_out hi lo i (by omega)
    have HZ := Lib.hid hz
    clear hz
    go_enter Try.func16, Try.ntmps16
    go_wp2
    all_goals
      go_ret
      exact ⟨by rw [HZ.out]; rfl, by go_grown⟩

theorem shl_one (k : Nat) (h : k < 64) : IntKind.u64.wrap (2 ^ k) = ((2 ^ k : Nat) : Int) := by
  have h1 : 2 ^ k < 2 ^ 64 := Nat.pow_lt_pow_right (by decide) h
  have e : (2 ^ k : Int) = ((2 ^ k : Nat) : Int) := by simp
  rw [e, IntKind.wrap_u64]
  generalize 2 ^ k = x at *
  omega
theorem or_shl (x k : Nat) (hx : W64 x) (h : k < 64) : bits BinOp.or IntKind.u64 (x : Int) (IntKind.u64.wrap (2 ^ k)) = ((x ||| 2 ^ k : Nat) : Int) := by
  rw [shl_one k h, bits_or_u64_nat _ _ hx.lt (Nat.pow_lt_pow_right (by decide) h : 2 ^ k < 2 ^ 64)]

set_option maxHeartbeats 400000 in
theorem cap_any (n lo hi : Int) (w : World) :
    Calls Try.prog 8 #[.int .i64 n, .int .i64 lo, .int .i64 hi] w fun e w' => e = .returned (.int .i64 (if n < lo then lo else if hi < n then hi else n)) ∧ w = w' := by
  by_cases h1 : n < lo
  · go_enter Try.func8, Try.ntmps8
    go_wp2
    go_ret
    exact ⟨ret_num (by simp [h1]), rfl⟩
  · by_cases h2 : hi < n
    · go_enter Try.func8, Try.ntmps8
      go_wp2
      go_ret
      exact ⟨ret_num (by simp [h1, h2]), rfl⟩
    · go_enter Try.func8, Try.ntmps8
      go_wp2
      go_ret
      exact ⟨ret_num (by simp [h1, h2]), rfl⟩

/-- An address with bit k turned on. -/
def onHi (hi k : Nat) : Nat := if k < 64 then hi ||| 2 ^ (63 - k) else hi
def onLo (lo k : Nat) : Nat := if k < 64 then lo else lo ||| 2 ^ (127 - k)

set_option maxHeartbeats 400000 in
theorem with_any (hi lo : Nat) (k : Nat) (ha : W64 hi) (hb : W64 lo) (h1 : k < 128) :
    Gives Try.prog 17 #[.agg #[.int .u64 hi, .int .u64 lo], .int .i64 k] (.agg #[.int .u64 (onHi hi k), .int .u64 (onLo lo k)]) := by
  intro w
  obtain ⟨i, hi'⟩ : ∃ i : Int, i = k := ⟨_, rfl⟩
  have HI := Lib.hid hi'
  rw [← hi']
  have h0 : 0 ≤ i := by omega
  have h1' : i < 128 := by omega
  clear hi' h1
  by_cases h2 : i < 64
  · go_enter Try.func17, Try.ntmps17
    go_wp2
    refine bodyPost_ret (by simp [results, Try.results17, go_sem]; try rfl) rfl ?_
    have hk := HI.out
    have e : (63 - i).toNat = 63 - k := by omega
    have hk2 : k < 64 := by omega
    exact ⟨by rw [e, or_shl hi _ ha (by omega)]; simp [onHi, onLo, hk2], by go_grown⟩
  · go_enter Try.func17, Try.ntmps17
    go_wp2
    refine bodyPost_ret (by simp [results, Try.results17, go_sem]; try rfl) rfl ?_
    have hk := HI.out
    have e : (127 - i).toNat = 127 - k := by omega
    have hk2 : ¬ k < 64 := by omega
    exact ⟨by rw [e, or_shl lo _ hb (by omega)]; simp [onHi, onLo, hk2], by go_grown⟩

theorem on_cut (hi lo k : Nat) (hb : W64 lo) (h : k < 128) (hbit : bitN hi lo k = true) : onHi (cutW hi k) k = cutW hi (k + 1) ∧ onLo (cutW lo (k - 64)) k = cutW lo (k + 1 - 64) := by
  unfold bitN at hbit
  unfold onHi onLo
  by_cases h1 : k < 64
  · rw [if_pos h1] at hbit
    rw [if_pos h1, if_pos h1, cutW_succ hi k h1, if_pos hbit, show k - 64 = 0 by omega, show k + 1 - 64 = 0 by omega]
    exact ⟨rfl, rfl⟩
  · rw [if_neg h1, if_pos h] at hbit
    rw [if_neg h1, if_neg h1, cutW_full hi k (by omega), cutW_full hi (k + 1) (by omega), show k + 1 - 64 = (k - 64) + 1 by omega, cutW_succ lo (k - 64) (by omega), show 63 - (k - 64) = 127 - k by omega, if_pos hbit]
    exact ⟨rfl, rfl⟩
theorem off_cut (hi lo k : Nat) (h : k < 128) (hbit : bitN hi lo k = false) : cutW hi k = cutW hi (k + 1) ∧ cutW lo (k - 64) = cutW lo (k + 1 - 64) := by
  unfold bitN at hbit
  by_cases h1 : k < 64
  · rw [if_pos h1] at hbit
    rw [cutW_succ hi k h1, hbit, show k - 64 = 0 by omega, show k + 1 - 64 = 0 by omega]
    exact ⟨rfl, rfl⟩
  · rw [if_neg h1, if_pos h] at hbit
    rw [cutW_full hi k (by omega), cutW_full hi (k + 1) (by omega), show k + 1 - 64 = (k - 64) + 1 by omega, cutW_succ lo (k - 64) (by omega), show 63 - (k - 64) = 127 - k by omega, hbit]
    exact ⟨rfl, rfl⟩
theorem cutW_w64 (x n : Nat) (h : W64 x) : W64 (cutW x n) := Nat.lt_of_le_of_lt (cutW_le x n) h
theorem cutW_cap (x n : Nat) : cutW x (min n 128) = cutW x n ∧ cutW x (min n 128 - 64) = cutW x (n - 64) := by
  unfold cutW
  rw [show 64 - min n 128 = 64 - n by omega, show 64 - (min n 128 - 64) = 64 - (n - 64) by omega]
  exact ⟨rfl, rfl⟩

set_option maxHeartbeats 400000 in
theorem rcut_any (hi lo : Nat) (n : Int) (ha : W64 hi) (hb : W64 lo) :
    Gives Try.prog 12 #[.agg #[.int .u64 hi, .int .u64 lo], .int .i64 n] (.agg #[.int .u64 (cutW hi n.toNat), .int .u64 (cutW lo (n.toNat - 64))]) := by
  intro w
  obtain ⟨m, hm⟩ : ∃ m : Nat, m = min n.toNat 128 := ⟨_, rfl⟩
  have hc : ∀ w, Calls Try.prog 8 #[.int .i64 n, .int .i64 0, .int .i64 128] w fun e w' => e = .returned (.int .i64 m) ∧ w = w' := fun w =>
    (cap_any n 0 128 w).mono fun e w' ⟨he, hw⟩ => ⟨by rw [he]; exact ret_num (by split <;> (try split) <;> omega), hw⟩
  have HC := Lib.hid hc
  have HM := Lib.hid hm
  have hm2 : m ≤ 128 := by omega
  clear hc hm
  have e1 := cutW_zero hi ha
  have e2 := cutW_zero lo hb
  have E1 := Lib.hid e1
  have E2 := Lib.hid e2
  clear e1 e2
  go_enter Try.func12, Try.ntmps12
  go_wp2_with (go_at_call 8; refine (HC.out _).mono ?_; rintro e w' ⟨rfl, rfl⟩)
  go_loopw [6] (fun i wr => ∃ k : Nat, k ≤ m ∧ i = .int .i64 k ∧ Below w.heap.size w wr ∧ w.heap.size + 3 ≤ wr.heap.size ∧ wr.cell? ⟨w.heap.size, 0, none⟩ = some (.int .u64 hi) ∧ wr.cell? ⟨w.heap.size, 1, none⟩ = some (.int .u64 lo) ∧
      wr.cell? ⟨w.heap.size + 1, 0, none⟩ = some (.int .u64 0) ∧ wr.cell? ⟨w.heap.size + 1, 1, none⟩ = some (.int .u64 0) ∧
      wr.cell? ⟨w.heap.size + 2, 0, none⟩ = some (.int .u64 (cutW hi k)) ∧ wr.cell? ⟨w.heap.size + 2, 1, none⟩ = some (.int .u64 (cutW lo (k - 64))) ∧
      wr.frozen? ⟨w.heap.size + 1, 0, none⟩ = false ∧ wr.frozen? ⟨w.heap.size + 1, 1, none⟩ = false ∧ wr.frozen? ⟨w.heap.size + 2, 0, none⟩ = false ∧ wr.frozen? ⟨w.heap.size + 2, 1, none⟩ = false)
    (fun i _ => m - (intOf i).toNat)
  case atStart =>
    refine ⟨0, Nat.zero_le _, rfl, by go_grown, by go_size, ?_⟩
    simp [go_sem, E1.out, E2.out]
  case round =>
    obtain ⟨k, hk, rfl, hw0, hz, c0, c1, c2, c3, c4, c5, f0, f1, f2, f3⟩ := hrel
    by_cases hlt : k < m
    · have hB : Gives Try.prog 16 #[.agg #[.int .u64 hi, .int .u64 lo], .int .i64 (k : Int)] (.int .i64 (bitI hi lo k)) := rbit_any hi lo k ha hb
      have hW : Gives Try.prog 17 #[.agg #[.int .u64 (cutW hi k), .int .u64 (cutW lo (k - 64))], .int .i64 (k : Int)] (.agg #[.int .u64 (onHi (cutW hi k) k), .int .u64 (onLo (cutW lo (k - 64)) k)]) :=
        with_any _ _ k (cutW_w64 _ _ ha) (cutW_w64 _ _ hb) (by omega)
      rw [bitI_nat] at hB
      cases hbit : bitN hi lo k
      · obtain ⟨g1, g2⟩ := off_cut hi lo k (by omega) hbit
        rw [hbit] at hB
        have HB := Lib.hid hB
        have G1 := Lib.hid g1
        have G2 := Lib.hid g2
        clear hB hW hbit g1 g2
        go_wp2_with fail
        refine (HB.out _).mono ?_
        rintro e w1 ⟨rfl, hb1⟩
        obtain ⟨hc1, hf1⟩ := bcell hb1
        have c0 := (hc1 _ _ (by omega)).trans c0
        have c1 := (hc1 _ _ (by omega)).trans c1
        have c2 := (hc1 _ _ (by omega)).trans c2
        have c3 := (hc1 _ _ (by omega)).trans c3
        have c4 := (hc1 _ _ (by omega)).trans c4
        have c5 := (hc1 _ _ (by omega)).trans c5
        have f0 := (hf1 _ _ (by omega)).trans f0
        have f1 := (hf1 _ _ (by omega)).trans f1
        have f2 := (hf1 _ _ (by omega)).trans f2
        have f3 := (hf1 _ _ (by omega)).trans f3
        have hw0 := Below.trans hw0 (hb1.mono (by omega))
        have hz := Nat.lt_of_lt_of_le hz hb1.size
        clear hc1 hf1 hb1
        go_wp2
        go_roundw
        case rel =>
          refine ⟨k + 1, by omega, by go_num, hw0, hz, c0, c1, c2, c3, ?_, ?_, f0, f1, f2, f3⟩
          · rw [← G1.out]; exact c4
          · rw [← G2.out]; exact c5
        case measure => simp [intOf]; omega
      · obtain ⟨g1, g2⟩ := on_cut hi lo k hb (by omega) hbit
        rw [hbit] at hB
        rw [g1, g2] at hW
        have HB := Lib.hid hB
        have HW := Lib.hid hW
        clear hB hW hbit g1 g2
        go_wp2_with fail
        refine (HB.out _).mono ?_
        rintro e w1 ⟨rfl, hb1⟩
        obtain ⟨hc1, hf1⟩ := bcell hb1
        have c0 := (hc1 _ _ (by omega)).trans c0
        have c1 := (hc1 _ _ (by omega)).trans c1
        have c2 := (hc1 _ _ (by omega)).trans c2
        have c3 := (hc1 _ _ (by omega)).trans c3
        have c4 := (hc1 _ _ (by omega)).trans c4
        have c5 := (hc1 _ _ (by omega)).trans c5
        have f0 := (hf1 _ _ (by omega)).trans f0
        have f1 := (hf1 _ _ (by omega)).trans f1
        have f2 := (hf1 _ _ (by omega)).trans f2
        have f3 := (hf1 _ _ (by omega)).trans f3
        have hw0 := Below.trans hw0 (hb1.mono (by omega))
        have hz := Nat.lt_of_lt_of_le hz hb1.size
        clear hc1 hf1 hb1
        go_wp2_with fail
        refine (HW.out _).mono ?_
        rintro e w2 ⟨rfl, hb2⟩
        obtain ⟨hc2, hf2⟩ := bcell hb2
        have c0 := (hc2 _ _ (by omega)).trans c0
        have c1 := (hc2 _ _ (by omega)).trans c1
        have c2 := (hc2 _ _ (by omega)).trans c2
        have c3 := (hc2 _ _ (by omega)).trans c3
        have c4 := (hc2 _ _ (by omega)).trans c4
        have c5 := (hc2 _ _ (by omega)).trans c5
        have f0 := (hf2 _ _ (by omega)).trans f0
        have f1 := (hf2 _ _ (by omega)).trans f1
        have f2 := (hf2 _ _ (by omega)).trans f2
        have f3 := (hf2 _ _ (by omega)).trans f3
        have hw0 := Below.trans hw0 (hb2.mono (by omega))
        have hz := Nat.lt_of_lt_of_le hz hb2.size
        clear hc2 hf2 hb2
        go_wp2
        go_roundw
        case rel =>
          refine ⟨k + 1, by omega, by go_num, by go_grown, by go_size, ?_⟩
          simp [go_sem, c0, c1, c2, c3, c4, c5, f0, f1, f2, f3]
        case measure => simp [intOf]; omega
    · go_wp2
      refine bodyPost_ret (by simp [results, Try.results12, go_sem, c2, c3, f0, f1]; try rfl) rfl ?_
      have e : k = m := by omega
      obtain ⟨g1, g2⟩ := cutW_cap hi n.toNat
      obtain ⟨g3, g4⟩ := cutW_cap lo n.toNat
      exact ⟨by rw [e, HM.out, g1, g4], by go_grown⟩

set_option maxHeartbeats 400000 in
theorem rright_any (hi lo : Nat) (n : Int) (ha : W64 hi) (hb : W64 lo) :
    Gives Try.prog 39 #[.agg #[.int .u64 hi, .int .u64 lo, .int .i64 n]] (.bool (rightB hi lo n)) := by
  intro w
  have ea := eql_addr
  by_cases h0 : 0 ≤ n
  · have d0 : decide (0 ≤ n) = true := by simpa using h0
    by_cases h1 : n ≤ 128
    · have d1 : decide (n ≤ 128) = true := by simpa using h1
      go_enter Try.func39, Try.ntmps39
      go_wp2_with fail
      have kg := cell_grow
      refine region_whole (by kernel_rfl) (by kernel_rfl) ?_
      repeat (any_goals (first | go_big_quiet_step ((go_at_call 12; exact Gives.at (rcut_any hi lo n ha hb) _ _ _)) | quiet_step ((go_at_call 12; exact Gives.at (rcut_any hi lo n ha hb) _ _ _))))
      refine wpQuiet_nil ?_
      clear kg
      intro w1 hb1
      obtain ⟨hc1, hf1⟩ := bcell hb1
      have hw1 : Below w.heap.size w w1 := by
        refine Below.trans ?_ (hb1.mono ?_)
        · go_grown
        · first | omega | go_size
      go_wp2
      go_ret
      refine ⟨ret_bool ?_, by go_grown⟩
      simp [rightB, h0, h1]
    · have d1 : decide (n ≤ 128) = false := by simpa using h1
      go_enter Try.func39, Try.ntmps39
      go_wp2_with fail
      have kg := cell_grow
      refine region_whole (by kernel_rfl) (by kernel_rfl) ?_
      repeat (any_goals (first | go_big_quiet_step (fail) | quiet_step (fail)))
      refine wpQuiet_nil ?_
      clear kg
      intro w1 hb1
      obtain ⟨hc1, hf1⟩ := bcell hb1
      have hw1 : Below w.heap.size w w1 := by
        refine Below.trans ?_ (hb1.mono ?_)
        · go_grown
        · first | omega | go_size
      go_wp2
      go_ret
      refine ⟨ret_bool ?_, by go_grown⟩
      unfold rightB
      rw [eq_comm, decide_eq_false_iff_not]
      omega
  · have d0 : decide (0 ≤ n) = false := by simpa using h0
    go_enter Try.func39, Try.ntmps39
    go_wp2_with fail
    have kg := cell_grow
    refine region_whole (by kernel_rfl) (by kernel_rfl) ?_
    repeat (any_goals (first | go_big_quiet_step (fail) | quiet_step (fail)))
    refine wpQuiet_nil ?_
    clear kg
    intro w1 hb1
    obtain ⟨hc1, hf1⟩ := bcell hb1
    have hw1 : Below w.heap.size w w1 := by
      refine Below.trans ?_ (hb1.mono ?_)
      · go_grown
      · first | omega | go_size
    go_wp2
    go_ret
    refine ⟨ret_bool ?_, by go_grown⟩
    unfold rightB
    rw [eq_comm, decide_eq_false_iff_not]
    omega

set_option maxHeartbeats 400000 in
theorem rhas_any (hi lo : Nat) (n : Int) (xh xl : Nat) (ha : W64 hi) (hb : W64 lo) (hc : W64 xh) (hd : W64 xl) :
    Gives Try.prog 31 #[.agg #[.int .u64 hi, .int .u64 lo, .int .i64 n], .agg #[.int .u64 xh, .int .u64 xl]] (.bool (hasB hi lo n xh xl)) := by
  intro w
  have ea := eql_addr
  have hr := rright_any hi lo n ha hb
  cases hR : rightB hi lo n
  · rw [hR] at hr
    have HR := Lib.hid hR
    clear hR
    go_enter Try.func31, Try.ntmps31
    go_wp2_with fail
    have kg := cell_grow
    refine region_whole (by kernel_rfl) (by kernel_rfl) ?_
    repeat (any_goals (first | go_big_quiet_step ((go_at_call 39; exact Gives.at hr _ _ _)) | quiet_step ((go_at_call 39; exact Gives.at hr _ _ _))))
    refine wpQuiet_nil ?_
    clear kg
    intro w1 hb1
    obtain ⟨hc1, hf1⟩ := bcell hb1
    have hw1 : Below w.heap.size w w1 := by
      refine Below.trans ?_ (hb1.mono ?_)
      · go_grown
      · first | omega | go_size
    go_wp2
    go_ret
    refine ⟨ret_bool ?_, by go_grown⟩
    simp [hasB, HR.out]
  · rw [hR] at hr
    have HR := Lib.hid hR
    clear hR
    go_enter Try.func31, Try.ntmps31
    go_wp2_with fail
    have kg := cell_grow
    refine region_whole (by kernel_rfl) (by kernel_rfl) ?_
    repeat (any_goals (first | go_big_quiet_step (first | (go_at_call 39; exact Gives.at hr _ _ _) | (go_at_call 12; exact Gives.at (rcut_any xh xl n hc hd) _ _ _)) | quiet_step (first | (go_at_call 39; exact Gives.at hr _ _ _) | (go_at_call 12; exact Gives.at (rcut_any xh xl n hc hd) _ _ _))))
    refine wpQuiet_nil ?_
    clear kg
    intro w1 hb1
    obtain ⟨hc1, hf1⟩ := bcell hb1
    have hw1 : Below w.heap.size w w1 := by
      refine Below.trans ?_ (hb1.mono ?_)
      · go_grown
      · first | omega | go_size
    go_wp2
    go_ret
    refine ⟨ret_bool ?_, by go_grown⟩
    simp [hasB, HR.out]

set_option maxHeartbeats 400000 in
theorem rless_any (h1 l1 : Nat) (n1 : Int) (h2 l2 : Nat) (n2 : Int) :
    Gives Try.prog 38 #[.agg #[.int .u64 h1, .int .u64 l1, .int .i64 n1], .agg #[.int .u64 h2, .int .u64 l2, .int .i64 n2]] (.bool (lessB h1 l1 n1 h2 l2 n2)) := by
  intro w
  by_cases e1 : h1 = h2
  · by_cases e2 : l1 = l2
    · subst e1 e2
      go_enter Try.func38, Try.ntmps38
      go_wp2
      go_ret
      refine ⟨ret_bool ?_, by go_grown⟩
      simp [lessB]
    · subst e1
      go_enter Try.func38, Try.ntmps38
      go_wp2
      go_ret
      refine ⟨ret_bool ?_, by go_grown⟩
      simp [lessB, e2]
  · go_enter Try.func38, Try.ntmps38
    go_wp2
    go_ret
    refine ⟨ret_bool ?_, by go_grown⟩
    simp [lessB, e1]

end Go.Proofs.Ytcfioplbbbaeoaa
/-
  append of one row of routes to another one, each of the call's own or a table's. No condition but that both together are short of 2^40.
-/
set_option linter.unusedSimpArgs false
set_option linter.unusedVariables false
namespace Go.Proofs.Ytcfioplbbbaeoaa
open Go Go.RowKit Go.Sort M

theorem wpList_append_rts {ops : Array Oper} {rest : List Oper} {o : Oper} {a : Act} {w : World} {Q : Exit → Act → World → Prop} (hgd : o.guard = none) (s x : Operand)
    (ho : o.op = .call { callee := .builtin .append, args := #[s, x], argTypes := #[34, 34] }) (B B2 : Nat) (v u : Value) (L M N : List Rt) (hN : N = L ++ M) (hs : a.eval s = v) (hx : a.eval x = u)
    (hown : w.ownsRow B 43 4 v L.length (rcs L)) (hsrc : w.ownsRow B2 43 4 u M.length (rcs M)) (hlen : L.length + M.length ≤ 1099511627776) (hB : B ≤ w.heap.size)
    (h : ∀ v' w', w'.ownsRow B 43 4 v' N.length (rcs N) → w.grownBy w' v.ownBlock → (v'.ownBlock = v.ownBlock ∨ v'.ownBlock = some w.heap.size) → wpList Try.prog ops Q rest (a.put o.dst v') w') : wpList Try.prog ops Q (o :: rest) a w := by
  subst hN
  obtain ⟨i0, hi0, iz0, iz1, iz2⟩ := info_parts infoR
  rcases hsrc.2 with ⟨hu, h0⟩ | ⟨g, cap, cur, hu, -, -, -, -, -, -⟩
  · subst hu
    refine wpList_append_own_none hgd s x 34 ho B 43 i0 4 Try.underlying34 hi0 v _ _ hs hown hx ?_
    have hM := List.length_eq_zero_iff.1 h0
    subst hM
    refine h v w ?_ ⟨rfl, rfl, rfl, Nat.le_refl _, fun _ _ _ => rfl⟩ (.inl rfl)
    rwa [List.append_nil]
  · have hc := fun hg => hsrc.cells (g := g) hg
    subst hu
    refine wpList_append_own_at w hgd s x 34 ho B 43 i0 _ 4 32 Try.underlying34 hi0 iz0 iz1 iz2 rfl (by decide) v _ _ hs hown ⟨g, 0, none⟩ M.length cap (rcs M) hx (rcs_len M) (hc rfl) (rcs_one' M) (by unfold maxLen; omega) (by omega) hB ?_
    intro v' w' h1 h2 _ h4
    refine h v' w' ?_ h2 h4
    rw [rcs_append, List.length_append]
    exact h1
end Go.Proofs.Ytcfioplbbbaeoaa
