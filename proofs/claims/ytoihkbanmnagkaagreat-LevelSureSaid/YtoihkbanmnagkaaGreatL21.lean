/-
  What chapter 21's laws ask of the program's level, as a Prop over whatever the program is; the document's example. No condition but those that stand in each.
-/
import Derived.Test.YtoihkbanmnagkaaGreatM18b
import Derived.Test.YtoihkbanmnagkaaGreatM21
import Derived.Test.YtoihkbanmnagkaaGreatW11
import Derived.Test.YtoihkbanmnagkaaGreatRT2
import Derived.Test.YtoihkbanmnagkaaGreatReg9
import Derived.Test.YtoihkbanmnagkaaGreatCT
/-
  What the reference's answers on addresses hand back: the same as package addr's calls. No condition but that the words are words of 64 bits.
-/
set_option linter.unusedSimpArgs false
set_option linter.unusedVariables false
namespace Go.Proofs.YtoihkbanmnagkaaGreat
open Go.RowKit Go.Sort M

set_option maxHeartbeats 400000 in
theorem rbit_any (hi lo : Nat) (i : Int) (ha : W64 hi) (hb : W64 lo) :
    Gives Tryz.prog 43 #[.agg #[.int .u64 hi, .int .u64 lo], .int .i64 i] (.int .i64 (bitI hi lo i)) := by
  intro w
  by_cases h : 0 ≤ i ∧ i < 128
  · obtain ⟨h0, h1⟩ := h
    by_cases h2 : i < 64
    · go_enter Tryz.func43, Tryz.ntmps43
      go_wp2
      go_ret
      refine ⟨?_, by go_grown⟩
      show Ending.returned (.int .i64 (wrap64 (bits BinOp.and IntKind.u64 _ 1))) = _
      obtain ⟨k, rfl⟩ := Int.eq_ofNat_of_zero_le h0
      rw [show (63 - (k : Int)).toNat = 63 - k by omega, shr_and_wrap hi _ ha, bitI_hi hi lo k (by omega)]
    · go_enter Tryz.func43, Tryz.ntmps43
      go_wp2
      go_ret
      refine ⟨?_, by go_grown⟩
      show Ending.returned (.int .i64 (wrap64 (bits BinOp.and IntKind.u64 _ 1))) = _
      obtain ⟨k, rfl⟩ := Int.eq_ofNat_of_zero_le h0
      rw [show (127 - (k : Int)).toNat = 127 - k by omega, shr_and_wrap lo _ hb, bitI_lo hi lo k (by omega) (by omega)]
  · have hz := bitI_out hi lo i (by omega)
    have HZ := Lib.hid hz
    clear hz
    go_enter Tryz.func43, Tryz.ntmps43
    go_wp2
    all_goals
      go_ret
      exact ⟨by rw [HZ.out]; rfl, by go_grown⟩

theorem shl_one (k : Nat) (h : k < 64) : IntKind.u64.wrap (2 ^ k) = ((2 ^ k : Nat) : Int) := by
  have h1 : 2 ^ k < 2 ^ 64 := Nat.pow_lt_pow_right (by decide) h
  have e : (2 ^ k : Int) = ((2 ^ k : Nat) : Int) := by simp
  rw [e, IntKind.wrap_u64]
  generalize 2 ^ k = x at *
  omega
theorem or_shl (x k : Nat) (hx : W64 x) (h : k < 64) : bits BinOp.or IntKind.u64 (x : Int) (IntKind.u64.wrap (2 ^ k)) = ((x ||| 2 ^ k : Nat) : Int) := by
  rw [shl_one k h, bits_or_u64_nat _ _ hx.lt (Nat.pow_lt_pow_right (by decide) h : 2 ^ k < 2 ^ 64)]

set_option maxHeartbeats 400000 in
theorem cap_any (n lo hi : Int) (w : World) :
    Calls Tryz.prog 42 #[.int .i64 n, .int .i64 lo, .int .i64 hi] w fun e w' => e = .returned (.int .i64 (if n < lo then lo else if hi < n then hi else n)) ∧ w = w' := by
  by_cases h1 : n < lo
  · go_enter Tryz.func42, Tryz.ntmps42
    go_wp2
    go_ret
    exact ⟨ret_num (by simp [h1]), rfl⟩
  · by_cases h2 : hi < n
    · go_enter Tryz.func42, Tryz.ntmps42
      go_wp2
      go_ret
      exact ⟨ret_num (by simp [h1, h2]), rfl⟩
    · go_enter Tryz.func42, Tryz.ntmps42
      go_wp2
      go_ret
      exact ⟨ret_num (by simp [h1, h2]), rfl⟩

def onHi (hi k : Nat) : Nat := if k < 64 then hi ||| 2 ^ (63 - k) else hi
def onLo (lo k : Nat) : Nat := if k < 64 then lo else lo ||| 2 ^ (127 - k)

set_option maxHeartbeats 400000 in
theorem with_any (hi lo : Nat) (k : Nat) (ha : W64 hi) (hb : W64 lo) (h1 : k < 128) :
    Gives Tryz.prog 44 #[.agg #[.int .u64 hi, .int .u64 lo], .int .i64 k] (.agg #[.int .u64 (onHi hi k), .int .u64 (onLo lo k)]) := by
  intro w
  obtain ⟨i, hi'⟩ : ∃ i : Int, i = k := ⟨_, rfl⟩
  have HI := Lib.hid hi'
  rw [← hi']
  have h0 : 0 ≤ i := by omega
  have h1' : i < 128 := by omega
  clear hi' h1
  by_cases h2 : i < 64
  · go_enter Tryz.func44, Tryz.ntmps44
    go_wp2
    refine bodyPost_ret (by simp [results, Tryz.results44, go_sem]; try rfl) rfl ?_
    have hk := HI.out
    have e : (63 - i).toNat = 63 - k := by omega
    have hk2 : k < 64 := by omega
    exact ⟨by rw [e, or_shl hi _ ha (by omega)]; simp [onHi, onLo, hk2], by go_grown⟩
  · go_enter Tryz.func44, Tryz.ntmps44
    go_wp2
    refine bodyPost_ret (by simp [results, Tryz.results44, go_sem]; try rfl) rfl ?_
    have hk := HI.out
    have e : (127 - i).toNat = 127 - k := by omega
    have hk2 : ¬ k < 64 := by omega
    exact ⟨by rw [e, or_shl lo _ hb (by omega)]; simp [onHi, onLo, hk2], by go_grown⟩

theorem on_cut (hi lo k : Nat) (hb : W64 lo) (h : k < 128) (hbit : bitN hi lo k = true) : onHi (cutW hi k) k = cutW hi (k + 1) ∧ onLo (cutW lo (k - 64)) k = cutW lo (k + 1 - 64) := by
  unfold bitN at hbit
  unfold onHi onLo
  by_cases h1 : k < 64
  · rw [if_pos h1] at hbit
    rw [if_pos h1, if_pos h1, cutW_succ hi k h1, if_pos hbit, show k - 64 = 0 by omega, show k + 1 - 64 = 0 by omega]
    exact ⟨rfl, rfl⟩
  · rw [if_neg h1, if_pos h] at hbit
    rw [if_neg h1, if_neg h1, cutW_full hi k (by omega), cutW_full hi (k + 1) (by omega), show k + 1 - 64 = (k - 64) + 1 by omega, cutW_succ lo (k - 64) (by omega), show 63 - (k - 64) = 127 - k by omega, if_pos hbit]
    exact ⟨rfl, rfl⟩
theorem off_cut (hi lo k : Nat) (h : k < 128) (hbit : bitN hi lo k = false) : cutW hi k = cutW hi (k + 1) ∧ cutW lo (k - 64) = cutW lo (k + 1 - 64) := by
  unfold bitN at hbit
  by_cases h1 : k < 64
  · rw [if_pos h1] at hbit
    rw [cutW_succ hi k h1, hbit, show k - 64 = 0 by omega, show k + 1 - 64 = 0 by omega]
    exact ⟨rfl, rfl⟩
  · rw [if_neg h1, if_pos h] at hbit
    rw [cutW_full hi k (by omega), cutW_full hi (k + 1) (by omega), show k + 1 - 64 = (k - 64) + 1 by omega, cutW_succ lo (k - 64) (by omega), show 63 - (k - 64) = 127 - k by omega, hbit]
    exact ⟨rfl, rfl⟩
theorem cutW_w64 (x n : Nat) (h : W64 x) : W64 (cutW x n) := Nat.lt_of_le_of_lt (cutW_le x n) h
theorem cutW_cap (x n : Nat) : cutW x (min n 128) = cutW x n ∧ cutW x (min n 128 - 64) = cutW x (n - 64) := by
  unfold cutW
  rw [show 64 - min n 128 = 64 - n by omega, show 64 - (min n 128 - 64) = 64 - (n - 64) by omega]
  exact ⟨rfl, rfl⟩

set_option maxHeartbeats 400000 in
theorem rcut_any (hi lo : Nat) (n : Int) (ha : W64 hi) (hb : W64 lo) :
    Gives Tryz.prog 21 #[.agg #[.int .u64 hi, .int .u64 lo], .int .i64 n] (.agg #[.int .u64 (cutW hi n.toNat), .int .u64 (cutW lo (n.toNat - 64))]) := by
  intro w
  obtain ⟨m, hm⟩ : ∃ m : Nat, m = min n.toNat 128 := ⟨_, rfl⟩
  have hc : ∀ w, Calls Tryz.prog 42 #[.int .i64 n, .int .i64 0, .int .i64 128] w fun e w' => e = .returned (.int .i64 m) ∧ w = w' := fun w =>
    (cap_any n 0 128 w).mono fun e w' ⟨he, hw⟩ => ⟨by rw [he]; exact ret_num (by split <;> (try split) <;> omega), hw⟩
  have HC := Lib.hid hc
  have HM := Lib.hid hm
  have hm2 : m ≤ 128 := by omega
  clear hc hm
  have e1 := cutW_zero hi ha
  have e2 := cutW_zero lo hb
  have E1 := Lib.hid e1
  have E2 := Lib.hid e2
  clear e1 e2
  go_enter Tryz.func21, Tryz.ntmps21
  go_wp2_with (go_at_call 42; refine (HC.out _).mono ?_; rintro e w' ⟨rfl, rfl⟩)
  go_loopw [6] (fun i wr => ∃ k : Nat, k ≤ m ∧ i = .int .i64 k ∧ Below w.heap.size w wr ∧ w.heap.size + 3 ≤ wr.heap.size ∧ wr.cell? ⟨w.heap.size, 0, none⟩ = some (.int .u64 hi) ∧ wr.cell? ⟨w.heap.size, 1, none⟩ = some (.int .u64 lo) ∧
      wr.cell? ⟨w.heap.size + 1, 0, none⟩ = some (.int .u64 0) ∧ wr.cell? ⟨w.heap.size + 1, 1, none⟩ = some (.int .u64 0) ∧
      wr.cell? ⟨w.heap.size + 2, 0, none⟩ = some (.int .u64 (cutW hi k)) ∧ wr.cell? ⟨w.heap.size + 2, 1, none⟩ = some (.int .u64 (cutW lo (k - 64))) ∧
      wr.frozen? ⟨w.heap.size + 1, 0, none⟩ = false ∧ wr.frozen? ⟨w.heap.size + 1, 1, none⟩ = false ∧ wr.frozen? ⟨w.heap.size + 2, 0, none⟩ = false ∧ wr.frozen? ⟨w.heap.size + 2, 1, none⟩ = false)
    (fun i _ => m - (intOf i).toNat)
  case atStart =>
    refine ⟨0, Nat.zero_le _, rfl, by go_grown, by go_size, ?_⟩
    simp [go_sem, E1.out, E2.out]
  case round =>
    obtain ⟨k, hk, rfl, hw0, hz, c0, c1, c2, c3, c4, c5, f0, f1, f2, f3⟩ := hrel
    by_cases hlt : k < m
    · have hB : Gives Tryz.prog 43 #[.agg #[.int .u64 hi, .int .u64 lo], .int .i64 (k : Int)] (.int .i64 (bitI hi lo k)) := rbit_any hi lo k ha hb
      have hW : Gives Tryz.prog 44 #[.agg #[.int .u64 (cutW hi k), .int .u64 (cutW lo (k - 64))], .int .i64 (k : Int)] (.agg #[.int .u64 (onHi (cutW hi k) k), .int .u64 (onLo (cutW lo (k - 64)) k)]) :=
        with_any _ _ k (cutW_w64 _ _ ha) (cutW_w64 _ _ hb) (by omega)
      rw [bitI_nat] at hB
      cases hbit : bitN hi lo k
      · obtain ⟨g1, g2⟩ := off_cut hi lo k (by omega) hbit
        rw [hbit] at hB
        have HB := Lib.hid hB
        have G1 := Lib.hid g1
        have G2 := Lib.hid g2
        clear hB hW hbit g1 g2
        go_wp2_with fail
        refine (HB.out _).mono ?_
        rintro e w1 ⟨rfl, hb1⟩
        obtain ⟨hc1, hf1⟩ := bcell hb1
        have c0 := (hc1 _ _ (by omega)).trans c0
        have c1 := (hc1 _ _ (by omega)).trans c1
        have c2 := (hc1 _ _ (by omega)).trans c2
        have c3 := (hc1 _ _ (by omega)).trans c3
        have c4 := (hc1 _ _ (by omega)).trans c4
        have c5 := (hc1 _ _ (by omega)).trans c5
        have f0 := (hf1 _ _ (by omega)).trans f0
        have f1 := (hf1 _ _ (by omega)).trans f1
        have f2 := (hf1 _ _ (by omega)).trans f2
        have f3 := (hf1 _ _ (by omega)).trans f3
        have hw0 := Below.trans hw0 (hb1.mono (by omega))
        have hz := Nat.lt_of_lt_of_le hz hb1.size
        clear hc1 hf1 hb1
        go_wp2
        go_roundw
        case rel =>
          refine ⟨k + 1, by omega, by go_num, hw0, hz, c0, c1, c2, c3, ?_, ?_, f0, f1, f2, f3⟩
          · rw [← G1.out]; exact c4
          · rw [← G2.out]; exact c5
        case measure => simp [intOf]; omega
      · obtain ⟨g1, g2⟩ := on_cut hi lo k hb (by omega) hbit
        rw [hbit] at hB
        rw [g1, g2] at hW
        have HB := Lib.hid hB
        have HW := Lib.hid hW
        clear hB hW hbit g1 g2
        go_wp2_with fail
        refine (HB.out _).mono ?_
        rintro e w1 ⟨rfl, hb1⟩
        obtain ⟨hc1, hf1⟩ := bcell hb1
        have c0 := (hc1 _ _ (by omega)).trans c0
        have c1 := (hc1 _ _ (by omega)).trans c1
        have c2 := (hc1 _ _ (by omega)).trans c2
        have c3 := (hc1 _ _ (by omega)).trans c3
        have c4 := (hc1 _ _ (by omega)).trans c4
        have c5 := (hc1 _ _ (by omega)).trans c5
        have f0 := (hf1 _ _ (by omega)).trans f0
        have f1 := (hf1 _ _ (by omega)).trans f1
        have f2 := (hf1 _ _ (by omega)).trans f2
        have f3 := (hf1 _ _ (by omega)).trans f3
        have hw0 := Below.trans hw0 (hb1.mono (by omega))
        have hz := Nat.lt_of_lt_of_le hz hb1.size
        clear hc1 hf1 hb1
        go_wp2_with fail
        refine (HW.out _).mono ?_
        rintro e w2 ⟨rfl, hb2⟩
        obtain ⟨hc2, hf2⟩ := bcell hb2
        have c0 := (hc2 _ _ (by omega)).trans c0
        have c1 := (hc2 _ _ (by omega)).trans c1
        have c2 := (hc2 _ _ (by omega)).trans c2
        have c3 := (hc2 _ _ (by omega)).trans c3
        have c4 := (hc2 _ _ (by omega)).trans c4
        have c5 := (hc2 _ _ (by omega)).trans c5
        have f0 := (hf2 _ _ (by omega)).trans f0
        have f1 := (hf2 _ _ (by omega)).trans f1
        have f2 := (hf2 _ _ (by omega)).trans f2
        have f3 := (hf2 _ _ (by omega)).trans f3
        have hw0 := Below.trans hw0 (hb2.mono (by omega))
        have hz := Nat.lt_of_lt_of_le hz hb2.size
        clear hc2 hf2 hb2
        go_wp2
        go_roundw
        case rel =>
          refine ⟨k + 1, by omega, by go_num, by go_grown, by go_size, ?_⟩
          simp [go_sem, c0, c1, c2, c3, c4, c5, f0, f1, f2, f3]
        case measure => simp [intOf]; omega
    · go_wp2
      refine bodyPost_ret (by simp [results, Tryz.results21, go_sem, c2, c3, f0, f1]; try rfl) rfl ?_
      have e : k = m := by omega
      obtain ⟨g1, g2⟩ := cutW_cap hi n.toNat
      obtain ⟨g3, g4⟩ := cutW_cap lo n.toNat
      exact ⟨by rw [e, HM.out, g1, g4], by go_grown⟩

set_option maxHeartbeats 400000 in
theorem rright_any (hi lo : Nat) (n : Int) (ha : W64 hi) (hb : W64 lo) :
    Gives Tryz.prog 19 #[.agg #[.int .u64 hi, .int .u64 lo, .int .i64 n]] (.bool (rightB hi lo n)) := by
  intro w
  have ea := eql_addr
  by_cases h0 : 0 ≤ n
  · have d0 : decide (0 ≤ n) = true := by simpa using h0
    by_cases h1 : n ≤ 128
    · have d1 : decide (n ≤ 128) = true := by simpa using h1
      go_enter Tryz.func19, Tryz.ntmps19
      go_wp2_with fail
      have kg := cell_grow
      refine region_whole (by kernel_rfl) (by kernel_rfl) ?_
      repeat (any_goals (first | go_big_quiet_step ((go_at_call 21; exact Gives.at (rcut_any hi lo n ha hb) _ _ _)) | quiet_step ((go_at_call 21; exact Gives.at (rcut_any hi lo n ha hb) _ _ _))))
      refine wpQuiet_nil ?_
      clear kg
      intro w1 hb1
      obtain ⟨hc1, hf1⟩ := bcell hb1
      have hw1 : Below w.heap.size w w1 := by
        refine Below.trans ?_ (hb1.mono ?_)
        · go_grown
        · first | omega | go_size
      go_wp2
      go_ret
      refine ⟨ret_bool ?_, by go_grown⟩
      simp [rightB, h0, h1]
    · have d1 : decide (n ≤ 128) = false := by simpa using h1
      go_enter Tryz.func19, Tryz.ntmps19
      go_wp2_with fail
      have kg := cell_grow
      refine region_whole (by kernel_rfl) (by kernel_rfl) ?_
      repeat (any_goals (first | go_big_quiet_step (fail) | quiet_step (fail)))
      refine wpQuiet_nil ?_
      clear kg
      intro w1 hb1
      obtain ⟨hc1, hf1⟩ := bcell hb1
      have hw1 : Below w.heap.size w w1 := by
        refine Below.trans ?_ (hb1.mono ?_)
        · go_grown
        · first | omega | go_size
      go_wp2
      go_ret
      refine ⟨ret_bool ?_, by go_grown⟩
      unfold rightB
      rw [eq_comm, decide_eq_false_iff_not]
      omega
  · have d0 : decide (0 ≤ n) = false := by simpa using h0
    go_enter Tryz.func19, Tryz.ntmps19
    go_wp2_with fail
    have kg := cell_grow
    refine region_whole (by kernel_rfl) (by kernel_rfl) ?_
    repeat (any_goals (first | go_big_quiet_step (fail) | quiet_step (fail)))
    refine wpQuiet_nil ?_
    clear kg
    intro w1 hb1
    obtain ⟨hc1, hf1⟩ := bcell hb1
    have hw1 : Below w.heap.size w w1 := by
      refine Below.trans ?_ (hb1.mono ?_)
      · go_grown
      · first | omega | go_size
    go_wp2
    go_ret
    refine ⟨ret_bool ?_, by go_grown⟩
    unfold rightB
    rw [eq_comm, decide_eq_false_iff_not]
    omega

set_option maxHeartbeats 400000 in
theorem rless_any (h1 l1 : Nat) (n1 : Int) (h2 l2 : Nat) (n2 : Int) :
    Gives Tryz.prog 41 #[.agg #[.int .u64 h1, .int .u64 l1, .int .i64 n1], .agg #[.int .u64 h2, .int .u64 l2, .int .i64 n2]] (.bool (lessB h1 l1 n1 h2 l2 n2)) := by
  intro w
  by_cases e1 : h1 = h2
  · by_cases e2 : l1 = l2
    · subst e1 e2
      go_enter Tryz.func41, Tryz.ntmps41
      go_wp2
      go_ret
      refine ⟨ret_bool ?_, by go_grown⟩
      simp [lessB]
    · subst e1
      go_enter Tryz.func41, Tryz.ntmps41
      go_wp2
      go_ret
      refine ⟨ret_bool ?_, by go_grown⟩
      simp [lessB, e2]
  · go_enter Tryz.func41, Tryz.ntmps41
    go_wp2
    go_ret
    refine ⟨ret_bool ?_, by go_grown⟩
    simp [lessB, e1]

end Go.Proofs.YtoihkbanmnagkaaGreat
/-
  The reference's level in memory, and what its Look hands back. No condition but that the level lies in memory, and that words are words.
-/
set_option linter.unusedSimpArgs false
set_option linter.unusedVariables false
namespace Go.Proofs.YtoihkbanmnagkaaGreat
open Go Go.RowKit Go.Sort M

structure RLevB (w : World) (K : Nat → Prop) (t : Nat) (V : Lv) (lo hi f g u b : Nat) (v : Value) : Prop where
  lt : t < w.heap.size
  c0 : w.cell? ⟨t, 0, none⟩ = some (.int .i64 V.n)
  c1 : w.cell? ⟨t, 1, none⟩ = some (.pointer (some ⟨f, 0, none⟩))
  c2 : w.cell? ⟨t, 2, none⟩ = some (.pointer (some ⟨u, 0, none⟩))
  fil : RFil w lo hi f g V.s V.k V.C
  tab : Tb RBk w u b v V.T
  kt : K t
  kf : ∀ j, In lo hi j → K j
  kb : ∀ j, Blk u b v j → K j
  tf : ¬ In lo hi t
  tb : ¬ Blk u b v t
  fb : ∀ j, Blk u b v j → ¬ In lo hi j
def RLev (w : World) (K : Nat → Prop) (t : Nat) (V : Lv) : Prop := ∃ lo hi f g u b v, RLevB w K t V lo hi f g u b v
theorem RLev.touched {w w' : World} {K S : Nat → Prop} {t : Nat} {V : Lv} (H : RLev w K t V) (ht : Touch S w w') (hn : ∀ j, K j → ¬ S j) : RLev w' K t V := by
  obtain ⟨lo, hi, f, g, u, b, v, H⟩ := H
  exact ⟨lo, hi, f, g, u, b, v, Nat.lt_of_lt_of_le H.lt ht.size, ht.cell H.c0 (hn _ H.kt), ht.cell H.c1 (hn _ H.kt), ht.cell H.c2 (hn _ H.kt), H.fil.touched ht (fun j h1 h2 => hn _ (H.kf j ⟨h1, h2⟩)), H.tab.touched bk_rbk ht (fun j hj => hn _ (H.kb j hj)), H.kt, H.kf, H.kb, H.tf, H.tb, H.fb⟩
theorem RLev.below {w w' : World} {K : Nat → Prop} {t : Nat} {V : Lv} (H : RLev w K t V) (hb : Below w.heap.size w w') : RLev w' K t V := H.touched (S := fun _ => False) (Touch.quiet hb) (fun _ _ x => x)
def lookA (V : Lv) (ah al : Nat) : Value := .tuple #[.int .i64 ((V.hit ah al).getD 0), .bool (V.hit ah al).isSome, .bool (V.may ah al)]
def lkD (kh kl : Nat) (n : Int) (S : Nat) (i : Nat) (v : Value) (W : World) : Prop :=
  match i with
  | 5 => v = .agg #[.int .u64 (kh : Int), .int .u64 (kl : Int)]
  | 10 => v = .agg #[.int .u64 (kh : Int), .int .u64 (kl : Int), .int .i64 n]
  | 11 => ∃ b, v = .pointer (some ⟨b, 0, none⟩) ∧ S ≤ b ∧ b < W.heap.size ∧ W.cell? ⟨b, 0, none⟩ = some (.int .u64 0) ∧ W.cell? ⟨b, 1, none⟩ = some (.int .u64 0) ∧ W.cell? ⟨b, 2, none⟩ = some (.int .i64 0) ∧ ∀ j, W.frozen? ⟨b, j, none⟩ = false
  | _ => True
theorem lkD_stable (kh kl : Nat) (n : Int) (S : Nat) : ∀ i v W W', Below W.heap.size W W' → lkD kh kl n S i v W → lkD kh kl n S i v W' := by
  intro i v W W' hb h
  unfold lkD at h ⊢
  split at h
  · exact h
  · exact h
  · obtain ⟨b, e, h1, h2, h3, h4, h5, h6⟩ := h
    exact ⟨b, e, h1, Nat.lt_of_lt_of_le h2 hb.size, (hb.cell (p := ⟨b, 0, none⟩) h2).trans h3, (hb.cell (p := ⟨b, 1, none⟩) h2).trans h4, (hb.cell (p := ⟨b, 2, none⟩) h2).trans h5, fun j => (hb.frozen (p := ⟨b, j, none⟩) h2).trans (h6 j)⟩
  · trivial
def lgD (hv : Int) (hs : Bool) (n : Nat) (i : Nat) (v : Value) (_ : World) : Prop :=
  match i with
  | 5 => ∃ p c, v = .tuple #[.int .i64 hv, .bool hs, .slice p n c]
  | 6 => ∃ p c, v = .tuple #[.int .i64 hv, .bool hs, .slice p n c]
  | 7 => v = .int .i64 hv
  | 8 => v = .bool hs
  | 10 => v = .int .i64 hv
  | 11 => v = .bool hs
  | _ => True
end Go.Proofs.YtoihkbanmnagkaaGreat
/-
  Rows of changes in memory: five cells to each; whatever the type's number. No condition but those that stand in each.
-/
set_option linter.unusedSimpArgs false
set_option linter.unusedVariables false
namespace Go.Proofs.YtoihkbanmnagkaaGreat
open Go Go.RowKit Go.Sort M

def ccell (c : Ch) : List Value := [.int .u64 (c.k.h : Int), .int .u64 (c.k.l : Int), .int .i64 c.k.n, .int .i64 c.o, .int .i64 c.n]
def ccs (L : List Ch) : List Value := L.flatMap ccell
theorem ccs_len (L : List Ch) : (ccs L).length = L.length * 5 := by
  unfold ccs
  induction L with
  | nil => rfl
  | cons x L ih => simp only [List.flatMap_cons, List.length_append, ih, ccell, List.length_cons, List.length_nil]; omega
theorem ccs_cons (x : Ch) (L : List Ch) : ccs (x :: L) = ccell x ++ ccs L := rfl
theorem ccs_one (p : Ch) : ccs [p] = ccell p := by simp [ccs]
theorem ccs_cell : ∀ (L : List Ch) (k j : Nat) (h : k < L.length), j < 5 → (ccs L)[k * 5 + j]? = (ccell L[k])[j]?
  | x :: L, 0, j, _, hj => by
    rw [ccs_cons, List.getElem?_append_left (by simp [ccell]; omega)]
    simp
  | x :: L, k + 1, j, h, hj => by
    rw [ccs_cons, List.getElem?_append_right (by simp [ccell]; omega), show (k + 1) * 5 + j - (ccell x).length = k * 5 + j by simp [ccell]; omega]
    rw [ccs_cell L k j (by simpa using h) hj]
    simp
theorem Row.ch {w : World} {p : Option Addr} {L : List Ch} (h : Row w p (ccs L)) {k : Nat} (hk : k < L.length) : ∃ g o, p = some ⟨g, o, none⟩ ∧ g < w.heap.size ∧
    w.cell? ⟨g, o + k * 5, none⟩ = some (.int .u64 (L[k].k.h : Int)) ∧ w.cell? ⟨g, o + k * 5 + 1, none⟩ = some (.int .u64 (L[k].k.l : Int)) ∧ w.cell? ⟨g, o + k * 5 + 2, none⟩ = some (.int .i64 L[k].k.n) ∧
    w.cell? ⟨g, o + k * 5 + 3, none⟩ = some (.int .i64 L[k].o) ∧ w.cell? ⟨g, o + k * 5 + 4, none⟩ = some (.int .i64 L[k].n) := by
  rcases h with h | ⟨g, o, e, hg, hc⟩
  · have := ccs_len L
    rw [h] at this
    simp at this; omega
  · exact ⟨g, o, e, hg, hc (k * 5) _ (ccs_cell L k 0 hk (by omega)), hc (k * 5 + 1) _ (ccs_cell L k 1 hk (by omega)), hc (k * 5 + 2) _ (ccs_cell L k 2 hk (by omega)), hc (k * 5 + 3) _ (ccs_cell L k 3 hk (by omega)), hc (k * 5 + 4) _ (ccs_cell L k 4 hk (by omega))⟩
theorem getS_find {N : List Rt} {k : Ky} {i : Nat} (h : findS N k = some i) : ∃ hi : i < N.length, getS N k = some N[i].v := by
  unfold findS at h
  obtain ⟨hi, h1, h2⟩ := List.findIdx?_eq_some_iff_getElem.1 h
  refine ⟨hi, ?_⟩
  unfold getS
  have : N.find? (fun r => decide (r.k = k)) = some N[i] := List.find?_eq_some_iff_getElem.2 ⟨h1, i, hi, rfl, fun j hj => by simpa using h2 j hj⟩
  rw [this]
  rfl
theorem getS_nofind {N : List Rt} {k : Ky} (h : findS N k = none) : getS N k = none := by
  rw [getS_none]
  intro hk
  have := find_is18.2 hk
  rw [h] at this
  cases this
end Go.Proofs.YtoihkbanmnagkaaGreat
/-
  What chapter 21's laws ask of the program's level, as a Prop over whatever the program is; the document's example. No condition but those that stand in each.
-/
set_option linter.unusedSimpArgs false
set_option linter.unusedVariables false
namespace Go.Proofs.YtoihkbanmnagkaaGreat
open Go Go.RowKit Go.Sort M

structure LevC (P : World → (Nat → Prop) → Nat → Lv → Prop) : Prop where
  bad : ∀ (n k m b : Int) (s : Nat) (w : World), W64 s → badV n k m b →
    Calls Tryz.prog 6 #[.int .i64 n, .int .u64 (s : Int), .int .i64 k, .int .i64 m, .int .i64 b] w fun e w' => e = .returned (.tuple #[.pointer none, .int .i64 1]) ∧ Below w.heap.size w w'
  new : ∀ (n k : Int) (s m b : Nat) (w : World), W64 s → ¬ badV n k m b →
    Calls Tryz.prog 6 #[.int .i64 n, .int .u64 (s : Int), .int .i64 k, .int .i64 (m : Int), .int .i64 (b : Int)] w fun e w' =>
      ∃ t, e = .returned (.tuple #[.pointer (some ⟨t, 0, none⟩), .int .i64 0]) ∧ P w' (In w.heap.size w'.heap.size) t (newV n s k m b) ∧ Below w.heap.size w w'
  turn : ∀ (w : World) (K : Nat → Prop) (t : Nat) (V : Lv) (N : List Rt) (p : Option Addr) (c : Nat) (L : List Ch), P w K t V → LvOk V N → (∀ x ∈ L, x.k.good) → N.length + L.length ≤ 100000 → L.length ≤ c → Row w p (ccs L) → (∀ a, p = some a → ¬ K a.block) →
    Calls Tryz.prog 9 #[.pointer (some ⟨t, 0, none⟩), .slice p L.length c] w fun e w' => e = .returned (.tuple #[]) ∧ ∃ K', P w' K' t (V.turns L) ∧ Touch K w w' ∧ ∀ g, K' g → K g ∨ In w.heap.size w'.heap.size g
  look : ∀ (w : World) (K : Nat → Prop) (t : Nat) (V : Lv) (N : List Rt) (ah al : Nat), P w K t V → LvOk V N → N.length ≤ 100000 → 0 ≤ V.n → W64 ah → W64 al →
    Calls Tryz.prog 11 #[.pointer (some ⟨t, 0, none⟩), .agg #[.int .u64 (ah : Int), .int .u64 (al : Int)]] w fun e w' => e = .returned (lookA V ah al) ∧ Below w.heap.size w w'
  keys : ∀ (w : World) (K : Nat → Prop) (t : Nat) (V : Lv) (N : List Rt), P w K t V → LvOk V N → N.length ≤ 100000 →
    Calls Tryz.prog 14 #[.pointer (some ⟨t, 0, none⟩)] w fun e w' => ∃ p c, e = .returned (.slice p N.length c) ∧ Row w' p (rcs N) ∧ Below w.heap.size w w'
  bits : ∀ (w : World) (K : Nat → Prop) (t : Nat) (V : Lv), P w K t V →
    Calls Tryz.prog 16 #[.pointer (some ⟨t, 0, none⟩)] w fun e w' => e = .returned (.int .i64 V.n) ∧ Below w.heap.size w w'
  touched : ∀ (w w' : World) (K S : Nat → Prop) (t : Nat) (V : Lv), P w K t V → Touch S w w' → (∀ g, K g → ¬ S g) → P w' K t V
section
variable {P : World → (Nat → Prop) → Nat → Lv → Prop}
theorem LevC.below (D : LevC P) {w w' : World} {K : Nat → Prop} {t : Nat} {V : Lv} (h : P w K t V) (hb : Below w.heap.size w w') : P w' K t V :=
  D.touched w w' K (fun _ => False) t V h (Touch.quiet hb) (fun _ _ x => x)
theorem LevC.turn1 (D : LevC P) {w : World} {K : Nat → Prop} {t : Nat} {V : Lv} {N : List Rt} {p : Option Addr} {c : Nat} (x : Ch) (h : P w K t V) (hV : LvOk V N) (hx : x.k.good) (hl : N.length ≤ 90000) (hc : 1 ≤ c) (hR : Row w p (ccs [x])) (hp : ∀ a, p = some a → ¬ K a.block) :
    Calls Tryz.prog 9 #[.pointer (some ⟨t, 0, none⟩), .slice p 1 c] w fun e w' => e = .returned (.tuple #[]) ∧ ∃ K', P w' K' t (V.turn x) ∧ Touch K w w' ∧ ∀ g, K' g → K g ∨ In w.heap.size w'.heap.size g :=
  D.turn w K t V N p c [x] h hV (fun y hy => by rw [List.mem_singleton.1 hy]; exact hx) (by simp; omega) hc hR hp
end
theorem row_change {w : World} (x : Ch) (t : TypeId) : Row (w.alloc (.cells #[.int .u64 (x.k.h : Int), .int .u64 (x.k.l : Int), .int .i64 x.k.n, .int .i64 x.o, .int .i64 x.n] t)) (some ⟨w.heap.size, 0, none⟩) (ccs [x]) := by
  refine .inr ⟨w.heap.size, 0, rfl, by simp, fun j u hu => ?_⟩
  rw [ccs_one] at hu
  match j, hu with
  | 0, hu => simp [ccell] at hu; subst hu; simp [go_sem]
  | 1, hu => simp [ccell] at hu; subst hu; simp [go_sem]
  | 2, hu => simp [ccell] at hu; subst hu; simp [go_sem]
  | 3, hu => simp [ccell] at hu; subst hu; simp [go_sem]
  | 4, hu => simp [ccell] at hu; subst hu; simp [go_sem]
end Go.Proofs.YtoihkbanmnagkaaGreat
