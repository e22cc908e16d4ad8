/-
  What Get of the reference's table hands back. No condition but that the table's cells lie in memory.
-/
import Derived.Test.YtoihkbanmnagkaaGreatW11b
import Derived.Test.YtoihkbanmnagkaaGreatMade
import Derived.Test.YtoihkbanmnagkaaGreatW12j
/-
  The reference's plain rows of routes: Find, Without; SameRoutes. No condition but that the rows lie in memory, and are short of 2^20.
-/
set_option linter.unusedSimpArgs false
set_option linter.unusedVariables false
namespace Go.Proofs.YtoihkbanmnagkaaGreat
open Go.RowKit Go.Sort M

theorem find_at {L : List Rt} {k : Ky} {j : Nat} (hj : j < L.length) (h1 : ∀ i, ∀ h : i < L.length, i < j → L[i].k ≠ k) (h2 : L[j].k = k) : findS L k = some j := by
  unfold findS
  rw [List.findIdx?_eq_some_iff_getElem]
  exact ⟨hj, decide_eq_true h2, fun i hi => by simp [h1 i (by omega) hi]⟩
theorem find_no {L : List Rt} {k : Ky} (h : ∀ i, ∀ h : i < L.length, L[i].k ≠ k) : findS L k = none := by
  unfold findS
  rw [List.findIdx?_eq_none_iff]
  intro x hx
  obtain ⟨i, hi, rfl⟩ := List.getElem_of_mem hx
  exact decide_eq_false (h i hi)
theorem outS_snoc (L : List Rt) (k : Ky) (j : Nat) (h : j < L.length) : outS (L.take (j + 1)) k = outS (L.take j) k ++ if L[j].k = k then [] else [L[j]] := by
  unfold outS
  rw [List.take_succ_eq_append_getElem h, List.filter_append]
  by_cases e : L[j].k = k <;> simp [e]
set_option maxRecDepth 100000 in
set_option maxHeartbeats 2000000 in
theorem find12_any (p : Option Addr) (c : Nat) (L : List Rt) (k : Ky) (w : World) (hR : Row w p (rcs L)) (hl : L.length < 1048576) :
    Calls Tryz.prog 20 #[.slice p L.length c, kyV k] w fun e w' => e = .returned (.int .i64 (stI L k)) ∧ Below w.heap.size w w' := by
  have HR := Lib.hid hR
  clear hR
  obtain ⟨F, hF⟩ : ∃ F, F = stI L k := ⟨_, rfl⟩
  rw [← hF]
  have HF := Lib.hid hF
  clear hF
  unfold kyV at *
  go_enter Tryz.func20, Tryz.ntmps20
  go_wp2
  go_loopw [5] (fun i wr => ∃ (j : Nat), j ≤ L.length ∧ i = .int .i64 (j : Int) ∧ Hid (∀ i, ∀ h : i < L.length, i < j → L[i].k ≠ k) ∧ wr.cell? ⟨w.heap.size, 0, none⟩ = some (.int .u64 (k.h : Int)) ∧ wr.cell? ⟨w.heap.size, 1, none⟩ = some (.int .u64 (k.l : Int)) ∧ wr.cell? ⟨w.heap.size, 2, none⟩ = some (.int .i64 k.n) ∧ w.heap.size < wr.heap.size ∧ Below w.heap.size w wr) (fun i _ => L.length - (intOf i).toNat)
  case atStart => exact ⟨0, Nat.zero_le _, rfl, fun i _ h => absurd h (by omega), by simp [go_sem], by simp [go_sem], by simp [go_sem], by simp, by go_grown⟩
  case round =>
    obtain ⟨j, hj, rfl, HN, d0, d1, d2, hz, hb⟩ := hrel
    by_cases hlt : j < L.length
    · obtain ⟨gr, o, rfl, hgr, r0, r1, r2, r3⟩ := HR.out.rt hlt
      have r0 := (hb.cell (p := ⟨gr, o + j * 4, none⟩) hgr).trans r0
      have r1 := (hb.cell (p := ⟨gr, o + j * 4 + 1, none⟩) hgr).trans r1
      have r2 := (hb.cell (p := ⟨gr, o + j * 4 + 2, none⟩) hgr).trans r2
      have hgr2 := Nat.lt_of_lt_of_le hgr hb.size
      have i1 : (0 : Int) ≤ (j : Int) := by omega
      have i2 : (j : Int) < (L.length : Int) := by omega
      have hE := eqlK L[j].k.h L[j].k.l L[j].k.n k.h k.l k.n
      clear r3
      by_cases hq : L[j].k = k
      · rw [decide_eq_true ((ky_eq _ _).2 hq)] at hE
        have HJ : Hid (F = (j : Int)) := by
          show F = _
          rw [HF.out, stI_some (find_at hlt HN.out hq)]
        clear hq
        generalize L[j].k = q at *
        go_wp2_with fail
        have kg := cell_grow
        refine region_whole (by kernel_rfl) (by kernel_rfl) ?_
        repeat (any_goals (first | go_big_quiet_step (fail) | quiet_step (fail)))
        refine wpQuiet_nil ?_
        clear kg
        intro w2 hb2
        obtain ⟨hc2, hf2⟩ := bcell hb2
        have hw2 : Below w.heap.size w w2 := by
          refine Below.trans ?_ (hb2.mono ?_)
          · go_grown
          · first | omega | go_size
        go_wp2
        go_ret
        exact ⟨by rw [HJ.out]; rfl, hb.trans (hb2.mono hb.size)⟩
      · rw [decide_eq_false (fun h => hq ((ky_eq _ _).1 h))] at hE
        have HN2 : Hid (∀ i, ∀ h : i < L.length, i < j + 1 → L[i].k ≠ k) := by
          intro i h hij
          by_cases e : i = j
          · subst e; exact hq
          · exact HN.out i h (by omega)
        clear hq
        generalize L[j].k = q at hE r0 r1 r2
        go_wp2_with fail
        have kg := cell_grow
        refine region_whole (by kernel_rfl) (by kernel_rfl) ?_
        repeat (any_goals (first | go_big_quiet_step (fail) | quiet_step (fail)))
        refine wpQuiet_nil ?_
        clear kg
        intro w2 hb2
        obtain ⟨hc2, hf2⟩ := bcell hb2
        have hw2 : Below w.heap.size w w2 := by
          refine Below.trans ?_ (hb2.mono ?_)
          · go_grown
          · first | omega | go_size
        have hw2 := hb.trans (hb2.mono hb.size)
        have d0 := (hc2 _ _ hz).trans d0
        have d1 := (hc2 _ _ hz).trans d1
        have d2 := (hc2 _ _ hz).trans d2
        have hz2 := Nat.lt_of_lt_of_le hz hb2.size
        clear hc2 hf2 hb2
        go_wp2
        go_roundw
        all_goals first
          | exact ⟨j + 1, by omega, by go_num, HN2, d0, d1, d2, hz2, hw2⟩
          | (simp [intOf]; omega)
    · have HJ : Hid (F = -1) := by
        show F = _
        rw [HF.out, stI_none (find_no fun i h => HN.out i h (by omega))]
      go_wp2
      go_ret
      exact ⟨by rw [HJ.out]; rfl, hb⟩
set_option maxRecDepth 100000 in
set_option maxHeartbeats 2000000 in
theorem without12_any (p : Option Addr) (c : Nat) (L : List Rt) (k : Ky) (w : World) (hR : Row w p (rcs L)) (hl : L.length < 1048576) :
    Calls Tryz.prog 17 #[.slice p L.length c, kyV k] w fun e w' => NewRts w w' e (outS L k) := by
  obtain ⟨i0, hi0, iz0, iz1, iz2⟩ := info_parts infoR
  have HR := Lib.hid hR
  clear hR
  obtain ⟨F, hF⟩ : ∃ F, F = outS L k := ⟨_, rfl⟩
  rw [← hF]
  have HF := Lib.hid hF
  clear hF
  unfold kyV at *
  go_enter Tryz.func17, Tryz.ntmps17
  go_wp2
  go_loopw [5, 6] (fun s5 i wr => ∃ (j : Nat) (q : Option Addr) (c2 : Nat) (N : List Rt), j ≤ L.length ∧ i = .int .i64 (j : Int) ∧ s5 = .slice q N.length c2 ∧ N.length ≤ j ∧ Hid (N = outS (L.take j) k) ∧ Hid (wr.ownsRow (w.heap.size + 1) 58 4 (.slice q N.length c2) N.length (rcs N)) ∧ wr.cell? ⟨w.heap.size, 0, none⟩ = some (.int .u64 (k.h : Int)) ∧ wr.cell? ⟨w.heap.size, 1, none⟩ = some (.int .u64 (k.l : Int)) ∧ wr.cell? ⟨w.heap.size, 2, none⟩ = some (.int .i64 k.n) ∧ w.heap.size < wr.heap.size ∧ Below w.heap.size w wr) (fun _ i _ => L.length - (intOf i).toNat)
  case atStart => exact ⟨0, none, 0, [], Nat.zero_le _, rfl, rfl, Nat.zero_le _, rfl, World.ownsRow_nil _ _ _ _, by simp [go_sem], by simp [go_sem], by simp [go_sem], by simp, by go_grown⟩
  case round =>
    obtain ⟨j, q, c2, N, hj, rfl, rfl, hNj, HN, HO, d0, d1, d2, hz, hb⟩ := hrel
    by_cases hlt : j < L.length
    · obtain ⟨gr, o, rfl, hgr, r0, r1, r2, r3⟩ := HR.out.rt hlt
      have r0 := (hb.cell (p := ⟨gr, o + j * 4, none⟩) hgr).trans r0
      have r1 := (hb.cell (p := ⟨gr, o + j * 4 + 1, none⟩) hgr).trans r1
      have r2 := (hb.cell (p := ⟨gr, o + j * 4 + 2, none⟩) hgr).trans r2
      have r3 := (hb.cell (p := ⟨gr, o + j * 4 + 3, none⟩) hgr).trans r3
      have hgr2 := Nat.lt_of_lt_of_le hgr hb.size
      have i1 : (0 : Int) ≤ (j : Int) := by omega
      have i2 : (j : Int) < (L.length : Int) := by omega
      have hE := neqK L[j].k.h L[j].k.l L[j].k.n k.h k.l k.n
      have hs := outS_snoc L k j hlt
      rw [← HN.out] at hs
      by_cases hq : L[j].k = k
      · rw [decide_eq_true ((ky_eq _ _).2 hq)] at hE
        rw [if_pos hq, List.append_nil] at hs
        have HN2 : Hid (N = outS (L.take (j + 1)) k) := hs.symm
        clear hq hs r3
        generalize L[j].k = q1 at *
        go_wp2_with fail
        have kg := cell_grow
        refine region_whole (by kernel_rfl) (by kernel_rfl) ?_
        repeat (any_goals (first | go_big_quiet_step (fail) | quiet_step (fail)))
        refine wpQuiet_nil ?_
        clear kg
        intro w2 hb2
        obtain ⟨hc2, hf2⟩ := bcell hb2
        have hw2 : Below w.heap.size w w2 := by
          refine Below.trans ?_ (hb2.mono ?_)
          · go_grown
          · first | omega | go_size
        have hw2 := hb.trans (hb2.mono hb.size)
        have d0 := (hc2 _ _ hz).trans d0
        have d1 := (hc2 _ _ hz).trans d1
        have d2 := (hc2 _ _ hz).trans d2
        have hz2 := Nat.lt_of_lt_of_le hz hb2.size
        have HO2 := Lib.hid (own_below HO.out hb2)
        clear hc2 hf2 hb2
        go_wp2
        go_roundw
        all_goals first
          | exact ⟨j + 1, q, c2, N, by omega, by go_num, rfl, by omega, HN2, HO2, d0, d1, d2, hz2, hw2⟩
          | (simp [intOf]; omega)
      · rw [decide_eq_false (fun h => hq ((ky_eq _ _).1 h))] at hE
        rw [if_neg hq] at hs
        have HN2 := Lib.hid hs.symm
        clear hq hs
        generalize L[j] = r at *
        go_wp2_with fail
        have kg := cell_grow
        refine region_whole (by kernel_rfl) (by kernel_rfl) ?_
        repeat (any_goals (first | go_big_quiet_step (fail) | quiet_step (fail)))
        refine wpQuiet_nil ?_
        clear kg
        intro w2 hb2
        obtain ⟨hc2, hf2⟩ := bcell hb2
        have hw2 : Below w.heap.size w w2 := by
          refine Below.trans ?_ (hb2.mono ?_)
          · go_grown
          · first | omega | go_size
        have hw2 := hb.trans (hb2.mono hb.size)
        have d0 := (hc2 _ _ hz).trans d0
        have d1 := (hc2 _ _ hz).trans d1
        have d2 := (hc2 _ _ hz).trans d2
        have r0 := (hc2 _ _ hgr2).trans r0
        have r1 := (hc2 _ _ hgr2).trans r1
        have r2 := (hc2 _ _ hgr2).trans r2
        have r3 := (hc2 _ _ hgr2).trans r3
        have hz2 := Nat.lt_of_lt_of_le hz hb2.size
        have hgr3 := Nat.lt_of_lt_of_le hgr2 hb2.size
        have HO2 := Lib.hid (own_below HO.out hb2)
        clear hc2 hf2 hb2
        go_wp2_with (at_builtin; go_loud (refine wpList_append_own_at _ rfl (.tmp 20) (.tmp 25) 47 rfl (w.heap.size + 1) 58 i0 _ 4 32 Tryz.underlying47 hi0 iz0 iz1 iz2 rfl (by decide) _ _ _ rfl (HO2.out.alloc _) ⟨w2.heap.size, 0, none⟩ 1 1 (rcell r) rfl rfl (four_new (by simp [go_sem]) (by simp [go_sem]) (by simp [go_sem]) (by simp [go_sem])) (by simp [rcell, Value.oneCell']) (by unfold maxLen; omega) (by omega) (by simp; omega) ?_))
        intro v3 w3 hown3 hg3 _ hat
        have hown4 := own_rsnoc hown3 rfl
        obtain ⟨p3, c3, rfl⟩ := own_slice hown4
        have hw3 : Below w.heap.size w w3 := (hw2.alloc hw2.size _).grown hg3 (by simp; omega) (fun j hj => by have := (HO2.out.lt j hj).1; omega)
        have hbx : w3.heap[w.heap.size]? = w2.heap[w.heap.size]? := (hg3.block _ (by simp; omega) (fun e => by have := (HO2.out.lt _ e.symm).1; omega)).trans (heap_alloc_old w2 _ hz2)
        have d0 := (World.cell?_of_block (a := ⟨w.heap.size, 0, none⟩) hbx).trans d0
        have d1 := (World.cell?_of_block (a := ⟨w.heap.size, 1, none⟩) hbx).trans d1
        have d2 := (World.cell?_of_block (a := ⟨w.heap.size, 2, none⟩) hbx).trans d2
        have hz3 : w.heap.size < w3.heap.size := by have := hg3.size; simp at this; omega
        have HO3 := Lib.hid hown4
        have hnl : (N ++ [r]).length ≤ j + 1 := by simp; omega
        clear hown3 hg3 hown4 hbx HO2 HO hb hw2 hat
        go_wp2
        go_roundw
        all_goals first
          | exact ⟨j + 1, p3, c3, N ++ [r], by omega, by go_num, rfl, hnl, HN2, HO3, d0, d1, d2, hz3, hw3⟩
          | (simp [intOf]; omega)
    · have HJ : Hid (N = F) := by
        show _ = F
        rw [HF.out, HN.out, List.take_of_length_le (by omega)]
      go_wp2
      go_ret
      have h := HO.out
      rw [HJ.out] at h ⊢
      exact ⟨_, _, rfl, own_le h (by omega), hb⟩
theorem neqR (a b : Nat) (n x : Int) (c d : Nat) (m y : Int) (w : World) : (binOp .neq 58 (.agg #[.int .u64 a, .int .u64 b, .int .i64 n, .int .i64 x]) (.agg #[.int .u64 c, .int .u64 d, .int .i64 m, .int .i64 y])).run Tryz.prog w =
    .ok (.bool (!decide (a = c ∧ b = d ∧ n = m ∧ x = y))) w := by
  have e1 : decide (a = c ∧ b = d ∧ n = m ∧ x = y) = (decide ((a : Int) = c) && (decide ((b : Int) = d) && (decide (n = m) && decide (x = y)))) := by
    rw [← Bool.decide_and, ← Bool.decide_and, ← Bool.decide_and, decide_eq_decide]; omega
  rw [e1]
  by_cases h1 : (a : Int) = c <;> by_cases h2 : (b : Int) = d <;> by_cases h3 : n = m <;> by_cases h4 : x = y <;> simp [go_sem, h1, h2, h3, h4]
theorem rt_eq (a b : Rt) : (a.k.h = b.k.h ∧ a.k.l = b.k.l ∧ a.k.n = b.k.n ∧ a.v = b.v) ↔ a = b := by
  obtain ⟨⟨h, l, n⟩, v⟩ := a
  obtain ⟨⟨h', l', n'⟩, v'⟩ := b
  constructor
  · rintro ⟨e1, e2, e3, e4⟩
    simp only at e1 e2 e3 e4
    subst e1 e2 e3 e4
    rfl
  · intro e
    injection e with e1 e2
    injection e1 with e3 e4 e5
    exact ⟨e3, e4, e5, e2⟩
set_option maxRecDepth 100000 in
set_option maxHeartbeats 2000000 in
theorem sameR_any (p q : Option Addr) (c d : Nat) (X Y : List Rt) (w : World) (hX : Row w p (rcs X)) (hY : Row w q (rcs Y)) (hl : X.length < 1048576) (hm : Y.length < 1048576) :
    Calls Tryz.prog 13 #[.slice p X.length c, .slice q Y.length d] w fun e w' => e = .returned (.bool (decide (X = Y))) ∧ Below w.heap.size w w' := by
  by_cases hlen : X.length = Y.length
  · have HX := Lib.hid hX
    have HY := Lib.hid hY
    have HL := Lib.hid hlen
    clear hX hY hlen
    have hn : ¬ ((X.length : Int) ≠ (Y.length : Int)) := by rw [HL.out]; simp
    obtain ⟨F, hF⟩ : ∃ F, F = decide (X = Y) := ⟨_, rfl⟩
    rw [← hF]
    have HF := Lib.hid hF
    clear hF
    rw [← HL.out]
    clear hn
    go_enter Tryz.func13, Tryz.ntmps13
    go_wp2
    go_loopw [5] (fun i wr => ∃ (j : Nat), j ≤ X.length ∧ i = .int .i64 (j : Int) ∧ Hid (∀ i, ∀ (h : i < X.length) (h2 : i < Y.length), i < j → X[i] = Y[i]) ∧ Below w.heap.size w wr) (fun i _ => X.length - (intOf i).toNat)
    case atStart => exact ⟨0, Nat.zero_le _, rfl, fun i _ _ h => absurd h (by omega), by go_grown⟩
    case round =>
      obtain ⟨j, hj, rfl, HE, hb⟩ := hrel
      by_cases hlt : j < X.length
      · have hlt2 : j < Y.length := by rw [← HL.out]; exact hlt
        obtain ⟨ga, oa, rfl, hga, a0, a1, a2, a3⟩ := HX.out.rt hlt
        obtain ⟨gb, ob, rfl, hgb, b0, b1, b2, b3⟩ := HY.out.rt hlt2
        have a0 := (hb.cell (p := ⟨ga, oa + j * 4, none⟩) hga).trans a0
        have a1 := (hb.cell (p := ⟨ga, oa + j * 4 + 1, none⟩) hga).trans a1
        have a2 := (hb.cell (p := ⟨ga, oa + j * 4 + 2, none⟩) hga).trans a2
        have a3 := (hb.cell (p := ⟨ga, oa + j * 4 + 3, none⟩) hga).trans a3
        have b0 := (hb.cell (p := ⟨gb, ob + j * 4, none⟩) hgb).trans b0
        have b1 := (hb.cell (p := ⟨gb, ob + j * 4 + 1, none⟩) hgb).trans b1
        have b2 := (hb.cell (p := ⟨gb, ob + j * 4 + 2, none⟩) hgb).trans b2
        have b3 := (hb.cell (p := ⟨gb, ob + j * 4 + 3, none⟩) hgb).trans b3
        have hga2 := Nat.lt_of_lt_of_le hga hb.size
        have hgb2 := Nat.lt_of_lt_of_le hgb hb.size
        have hz0 := hb.size
        have i1 : (0 : Int) ≤ (j : Int) := by omega
        have i2 : (j : Int) < (X.length : Int) := by omega
        have hE := neqR X[j].k.h X[j].k.l X[j].k.n X[j].v Y[j].k.h Y[j].k.l Y[j].k.n Y[j].v
        by_cases hq : X[j] = Y[j]
        · rw [decide_eq_true ((rt_eq _ _).2 hq)] at hE
          have HE2 : Hid (∀ i, ∀ (h : i < X.length) (h2 : i < Y.length), i < j + 1 → X[i] = Y[i]) := by
            intro i h h2 hij
            by_cases e : i = j
            · subst e; exact hq
            · exact HE.out i h h2 (by omega)
          clear hq
          generalize X[j] = x at hE a0 a1 a2 a3
          generalize Y[j] = y at hE b0 b1 b2 b3
          go_wp2_with fail
          have kg := cell_grow
          refine region_whole (by kernel_rfl) (by kernel_rfl) ?_
          repeat (any_goals (first | go_big_quiet_step (fail) | quiet_step (fail)))
          refine wpQuiet_nil ?_
          clear kg
          intro w2 hb2
          obtain ⟨hc2, hf2⟩ := bcell hb2
          have hw2 : Below w.heap.size w w2 := by
            refine Below.trans ?_ (hb2.mono ?_)
            · go_grown
            · first | omega | go_size
          have hw2 := hb.trans (hb2.mono hb.size)
          clear hc2 hf2 hb2
          go_wp2
          go_roundw
          all_goals first
            | exact ⟨j + 1, by omega, by go_num, HE2, hw2⟩
            | (simp [intOf]; omega)
        · rw [decide_eq_false (fun h => hq ((rt_eq _ _).1 h))] at hE
          have HJ : Hid (F = false) := by
            show F = _
            rw [HF.out]
            exact decide_eq_false fun e => hq (by subst e; rfl)
          clear hq
          generalize X[j] = x at hE a0 a1 a2 a3
          generalize Y[j] = y at hE b0 b1 b2 b3
          go_wp2_with fail
          have kg := cell_grow
          refine region_whole (by kernel_rfl) (by kernel_rfl) ?_
          repeat (any_goals (first | go_big_quiet_step (fail) | quiet_step (fail)))
          refine wpQuiet_nil ?_
          clear kg
          intro w2 hb2
          obtain ⟨hc2, hf2⟩ := bcell hb2
          have hw2 : Below w.heap.size w w2 := by
            refine Below.trans ?_ (hb2.mono ?_)
            · go_grown
            · first | omega | go_size
          go_wp2
          go_ret
          exact ⟨by rw [HJ.out]; rfl, hb.trans (hb2.mono hb.size)⟩
      · have HJ : Hid (F = true) := by
          show F = _
          rw [HF.out]
          exact decide_eq_true (List.ext_getElem HL.out fun i h1 h2 => HE.out i h1 h2 (by omega))
        go_wp2
        go_ret
        exact ⟨by rw [HJ.out]; rfl, hb⟩
  · rw [decide_eq_false (fun e => hlen (by rw [e]))]
    have hn : ¬ ((X.length : Int) = (Y.length : Int)) := by omega
    clear hlen
    go_enter Tryz.func13, Tryz.ntmps13
    go_wp2
    go_ret
    exact ⟨rfl, by go_grown⟩
end Go.Proofs.YtoihkbanmnagkaaGreat
/-
  What Get of the reference's table hands back. No condition but that the table's cells lie in memory.
-/
set_option linter.unusedSimpArgs false
set_option linter.unusedVariables false
namespace Go.Proofs.YtoihkbanmnagkaaGreat
open Go.RowKit Go.Sort M

set_option maxRecDepth 100000 in
set_option maxHeartbeats 2000000 in
theorem rget12_first (t g : Nat) (pv : Option Addr) (cv : Nat) (T : Tab) (x : Int) (k : Ky) (w : World) (H : Tb RBk w t g (.slice pv T.st.length cv) T) (h : Num T) (hk : k.good) (hf : T.st.length < 1048576) (h1 : getC (T.bk (T.x1 k)) k = some x) :
    Calls Tryz.prog 30 #[.pointer (some ⟨t, 0, none⟩), kyV k] w fun e w' => ∃ p c, e = .returned (.tuple #[.int .i64 x, .bool true, .slice p 1 c]) ∧ w'.ownsRow w.heap.size 3 1 (.slice p 1 c) 1 (ics [(T.x1 k : Int)]) ∧ Below w.heap.size w w' := by
  have HB := Lib.hid (rtwo_fact T k h hk)
  have HG := fun x (hx : x < T.B.length) w (H : Tb RBk w t g (.slice pv T.st.length cv) T) => rget11_any g (x * 20) (T.bk x) k w (H.bk x hx)
  have HS := Lib.hid (fun w (H : Tb RBk w t g (.slice pv T.st.length cv) T) => find12_any pv cv T.st k w (Row.of_own H.own) hf)
  have HH := Lib.hid H
  have hl := H.tlt
  have c0 := H.c0
  have c1 := H.c1
  have HG1 := HG _ (h.x1_lt k)
  have HG2 := HG _ (h.x2_lt k)
  rw [h1] at HG1
  try rw [h2] at HG2
  have HG1 := Lib.hid HG1
  have HG2 := Lib.hid HG2
  have hx1 := h.x1_lt k
  have hx2 := h.x2_lt k
  generalize hX1 : T.x1 k = x1 at *
  generalize hX2 : T.x2 k = x2 at *
  clear hX1 hX2 HG
  clear H h h1
  try clear h2
  unfold kyV at *
  simp only [Option.getD_some, Option.isSome_some, Option.getD_none, Option.isSome_none] at *
  go_enter Tryz.func30, Tryz.ntmps30
  go_wp2_with fail
  have kg := cell_grow
  refine region_whole (by kernel_rfl) (by kernel_rfl) ?_
  repeat (any_goals (first | go_big_quiet_step ((exact HB.out.at _ _ _)) | quiet_step ((exact HB.out.at _ _ _))))
  refine wpQuiet_nil ?_
  clear kg
  intro w1 hb1
  obtain ⟨hc1, hf1⟩ := bcell hb1
  have hw1 : Below w.heap.size w w1 := by
    refine Below.trans ?_ (hb1.mono ?_)
    · go_grown
    · first | omega | go_size
  have d0 : w1.cell? ⟨w.heap.size, 0, none⟩ = some (.int .u64 (k.h : Int)) := by
    rw [hb1.cell (by simp <;> omega)]
    first | assumption | (simp [go_sem]; done) | (simp [go_sem, *]; done)
  have d1 : w1.cell? ⟨w.heap.size, 1, none⟩ = some (.int .u64 (k.l : Int)) := by
    rw [hb1.cell (by simp <;> omega)]
    first | assumption | (simp [go_sem]; done) | (simp [go_sem, *]; done)
  have d2 : w1.cell? ⟨w.heap.size, 2, none⟩ = some (.int .i64 k.n) := by
    rw [hb1.cell (by simp <;> omega)]
    first | assumption | (simp [go_sem]; done) | (simp [go_sem, *]; done)
  have hz1 : w.heap.size < w1.heap.size := by
    have hs := hb1.size
    try simp only [World.size_alloc, World.size_setCell] at hs
    omega
  have HH2 := Lib.hid (HH.out.below bk_rbk hw1)
  have c1 := HH2.out.c1
  have hl2 := HH2.out.tlt
  have i1 : (0 : Int) ≤ (x1 : Int) := by omega
  have i2 : (x1 : Int) < (T.B.length : Int) := by omega
  clear hc1 hf1 hb1 c0
  go_wp2_with fail
  have kg := cell_grow
  refine region_whole (by kernel_rfl) (by kernel_rfl) ?_
  repeat (any_goals (first | go_big_quiet_step ((exact Calls.regrown_of (HG1.out _ (HH2.out.below bk_rbk (below_regrown _ _ _))))) | quiet_step ((exact Calls.regrown_of (HG1.out _ (HH2.out.below bk_rbk (below_regrown _ _ _)))))))
  refine wpQuiet_nil ?_
  clear kg
  intro w3 hb3
  obtain ⟨hc3, hf3⟩ := bcell hb3
  have HH3 := Lib.hid (HH2.out.below bk_rbk hb3)
  have hw3 := hw1.trans (hb3.mono hw1.size)
  clear hc3 hf3 hb3
  have hz3 := hw3.size
  go_wp2
  go_ret3
  refine ⟨_, _, rfl, own_made (B := w.heap.size) hz3 (by exact heap_alloc_new w3 _) (by omega) (by unfold maxLen; omega) rfl rfl, by go_grown⟩
set_option maxRecDepth 100000 in
set_option maxHeartbeats 2000000 in
theorem rget12_second (t g : Nat) (pv : Option Addr) (cv : Nat) (T : Tab) (x : Int) (k : Ky) (w : World) (H : Tb RBk w t g (.slice pv T.st.length cv) T) (h : Num T) (hk : k.good) (hf : T.st.length < 1048576) (h1 : getC (T.bk (T.x1 k)) k = none) (h2 : getC (T.bk (T.x2 k)) k = some x) :
    Calls Tryz.prog 30 #[.pointer (some ⟨t, 0, none⟩), kyV k] w fun e w' => ∃ p c, e = .returned (.tuple #[.int .i64 x, .bool true, .slice p 2 c]) ∧ w'.ownsRow w.heap.size 3 1 (.slice p 2 c) 2 (ics [(T.x1 k : Int), (T.x2 k : Int)]) ∧ Below w.heap.size w w' := by
  have HB := Lib.hid (rtwo_fact T k h hk)
  have HG := fun x (hx : x < T.B.length) w (H : Tb RBk w t g (.slice pv T.st.length cv) T) => rget11_any g (x * 20) (T.bk x) k w (H.bk x hx)
  have HS := Lib.hid (fun w (H : Tb RBk w t g (.slice pv T.st.length cv) T) => find12_any pv cv T.st k w (Row.of_own H.own) hf)
  have HH := Lib.hid H
  have hl := H.tlt
  have c0 := H.c0
  have c1 := H.c1
  have HG1 := HG _ (h.x1_lt k)
  have HG2 := HG _ (h.x2_lt k)
  rw [h1] at HG1
  try rw [h2] at HG2
  have HG1 := Lib.hid HG1
  have HG2 := Lib.hid HG2
  have hx1 := h.x1_lt k
  have hx2 := h.x2_lt k
  generalize hX1 : T.x1 k = x1 at *
  generalize hX2 : T.x2 k = x2 at *
  clear hX1 hX2 HG
  clear H h h1
  try clear h2
  unfold kyV at *
  simp only [Option.getD_some, Option.isSome_some, Option.getD_none, Option.isSome_none] at *
  go_enter Tryz.func30, Tryz.ntmps30
  go_wp2_with fail
  have kg := cell_grow
  refine region_whole (by kernel_rfl) (by kernel_rfl) ?_
  repeat (any_goals (first | go_big_quiet_step ((exact HB.out.at _ _ _)) | quiet_step ((exact HB.out.at _ _ _))))
  refine wpQuiet_nil ?_
  clear kg
  intro w1 hb1
  obtain ⟨hc1, hf1⟩ := bcell hb1
  have hw1 : Below w.heap.size w w1 := by
    refine Below.trans ?_ (hb1.mono ?_)
    · go_grown
    · first | omega | go_size
  have d0 : w1.cell? ⟨w.heap.size, 0, none⟩ = some (.int .u64 (k.h : Int)) := by
    rw [hb1.cell (by simp <;> omega)]
    first | assumption | (simp [go_sem]; done) | (simp [go_sem, *]; done)
  have d1 : w1.cell? ⟨w.heap.size, 1, none⟩ = some (.int .u64 (k.l : Int)) := by
    rw [hb1.cell (by simp <;> omega)]
    first | assumption | (simp [go_sem]; done) | (simp [go_sem, *]; done)
  have d2 : w1.cell? ⟨w.heap.size, 2, none⟩ = some (.int .i64 k.n) := by
    rw [hb1.cell (by simp <;> omega)]
    first | assumption | (simp [go_sem]; done) | (simp [go_sem, *]; done)
  have hz1 : w.heap.size < w1.heap.size := by
    have hs := hb1.size
    try simp only [World.size_alloc, World.size_setCell] at hs
    omega
  have HH2 := Lib.hid (HH.out.below bk_rbk hw1)
  have c1 := HH2.out.c1
  have hl2 := HH2.out.tlt
  have i1 : (0 : Int) ≤ (x1 : Int) := by omega
  have i2 : (x1 : Int) < (T.B.length : Int) := by omega
  clear hc1 hf1 hb1 c0
  go_wp2_with fail
  have kg := cell_grow
  refine region_whole (by kernel_rfl) (by kernel_rfl) ?_
  repeat (any_goals (first | go_big_quiet_step ((exact Calls.regrown_of (HG1.out _ (HH2.out.below bk_rbk (below_regrown _ _ _))))) | quiet_step ((exact Calls.regrown_of (HG1.out _ (HH2.out.below bk_rbk (below_regrown _ _ _)))))))
  refine wpQuiet_nil ?_
  clear kg
  intro w3 hb3
  obtain ⟨hc3, hf3⟩ := bcell hb3
  have HH3 := Lib.hid (HH2.out.below bk_rbk hb3)
  have hw3 := hw1.trans (hb3.mono hw1.size)
  have hz3 := Nat.lt_of_lt_of_le hz1 hb3.size
  have hl3 := Nat.lt_of_lt_of_le hl2 hb3.size
  have c1 := (hc3 _ _ hl2).trans c1
  have d0 := (hc3 _ _ hz1).trans d0
  have d1 := (hc3 _ _ hz1).trans d1
  have d2 := (hc3 _ _ hz1).trans d2
  have j1 : (0 : Int) ≤ (x2 : Int) := by omega
  have j2 : (x2 : Int) < (T.B.length : Int) := by omega
  clear hc3 hf3 hb3 hl2 hz1 HH2 hw1
  go_wp2_with fail
  have kg := cell_grow
  refine region_whole (by kernel_rfl) (by kernel_rfl) ?_
  repeat (any_goals (first | go_big_quiet_step ((exact Calls.regrown_of (HG2.out _ (HH3.out.below bk_rbk (below_regrown _ _ _))))) | quiet_step ((exact Calls.regrown_of (HG2.out _ (HH3.out.below bk_rbk (below_regrown _ _ _)))))))
  refine wpQuiet_nil ?_
  clear kg
  intro w5 hb5
  obtain ⟨hc5, hf5⟩ := bcell hb5
  have HH5 := Lib.hid (HH3.out.below bk_rbk hb5)
  have hw5 := hw3.trans (hb5.mono hw3.size)
  have hz5 := hw5.size
  clear hc5 hf5 hb5
  go_wp2
  go_ret3
  refine ⟨_, _, rfl, own_made (B := w.heap.size) hz5 (by exact heap_alloc_new w5 _) (by omega) (by unfold maxLen; omega) rfl rfl, by go_grown⟩
set_option maxRecDepth 100000 in
set_option maxHeartbeats 2000000 in
theorem rget12_none (t g : Nat) (pv : Option Addr) (cv : Nat) (T : Tab) (k : Ky) (w : World) (H : Tb RBk w t g (.slice pv T.st.length cv) T) (h : Num T) (hk : k.good) (hf : T.st.length < 1048576) (h1 : getC (T.bk (T.x1 k)) k = none) (h2 : getC (T.bk (T.x2 k)) k = none) (h3 : findS T.st k = none) :
    Calls Tryz.prog 30 #[.pointer (some ⟨t, 0, none⟩), kyV k] w fun e w' => ∃ p c, e = .returned (.tuple #[.int .i64 0, .bool false, .slice p 2 c]) ∧ w'.ownsRow w.heap.size 3 1 (.slice p 2 c) 2 (ics [(T.x1 k : Int), (T.x2 k : Int)]) ∧ Below w.heap.size w w' := by
  have HB := Lib.hid (rtwo_fact T k h hk)
  have HG := fun x (hx : x < T.B.length) w (H : Tb RBk w t g (.slice pv T.st.length cv) T) => rget11_any g (x * 20) (T.bk x) k w (H.bk x hx)
  have HS := Lib.hid (fun w (H : Tb RBk w t g (.slice pv T.st.length cv) T) => find12_any pv cv T.st k w (Row.of_own H.own) hf)
  have HH := Lib.hid H
  have hl := H.tlt
  have c0 := H.c0
  have c1 := H.c1
  have HG1 := HG _ (h.x1_lt k)
  have HG2 := HG _ (h.x2_lt k)
  rw [h1] at HG1
  try rw [h2] at HG2
  have HG1 := Lib.hid HG1
  have HG2 := Lib.hid HG2
  have hx1 := h.x1_lt k
  have hx2 := h.x2_lt k
  generalize hX1 : T.x1 k = x1 at *
  generalize hX2 : T.x2 k = x2 at *
  clear hX1 hX2 HG
  rw [stI_none h3] at HS
  have hge : ¬ (0 : Int) ≤ -1 := by omega
  clear H h h1
  try clear h2
  unfold kyV at *
  simp only [Option.getD_some, Option.isSome_some, Option.getD_none, Option.isSome_none] at *
  go_enter Tryz.func30, Tryz.ntmps30
  go_wp2_with fail
  have kg := cell_grow
  refine region_whole (by kernel_rfl) (by kernel_rfl) ?_
  repeat (any_goals (first | go_big_quiet_step ((exact HB.out.at _ _ _)) | quiet_step ((exact HB.out.at _ _ _))))
  refine wpQuiet_nil ?_
  clear kg
  intro w1 hb1
  obtain ⟨hc1, hf1⟩ := bcell hb1
  have hw1 : Below w.heap.size w w1 := by
    refine Below.trans ?_ (hb1.mono ?_)
    · go_grown
    · first | omega | go_size
  have d0 : w1.cell? ⟨w.heap.size, 0, none⟩ = some (.int .u64 (k.h : Int)) := by
    rw [hb1.cell (by simp <;> omega)]
    first | assumption | (simp [go_sem]; done) | (simp [go_sem, *]; done)
  have d1 : w1.cell? ⟨w.heap.size, 1, none⟩ = some (.int .u64 (k.l : Int)) := by
    rw [hb1.cell (by simp <;> omega)]
    first | assumption | (simp [go_sem]; done) | (simp [go_sem, *]; done)
  have d2 : w1.cell? ⟨w.heap.size, 2, none⟩ = some (.int .i64 k.n) := by
    rw [hb1.cell (by simp <;> omega)]
    first | assumption | (simp [go_sem]; done) | (simp [go_sem, *]; done)
  have hz1 : w.heap.size < w1.heap.size := by
    have hs := hb1.size
    try simp only [World.size_alloc, World.size_setCell] at hs
    omega
  have HH2 := Lib.hid (HH.out.below bk_rbk hw1)
  have c1 := HH2.out.c1
  have hl2 := HH2.out.tlt
  have i1 : (0 : Int) ≤ (x1 : Int) := by omega
  have i2 : (x1 : Int) < (T.B.length : Int) := by omega
  clear hc1 hf1 hb1 c0
  go_wp2_with fail
  have kg := cell_grow
  refine region_whole (by kernel_rfl) (by kernel_rfl) ?_
  repeat (any_goals (first | go_big_quiet_step ((exact Calls.regrown_of (HG1.out _ (HH2.out.below bk_rbk (below_regrown _ _ _))))) | quiet_step ((exact Calls.regrown_of (HG1.out _ (HH2.out.below bk_rbk (below_regrown _ _ _)))))))
  refine wpQuiet_nil ?_
  clear kg
  intro w3 hb3
  obtain ⟨hc3, hf3⟩ := bcell hb3
  have HH3 := Lib.hid (HH2.out.below bk_rbk hb3)
  have hw3 := hw1.trans (hb3.mono hw1.size)
  have hz3 := Nat.lt_of_lt_of_le hz1 hb3.size
  have hl3 := Nat.lt_of_lt_of_le hl2 hb3.size
  have c1 := (hc3 _ _ hl2).trans c1
  have d0 := (hc3 _ _ hz1).trans d0
  have d1 := (hc3 _ _ hz1).trans d1
  have d2 := (hc3 _ _ hz1).trans d2
  have j1 : (0 : Int) ≤ (x2 : Int) := by omega
  have j2 : (x2 : Int) < (T.B.length : Int) := by omega
  clear hc3 hf3 hb3 hl2 hz1 HH2 hw1
  go_wp2_with fail
  have kg := cell_grow
  refine region_whole (by kernel_rfl) (by kernel_rfl) ?_
  repeat (any_goals (first | go_big_quiet_step ((exact Calls.regrown_of (HG2.out _ (HH3.out.below bk_rbk (below_regrown _ _ _))))) | quiet_step ((exact Calls.regrown_of (HG2.out _ (HH3.out.below bk_rbk (below_regrown _ _ _)))))))
  refine wpQuiet_nil ?_
  clear kg
  intro w5 hb5
  obtain ⟨hc5, hf5⟩ := bcell hb5
  have HH5 := Lib.hid (HH3.out.below bk_rbk hb5)
  have hw5 := hw3.trans (hb5.mono hw3.size)
  have hl5 := HH5.out.tlt
  have c2 := HH5.out.c2
  have d0 := (hc5 _ _ hz3).trans d0
  have d1 := (hc5 _ _ hz3).trans d1
  have d2 := (hc5 _ _ hz3).trans d2
  have hz5 := Nat.lt_of_lt_of_le hz3 hb5.size
  clear hc5 hf5 hb5 hz3 hl3 HH3 hw3 c1
  go_wp2_with fail
  have kg := cell_grow
  refine region_whole (by kernel_rfl) (by kernel_rfl) ?_
  repeat (any_goals (first | go_big_quiet_step ((exact Calls.regrown_of (HS.out _ (HH5.out.below bk_rbk (below_regrown _ _ _))))) | quiet_step ((exact Calls.regrown_of (HS.out _ (HH5.out.below bk_rbk (below_regrown _ _ _)))))))
  refine wpQuiet_nil ?_
  clear kg
  intro w6 hb6
  obtain ⟨hc6, hf6⟩ := bcell hb6
  have HH6 := Lib.hid (HH5.out.below bk_rbk hb6)
  have hw6 := hw5.trans (hb6.mono hw5.size)
  have hz6 := hw6.size
  have c2 := HH6.out.c2
  have hl6 := HH6.out.tlt
  clear hc6 hf6 hb6
  go_wp2
  go_ret3
  refine ⟨_, _, rfl, own_made (B := w.heap.size) hz6 (by exact heap_alloc_new w6 _) (by omega) (by unfold maxLen; omega) rfl rfl, by go_grown⟩
set_option maxRecDepth 100000 in
set_option maxHeartbeats 2000000 in
theorem rget12_stash (t g : Nat) (pv : Option Addr) (cv : Nat) (T : Tab) (k : Ky) (i : Nat) (hi : i < T.st.length) (w : World) (H : Tb RBk w t g (.slice pv T.st.length cv) T) (h : Num T) (hk : k.good) (hf : T.st.length < 1048576) (h1 : getC (T.bk (T.x1 k)) k = none) (h2 : getC (T.bk (T.x2 k)) k = none) (h3 : findS T.st k = some i) :
    Calls Tryz.prog 30 #[.pointer (some ⟨t, 0, none⟩), kyV k] w fun e w' => ∃ p c, e = .returned (.tuple #[.int .i64 T.st[i].v, .bool true, .slice p 2 c]) ∧ w'.ownsRow w.heap.size 3 1 (.slice p 2 c) 2 (ics [(T.x1 k : Int), (T.x2 k : Int)]) ∧ Below w.heap.size w w' := by
  obtain ⟨gr, o, rfl, hgr, r0, r1, r2, r3⟩ := (Row.of_own H.own).rt hi
  have HR := Lib.hid r3
  clear r0 r1 r2 r3
  obtain ⟨pv, hpv⟩ : ∃ pv, pv = some (⟨gr, o, none⟩ : Addr) := ⟨_, rfl⟩
  rw [← hpv] at H
  have HV := Lib.hid hpv
  clear hpv
  have HB := Lib.hid (rtwo_fact T k h hk)
  have HG := fun x (hx : x < T.B.length) w (H : Tb RBk w t g (.slice pv T.st.length cv) T) => rget11_any g (x * 20) (T.bk x) k w (H.bk x hx)
  have HS := Lib.hid (fun w (H : Tb RBk w t g (.slice pv T.st.length cv) T) => find12_any pv cv T.st k w (Row.of_own H.own) hf)
  have HH := Lib.hid H
  have hl := H.tlt
  have c0 := H.c0
  have c1 := H.c1
  have HG1 := HG _ (h.x1_lt k)
  have HG2 := HG _ (h.x2_lt k)
  rw [h1] at HG1
  try rw [h2] at HG2
  have HG1 := Lib.hid HG1
  have HG2 := Lib.hid HG2
  have hx1 := h.x1_lt k
  have hx2 := h.x2_lt k
  generalize hX1 : T.x1 k = x1 at *
  generalize hX2 : T.x2 k = x2 at *
  clear hX1 hX2 HG
  rw [stI_some h3] at HS
  have hge : (0 : Int) ≤ (i : Int) := by omega
  have hii : (i : Int) < (T.st.length : Int) := by omega
  generalize hX : T.st[i].v = x at *
  clear hX
  clear H h h1
  try clear h2
  unfold kyV at *
  simp only [Option.getD_some, Option.isSome_some, Option.getD_none, Option.isSome_none] at *
  go_enter Tryz.func30, Tryz.ntmps30
  go_wp2_with fail
  have kg := cell_grow
  refine region_whole (by kernel_rfl) (by kernel_rfl) ?_
  repeat (any_goals (first | go_big_quiet_step ((exact HB.out.at _ _ _)) | quiet_step ((exact HB.out.at _ _ _))))
  refine wpQuiet_nil ?_
  clear kg
  intro w1 hb1
  obtain ⟨hc1, hf1⟩ := bcell hb1
  have hw1 : Below w.heap.size w w1 := by
    refine Below.trans ?_ (hb1.mono ?_)
    · go_grown
    · first | omega | go_size
  have d0 : w1.cell? ⟨w.heap.size, 0, none⟩ = some (.int .u64 (k.h : Int)) := by
    rw [hb1.cell (by simp <;> omega)]
    first | assumption | (simp [go_sem]; done) | (simp [go_sem, *]; done)
  have d1 : w1.cell? ⟨w.heap.size, 1, none⟩ = some (.int .u64 (k.l : Int)) := by
    rw [hb1.cell (by simp <;> omega)]
    first | assumption | (simp [go_sem]; done) | (simp [go_sem, *]; done)
  have d2 : w1.cell? ⟨w.heap.size, 2, none⟩ = some (.int .i64 k.n) := by
    rw [hb1.cell (by simp <;> omega)]
    first | assumption | (simp [go_sem]; done) | (simp [go_sem, *]; done)
  have hz1 : w.heap.size < w1.heap.size := by
    have hs := hb1.size
    try simp only [World.size_alloc, World.size_setCell] at hs
    omega
  have HH2 := Lib.hid (HH.out.below bk_rbk hw1)
  have c1 := HH2.out.c1
  have hl2 := HH2.out.tlt
  have i1 : (0 : Int) ≤ (x1 : Int) := by omega
  have i2 : (x1 : Int) < (T.B.length : Int) := by omega
  clear hc1 hf1 hb1 c0
  go_wp2_with fail
  have kg := cell_grow
  refine region_whole (by kernel_rfl) (by kernel_rfl) ?_
  repeat (any_goals (first | go_big_quiet_step ((exact Calls.regrown_of (HG1.out _ (HH2.out.below bk_rbk (below_regrown _ _ _))))) | quiet_step ((exact Calls.regrown_of (HG1.out _ (HH2.out.below bk_rbk (below_regrown _ _ _)))))))
  refine wpQuiet_nil ?_
  clear kg
  intro w3 hb3
  obtain ⟨hc3, hf3⟩ := bcell hb3
  have HH3 := Lib.hid (HH2.out.below bk_rbk hb3)
  have hw3 := hw1.trans (hb3.mono hw1.size)
  have hz3 := Nat.lt_of_lt_of_le hz1 hb3.size
  have hl3 := Nat.lt_of_lt_of_le hl2 hb3.size
  have c1 := (hc3 _ _ hl2).trans c1
  have d0 := (hc3 _ _ hz1).trans d0
  have d1 := (hc3 _ _ hz1).trans d1
  have d2 := (hc3 _ _ hz1).trans d2
  have j1 : (0 : Int) ≤ (x2 : Int) := by omega
  have j2 : (x2 : Int) < (T.B.length : Int) := by omega
  clear hc3 hf3 hb3 hl2 hz1 HH2 hw1
  go_wp2_with fail
  have kg := cell_grow
  refine region_whole (by kernel_rfl) (by kernel_rfl) ?_
  repeat (any_goals (first | go_big_quiet_step ((exact Calls.regrown_of (HG2.out _ (HH3.out.below bk_rbk (below_regrown _ _ _))))) | quiet_step ((exact Calls.regrown_of (HG2.out _ (HH3.out.below bk_rbk (below_regrown _ _ _)))))))
  refine wpQuiet_nil ?_
  clear kg
  intro w5 hb5
  obtain ⟨hc5, hf5⟩ := bcell hb5
  have HH5 := Lib.hid (HH3.out.below bk_rbk hb5)
  have hw5 := hw3.trans (hb5.mono hw3.size)
  have hl5 := HH5.out.tlt
  have c2 := HH5.out.c2
  have d0 := (hc5 _ _ hz3).trans d0
  have d1 := (hc5 _ _ hz3).trans d1
  have d2 := (hc5 _ _ hz3).trans d2
  have hz5 := Nat.lt_of_lt_of_le hz3 hb5.size
  clear hc5 hf5 hb5 hz3 hl3 HH3 hw3 c1
  go_wp2_with fail
  have kg := cell_grow
  refine region_whole (by kernel_rfl) (by kernel_rfl) ?_
  repeat (any_goals (first | go_big_quiet_step ((exact Calls.regrown_of (HS.out _ (HH5.out.below bk_rbk (below_regrown _ _ _))))) | quiet_step ((exact Calls.regrown_of (HS.out _ (HH5.out.below bk_rbk (below_regrown _ _ _)))))))
  refine wpQuiet_nil ?_
  clear kg
  intro w6 hb6
  obtain ⟨hc6, hf6⟩ := bcell hb6
  have HH6 := Lib.hid (HH5.out.below bk_rbk hb6)
  have hw6 := hw5.trans (hb6.mono hw5.size)
  have hz6 := hw6.size
  have c2 := HH6.out.c2
  have hl6 := HH6.out.tlt
  have hgr6 := Nat.lt_of_lt_of_le hgr hw6.size
  rw [HV.out] at c2
  have r3 := (hw6.cell (p := ⟨gr, o + i * 4 + 3, none⟩) hgr).trans HR.out
  clear hc6 hf6 hb6
  go_wp2
  go_ret3
  refine ⟨_, _, rfl, own_made (B := w.heap.size) hz6 (by exact heap_alloc_new w6 _) (by omega) (by unfold maxLen; omega) rfl rfl, by go_grown⟩
/-- Get of the reference's table. -/
theorem rget12_any (t g : Nat) (v : Value) (T : Tab) (k : Ky) (w : World) (H : Tb RBk w t g v T) (h : Num T) (hk : k.good) (hf : T.st.length < 1048576) :
    Calls Tryz.prog 30 #[.pointer (some ⟨t, 0, none⟩), kyV k] w fun e w' => ∃ p c, e = .returned (.tuple #[.int .i64 ((getT T k).getD 0), .bool (getT T k).isSome, .slice p (readT T k).length c]) ∧ w'.ownsRow w.heap.size 3 1 (.slice p (readT T k).length c) (readT T k).length (ics (readT T k)) ∧ Below w.heap.size w w' := by
  obtain ⟨pv, cv, rfl⟩ := own_slice H.own
  unfold getT readT
  cases h1 : getC (T.bk (T.x1 k)) k with
  | some x => exact rget12_first t g pv cv T x k w H h hk hf h1
  | none =>
    cases h2 : getC (T.bk (T.x2 k)) k with
    | some x => exact rget12_second t g pv cv T x k w H h hk hf h1 h2
    | none =>
      cases h3 : findS T.st k with
      | none =>
        rw [find_none h3]
        exact rget12_none t g pv cv T k w H h hk hf h1 h2 h3
      | some i =>
        obtain ⟨hi, e⟩ := find_some h3
        rw [e]
        exact rget12_stash t g pv cv T k i hi w H h hk hf h1 h2 h3
end Go.Proofs.YtoihkbanmnagkaaGreat
