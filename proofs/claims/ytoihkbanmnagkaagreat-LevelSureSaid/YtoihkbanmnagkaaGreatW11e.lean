/-
  What Swap of a bucket hands back, and what the bucket is then. No condition but that its cells lie in memory.
-/
import Derived.Test.YtoihkbanmnagkaaGreatW11b
import Derived.Test.YtoihkbanmnagkaaGreatM12f
import Derived.Test.YtoihkbanmnagkaaGreatMade
import Derived.Test.YtoihkbanmnagkaaGreatRBkt
/-
  What replace of a table does: where the key is there it gets the new value. No condition but that the table's cells lie in memory, and that its stash is in order.
-/
set_option linter.unusedSimpArgs false
set_option linter.unusedVariables false
namespace Go.Proofs.YtoihkbanmnagkaaGreat
open Go.RowKit Go.Sort M

set_option maxRecDepth 100000 in
set_option maxHeartbeats 2000000 in
theorem replace_any (t g : Nat) (v : Value) (T : Tab) (m : Int) (r : Rt) (w : World) (H : CT w t g v T m) (h : Num T) (hk : r.k.good) (hs : Sorted T.st) (hf : T.st.length < 1048576) :
    Calls Tryz.prog 76 #[.pointer (some ⟨t, 0, none⟩), kyV r.k, .int .i64 r.v] w fun e w' => e = .returned (.bool (rep12 T r).isSome) ∧ CT w' t g v ((rep12 T r).getD T) m ∧ Touch (Blk t g v) w w' := by
  have HT := Lib.hid (fun w H => two_any t g v T m r.k w H h hk)
  have HS := Lib.hid (fun w H => stashed_any t g v T m r.k w H hs hf)
  have HG := Lib.hid (fun x (hx : x < T.B.length) w (H : CT w t g v T m) => get11_any g (x * 20) (T.bk x) r.k w (H.tb.bk x hx))
  have HP := Lib.hid (fun x (hx : x < T.B.length) w (H : CT w t g v T m) => put11_any g (x * 20) (T.bk x) r.k r.v w (H.tb.bk x hx))
  have HH := Lib.hid H
  have hx1 := h.x1_lt r.k
  have hx2 := h.x2_lt r.k
  have hl := H.tb.tlt
  have HR : Hid (rep12 T r = if (getC (T.bk (T.x1 r.k)) r.k).isSome then some (T.set (T.x1 r.k) ((putC (T.bk (T.x1 r.k)) r.k r.v).getD (T.bk (T.x1 r.k)))) else if (getC (T.bk (T.x2 r.k)) r.k).isSome then some (T.set (T.x2 r.k) ((putC (T.bk (T.x2 r.k)) r.k r.v).getD (T.bk (T.x2 r.k)))) else if (findS T.st r.k).isSome then some { T with st := intoS T.st r } else none) := rfl
  generalize hX1 : T.x1 r.k = x1 at *
  generalize hX2 : T.x2 r.k = x2 at *
  clear hX1 hX2 H h
  unfold kyV at *
  go_enter Tryz.func76, Tryz.ntmps76
  go_wp2_with fail
  refine (HT.out _ (HH.out.below (by go_grown))).mono ?_
  rintro e w1 ⟨rfl, hb1⟩
  have hw1 : Below w.heap.size w w1 := Below.trans (by go_grown) (hb1.mono (by go_size))
  have d0 : w1.cell? ⟨w.heap.size, 0, none⟩ = some (.int .u64 (r.k.h : Int)) := by
    rw [hb1.cell (by simp <;> omega)]
    first | assumption | (simp [go_sem]; done) | (simp [go_sem, *]; done)
  have d1 : w1.cell? ⟨w.heap.size, 1, none⟩ = some (.int .u64 (r.k.l : Int)) := by
    rw [hb1.cell (by simp <;> omega)]
    first | assumption | (simp [go_sem]; done) | (simp [go_sem, *]; done)
  have d2 : w1.cell? ⟨w.heap.size, 2, none⟩ = some (.int .i64 r.k.n) := by
    rw [hb1.cell (by simp <;> omega)]
    first | assumption | (simp [go_sem]; done) | (simp [go_sem, *]; done)
  have hz1 : w.heap.size < w1.heap.size := by
    have hs := hb1.size
    try simp only [World.size_alloc, World.size_setCell] at hs
    omega
  clear hb1
  go_wp2
  obtain ⟨L0, hL0⟩ : ∃ x, x = w1.heap.size := ⟨_, rfl⟩
  rw [← hL0]
  have hz1' : w.heap.size < L0 := by omega
  go_loopw [10, 11, 12, 24] (fun s10 s11 s12 i wr => ∃ (j : Nat), j ≤ 2 ∧ i = .int .i64 (j : Int) ∧ (1 ≤ j → (getC (T.bk x1) r.k).isSome = false) ∧ (2 ≤ j → (getC (T.bk x2) r.k).isSome = false) ∧ wr.cell? ⟨w.heap.size, 0, none⟩ = some (.int .u64 (r.k.h : Int)) ∧ wr.cell? ⟨w.heap.size, 1, none⟩ = some (.int .u64 (r.k.l : Int)) ∧ wr.cell? ⟨w.heap.size, 2, none⟩ = some (.int .i64 r.k.n) ∧
    wr.cell? ⟨L0, 0, none⟩ = some (.int .i64 (x1 : Int)) ∧ wr.cell? ⟨L0, 1, none⟩ = some (.int .i64 (x2 : Int)) ∧ L0 < wr.heap.size ∧ Below w.heap.size w wr) (fun _ _ _ i _ => 2 - (intOf i).toNat)
  case atStart =>
    exact ⟨0, by omega, rfl, fun h => absurd h (by omega), fun h => absurd h (by omega), (World.cell?_alloc_lt w1 _ ⟨w.heap.size, 0, none⟩ hz1).trans d0, (World.cell?_alloc_lt w1 _ ⟨w.heap.size, 1, none⟩ hz1).trans d1, (World.cell?_alloc_lt w1 _ ⟨w.heap.size, 2, none⟩ hz1).trans d2, by rw [hL0]; simp [go_sem], by rw [hL0]; simp [go_sem], by rw [hL0]; simp, by go_grown⟩
  case round =>
    clear d0 d1 d2 hz1 hL0 hw1
    obtain ⟨j, hj, rfl, hn1, hn2, d0, d1, d2, e0, e1, hz, hb⟩ := hrel
    have HN1 := Lib.hid hn1
    have HN2 := Lib.hid hn2
    clear hn1 hn2
    by_cases hlt : j < 2
    · obtain ⟨x, hx, he⟩ : ∃ x, x < T.B.length ∧ ((j = 0 ∧ x = x1) ∨ (j = 1 ∧ x = x2)) := by
        rcases (show j = 0 ∨ j = 1 by omega) with e | e
        · exact ⟨x1, hx1, .inl ⟨e, rfl⟩⟩
        · exact ⟨x2, hx2, .inr ⟨e, rfl⟩⟩
      have ej : wr.cell? ⟨L0, j, none⟩ = some (.int .i64 (x : Int)) := by
        rcases he with ⟨rfl, rfl⟩ | ⟨rfl, rfl⟩
        · exact e0
        · exact e1
      have HE := Lib.hid he
      have HH1 := Lib.hid (HH.out.below hb)
      have c1 := HH1.out.tb.c1
      have hlr := HH1.out.tb.tlt
      have i1 : (0 : Int) ≤ (x : Int) := by omega
      have i2 : (x : Int) < (T.B.length : Int) := by omega
      have hz0 := hb.size
      have hzw : w.heap.size < wr.heap.size := by omega
      have HG1 := Lib.hid (HG.out x hx)
      clear he
      cases hgx : (getC (T.bk x) r.k).isSome with
      | true =>
        rw [hgx] at HG1
        have HGX := Lib.hid hgx
        clear hgx
        go_wp2_with fail
        have kg := cell_grow
        refine region_whole (by kernel_rfl) (by kernel_rfl) ?_
        repeat (any_goals (first | go_big_quiet_step ((exact Calls.regrown_of (HG1.out _ (HH1.out.below (below_regrown _ _ _))))) | quiet_step ((exact Calls.regrown_of (HG1.out _ (HH1.out.below (below_regrown _ _ _)))))))
        refine wpQuiet_nil ?_
        clear kg
        intro w2 hb2
        obtain ⟨hc2, hf2⟩ := bcell hb2
        have HH2 := Lib.hid (HH1.out.below hb2)
        have c1 := (hc2 _ _ hlr).trans c1
        have d0 := (hc2 _ _ (by omega)).trans d0
        have d1 := (hc2 _ _ (by omega)).trans d1
        have d2 := (hc2 _ _ (by omega)).trans d2
        have hlr2 := Nat.lt_of_lt_of_le hlr hb2.size
        have hw2 := hb.trans (hb2.mono hb.size)
        have hz2 := hw2.size
        have hz3 : w.heap.size < w2.heap.size := by have := hb2.size; omega
        clear hc2 hf2 hb2 e0 e1 ej HH1 hlr
        go_wp2_with fail
        have kg := cell_grow
        refine region_tail 8 (by kernel_rfl) (by kernel_rfl) ?_
        simp only [List.take_succ_cons, List.take_zero, List.drop_succ_cons, List.drop_zero]
        repeat (any_goals (first | go_big_quiet_step (fail) | quiet_step (fail)))
        refine wpQuiet_nil ?_
        clear kg
        intro w3 hb3
        obtain ⟨hc3, hf3⟩ := bcell hb3
        have HH3 := Lib.hid (HH2.out.below hb3)
        have hw3 := hw2.trans (hb3.mono hw2.size)
        clear hc3 hf3 hb3
        go_wp2_with fail
        refine (HP.out x hx _ HH3.out).mono ?_
        rintro e w4 ⟨rfl, hB4, hT4⟩
        obtain ⟨hC4, ht4⟩ := HH3.out.turn hx hT4 hB4
        have hE : rep12 T r = some (T.set x ((putC (T.bk x) r.k r.v).getD (T.bk x))) := by
          rw [HR.out]
          rcases HE.out with ⟨-, rfl⟩ | ⟨hj1, rfl⟩
          · rw [if_pos HGX.out]
          · rw [if_neg (by rw [HN1.out (by omega)]; decide), if_pos HGX.out]
        rw [put_of_get HGX.out]
        have HF := Lib.hid (And.intro hC4 ((Touch.quiet hw3 (S := Blk t g v)).trans ht4))
        have HEE := Lib.hid hE
        clear hC4 ht4 hB4 hT4 hE
        go_wp2
        go_ret
        rw [HEE.out]
        exact ⟨rfl, HF.out.1, HF.out.2⟩
      | false =>
        rw [hgx] at HG1
        have HGX := Lib.hid hgx
        clear hgx
        go_wp2_with fail
        have kg := cell_grow
        refine region_whole (by kernel_rfl) (by kernel_rfl) ?_
        repeat (any_goals (first | go_big_quiet_step ((exact Calls.regrown_of (HG1.out _ (HH1.out.below (below_regrown _ _ _))))) | quiet_step ((exact Calls.regrown_of (HG1.out _ (HH1.out.below (below_regrown _ _ _)))))))
        refine wpQuiet_nil ?_
        clear kg
        intro w2 hb2
        obtain ⟨hc2, hf2⟩ := bcell hb2
        have d0 := (hc2 _ _ (by omega)).trans d0
        have d1 := (hc2 _ _ (by omega)).trans d1
        have d2 := (hc2 _ _ (by omega)).trans d2
        have e0 := (hc2 _ _ (by omega)).trans e0
        have e1 := (hc2 _ _ (by omega)).trans e1
        have hw2 := hb.trans (hb2.mono hb.size)
        have hz2 := Nat.lt_of_lt_of_le hz hb2.size
        clear hc2 hf2 hb2 HH1 hlr
        go_wp2
        go_roundw
        case rel =>
          refine ⟨j + 1, by omega, by go_num, fun _ => ?_, fun h2 => ?_, d0, d1, d2, e0, e1, hz2, hw2⟩
          · rcases HE.out with ⟨-, rfl⟩ | ⟨hj1, rfl⟩
            · exact HGX.out
            · exact HN1.out (by omega)
          · rcases HE.out with ⟨hj0, -⟩ | ⟨-, rfl⟩
            · omega
            · exact HGX.out
        case measure => simp [intOf]; omega
    · have hj2 : j = 2 := by omega
      have hE : rep12 T r = if (findS T.st r.k).isSome then some { T with st := intoS T.st r } else none := by
        rw [HR.out, if_neg (by rw [HN1.out (by omega)]; decide), if_neg (by rw [HN2.out (by omega)]; decide)]
      have HH1 := Lib.hid (HH.out.below hb)
      have HS1 := Lib.hid (HS.out wr HH1.out)
      cases hfs : findS T.st r.k with
      | none =>
        rw [hfs] at hE
        have HEE := Lib.hid hE
        rw [stI_none hfs] at HS1
        clear hE hfs
        go_wp2_with fail
        refine HS1.out.mono ?_
        rintro e w2 ⟨rfl, hb2⟩
        have hw2 := hb.trans (hb2.mono hb.size)
        clear hb2
        go_wp2
        go_ret
        rw [HEE.out]
        exact ⟨rfl, HH.out.below hw2, Touch.quiet hw2⟩
      | some i =>
        obtain ⟨-, hi, hik⟩ := (findS_bh T.st r.k hs).1 i hfs
        have hip := into_present T.st r i hs hfs
        have hhop := rcs_hop T.st i hi r.v
        rw [hik] at hhop
        rw [hfs] at hE
        have HEE := Lib.hid hE
        rw [stI_some hfs] at HS1
        have HIP := Lib.hid hip
        have HHOP := Lib.hid hhop
        clear hE hfs hip hhop
        go_wp2_with fail
        refine HS1.out.mono ?_
        rintro e w2 ⟨rfl, hb2⟩
        have hw2 := hb.trans (hb2.mono hb.size)
        have HH2 := Lib.hid (HH.out.below hw2)
        have hown := HH2.out.tb.own
        obtain ⟨gs, cap, cur, hv, -, hgl, -⟩ := own_whole hown (by omega)
        subst hv
        have c2 := HH2.out.tb.c2
        have hl2 := HH2.out.tb.tlt
        obtain ⟨gr, o, e, hgr, r0, r1, r2, r3⟩ := (Row.of_own hown).rt hi
        injection e with e
        injection e with e1' e2'
        subst e1' e2'
        rw [Nat.zero_add] at r3
        have hfz := hown.frozenAt (i * 4 + 3)
        have i1 : (0 : Int) ≤ (i : Int) := by omega
        have i2 : (i : Int) < (T.st.length : Int) := by omega
        have HO := Lib.hid hown
        clear hb2 r0 r1 r2 hown
        go_wp2
        go_ret
        have hst := HO.out.stored (i * 4 + 3) (.int .i64 r.v)
        rw [HHOP.out, ← HIP.out] at hst
        have hlen : (intoS T.st r).length = T.st.length := by rw [HIP.out]; simp
        have hC := HH2.out.inStash (st' := intoS T.st r) hst.2 (by rw [hlen]; exact hst.1)
        rw [HEE.out]
        exact ⟨rfl, hC.1, (Touch.quiet hw2 (S := Blk t g _)).trans hC.2⟩
end Go.Proofs.YtoihkbanmnagkaaGreat
/-
  Put and Take of the reference's bucket: what they hand back, and what it is then. No condition but that its cells lie in memory.
-/
set_option linter.unusedSimpArgs false
set_option linter.unusedVariables false
namespace Go.Proofs.YtoihkbanmnagkaaGreat
open Go.RowKit Go.Sort M

/-- The first place of a kind from number j on, or -1. -/
def fromI (p : Pl → Bool) (C : List Pl) (j : Nat) : Int :=
  match (C.drop j).findIdx? p with
  | some i => ((j + i : Nat) : Int)
  | none => -1
theorem fromI_end {p : Pl → Bool} {C : List Pl} {j : Nat} (h : C.length ≤ j) : fromI p C j = -1 := by
  unfold fromI
  rw [List.drop_of_length_le h]
  rfl
theorem fromI_step {p : Pl → Bool} {C : List Pl} {j : Nat} (h : j < C.length) : fromI p C j = if p C[j] = true then (j : Int) else fromI p C (j + 1) := by
  unfold fromI
  rw [List.drop_eq_getElem_cons h, List.findIdx?_cons]
  cases e : p C[j]
  · simp only [Bool.false_eq_true, if_false]
    cases (C.drop (j + 1)).findIdx? p with
    | none => rfl
    | some i => show ((j + (i + 1) : Nat) : Int) = ((j + 1 + i : Nat) : Int); omega
  · simp
theorem fromI_zero (p : Pl → Bool) (C : List Pl) : fromI p C 0 = idxI p C := by
  unfold fromI idxI
  rw [List.drop_zero]
  cases C.findIdx? p with
  | none => rfl
  | some i => show ((0 + i : Nat) : Int) = i; omega
theorem four_drew {w : World} {g p : Nat} {x : Pl} (hl : g < w.heap.size) (h : Four w g p x) : Four w.drew g p x := by
  have hb : Below w.heap.size w w.drew := by go_grown
  obtain ⟨a, b, c, d⟩ := h
  exact ⟨(hb.cell (p := ⟨g, p, none⟩) hl).trans a, (hb.cell (p := ⟨g, p + 1, none⟩) hl).trans b, (hb.cell (p := ⟨g, p + 2, none⟩) hl).trans c, (hb.cell (p := ⟨g, p + 3, none⟩) hl).trans d⟩
theorem on_set {w : World} {g p : Nat} {u v : Value} (h : w.cell? ⟨g, p, none⟩ = some u) : (w.setCell ⟨g, p, none⟩ v).cell? ⟨g, p, none⟩ = some v := World.cell?_setCell_same _ _ _ h
theorem RBk.put_drew {w w1 : World} {g o : Nat} {C : List Pl} (H : RBk w g o C) (hb : Below w.heap.size w w1) {i : Nat} (hi : i < C.length) (x : Pl) :
    RBk (((put4 w1 g (o + i * 4) x).drew).setCell ⟨g, o + 16 + i, none⟩ (.bool x.isSome)) g o (C.set i x) ∧ Turn w (((put4 w1 g (o + i * 4) x).drew).setCell ⟨g, o + 16 + i, none⟩ (.bool x.isSome)) g o 20 := by
  have H1 := H.below hb
  have h4 := H.four
  have t1 := turn_put4 w1 g (o + i * 4) x
  have hl : g < (put4 w1 g (o + i * 4) x).heap.size := Nat.lt_of_lt_of_le H1.lt t1.grown.size
  have t2 := t1.drew H1.lt
  have := H1.turned hi x t2 (four_drew hl (four_put x (H1.rt i hi))) (turn_one _ g (o + 16 + i) 1 (o + 16 + i) _ (Nat.le_refl _) (by omega)) (on_set ((t2.cell _ (by omega)).trans (H1.on i hi)))
  exact ⟨this.1, (Turn.of_below H.lt hb).trans this.2⟩
theorem RBk.put_plain {w w1 : World} {g o : Nat} {C : List Pl} (H : RBk w g o C) (hb : Below w.heap.size w w1) {i : Nat} (hi : i < C.length) (x : Pl) :
    RBk ((put4 w1 g (o + i * 4) x).setCell ⟨g, o + 16 + i, none⟩ (.bool x.isSome)) g o (C.set i x) ∧ Turn w ((put4 w1 g (o + i * 4) x).setCell ⟨g, o + 16 + i, none⟩ (.bool x.isSome)) g o 20 := by
  have H1 := H.below hb
  have h4 := H.four
  have t1 := turn_put4 w1 g (o + i * 4) x
  have := H1.turned hi x t1 (four_put x (H1.rt i hi)) (turn_one _ g (o + 16 + i) 1 (o + 16 + i) _ (Nat.le_refl _) (by omega)) (on_set ((t1.cell _ (by omega)).trans (H1.on i hi)))
  exact ⟨this.1, (Turn.of_below H.lt hb).trans this.2⟩
theorem RBk.put_swap {w w1 : World} {g o : Nat} {C : List Pl} (H : RBk w g o C) (hb : Below w.heap.size w w1) {i : Nat} (hi : i < C.length) (x : Pl) (hx : x.isSome = C[i].isSome) :
    RBk (put4 w1 g (o + i * 4) x).drew g o (C.set i x) ∧ Turn w (put4 w1 g (o + i * 4) x).drew g o 20 := by
  have H1 := H.below hb
  have h4 := H.four
  have t1 := turn_put4 w1 g (o + i * 4) x
  have hl : g < (put4 w1 g (o + i * 4) x).heap.size := Nat.lt_of_lt_of_le H1.lt t1.grown.size
  have t2 := t1.drew H1.lt
  have := H1.turned hi x t2 (four_drew hl (four_put x (H1.rt i hi))) (Turn.of_below (o := o + 16 + i) (n := 1) (Nat.lt_of_lt_of_le H1.lt t2.grown.size) (Below.refl _ _)) (by rw [hx]; exact (t2.cell _ (by omega)).trans (H1.on i hi))
  exact ⟨this.1, (Turn.of_below H.lt hb).trans this.2⟩
set_option maxHeartbeats 1000000 in
set_option maxRecDepth 100000 in
theorem rtake11_any (g o : Nat) (C : List Pl) (k : Ky) (w : World) (H : RBk w g o C) :
    Calls Tryz.prog 58 #[.pointer (some ⟨g, o, none⟩), kyV k] w fun e w' => e = .returned (.bool (takeC C k).isSome) ∧ RBk w' g o ((takeC C k).getD C) ∧ Turn w w' g o 20 := by
  have HH := Lib.hid H
  have h4 := H.four
  have hg := H.lt
  clear H
  unfold kyV
  go_enter Tryz.func58, Tryz.ntmps58
  go_wp2
  go_loopw [5] (fun i wr => ∃ (j : Nat), j ≤ 4 ∧ i = .int .i64 (j : Int) ∧ (∀ x (hx : x < C.length), x < j → hasK k C[x] = false) ∧ wr.cell? ⟨w.heap.size, 0, none⟩ = some (.int .u64 (k.h : Int)) ∧ wr.cell? ⟨w.heap.size, 1, none⟩ = some (.int .u64 (k.l : Int)) ∧ wr.cell? ⟨w.heap.size, 2, none⟩ = some (.int .i64 k.n) ∧ w.heap.size < wr.heap.size ∧ Below w.heap.size w wr) (fun i _ => 4 - (intOf i).toNat)
  case atStart => exact ⟨0, by omega, rfl, fun x _ h => absurd h (by omega), by simp [go_sem], by simp [go_sem], by simp [go_sem], by simp, by go_grown⟩
  case round =>
    obtain ⟨j, hj, rfl, hno, k0, k1, k2, hz, hb⟩ := hrel
    by_cases hlt : j < 4
    · have H1 := HH.out.below hb
      have hno' := Lib.hid hno
      have hon := H1.on j (by omega)
      obtain ⟨r0, r1, r2, r3⟩ := H1.rt j (by omega)
      have hK := Lib.hid (hasK_eq k (C[j]'(by omega)))
      have hl1 := H1.lt
      clear hno H1
      generalize hx : (C[j]'(by omega)) = x at hon r0 r1 r2 r3 hK
      have HX := Lib.hid hx
      have hE := eqlK (xh x) (xl x) (xn x) k.h k.l k.n
      have j0 : (0 : Int) ≤ (j : Int) := by omega
      have j4 : (j : Int) < 4 := by omega
      clear hx
      by_cases hs : x.isSome = true
      · rw [hs] at hon
        by_cases he : xh x = k.h ∧ xl x = k.l ∧ xn x = k.n
        · rw [decide_eq_true he] at hE
          have hm : Hid (hasK k x = true) := by show hasK k x = true; rw [hK.out, hs, decide_eq_true he]; rfl
          clear hs hK he
          go_wp2_with fail
          have kg := cell_grow
          refine region_whole (by kernel_rfl) (by kernel_rfl) ?_
          repeat (any_goals (first | go_big_quiet_step (fail) | quiet_step (fail)))
          refine wpQuiet_nil ?_
          clear kg
          intro w1 hb1
          obtain ⟨hc1, hf1⟩ := bcell hb1
          have hw1 := hb.trans (hb1.mono (by omega))
          have hh := Lib.hid (idx_hit (p := hasK k) (i := j) (C := C) (by omega) (by rw [HX.out]; exact hm.out) hno'.out)
          have hi : j < C.length := by omega
          clear hE hno' hon r0 r1 r2 r3 hf1 hc1 hb1 HX hm
          have i := j
          have H1 := HH.out.below hw1
          obtain ⟨c0, c1, c2, c3⟩ := H1.rt j hi
          have c4 := H1.on j hi
          have f0 := H1.free (j * 4) (by omega)
          have f1 := H1.free (j * 4 + 1) (by omega)
          have f2 := H1.free (j * 4 + 2) (by omega)
          have f3 := H1.free (j * 4 + 3) (by omega)
          have f4 := H1.free (16 + j) (by omega)
          have hl := H1.lt
          simp only [← Nat.add_assoc] at f1 f2 f3 f4
          clear H1
          go_wp2
          go_ret
          rw [show takeC C k = some (C.set j none) by unfold takeC; rw [hh.out]]
          have hP := HH.out.put_plain hw1 hi none
          exact ⟨rfl, hP.1, hP.2⟩
        · rw [decide_eq_false he] at hE
          have hm : Hid (hasK k x = false) := by show hasK k x = false; rw [hK.out, hs, decide_eq_false he]; rfl
          clear hs hK he
          go_wp2_with fail
          have kg := cell_grow
          refine region_whole (by kernel_rfl) (by kernel_rfl) ?_
          repeat (any_goals (first | go_big_quiet_step (fail) | quiet_step (fail)))
          refine wpQuiet_nil ?_
          clear kg
          intro w1 hb1
          obtain ⟨hc1, hf1⟩ := bcell hb1
          go_wp2
          go_roundw
          case rel =>
            refine ⟨j + 1, by omega, by go_num, fun y hy hlt2 => ?_, (hc1 _ _ (by omega)).trans k0, (hc1 _ _ (by omega)).trans k1, (hc1 _ _ (by omega)).trans k2, Nat.lt_of_lt_of_le hz hb1.size, hb.trans (hb1.mono (by omega))⟩
            by_cases e : y = j
            · subst e; rw [HX.out]; exact hm.out
            · exact hno'.out y hy (by omega)
          case measure => simp [intOf]; omega
      · rw [Bool.not_eq_true] at hs
        rw [hs] at hon
        have hm : Hid (hasK k x = false) := by show hasK k x = false; rw [hK.out, hs]; rfl
        clear hs hK hE
        go_wp2_with fail
        have kg := cell_grow
        refine region_whole (by kernel_rfl) (by kernel_rfl) ?_
        repeat (any_goals (first | go_big_quiet_step (fail) | quiet_step (fail)))
        refine wpQuiet_nil ?_
        clear kg
        intro w1 hb1
        obtain ⟨hc1, hf1⟩ := bcell hb1
        go_wp2
        go_roundw
        case rel =>
          refine ⟨j + 1, by omega, by go_num, fun y hy hlt2 => ?_, (hc1 _ _ (by omega)).trans k0, (hc1 _ _ (by omega)).trans k1, (hc1 _ _ (by omega)).trans k2, Nat.lt_of_lt_of_le hz hb1.size, hb.trans (hb1.mono (by omega))⟩
          by_cases e : y = j
          · subst e; rw [HX.out]; exact hm.out
          · exact hno'.out y hy (by omega)
        case measure => simp [intOf]; omega
    · go_wp2
      go_ret
      rw [show takeC C k = none by unfold takeC; rw [idx_miss (fun x hx => hno x hx (by omega))]]
      exact ⟨rfl, HH.out.below hb, Turn.of_below hg hb⟩
end Go.Proofs.YtoihkbanmnagkaaGreat
/-
  What Swap of a bucket, and of the reference's, hands back, and what the bucket is then. No condition but that its cells lie in memory.
-/
set_option linter.unusedSimpArgs false
set_option linter.unusedVariables false
namespace Go.Proofs.YtoihkbanmnagkaaGreat
open Go.RowKit Go.Sort M

theorem swapC_cases {C : List Pl} (h4 : C.length = 4) (i : Int) (k : Ky) (v : Int) :
    (∃ j : Nat, ∃ hj : j < C.length, ∃ r, i = (j : Int) ∧ C[j] = some r ∧ swapC C i k v = some (r, C.set j (some ⟨k, v⟩))) ∨ (∃ j : Nat, ∃ hj : j < C.length, i = (j : Int) ∧ C[j] = none ∧ swapC C i k v = none) ∨ (¬ (0 ≤ i ∧ i < 4) ∧ swapC C i k v = none) := by
  by_cases h : 0 ≤ i ∧ i < 4
  · obtain ⟨j, rfl⟩ := Int.eq_ofNat_of_zero_le h.1
    have hj : j < C.length := by omega
    have e : swapC C (j : Int) k v = match C[j] with | some r => some (r, C.set j (some ⟨k, v⟩)) | none => none := by
      unfold swapC
      rw [if_pos h.1, Int.toNat_natCast, List.getD_eq_getElem?_getD, List.getElem?_eq_getElem hj]
      rfl
    rw [e]
    cases hc : C[j] with
    | none => exact .inr (.inl ⟨j, hj, rfl, hc, rfl⟩)
    | some r => exact .inl ⟨j, hj, r, rfl, hc, rfl⟩
  · refine .inr (.inr ⟨h, ?_⟩)
    unfold swapC
    split
    · rw [List.getD_eq_getElem?_getD, List.getElem?_eq_none (by omega)]
      rfl
    · rfl
/-- What comes out of a swap, as values. -/
def outV (o : Option (Rt × List Pl)) : Value := .tuple #[kyV ((o.map Prod.fst).getD ⟨⟨0, 0, 0⟩, 0⟩).k, .int .i64 ((o.map Prod.fst).getD ⟨⟨0, 0, 0⟩, 0⟩).v, .bool o.isSome]
theorem outV_none : outV none = .tuple #[.agg #[.int .u64 0, .int .u64 0, .int .i64 0], .int .i64 0, .bool false] := rfl
theorem outV_some (r : Rt) (C : List Pl) : outV (some (r, C)) = .tuple #[.agg #[.int .u64 (r.k.h : Int), .int .u64 (r.k.l : Int), .int .i64 r.k.n], .int .i64 r.v, .bool true] := rfl
/-- The three new blocks of a swap: the key, what is handed back, what was there. -/
structure Three (w w3 : World) (k : Ky) (q : List Value) : Prop where
  below : Below w.heap.size w w3
  size : w3.heap.size = w.heap.size + 3
  b0 : w3.cell? ⟨w.heap.size, 0, none⟩ = some (.int .u64 (k.h : Int))
  b1 : w3.cell? ⟨w.heap.size, 1, none⟩ = some (.int .u64 (k.l : Int))
  b2 : w3.cell? ⟨w.heap.size, 2, none⟩ = some (.int .i64 k.n)
  o0 : w3.cell? ⟨w.heap.size + 1, 0, none⟩ = some (.int .u64 0)
  o1 : w3.cell? ⟨w.heap.size + 1, 1, none⟩ = some (.int .u64 0)
  o2 : w3.cell? ⟨w.heap.size + 1, 2, none⟩ = some (.int .i64 0)
  p0 : w3.frozen? ⟨w.heap.size + 1, 0, none⟩ = false
  p1 : w3.frozen? ⟨w.heap.size + 1, 1, none⟩ = false
  p2 : w3.frozen? ⟨w.heap.size + 1, 2, none⟩ = false
  q : ∀ j u, q[j]? = some u → w3.cell? ⟨w.heap.size + 1 + 1, j, none⟩ = some u
theorem three_new (w : World) (k : Ky) (q : List Value) (t1 t2 t3 : TypeId) : Three w (((w.alloc (.cells #[.int .u64 (k.h : Int), .int .u64 (k.l : Int), .int .i64 k.n] t1)).alloc (.cells #[.int .u64 0, .int .u64 0, .int .i64 0] t2)).alloc (.cells q.toArray t3)) k q := by
  refine ⟨by go_grown, by simp, by simp [go_sem], by simp [go_sem], by simp [go_sem], by simp [go_sem], by simp [go_sem], by simp [go_sem], by simp [go_sem], by simp [go_sem], by simp [go_sem], fun j u hu => ?_⟩
  have := new_cells ((w.alloc (.cells #[.int .u64 (k.h : Int), .int .u64 (k.l : Int), .int .i64 k.n] t1)).alloc (.cells #[.int .u64 0, .int .u64 0, .int .i64 0] t2)) q.toArray t3 j u hu
  simp only [World.size_alloc] at this
  rwa [show (⟨w.heap.size + 1 + 1, 0, none⟩ : Addr).add j = ⟨w.heap.size + 1 + 1, j, none⟩ by unfold Addr.add; split <;> simp_all] at this
/-- .. and the three cells that are handed back, written. -/
def give3 (w : World) (b : Nat) (k : Ky) : World := ((w.setCell ⟨b, 0, none⟩ (.int .u64 (k.h : Int))).setCell ⟨b, 1, none⟩ (.int .u64 (k.l : Int))).setCell ⟨b, 2, none⟩ (.int .i64 k.n)
theorem give3_cells {w : World} {b : Nat} {k : Ky} {u0 u1 u2 : Value} (hb : b < w.heap.size) (h0 : w.cell? ⟨b, 0, none⟩ = some u0) (h1 : w.cell? ⟨b, 1, none⟩ = some u1) (h2 : w.cell? ⟨b, 2, none⟩ = some u2) :
    (give3 w b k).drew.cell? ⟨b, 0, none⟩ = some (.int .u64 (k.h : Int)) ∧ (give3 w b k).drew.cell? ⟨b, 1, none⟩ = some (.int .u64 (k.l : Int)) ∧ (give3 w b k).drew.cell? ⟨b, 2, none⟩ = some (.int .i64 k.n) := by
  unfold give3
  refine ⟨?_, ?_, ?_⟩ <;> simp [go_sem, h0, h1, h2]
theorem give3_turn {w w1 : World} {g o n : Nat} (h : Turn w w1 g o n) (hl : g < w.heap.size) {b : Nat} (k : Ky) (hb : w.heap.size ≤ b) : Turn w (give3 w1 b k).drew g o n :=
  (((h.fresh hl b 0 _ hb).fresh hl b 1 _ hb).fresh hl b 2 _ hb).drew hl
theorem RBk.drew {w : World} {g o : Nat} {C : List Pl} (H : RBk w g o C) : RBk w.drew g o C := H.below (by go_grown)
theorem give3_rbk {w : World} {g o : Nat} {C : List Pl} (H : RBk w g o C) {b : Nat} (k : Ky) (hne : g ≠ b) : RBk (give3 w b k).drew g o C :=
  (((H.apart (turn_one w b 0 1 0 _ (Nat.le_refl _) (by omega)) (.inl hne)).apart (turn_one _ b 1 1 1 _ (Nat.le_refl _) (by omega)) (.inl hne)).apart (turn_one _ b 2 1 2 _ (Nat.le_refl _) (by omega)) (.inl hne)).drew
theorem give3_bkt {w : World} {g o : Nat} {C : List Pl} (H : Bkt w g o C) {b : Nat} (k : Ky) (hne : g ≠ b) : Bkt (give3 w b k).drew g o C :=
  (((H.fresh b 0 _ hne).fresh b 1 _ hne).fresh b 2 _ hne).drew
set_option maxHeartbeats 1000000 in
set_option maxRecDepth 100000 in
theorem rswap11_any (g o : Nat) (C : List Pl) (i : Int) (k : Ky) (v : Int) (w : World) (H : RBk w g o C) :
    Calls Tryz.prog 54 #[.pointer (some ⟨g, o, none⟩), .int .i64 i, kyV k, .int .i64 v] w fun e w' => e = .returned (outV (swapC C i k v)) ∧ RBk w' g o (((swapC C i k v).map Prod.snd).getD C) ∧ Turn w w' g o 20 := by
  have HH := Lib.hid H
  have h4 := H.four
  have hg := H.lt
  rcases swapC_cases h4 i k v with ⟨j, hj, r, rfl, hr, hs⟩ | ⟨j, hj, rfl, hr, hs⟩ | ⟨hn, hs⟩
  · rw [hs, outV_some]
    obtain ⟨r0, r1, r2, r3⟩ := H.rt j hj
    have hon := H.on j hj
    have HR := Lib.hid hr
    rw [hr] at r0 r1 r2 r3 hon
    simp only [xh, xl, xn, xv, Option.isSome_some] at r0 r1 r2 r3 hon
    have f0 := H.free (j * 4) (by omega)
    have f1 := H.free (j * 4 + 1) (by omega)
    have f2 := H.free (j * 4 + 2) (by omega)
    have f3 := H.free (j * 4 + 3) (by omega)
    simp only [← Nat.add_assoc] at f1 f2 f3
    have hj4 : j < 4 := by omega
    clear hs hr H
    unfold kyV at *
    go_enter Tryz.func54, Tryz.ntmps54
    go_wp2
    have hT := three_new w k [.int .u64 (r.k.h : Int), .int .u64 (r.k.l : Int), .int .i64 r.k.n, .int .i64 r.v] 38 38 58
    simp only [List.toArray] at hT
    generalize ((w.alloc (.cells #[.int .u64 (k.h : Int), .int .u64 (k.l : Int), .int .i64 k.n] 38)).alloc (.cells #[.int .u64 0, .int .u64 0, .int .i64 0] 38)).alloc (.cells #[.int .u64 (r.k.h : Int), .int .u64 (r.k.l : Int), .int .i64 r.k.n, .int .i64 r.v] 58) = w3 at hT ⊢
    have hz3 := hT.size
    have hl3 : g < w3.heap.size := by omega
    have ht := (turn_put4 w3 g (o + j * 4) (some ⟨k, v⟩)).drew hl3
    have hP := HH.out.put_swap hT.below hj (some ⟨k, v⟩) (by rw [HR.out]; rfl)
    have hq0 := (ht.far (b := w.heap.size + 1 + 1) (by omega) (by omega) 0).1.trans (hT.q 0 _ rfl)
    have hq1 := (ht.far (b := w.heap.size + 1 + 1) (by omega) (by omega) 1).1.trans (hT.q 1 _ rfl)
    have hq2 := (ht.far (b := w.heap.size + 1 + 1) (by omega) (by omega) 2).1.trans (hT.q 2 _ rfl)
    have hq3 := (ht.far (b := w.heap.size + 1 + 1) (by omega) (by omega) 3).1.trans (hT.q 3 _ rfl)
    have ho0 := (ht.far (b := w.heap.size + 1) (by omega) (by omega) 0).1.trans hT.o0
    have ho1 := (ht.far (b := w.heap.size + 1) (by omega) (by omega) 1).1.trans hT.o1
    have ho2 := (ht.far (b := w.heap.size + 1) (by omega) (by omega) 2).1.trans hT.o2
    have hp0 := (ht.far (b := w.heap.size + 1) (by omega) (by omega) 0).2.trans hT.p0
    have hp1 := (ht.far (b := w.heap.size + 1) (by omega) (by omega) 1).2.trans hT.p1
    have hp2 := (ht.far (b := w.heap.size + 1) (by omega) (by omega) 2).2.trans hT.p2
    have hz5 := ht.grown.size
    have H3 := HH.out.below hT.below
    obtain ⟨c0, c1, c2, c3⟩ := H3.rt j hj
    have b0 := hT.b0
    have b1 := hT.b1
    have b2 := hT.b2
    have f0 := H3.free (j * 4) (by omega)
    have f1 := H3.free (j * 4 + 1) (by omega)
    have f2 := H3.free (j * 4 + 2) (by omega)
    have f3 := H3.free (j * 4 + 3) (by omega)
    simp only [← Nat.add_assoc] at f1 f2 f3
    have HP := Lib.hid (And.intro hP (And.intro hq0 (And.intro hq1 (And.intro hq2 (And.intro hq3 (And.intro ho0 (And.intro ho1 (And.intro ho2 (And.intro hp0 (And.intro hp1 (And.intro hp2 hz5)))))))))))
    clear hP hq0 hq1 hq2 hq3 ho0 ho1 ho2 hp0 hp1 hp2 hz5 ht hT H3 r0 r1 r2 r3 hon
    go_region
    go_wp2_with fail
    show Code.wp _ _ _ _ (put4 w3 g (o + j * 4) (some ⟨k, v⟩)).drew
    obtain ⟨hP, hq0, hq1, hq2, hq3, ho0, ho1, ho2, hp0, hp1, hp2, hz5⟩ := HP.out
    clear HP c0 c1 c2 c3 b0 b1 b2 f0 f1 f2 f3
    generalize (put4 w3 g (o + j * 4) (some ⟨k, v⟩)).drew = w5 at *
    go_region
    show Exit.then _ _ _ _ (give3 w5 (w.heap.size + 1) r.k).drew
    obtain ⟨e0, e1, e2⟩ := give3_cells (k := r.k) (by omega) ho0 ho1 ho2
    have hT7 := give3_turn hP.2 hg r.k (b := w.heap.size + 1) (by omega)
    have hR7 := give3_rbk hP.1 r.k (b := w.heap.size + 1) (by omega)
    have HP := Lib.hid (And.intro hR7 hT7)
    clear hP hq0 hq1 hq2 hq3 ho0 ho1 ho2 hp0 hp1 hp2 hR7 hT7
    generalize (give3 w5 (w.heap.size + 1) r.k).drew = w7 at *
    go_wp2
    refine bodyPost_ret (by simp [results, Tryz.results54, go_sem, e0, e1, e2]; try rfl) rfl ?_
    exact ⟨rfl, HP.out.1, HP.out.2⟩
  · rw [hs, outV_none]
    have hon := H.on j hj
    rw [hr] at hon
    simp only [Option.isSome_none] at hon
    have hj4 : j < 4 := by omega
    clear hs hr H
    unfold kyV at *
    go_enter Tryz.func54, Tryz.ntmps54
    go_wp2
    refine bodyPost_ret (by simp [results, Tryz.results54, go_sem]; try rfl) rfl ?_
    exact ⟨rfl, HH.out.below (by go_grown), Turn.of_below hg (by go_grown)⟩
  · rw [hs, outV_none]
    by_cases h0 : i < 0
    · clear hs hn H
      unfold kyV at *
      go_enter Tryz.func54, Tryz.ntmps54
      go_wp2
      refine bodyPost_ret (by simp [results, Tryz.results54, go_sem]; try rfl) rfl ?_
      exact ⟨rfl, HH.out.below (by go_grown), Turn.of_below hg (by go_grown)⟩
    · have h3 : 3 < i := by omega
      clear hs hn H
      unfold kyV at *
      go_enter Tryz.func54, Tryz.ntmps54
      go_wp2
      refine bodyPost_ret (by simp [results, Tryz.results54, go_sem]; try rfl) rfl ?_
      exact ⟨rfl, HH.out.below (by go_grown), Turn.of_below hg (by go_grown)⟩
end Go.Proofs.YtoihkbanmnagkaaGreat
/-
  What Swap of a bucket hands back, and what the bucket is then. No condition but that its cells lie in memory.
-/
set_option linter.unusedSimpArgs false
set_option linter.unusedVariables false
namespace Go.Proofs.YtoihkbanmnagkaaGreat
open Go.RowKit Go.Sort M

set_option maxHeartbeats 1000000 in
set_option maxRecDepth 100000 in
theorem swap11_any (g o : Nat) (C : List Pl) (i : Int) (k : Ky) (v : Int) (w : World) (H : Bkt w g o C) :
    Calls Tryz.prog 101 #[.pointer (some ⟨g, o, none⟩), .int .i64 i, kyV k, .int .i64 v] w fun e w' => e = .returned (outV (swapC C i k v)) ∧ Bkt w' g o (((swapC C i k v).map Prod.snd).getD C) ∧ Turn w w' g o 20 := by
  have HH := Lib.hid H
  have h4 := H.four
  have hg := H.lt
  rcases swapC_cases h4 i k v with ⟨j, hj, r, rfl, hr, hs⟩ | ⟨j, hj, rfl, hr, hs⟩ | ⟨hn, hs⟩
  · rw [hs, outV_some]
    obtain ⟨r0, r1, r2, r3, r4⟩ := H.at j hj
    rw [hr] at r0 r1 r2 r3 r4
    simp only [xh, xl, xn, xv, Option.isSome_some] at r0 r1 r2 r3 r4
    have f0 := H.free (j * 5) (by omega)
    have f1 := H.free (j * 5 + 1) (by omega)
    have f2 := H.free (j * 5 + 2) (by omega)
    have f3 := H.free (j * 5 + 3) (by omega)
    have f4 := H.free (j * 5 + 4) (by omega)
    simp only [← Nat.add_assoc] at f1 f2 f3 f4
    have hj4 : j < 4 := by omega
    clear hs hr H
    unfold kyV at *
    go_enter Tryz.func101, Tryz.ntmps101
    go_wp2
    have hT := three_new w k [.int .u64 (r.k.h : Int), .int .u64 (r.k.l : Int), .int .i64 r.k.n, .int .i64 r.v, .bool true] 38 38 117
    simp only [List.toArray] at hT
    generalize ((w.alloc (.cells #[.int .u64 (k.h : Int), .int .u64 (k.l : Int), .int .i64 k.n] 38)).alloc (.cells #[.int .u64 0, .int .u64 0, .int .i64 0] 38)).alloc (.cells #[.int .u64 (r.k.h : Int), .int .u64 (r.k.l : Int), .int .i64 r.k.n, .int .i64 r.v, .bool true] 117) = w3 at hT ⊢
    have hz3 := hT.size
    have hl3 : g < w3.heap.size := by omega
    have hP := HH.out.put_drew hT.below j hj (some ⟨k, v⟩)
    have ht := (turn_put5 w3 g (o + j * 5) (some ⟨k, v⟩)).drew hl3
    have hq0 := (ht.far (b := w.heap.size + 1 + 1) (by omega) (by omega) 0).1.trans (hT.q 0 _ rfl)
    have hq1 := (ht.far (b := w.heap.size + 1 + 1) (by omega) (by omega) 1).1.trans (hT.q 1 _ rfl)
    have hq2 := (ht.far (b := w.heap.size + 1 + 1) (by omega) (by omega) 2).1.trans (hT.q 2 _ rfl)
    have hq3 := (ht.far (b := w.heap.size + 1 + 1) (by omega) (by omega) 3).1.trans (hT.q 3 _ rfl)
    have ho0 := (ht.far (b := w.heap.size + 1) (by omega) (by omega) 0).1.trans hT.o0
    have ho1 := (ht.far (b := w.heap.size + 1) (by omega) (by omega) 1).1.trans hT.o1
    have ho2 := (ht.far (b := w.heap.size + 1) (by omega) (by omega) 2).1.trans hT.o2
    have hp0 := (ht.far (b := w.heap.size + 1) (by omega) (by omega) 0).2.trans hT.p0
    have hp1 := (ht.far (b := w.heap.size + 1) (by omega) (by omega) 1).2.trans hT.p1
    have hp2 := (ht.far (b := w.heap.size + 1) (by omega) (by omega) 2).2.trans hT.p2
    have hz5 := ht.grown.size
    have H3 := HH.out.below hT.below
    obtain ⟨c0, c1, c2, c3, c4⟩ := H3.at j hj
    have b0 := hT.b0
    have b1 := hT.b1
    have b2 := hT.b2
    have f0 := H3.free (j * 5) (by omega)
    have f1 := H3.free (j * 5 + 1) (by omega)
    have f2 := H3.free (j * 5 + 2) (by omega)
    have f3 := H3.free (j * 5 + 3) (by omega)
    have f4 := H3.free (j * 5 + 4) (by omega)
    simp only [← Nat.add_assoc] at f1 f2 f3 f4
    have HP := Lib.hid (And.intro hP (And.intro hq0 (And.intro hq1 (And.intro hq2 (And.intro hq3 (And.intro ho0 (And.intro ho1 (And.intro ho2 (And.intro hp0 (And.intro hp1 (And.intro hp2 hz5)))))))))))
    clear hP hq0 hq1 hq2 hq3 ho0 ho1 ho2 hp0 hp1 hp2 hz5 ht hT H3 r0 r1 r2 r3 r4
    go_region
    go_wp2_with fail
    show Code.wp _ _ _ _ (put5 w3 g (o + j * 5) (some ⟨k, v⟩)).drew
    obtain ⟨hP, hq0, hq1, hq2, hq3, ho0, ho1, ho2, hp0, hp1, hp2, hz5⟩ := HP.out
    clear HP c0 c1 c2 c3 c4 b0 b1 b2 f0 f1 f2 f3 f4
    generalize (put5 w3 g (o + j * 5) (some ⟨k, v⟩)).drew = w5 at *
    go_region
    show Exit.then _ _ _ _ (give3 w5 (w.heap.size + 1) r.k).drew
    obtain ⟨e0, e1, e2⟩ := give3_cells (k := r.k) (by omega) ho0 ho1 ho2
    have hT7 := give3_turn hP.2 hg r.k (b := w.heap.size + 1) (by omega)
    have hR7 := give3_bkt hP.1 r.k (b := w.heap.size + 1) (by omega)
    have HP := Lib.hid (And.intro hR7 hT7)
    clear hP hq0 hq1 hq2 hq3 ho0 ho1 ho2 hp0 hp1 hp2 hR7 hT7
    generalize (give3 w5 (w.heap.size + 1) r.k).drew = w7 at *
    go_wp2
    refine bodyPost_ret (by simp [results, Tryz.results101, go_sem, e0, e1, e2]; try rfl) rfl ?_
    exact ⟨rfl, HP.out.1, HP.out.2⟩
  · rw [hs, outV_none]
    obtain ⟨r0, r1, r2, r3, hon⟩ := H.at j hj
    rw [hr] at hon
    simp only [Option.isSome_none] at hon
    have hj4 : j < 4 := by omega
    clear hs hr H r0 r1 r2 r3
    unfold kyV at *
    go_enter Tryz.func101, Tryz.ntmps101
    go_wp2
    refine bodyPost_ret (by simp [results, Tryz.results101, go_sem]; try rfl) rfl ?_
    exact ⟨rfl, HH.out.below (by go_grown), Turn.of_below hg (by go_grown)⟩
  · rw [hs, outV_none]
    by_cases h0 : i < 0
    · clear hs hn H
      unfold kyV at *
      go_enter Tryz.func101, Tryz.ntmps101
      go_wp2
      refine bodyPost_ret (by simp [results, Tryz.results101, go_sem]; try rfl) rfl ?_
      exact ⟨rfl, HH.out.below (by go_grown), Turn.of_below hg (by go_grown)⟩
    · have h3 : 4 ≤ i := by omega
      clear hs hn H
      unfold kyV at *
      go_enter Tryz.func101, Tryz.ntmps101
      go_wp2
      refine bodyPost_ret (by simp [results, Tryz.results101, go_sem]; try rfl) rfl ?_
      exact ⟨rfl, HH.out.below (by go_grown), Turn.of_below hg (by go_grown)⟩
end Go.Proofs.YtoihkbanmnagkaaGreat
