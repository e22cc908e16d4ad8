/-
  What Swap of a bucket hands back, and what the bucket is then. No condition but that its cells lie in memory.
-/
import Derived.Test.YtoihkbanmnagkaaGreatCopy
import Derived.Test.YtoihkbanmnagkaaGreatW11b
/-
  Put and Take of the reference's bucket: what they hand back, and what it is then. No condition but that its cells lie in memory.
-/
set_option linter.unusedSimpArgs false
set_option linter.unusedVariables false
namespace Go.Proofs.YtoihkbanmnagkaaGreat
open Go.RowKit Go.Sort M

def fromI (p : Pl → Bool) (C : List Pl) (j : Nat) : Int :=
  match (C.drop j).findIdx? p with
  | some i => ((j + i : Nat) : Int)
  | none => -1
theorem fromI_end {p : Pl → Bool} {C : List Pl} {j : Nat} (h : C.length ≤ j) : fromI p C j = -1 := by
  unfold fromI
  rw [List.drop_of_length_le h]
  rfl
theorem fromI_step {p : Pl → Bool} {C : List Pl} {j : Nat} (h : j < C.length) : fromI p C j = if p C[j] = true then (j : Int) else fromI p C (j + 1) := by
  unfold fromI
  rw [List.drop_eq_getElem_cons h, List.findIdx?_cons]
  cases e : p C[j]
  · simp only [Bool.false_eq_true, if_false]
    cases (C.drop (j + 1)).findIdx? p with
    | none => rfl
    | some i => show ((j + (i + 1) : Nat) : Int) = ((j + 1 + i : Nat) : Int); omega
  · simp
theorem fromI_zero (p : Pl → Bool) (C : List Pl) : fromI p C 0 = idxI p C := by
  unfold fromI idxI
  rw [List.drop_zero]
  cases C.findIdx? p with
  | none => rfl
  | some i => show ((0 + i : Nat) : Int) = i; omega
theorem four_drew {w : World} {g p : Nat} {x : Pl} (hl : g < w.heap.size) (h : Four w g p x) : Four w.drew g p x := by
  have hb : Below w.heap.size w w.drew := by go_grown
  obtain ⟨a, b, c, d⟩ := h
  exact ⟨(hb.cell (p := ⟨g, p, none⟩) hl).trans a, (hb.cell (p := ⟨g, p + 1, none⟩) hl).trans b, (hb.cell (p := ⟨g, p + 2, none⟩) hl).trans c, (hb.cell (p := ⟨g, p + 3, none⟩) hl).trans d⟩
theorem on_set {w : World} {g p : Nat} {u v : Value} (h : w.cell? ⟨g, p, none⟩ = some u) : (w.setCell ⟨g, p, none⟩ v).cell? ⟨g, p, none⟩ = some v := World.cell?_setCell_same _ _ _ h
theorem RBk.put_drew {w w1 : World} {g o : Nat} {C : List Pl} (H : RBk w g o C) (hb : Below w.heap.size w w1) {i : Nat} (hi : i < C.length) (x : Pl) :
    RBk (((put4 w1 g (o + i * 4) x).drew).setCell ⟨g, o + 16 + i, none⟩ (.bool x.isSome)) g o (C.set i x) ∧ Turn w (((put4 w1 g (o + i * 4) x).drew).setCell ⟨g, o + 16 + i, none⟩ (.bool x.isSome)) g o 20 := by
  have H1 := H.below hb
  have h4 := H.four
  have t1 := turn_put4 w1 g (o + i * 4) x
  have hl : g < (put4 w1 g (o + i * 4) x).heap.size := Nat.lt_of_lt_of_le H1.lt t1.grown.size
  have t2 := t1.drew H1.lt
  have := H1.turned hi x t2 (four_drew hl (four_put x (H1.rt i hi))) (turn_one _ g (o + 16 + i) 1 (o + 16 + i) _ (Nat.le_refl _) (by omega)) (on_set ((t2.cell _ (by omega)).trans (H1.on i hi)))
  exact ⟨this.1, (Turn.of_below H.lt hb).trans this.2⟩
theorem RBk.put_plain {w w1 : World} {g o : Nat} {C : List Pl} (H : RBk w g o C) (hb : Below w.heap.size w w1) {i : Nat} (hi : i < C.length) (x : Pl) :
    RBk ((put4 w1 g (o + i * 4) x).setCell ⟨g, o + 16 + i, none⟩ (.bool x.isSome)) g o (C.set i x) ∧ Turn w ((put4 w1 g (o + i * 4) x).setCell ⟨g, o + 16 + i, none⟩ (.bool x.isSome)) g o 20 := by
  have H1 := H.below hb
  have h4 := H.four
  have t1 := turn_put4 w1 g (o + i * 4) x
  have := H1.turned hi x t1 (four_put x (H1.rt i hi)) (turn_one _ g (o + 16 + i) 1 (o + 16 + i) _ (Nat.le_refl _) (by omega)) (on_set ((t1.cell _ (by omega)).trans (H1.on i hi)))
  exact ⟨this.1, (Turn.of_below H.lt hb).trans this.2⟩
theorem RBk.put_swap {w w1 : World} {g o : Nat} {C : List Pl} (H : RBk w g o C) (hb : Below w.heap.size w w1) {i : Nat} (hi : i < C.length) (x : Pl) (hx : x.isSome = C[i].isSome) :
    RBk (put4 w1 g (o + i * 4) x).drew g o (C.set i x) ∧ Turn w (put4 w1 g (o + i * 4) x).drew g o 20 := by
  have H1 := H.below hb
  have h4 := H.four
  have t1 := turn_put4 w1 g (o + i * 4) x
  have hl : g < (put4 w1 g (o + i * 4) x).heap.size := Nat.lt_of_lt_of_le H1.lt t1.grown.size
  have t2 := t1.drew H1.lt
  have := H1.turned hi x t2 (four_drew hl (four_put x (H1.rt i hi))) (Turn.of_below (o := o + 16 + i) (n := 1) (Nat.lt_of_lt_of_le H1.lt t2.grown.size) (Below.refl _ _)) (by rw [hx]; exact (t2.cell _ (by omega)).trans (H1.on i hi))
  exact ⟨this.1, (Turn.of_below H.lt hb).trans this.2⟩
set_option maxHeartbeats 1000000 in
set_option maxRecDepth 100000 in
theorem rtake11_any (g o : Nat) (C : List Pl) (k : Ky) (w : World) (H : RBk w g o C) :
    Calls Tryz.prog 58 #[.pointer (some ⟨g, o, none⟩), kyV k] w fun e w' => e = .returned (.bool (takeC C k).isSome) ∧ RBk w' g o ((takeC C k).getD C) ∧ Turn w w' g o 20 := by
  have HH := Lib.hid H
  have h4 := H.four
  have hg := H.lt
  clear H
  unfold kyV
  go_enter Tryz.func58, Tryz.ntmps58
  go_wp2
  go_loopw [5] (fun i wr => ∃ (j : Nat), j ≤ 4 ∧ i = .int .i64 (j : Int) ∧ (∀ x (hx : x < C.length), x < j → hasK k C[x] = false) ∧ wr.cell? ⟨w.heap.size, 0, none⟩ = some (.int .u64 (k.h : Int)) ∧ wr.cell? ⟨w.heap.size, 1, none⟩ = some (.int .u64 (k.l : Int)) ∧ wr.cell? ⟨w.heap.size, 2, none⟩ = some (.int .i64 k.n) ∧ w.heap.size < wr.heap.size ∧ Below w.heap.size w wr) (fun i _ => 4 - (intOf i).toNat)
  case atStart => exact ⟨0, by omega, rfl, fun x _ h => absurd h (by omega), by simp [go_sem], by simp [go_sem], by simp [go_sem], by simp, by go_grown⟩
  case round =>
    obtain ⟨j, hj, rfl, hno, k0, k1, k2, hz, hb⟩ := hrel
    by_cases hlt : j < 4
    · have H1 := HH.out.below hb
      have hno' := Lib.hid hno
      have hon := H1.on j (by omega)
      obtain ⟨r0, r1, r2, r3⟩ := H1.rt j (by omega)
      have hK := Lib.hid (hasK_eq k (C[j]'(by omega)))
      have hl1 := H1.lt
      clear hno H1
      generalize hx : (C[j]'(by omega)) = x at hon r0 r1 r2 r3 hK
      have HX := Lib.hid hx
      have hE := eqlK (xh x) (xl x) (xn x) k.h k.l k.n
      have j0 : (0 : Int) ≤ (j : Int) := by omega
      have j4 : (j : Int) < 4 := by omega
      clear hx
      by_cases hs : x.isSome = true
      · rw [hs] at hon
        by_cases he : xh x = k.h ∧ xl x = k.l ∧ xn x = k.n
        · rw [decide_eq_true he] at hE
          have hm : Hid (hasK k x = true) := by show hasK k x = true; rw [hK.out, hs, decide_eq_true he]; rfl
          clear hs hK he
          go_wp2_with fail
          have kg := cell_grow
          refine region_whole (by kernel_rfl) (by kernel_rfl) ?_
          repeat (any_goals (first | go_big_quiet_step (fail) | quiet_step (fail)))
          refine wpQuiet_nil ?_
          clear kg
          intro w1 hb1
          obtain ⟨hc1, hf1⟩ := bcell hb1
          have hw1 := hb.trans (hb1.mono (by omega))
          have hh := Lib.hid (idx_hit (p := hasK k) (i := j) (C := C) (by omega) (by rw [HX.out]; exact hm.out) hno'.out)
          have hi : j < C.length := by omega
          clear hE hno' hon r0 r1 r2 r3 hf1 hc1 hb1 HX hm
          have i := j
          have H1 := HH.out.below hw1
          obtain ⟨c0, c1, c2, c3⟩ := H1.rt j hi
          have c4 := H1.on j hi
          have f0 := H1.free (j * 4) (by omega)
          have f1 := H1.free (j * 4 + 1) (by omega)
          have f2 := H1.free (j * 4 + 2) (by omega)
          have f3 := H1.free (j * 4 + 3) (by omega)
          have f4 := H1.free (16 + j) (by omega)
          have hl := H1.lt
          simp only [← Nat.add_assoc] at f1 f2 f3 f4
          clear H1
          go_wp2
          go_ret
          rw [show takeC C k = some (C.set j none) by unfold takeC; rw [hh.out]]
          have hP := HH.out.put_plain hw1 hi none
          exact ⟨rfl, hP.1, hP.2⟩
        · rw [decide_eq_false he] at hE
          have hm : Hid (hasK k x = false) := by show hasK k x = false; rw [hK.out, hs, decide_eq_false he]; rfl
          clear hs hK he
          go_wp2_with fail
          have kg := cell_grow
          refine region_whole (by kernel_rfl) (by kernel_rfl) ?_
          repeat (any_goals (first | go_big_quiet_step (fail) | quiet_step (fail)))
          refine wpQuiet_nil ?_
          clear kg
          intro w1 hb1
          obtain ⟨hc1, hf1⟩ := bcell hb1
          go_wp2
          go_roundw
          case rel =>
            refine ⟨j + 1, by omega, by go_num, fun y hy hlt2 => ?_, (hc1 _ _ (by omega)).trans k0, (hc1 _ _ (by omega)).trans k1, (hc1 _ _ (by omega)).trans k2, Nat.lt_of_lt_of_le hz hb1.size, hb.trans (hb1.mono (by omega))⟩
            by_cases e : y = j
            · subst e; rw [HX.out]; exact hm.out
            · exact hno'.out y hy (by omega)
          case measure => simp [intOf]; omega
      · rw [Bool.not_eq_true] at hs
        rw [hs] at hon
        have hm : Hid (hasK k x = false) := by show hasK k x = false; rw [hK.out, hs]; rfl
        clear hs hK hE
        go_wp2_with fail
        have kg := cell_grow
        refine region_whole (by kernel_rfl) (by kernel_rfl) ?_
        repeat (any_goals (first | go_big_quiet_step (fail) | quiet_step (fail)))
        refine wpQuiet_nil ?_
        clear kg
        intro w1 hb1
        obtain ⟨hc1, hf1⟩ := bcell hb1
        go_wp2
        go_roundw
        case rel =>
          refine ⟨j + 1, by omega, by go_num, fun y hy hlt2 => ?_, (hc1 _ _ (by omega)).trans k0, (hc1 _ _ (by omega)).trans k1, (hc1 _ _ (by omega)).trans k2, Nat.lt_of_lt_of_le hz hb1.size, hb.trans (hb1.mono (by omega))⟩
          by_cases e : y = j
          · subst e; rw [HX.out]; exact hm.out
          · exact hno'.out y hy (by omega)
        case measure => simp [intOf]; omega
    · go_wp2
      go_ret
      rw [show takeC C k = none by unfold takeC; rw [idx_miss (fun x hx => hno x hx (by omega))]]
      exact ⟨rfl, HH.out.below hb, Turn.of_below hg hb⟩
end Go.Proofs.YtoihkbanmnagkaaGreat
/-
  What Swap of a bucket, and of the reference's, hands back, and what the bucket is then. No condition but that its cells lie in memory.
-/
set_option linter.unusedSimpArgs false
set_option linter.unusedVariables false
namespace Go.Proofs.YtoihkbanmnagkaaGreat
open Go.RowKit Go.Sort M

theorem swapC_cases {C : List Pl} (h4 : C.length = 4) (i : Int) (k : Ky) (v : Int) :
    (∃ j : Nat, ∃ hj : j < C.length, ∃ r, i = (j : Int) ∧ C[j] = some r ∧ swapC C i k v = some (r, C.set j (some ⟨k, v⟩))) ∨ (∃ j : Nat, ∃ hj : j < C.length, i = (j : Int) ∧ C[j] = none ∧ swapC C i k v = none) ∨ (¬ (0 ≤ i ∧ i < 4) ∧ swapC C i k v = none) := by
  by_cases h : 0 ≤ i ∧ i < 4
  · obtain ⟨j, rfl⟩ := Int.eq_ofNat_of_zero_le h.1
    have hj : j < C.length := by omega
    have e : swapC C (j : Int) k v = match C[j] with | some r => some (r, C.set j (some ⟨k, v⟩)) | none => none := by
      unfold swapC
      rw [if_pos h.1, Int.toNat_natCast, List.getD_eq_getElem?_getD, List.getElem?_eq_getElem hj]
      rfl
    rw [e]
    cases hc : C[j] with
    | none => exact .inr (.inl ⟨j, hj, rfl, hc, rfl⟩)
    | some r => exact .inl ⟨j, hj, r, rfl, hc, rfl⟩
  · refine .inr (.inr ⟨h, ?_⟩)
    unfold swapC
    split
    · rw [List.getD_eq_getElem?_getD, List.getElem?_eq_none (by omega)]
      rfl
    · rfl
def outV (o : Option (Rt × List Pl)) : Value := .tuple #[kyV ((o.map Prod.fst).getD ⟨⟨0, 0, 0⟩, 0⟩).k, .int .i64 ((o.map Prod.fst).getD ⟨⟨0, 0, 0⟩, 0⟩).v, .bool o.isSome]
theorem outV_none : outV none = .tuple #[.agg #[.int .u64 0, .int .u64 0, .int .i64 0], .int .i64 0, .bool false] := rfl
theorem outV_some (r : Rt) (C : List Pl) : outV (some (r, C)) = .tuple #[.agg #[.int .u64 (r.k.h : Int), .int .u64 (r.k.l : Int), .int .i64 r.k.n], .int .i64 r.v, .bool true] := rfl
structure Three (w w3 : World) (k : Ky) (q : List Value) : Prop where
  below : Below w.heap.size w w3
  size : w3.heap.size = w.heap.size + 3
  b0 : w3.cell? ⟨w.heap.size, 0, none⟩ = some (.int .u64 (k.h : Int))
  b1 : w3.cell? ⟨w.heap.size, 1, none⟩ = some (.int .u64 (k.l : Int))
  b2 : w3.cell? ⟨w.heap.size, 2, none⟩ = some (.int .i64 k.n)
  o0 : w3.cell? ⟨w.heap.size + 1, 0, none⟩ = some (.int .u64 0)
  o1 : w3.cell? ⟨w.heap.size + 1, 1, none⟩ = some (.int .u64 0)
  o2 : w3.cell? ⟨w.heap.size + 1, 2, none⟩ = some (.int .i64 0)
  p0 : w3.frozen? ⟨w.heap.size + 1, 0, none⟩ = false
  p1 : w3.frozen? ⟨w.heap.size + 1, 1, none⟩ = false
  p2 : w3.frozen? ⟨w.heap.size + 1, 2, none⟩ = false
  q : ∀ j u, q[j]? = some u → w3.cell? ⟨w.heap.size + 1 + 1, j, none⟩ = some u
theorem three_new (w : World) (k : Ky) (q : List Value) (t1 t2 t3 : TypeId) : Three w (((w.alloc (.cells #[.int .u64 (k.h : Int), .int .u64 (k.l : Int), .int .i64 k.n] t1)).alloc (.cells #[.int .u64 0, .int .u64 0, .int .i64 0] t2)).alloc (.cells q.toArray t3)) k q := by
  refine ⟨by go_grown, by simp, by simp [go_sem], by simp [go_sem], by simp [go_sem], by simp [go_sem], by simp [go_sem], by simp [go_sem], by simp [go_sem], by simp [go_sem], by simp [go_sem], fun j u hu => ?_⟩
  have := new_cells ((w.alloc (.cells #[.int .u64 (k.h : Int), .int .u64 (k.l : Int), .int .i64 k.n] t1)).alloc (.cells #[.int .u64 0, .int .u64 0, .int .i64 0] t2)) q.toArray t3 j u hu
  simp only [World.size_alloc] at this
  rwa [show (⟨w.heap.size + 1 + 1, 0, none⟩ : Addr).add j = ⟨w.heap.size + 1 + 1, j, none⟩ by unfold Addr.add; split <;> simp_all] at this
def give3 (w : World) (b : Nat) (k : Ky) : World := ((w.setCell ⟨b, 0, none⟩ (.int .u64 (k.h : Int))).setCell ⟨b, 1, none⟩ (.int .u64 (k.l : Int))).setCell ⟨b, 2, none⟩ (.int .i64 k.n)
theorem give3_cells {w : World} {b : Nat} {k : Ky} {u0 u1 u2 : Value} (hb : b < w.heap.size) (h0 : w.cell? ⟨b, 0, none⟩ = some u0) (h1 : w.cell? ⟨b, 1, none⟩ = some u1) (h2 : w.cell? ⟨b, 2, none⟩ = some u2) :
    (give3 w b k).drew.cell? ⟨b, 0, none⟩ = some (.int .u64 (k.h : Int)) ∧ (give3 w b k).drew.cell? ⟨b, 1, none⟩ = some (.int .u64 (k.l : Int)) ∧ (give3 w b k).drew.cell? ⟨b, 2, none⟩ = some (.int .i64 k.n) := by
  unfold give3
  refine ⟨?_, ?_, ?_⟩ <;> simp [go_sem, h0, h1, h2]
theorem give3_turn {w w1 : World} {g o n : Nat} (h : Turn w w1 g o n) (hl : g < w.heap.size) {b : Nat} (k : Ky) (hb : w.heap.size ≤ b) : Turn w (give3 w1 b k).drew g o n :=
  (((h.fresh hl b 0 _ hb).fresh hl b 1 _ hb).fresh hl b 2 _ hb).drew hl
theorem RBk.drew {w : World} {g o : Nat} {C : List Pl} (H : RBk w g o C) : RBk w.drew g o C := H.below (by go_grown)
theorem give3_rbk {w : World} {g o : Nat} {C : List Pl} (H : RBk w g o C) {b : Nat} (k : Ky) (hne : g ≠ b) : RBk (give3 w b k).drew g o C :=
  (((H.apart (turn_one w b 0 1 0 _ (Nat.le_refl _) (by omega)) (.inl hne)).apart (turn_one _ b 1 1 1 _ (Nat.le_refl _) (by omega)) (.inl hne)).apart (turn_one _ b 2 1 2 _ (Nat.le_refl _) (by omega)) (.inl hne)).drew
theorem give3_bkt {w : World} {g o : Nat} {C : List Pl} (H : Bkt w g o C) {b : Nat} (k : Ky) (hne : g ≠ b) : Bkt (give3 w b k).drew g o C :=
  (((H.fresh b 0 _ hne).fresh b 1 _ hne).fresh b 2 _ hne).drew
set_option maxHeartbeats 1000000 in
set_option maxRecDepth 100000 in
theorem rswap11_any (g o : Nat) (C : List Pl) (i : Int) (k : Ky) (v : Int) (w : World) (H : RBk w g o C) :
    Calls Tryz.prog 54 #[.pointer (some ⟨g, o, none⟩), .int .i64 i, kyV k, .int .i64 v] w fun e w' => e = .returned (outV (swapC C i k v)) ∧ RBk w' g o (((swapC C i k v).map Prod.snd).getD C) ∧ Turn w w' g o 20 := by
  have HH := Lib.hid H
  have h4 := H.four
  have hg := H.lt
  rcases swapC_cases h4 i k v with ⟨j, hj, r, rfl, hr, hs⟩ | ⟨j, hj, rfl, hr, hs⟩ | ⟨hn, hs⟩
  · rw [hs, outV_some]
    obtain ⟨r0, r1, r2, r3⟩ := H.rt j hj
    have hon := H.on j hj
    have HR := Lib.hid hr
    rw [hr] at r0 r1 r2 r3 hon
    simp only [xh, xl, xn, xv, Option.isSome_some] at r0 r1 r2 r3 hon
    have f0 := H.free (j * 4) (by omega)
    have f1 := H.free (j * 4 + 1) (by omega)
    have f2 := H.free (j * 4 + 2) (by omega)
    have f3 := H.free (j * 4 + 3) (by omega)
    simp only [← Nat.add_assoc] at f1 f2 f3
    have hj4 : j < 4 := by omega
    clear hs hr H
    unfold kyV at *
    go_enter Tryz.func54, Tryz.ntmps54
    go_wp2
    have hT := three_new w k [.int .u64 (r.k.h : Int), .int .u64 (r.k.l : Int), .int .i64 r.k.n, .int .i64 r.v] 38 38 58
    simp only [List.toArray] at hT
    generalize ((w.alloc (.cells #[.int .u64 (k.h : Int), .int .u64 (k.l : Int), .int .i64 k.n] 38)).alloc (.cells #[.int .u64 0, .int .u64 0, .int .i64 0] 38)).alloc (.cells #[.int .u64 (r.k.h : Int), .int .u64 (r.k.l : Int), .int .i64 r.k.n, .int .i64 r.v] 58) = w3 at hT ⊢
    have hz3 := hT.size
    have hl3 : g < w3.heap.size := by omega
    have ht := (turn_put4 w3 g (o + j * 4) (some ⟨k, v⟩)).drew hl3
    have hP := HH.out.put_swap hT.below hj (some ⟨k, v⟩) (by rw [HR.out]; rfl)
    have hq0 := (ht.far (b := w.heap.size + 1 + 1) (by omega) (by omega) 0).1.trans (hT.q 0 _ rfl)
    have hq1 := (ht.far (b := w.heap.size + 1 + 1) (by omega) (by omega) 1).1.trans (hT.q 1 _ rfl)
    have hq2 := (ht.far (b := w.heap.size + 1 + 1) (by omega) (by omega) 2).1.trans (hT.q 2 _ rfl)
    have hq3 := (ht.far (b := w.heap.size + 1 + 1) (by omega) (by omega) 3).1.trans (hT.q 3 _ rfl)
    have ho0 := (ht.far (b := w.heap.size + 1) (by omega) (by omega) 0).1.trans hT.o0
    have ho1 := (ht.far (b := w.heap.size + 1) (by omega) (by omega) 1).1.trans hT.o1
    have ho2 := (ht.far (b := w.heap.size + 1) (by omega) (by omega) 2).1.trans hT.o2
    have hp0 := (ht.far (b := w.heap.size + 1) (by omega) (by omega) 0).2.trans hT.p0
    have hp1 := (ht.far (b := w.heap.size + 1) (by omega) (by omega) 1).2.trans hT.p1
    have hp2 := (ht.far (b := w.heap.size + 1) (by omega) (by omega) 2).2.trans hT.p2
    have hz5 := ht.grown.size
    have H3 := HH.out.below hT.below
    obtain ⟨c0, c1, c2, c3⟩ := H3.rt j hj
    have b0 := hT.b0
    have b1 := hT.b1
    have b2 := hT.b2
    have f0 := H3.free (j * 4) (by omega)
    have f1 := H3.free (j * 4 + 1) (by omega)
    have f2 := H3.free (j * 4 + 2) (by omega)
    have f3 := H3.free (j * 4 + 3) (by omega)
    simp only [← Nat.add_assoc] at f1 f2 f3
    have HP := Lib.hid (And.intro hP (And.intro hq0 (And.intro hq1 (And.intro hq2 (And.intro hq3 (And.intro ho0 (And.intro ho1 (And.intro ho2 (And.intro hp0 (And.intro hp1 (And.intro hp2 hz5)))))))))))
    clear hP hq0 hq1 hq2 hq3 ho0 ho1 ho2 hp0 hp1 hp2 hz5 ht hT H3 r0 r1 r2 r3 hon
    go_region
    go_wp2_with fail
    show Code.wp _ _ _ _ (put4 w3 g (o + j * 4) (some ⟨k, v⟩)).drew
    obtain ⟨hP, hq0, hq1, hq2, hq3, ho0, ho1, ho2, hp0, hp1, hp2, hz5⟩ := HP.out
    clear HP c0 c1 c2 c3 b0 b1 b2 f0 f1 f2 f3
    generalize (put4 w3 g (o + j * 4) (some ⟨k, v⟩)).drew = w5 at *
    go_region
    show Exit.then _ _ _ _ (give3 w5 (w.heap.size + 1) r.k).drew
    obtain ⟨e0, e1, e2⟩ := give3_cells (k := r.k) (by omega) ho0 ho1 ho2
    have hT7 := give3_turn hP.2 hg r.k (b := w.heap.size + 1) (by omega)
    have hR7 := give3_rbk hP.1 r.k (b := w.heap.size + 1) (by omega)
    have HP := Lib.hid (And.intro hR7 hT7)
    clear hP hq0 hq1 hq2 hq3 ho0 ho1 ho2 hp0 hp1 hp2 hR7 hT7
    generalize (give3 w5 (w.heap.size + 1) r.k).drew = w7 at *
    go_wp2
    refine bodyPost_ret (by simp [results, Tryz.results54, go_sem, e0, e1, e2]; try rfl) rfl ?_
    exact ⟨rfl, HP.out.1, HP.out.2⟩
  · rw [hs, outV_none]
    have hon := H.on j hj
    rw [hr] at hon
    simp only [Option.isSome_none] at hon
    have hj4 : j < 4 := by omega
    clear hs hr H
    unfold kyV at *
    go_enter Tryz.func54, Tryz.ntmps54
    go_wp2
    refine bodyPost_ret (by simp [results, Tryz.results54, go_sem]; try rfl) rfl ?_
    exact ⟨rfl, HH.out.below (by go_grown), Turn.of_below hg (by go_grown)⟩
  · rw [hs, outV_none]
    by_cases h0 : i < 0
    · clear hs hn H
      unfold kyV at *
      go_enter Tryz.func54, Tryz.ntmps54
      go_wp2
      refine bodyPost_ret (by simp [results, Tryz.results54, go_sem]; try rfl) rfl ?_
      exact ⟨rfl, HH.out.below (by go_grown), Turn.of_below hg (by go_grown)⟩
    · have h3 : 3 < i := by omega
      clear hs hn H
      unfold kyV at *
      go_enter Tryz.func54, Tryz.ntmps54
      go_wp2
      refine bodyPost_ret (by simp [results, Tryz.results54, go_sem]; try rfl) rfl ?_
      exact ⟨rfl, HH.out.below (by go_grown), Turn.of_below hg (by go_grown)⟩
end Go.Proofs.YtoihkbanmnagkaaGreat
/-
  What Swap of a bucket hands back, and what the bucket is then. No condition but that its cells lie in memory.
-/
set_option linter.unusedSimpArgs false
set_option linter.unusedVariables false
namespace Go.Proofs.YtoihkbanmnagkaaGreat
open Go.RowKit Go.Sort M

set_option maxHeartbeats 1000000 in
set_option maxRecDepth 100000 in
theorem swap11_any (g o : Nat) (C : List Pl) (i : Int) (k : Ky) (v : Int) (w : World) (H : Bkt w g o C) :
    Calls Tryz.prog 101 #[.pointer (some ⟨g, o, none⟩), .int .i64 i, kyV k, .int .i64 v] w fun e w' => e = .returned (outV (swapC C i k v)) ∧ Bkt w' g o (((swapC C i k v).map Prod.snd).getD C) ∧ Turn w w' g o 20 := by
  have HH := Lib.hid H
  have h4 := H.four
  have hg := H.lt
  rcases swapC_cases h4 i k v with ⟨j, hj, r, rfl, hr, hs⟩ | ⟨j, hj, rfl, hr, hs⟩ | ⟨hn, hs⟩
  · rw [hs, outV_some]
    obtain ⟨r0, r1, r2, r3, r4⟩ := H.at j hj
    rw [hr] at r0 r1 r2 r3 r4
    simp only [xh, xl, xn, xv, Option.isSome_some] at r0 r1 r2 r3 r4
    have f0 := H.free (j * 5) (by omega)
    have f1 := H.free (j * 5 + 1) (by omega)
    have f2 := H.free (j * 5 + 2) (by omega)
    have f3 := H.free (j * 5 + 3) (by omega)
    have f4 := H.free (j * 5 + 4) (by omega)
    simp only [← Nat.add_assoc] at f1 f2 f3 f4
    have hj4 : j < 4 := by omega
    clear hs hr H
    unfold kyV at *
    go_enter Tryz.func101, Tryz.ntmps101
    go_wp2
    have hT := three_new w k [.int .u64 (r.k.h : Int), .int .u64 (r.k.l : Int), .int .i64 r.k.n, .int .i64 r.v, .bool true] 38 38 117
    simp only [List.toArray] at hT
    generalize ((w.alloc (.cells #[.int .u64 (k.h : Int), .int .u64 (k.l : Int), .int .i64 k.n] 38)).alloc (.cells #[.int .u64 0, .int .u64 0, .int .i64 0] 38)).alloc (.cells #[.int .u64 (r.k.h : Int), .int .u64 (r.k.l : Int), .int .i64 r.k.n, .int .i64 r.v, .bool true] 117) = w3 at hT ⊢
    have hz3 := hT.size
    have hl3 : g < w3.heap.size := by omega
    have hP := HH.out.put_drew hT.below j hj (some ⟨k, v⟩)
    have ht := (turn_put5 w3 g (o + j * 5) (some ⟨k, v⟩)).drew hl3
    have hq0 := (ht.far (b := w.heap.size + 1 + 1) (by omega) (by omega) 0).1.trans (hT.q 0 _ rfl)
    have hq1 := (ht.far (b := w.heap.size + 1 + 1) (by omega) (by omega) 1).1.trans (hT.q 1 _ rfl)
    have hq2 := (ht.far (b := w.heap.size + 1 + 1) (by omega) (by omega) 2).1.trans (hT.q 2 _ rfl)
    have hq3 := (ht.far (b := w.heap.size + 1 + 1) (by omega) (by omega) 3).1.trans (hT.q 3 _ rfl)
    have ho0 := (ht.far (b := w.heap.size + 1) (by omega) (by omega) 0).1.trans hT.o0
    have ho1 := (ht.far (b := w.heap.size + 1) (by omega) (by omega) 1).1.trans hT.o1
    have ho2 := (ht.far (b := w.heap.size + 1) (by omega) (by omega) 2).1.trans hT.o2
    have hp0 := (ht.far (b := w.heap.size + 1) (by omega) (by omega) 0).2.trans hT.p0
    have hp1 := (ht.far (b := w.heap.size + 1) (by omega) (by omega) 1).2.trans hT.p1
    have hp2 := (ht.far (b := w.heap.size + 1) (by omega) (by omega) 2).2.trans hT.p2
    have hz5 := ht.grown.size
    have H3 := HH.out.below hT.below
    obtain ⟨c0, c1, c2, c3, c4⟩ := H3.at j hj
    have b0 := hT.b0
    have b1 := hT.b1
    have b2 := hT.b2
    have f0 := H3.free (j * 5) (by omega)
    have f1 := H3.free (j * 5 + 1) (by omega)
    have f2 := H3.free (j * 5 + 2) (by omega)
    have f3 := H3.free (j * 5 + 3) (by omega)
    have f4 := H3.free (j * 5 + 4) (by omega)
    simp only [← Nat.add_assoc] at f1 f2 f3 f4
    have HP := Lib.hid (And.intro hP (And.intro hq0 (And.intro hq1 (And.intro hq2 (And.intro hq3 (And.intro ho0 (And.intro ho1 (And.intro ho2 (And.intro hp0 (And.intro hp1 (And.intro hp2 hz5)))))))))))
    clear hP hq0 hq1 hq2 hq3 ho0 ho1 ho2 hp0 hp1 hp2 hz5 ht hT H3 r0 r1 r2 r3 r4
    go_region
    go_wp2_with fail
    show Code.wp _ _ _ _ (put5 w3 g (o + j * 5) (some ⟨k, v⟩)).drew
    obtain ⟨hP, hq0, hq1, hq2, hq3, ho0, ho1, ho2, hp0, hp1, hp2, hz5⟩ := HP.out
    clear HP c0 c1 c2 c3 c4 b0 b1 b2 f0 f1 f2 f3 f4
    generalize (put5 w3 g (o + j * 5) (some ⟨k, v⟩)).drew = w5 at *
    go_region
    show Exit.then _ _ _ _ (give3 w5 (w.heap.size + 1) r.k).drew
    obtain ⟨e0, e1, e2⟩ := give3_cells (k := r.k) (by omega) ho0 ho1 ho2
    have hT7 := give3_turn hP.2 hg r.k (b := w.heap.size + 1) (by omega)
    have hR7 := give3_bkt hP.1 r.k (b := w.heap.size + 1) (by omega)
    have HP := Lib.hid (And.intro hR7 hT7)
    clear hP hq0 hq1 hq2 hq3 ho0 ho1 ho2 hp0 hp1 hp2 hR7 hT7
    generalize (give3 w5 (w.heap.size + 1) r.k).drew = w7 at *
    go_wp2
    refine bodyPost_ret (by simp [results, Tryz.results101, go_sem, e0, e1, e2]; try rfl) rfl ?_
    exact ⟨rfl, HP.out.1, HP.out.2⟩
  · rw [hs, outV_none]
    obtain ⟨r0, r1, r2, r3, hon⟩ := H.at j hj
    rw [hr] at hon
    simp only [Option.isSome_none] at hon
    have hj4 : j < 4 := by omega
    clear hs hr H r0 r1 r2 r3
    unfold kyV at *
    go_enter Tryz.func101, Tryz.ntmps101
    go_wp2
    refine bodyPost_ret (by simp [results, Tryz.results101, go_sem]; try rfl) rfl ?_
    exact ⟨rfl, HH.out.below (by go_grown), Turn.of_below hg (by go_grown)⟩
  · rw [hs, outV_none]
    by_cases h0 : i < 0
    · clear hs hn H
      unfold kyV at *
      go_enter Tryz.func101, Tryz.ntmps101
      go_wp2
      refine bodyPost_ret (by simp [results, Tryz.results101, go_sem]; try rfl) rfl ?_
      exact ⟨rfl, HH.out.below (by go_grown), Turn.of_below hg (by go_grown)⟩
    · have h3 : 4 ≤ i := by omega
      clear hs hn H
      unfold kyV at *
      go_enter Tryz.func101, Tryz.ntmps101
      go_wp2
      refine bodyPost_ret (by simp [results, Tryz.results101, go_sem]; try rfl) rfl ?_
      exact ⟨rfl, HH.out.below (by go_grown), Turn.of_below hg (by go_grown)⟩
end Go.Proofs.YtoihkbanmnagkaaGreat
