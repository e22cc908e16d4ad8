/-
  A table in memory where its stash is written, or is another one. No condition but those that stand in each.
-/
import Derived.Test.YtlglppfkpieabaaCT
import Derived.Test.YtlglppfkpieabaaCopy
set_option linter.unusedSimpArgs false
set_option linter.unusedVariables false
namespace Go.Proofs.Ytlglppfkpieabaa
open Go.RowKit Go.Sort M

section
variable {K : World → Nat → Nat → List Pl → Prop} {w w1 : World} {t g : Nat} {v v' : Value} {T : Tab} {m : Int}
/-- All but the stash's block is as it was, and the struct's third cell. -/
theorem Tb.newStash (hK : BK K) (H : Tb K w t g v T) {st' : List Rt} (hg : w.grownBy w1 v.ownBlock) (own1 : w1.ownsRow 0 48 4 v' st'.length (rcs st')) (hat : v'.ownBlock = v.ownBlock ∨ ∃ k, v'.ownBlock = some k ∧ w.heap.size ≤ k) :
    Tb K (w1.setCell ⟨t, 2, none⟩ v') t g v' { T with st := st' } ∧ Touch (Blk t g v) w (w1.setCell ⟨t, 2, none⟩ v') ∧ ∀ k, Blk t g v' k → k < w.heap.size → Blk t g v k := by
  have ht1 : w1.heap[t]? = w.heap[t]? := hg.block t H.tlt (fun e => H.tv e.symm)
  have hg1 : w1.heap[g]? = w.heap[g]? := hg.block g H.blt (fun e => H.gv e.symm)
  have hb2 : ∀ k, k ≠ t → (w1.setCell ⟨t, 2, none⟩ v').heap[k]? = w1.heap[k]? := fun k hk => Below.heap_setCell w1 ⟨t, 2, none⟩ v' k (by simpa using hk)
  have hs2 : (w1.setCell ⟨t, 2, none⟩ v').heap.size = w1.heap.size := World.size_setCell _ _ _
  have c0 := (World.cell?_of_block (a := ⟨t, 0, none⟩) ht1).trans H.c0
  have c1 := (World.cell?_of_block (a := ⟨t, 1, none⟩) ht1).trans H.c1
  have c2 := (World.cell?_of_block (a := ⟨t, 2, none⟩) ht1).trans H.c2
  have ne : ∀ j, j ≠ 2 → (w1.setCell ⟨t, 2, none⟩ v').cell? ⟨t, j, none⟩ = w1.cell? ⟨t, j, none⟩ := fun j hj => by
    rw [World.cell?_setCell_other]
    intro e
    injection e with _ e2
    exact hj e2.symm
  have hvt : v'.ownBlock ≠ some t := by
    rcases hat with e | ⟨k, e, hk⟩
    · rw [e]; exact H.tv
    · rw [e]; intro e2; injection e2 with e2; have := H.tlt; omega
  have hvg : v'.ownBlock ≠ some g := by
    rcases hat with e | ⟨k, e, hk⟩
    · rw [e]; exact H.gv
    · rw [e]; intro e2; injection e2 with e2; have := H.blt; omega
  refine ⟨⟨fun i hi => hK.block (H.bk i hi) (by rw [hs2]; exact hg.size) ((hb2 g (fun e => H.tg e.symm)).trans hg1), by rw [hs2]; exact Nat.lt_of_lt_of_le H.blt hg.size, by rw [hs2]; exact Nat.lt_of_lt_of_le H.tlt hg.size,
    (ne 0 (by decide)).trans c0, (ne 1 (by decide)).trans c1, World.cell?_setCell_same _ _ _ c2, fun j => by rw [World.frozen?_setCell, World.frozen?_of_block (a := ⟨t, j, none⟩) ht1]; exact H.f j,
    own_block own1 (fun j e => hb2 j (fun e2 => hvt (e2 ▸ e))), H.tg, hvt, hvg⟩, ⟨hg.os, hg.tape, hg.output, by rw [hs2]; exact hg.size, fun k hk hn => ?_⟩, fun k hk hl => ?_⟩
  · rw [hb2 k (fun e => hn (.inl e))]
    exact hg.block k hk (fun e => hn (.inr (.inr e.symm)))
  · rcases hk with e | e | e
    · exact .inl e
    · exact .inr (.inl e)
    · rcases hat with e2 | ⟨j, e2, hj⟩
      · exact .inr (.inr (e2 ▸ e))
      · rw [e2] at e
        injection e with e
        omega
theorem CT.newStash (H : CT w t g v T m) {st' : List Rt} (hg : w.grownBy w1 v.ownBlock) (own1 : w1.ownsRow 0 48 4 v' st'.length (rcs st')) (hat : v'.ownBlock = v.ownBlock ∨ ∃ k, v'.ownBlock = some k ∧ w.heap.size ≤ k) :
    CT (w1.setCell ⟨t, 2, none⟩ v') t g v' { T with st := st' } m ∧ Touch (Blk t g v) w (w1.setCell ⟨t, 2, none⟩ v') ∧ ∀ k, Blk t g v' k → k < w.heap.size → Blk t g v k := by
  have h := H.tb.newStash bk_bkt hg own1 hat
  have ht1 : w1.heap[t]? = w.heap[t]? := hg.block t H.tb.tlt (fun e => H.tb.tv e.symm)
  refine ⟨⟨h.1, ?_⟩, h.2⟩
  rw [World.cell?_setCell_other]
  · exact (World.cell?_of_block (a := ⟨t, 3, none⟩) ht1).trans H.c3
  · intro e
    injection e with _ e2
    exact absurd e2 (by decide)
/-- The stash is written in place. -/
theorem Tb.inStash (hK : BK K) (H : Tb K w t g v T) {st' : List Rt} (hg : w.grownBy w1 v.ownBlock) (own1 : w1.ownsRow 0 48 4 v st'.length (rcs st')) : Tb K w1 t g v { T with st := st' } ∧ Touch (Blk t g v) w w1 := by
  have ht1 : w1.heap[t]? = w.heap[t]? := hg.block t H.tlt (fun e => H.tv e.symm)
  have hg1 : w1.heap[g]? = w.heap[g]? := hg.block g H.blt (fun e => H.gv e.symm)
  exact ⟨⟨fun i hi => hK.block (H.bk i hi) hg.size hg1, Nat.lt_of_lt_of_le H.blt hg.size, Nat.lt_of_lt_of_le H.tlt hg.size, (World.cell?_of_block (a := ⟨t, 0, none⟩) ht1).trans H.c0, (World.cell?_of_block (a := ⟨t, 1, none⟩) ht1).trans H.c1,
    (World.cell?_of_block (a := ⟨t, 2, none⟩) ht1).trans H.c2, fun j => (World.frozen?_of_block (a := ⟨t, j, none⟩) ht1).trans (H.f j), own1, H.tg, H.tv, H.gv⟩, Touch.of_grown hg (fun k e => .inr (.inr e.symm))⟩
theorem CT.inStash (H : CT w t g v T m) {st' : List Rt} (hg : w.grownBy w1 v.ownBlock) (own1 : w1.ownsRow 0 48 4 v st'.length (rcs st')) : CT w1 t g v { T with st := st' } m ∧ Touch (Blk t g v) w w1 := by
  have h := H.tb.inStash bk_bkt hg own1
  exact ⟨⟨h.1, (World.cell?_of_block (a := ⟨t, 3, none⟩) (hg.block t H.tb.tlt (fun e => H.tb.tv e.symm))).trans H.c3⟩, h.2⟩
/-- How many keys there are, written. -/
theorem CT.count (H : CT w t g v T m) (m' : Int) : CT (w.setCell ⟨t, 3, none⟩ (.int .i64 m')) t g v T m' ∧ Touch (Blk t g v) w (w.setCell ⟨t, 3, none⟩ (.int .i64 m')) := by
  have hb2 : ∀ k, k ≠ t → (w.setCell ⟨t, 3, none⟩ (.int .i64 m')).heap[k]? = w.heap[k]? := fun k hk => Below.heap_setCell w ⟨t, 3, none⟩ _ k (by simpa using hk)
  have hs2 : (w.setCell ⟨t, 3, none⟩ (.int .i64 m')).heap.size = w.heap.size := World.size_setCell _ _ _
  have ne : ∀ j, j ≠ 3 → (w.setCell ⟨t, 3, none⟩ (.int .i64 m')).cell? ⟨t, j, none⟩ = w.cell? ⟨t, j, none⟩ := fun j hj => by
    rw [World.cell?_setCell_other]
    intro e
    injection e with _ e2
    exact hj e2.symm
  have B := H.tb
  exact ⟨⟨⟨fun i hi => bk_bkt.block (B.bk i hi) (by rw [hs2]; exact Nat.le_refl _) (hb2 g (fun e => B.tg e.symm)), by rw [hs2]; exact B.blt, by rw [hs2]; exact B.tlt, (ne 0 (by decide)).trans B.c0, (ne 1 (by decide)).trans B.c1, (ne 2 (by decide)).trans B.c2, fun j => by rw [World.frozen?_setCell]; exact B.f j,
    own_block B.own (fun j e => hb2 j (fun e2 => B.tv (e2 ▸ e))), B.tg, B.tv, B.gv⟩, World.cell?_setCell_same _ _ _ H.c3⟩, ⟨rfl, rfl, rfl, by rw [hs2]; exact Nat.le_refl _, fun k _ hn => hb2 k (fun e => hn (.inl e))⟩⟩
end
/-- A hop is written in a row of routes. -/
theorem rcs_hop : ∀ (L : List Rt) (i : Nat) (h : i < L.length) (x : Int), (rcs L).set (i * 4 + 3) (.int .i64 x) = rcs (L.set i ⟨L[i].k, x⟩)
  | a :: L, 0, _, x => by
    show (rcell a ++ rcs L).set 3 _ = rcell ⟨a.k, x⟩ ++ rcs L
    rfl
  | a :: L, i + 1, h, x => by
    have ih := rcs_hop L i (by simpa using h) x
    show (rcell a ++ rcs L).set ((i + 1) * 4 + 3) _ = rcell a ++ rcs (L.set i ⟨(L[i]'(by simpa using h)).k, x⟩)
    rw [List.set_append_right _ _ (by simp [rcell]; omega), show (i + 1) * 4 + 3 - (rcell a).length = i * 4 + 3 by simp [rcell]; omega, ih]
theorem put_of_get {C : List Pl} {k : Ky} {v : Int} (h : (getC C k).isSome = true) : (putC C k v).isSome = true := by
  obtain ⟨i, hi, e, -⟩ := getC_some h
  rw [putC_hit e]; rfl
end Go.Proofs.Ytlglppfkpieabaa
