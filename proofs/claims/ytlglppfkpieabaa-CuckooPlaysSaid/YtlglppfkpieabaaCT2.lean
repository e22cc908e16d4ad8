/-
  A table in memory where its stash is written, or is another one. No condition but those that stand in each.
-/
import Derived.Test.YtlglppfkpieabaaBkt
import Derived.Test.YtlglppfkpieabaaW5
import Derived.Test.YtlglppfkpieabaaRts
import Derived.Test.YtlglppfkpieabaaM12d
/-
  A table of buckets in memory: its struct, its row of buckets, its stash; what is kept of it while others are written, and what it is where one of its buckets is written. No condition but those that stand in each.
-/
set_option linter.unusedSimpArgs false
set_option linter.unusedVariables false
namespace Go.Proofs.Ytlglppfkpieabaa
open Go.RowKit Go.Sort M

/-- A kind of bucket of twenty cells: what is asked of it. -/
structure BK (K : World → Nat → Nat → List Pl → Prop) : Prop where
  lt : ∀ {w g o C}, K w g o C → g < w.heap.size
  turn : ∀ {w w' g o o' n C}, K w g o C → Turn w w' g o' n → (o + 20 ≤ o' ∨ o' + n ≤ o) → K w' g o C
  block : ∀ {w w' g o C}, K w g o C → w.heap.size ≤ w'.heap.size → w'.heap[g]? = w.heap[g]? → K w' g o C
theorem bk_bkt : BK Bkt where
  lt := Bkt.lt
  turn := fun H h hne => H.kept h (.inr hne)
  block := fun {w w' g o C} H hs hb => by
    have hc : ∀ x, w'.cell? ⟨g, x, none⟩ = w.cell? ⟨g, x, none⟩ ∧ w'.frozen? ⟨g, x, none⟩ = w.frozen? ⟨g, x, none⟩ := fun x => ⟨World.cell?_of_block (a := ⟨g, x, none⟩) hb, World.frozen?_of_block (a := ⟨g, x, none⟩) hb⟩
    exact ⟨H.four, Nat.lt_of_lt_of_le H.lt hs, fun i hi j u hu => (hc _).1.trans (H.cell i hi j u hu), fun j hj => (hc _).2.trans (H.free j hj)⟩
theorem bk_rbk : BK RBk where
  lt := RBk.lt
  turn := fun H h hne => H.apart h (.inr hne)
  block := fun {w w' g o C} H hs hb => H.kept hs fun x _ => ⟨World.cell?_of_block (a := ⟨g, o + x, none⟩) hb, World.frozen?_of_block (a := ⟨g, o + x, none⟩) hb⟩
/-- The blocks of a table. -/
def Blk (t g : Nat) (v : Value) (k : Nat) : Prop := k = t ∨ k = g ∨ v.ownBlock = some k
/-- A table: its struct in block t, its buckets in block g, its stash v. -/
structure Tb (K : World → Nat → Nat → List Pl → Prop) (w : World) (t g : Nat) (v : Value) (T : Tab) : Prop where
  bk : ∀ i, i < T.B.length → K w g (i * 20) (T.bk i)
  blt : g < w.heap.size
  tlt : t < w.heap.size
  c0 : w.cell? ⟨t, 0, none⟩ = some (.int .u64 (T.s : Int))
  c1 : w.cell? ⟨t, 1, none⟩ = some (.slice (some ⟨g, 0, none⟩) T.B.length T.B.length)
  c2 : w.cell? ⟨t, 2, none⟩ = some v
  f : ∀ j, w.frozen? ⟨t, j, none⟩ = false
  own : w.ownsRow 0 48 4 v T.st.length (rcs T.st)
  tg : t ≠ g
  tv : v.ownBlock ≠ some t
  gv : v.ownBlock ≠ some g
section
variable {K : World → Nat → Nat → List Pl → Prop} {w w' : World} {t g : Nat} {v : Value} {T : Tab}
theorem Tb.blk (H : Tb K w t g v T) : ∀ k, Blk t g v k → k < w.heap.size := by
  intro k h
  rcases h with rfl | rfl | h
  · exact H.tlt
  · exact H.blt
  · exact (H.own.lt k h).2
theorem own_block {w w' : World} {B n k : Nat} {e : TypeId} {v : Value} {xs : List Value} (h : w.ownsRow B e k v n xs) (hb : ∀ j, v.ownBlock = some j → w'.heap[j]? = w.heap[j]?) : w'.ownsRow B e k v n xs := by
  refine ⟨h.1, ?_⟩
  rcases h.2 with hx | ⟨g, cap, cur, rfl, hb2, hgg, rest⟩
  · exact .inl hx
  · exact .inr ⟨g, cap, cur, rfl, hb2, (hb g rfl).trans hgg, rest⟩
/-- Where its blocks are as they were. -/
theorem Tb.blocks (hK : BK K) (H : Tb K w t g v T) (hs : w.heap.size ≤ w'.heap.size) (hb : ∀ k, Blk t g v k → w'.heap[k]? = w.heap[k]?) : Tb K w' t g v T := by
  have ht := hb t (.inl rfl)
  have hg := hb g (.inr (.inl rfl))
  exact ⟨fun i hi => hK.block (H.bk i hi) hs hg, Nat.lt_of_lt_of_le H.blt hs, Nat.lt_of_lt_of_le H.tlt hs, (World.cell?_of_block (a := ⟨t, 0, none⟩) ht).trans H.c0, (World.cell?_of_block (a := ⟨t, 1, none⟩) ht).trans H.c1,
    (World.cell?_of_block (a := ⟨t, 2, none⟩) ht).trans H.c2, fun j => (World.frozen?_of_block (a := ⟨t, j, none⟩) ht).trans (H.f j), own_block H.own (fun j e => hb j (.inr (.inr e))), H.tg, H.tv, H.gv⟩
theorem Tb.below (hK : BK K) (H : Tb K w t g v T) (hb : Below w.heap.size w w') : Tb K w' t g v T := H.blocks hK hb.size fun k hk => hb.block k (H.blk k hk)
theorem Tb.touched (hK : BK K) (H : Tb K w t g v T) {S : Nat → Prop} (ht : Touch S w w') (hn : ∀ k, Blk t g v k → ¬ S k) : Tb K w' t g v T := H.blocks hK ht.size fun k hk => ht.block k (H.blk k hk) (hn k hk)
theorem Turn.touch {o n : Nat} {S : Nat → Prop} (h : Turn w w' g o n) (hS : S g) : Touch S w w' := Touch.of_grown h.grown fun k e => by injection e with e; exact e ▸ hS
theorem bk_set' (T : Tab) (i : Nat) (C : List Pl) (k : Nat) (hi : i < T.B.length) : (T.set i C).bk k = if k = i then C else T.bk k := bk_set T i hi C k
/-- One of its buckets is written. -/
theorem Tb.turn (hK : BK K) (H : Tb K w t g v T) {i : Nat} (hi : i < T.B.length) {C : List Pl} (h : Turn w w' g (i * 20) 20) (hC : K w' g (i * 20) C) : Tb K w' t g v (T.set i C) ∧ Touch (Blk t g v) w w' := by
  have ht : w'.heap[t]? = w.heap[t]? := h.grown.block t H.tlt (by intro e; injection e with e; exact H.tg e)
  refine ⟨⟨fun k hk => ?_, Nat.lt_of_lt_of_le H.blt h.grown.size, Nat.lt_of_lt_of_le H.tlt h.grown.size, (World.cell?_of_block (a := ⟨t, 0, none⟩) ht).trans H.c0, ?_, (World.cell?_of_block (a := ⟨t, 2, none⟩) ht).trans H.c2,
    fun j => (World.frozen?_of_block (a := ⟨t, j, none⟩) ht).trans (H.f j), own_block H.own (fun j e => h.grown.block j (H.own.lt j e).2 (fun e2 => H.gv (e.trans e2))), H.tg, H.tv, H.gv⟩, h.touch (.inr (.inl rfl))⟩
  · rw [set_len] at hk
    rw [bk_set T i hi]
    split
    · rename_i e; subst e; exact hC
    · rename_i e
      exact hK.turn (H.bk k hk) h (by omega)
  · rw [set_len]
    exact (World.cell?_of_block (a := ⟨t, 1, none⟩) ht).trans H.c1
end
/-- The program's table: with how many keys it says that there are. -/
structure CT (w : World) (t g : Nat) (v : Value) (T : Tab) (m : Int) : Prop where
  tb : Tb Bkt w t g v T
  c3 : w.cell? ⟨t, 3, none⟩ = some (.int .i64 m)
section
variable {w w' : World} {t g : Nat} {v : Value} {T : Tab} {m : Int}
theorem CT.blocks (H : CT w t g v T m) (hs : w.heap.size ≤ w'.heap.size) (hb : ∀ k, Blk t g v k → w'.heap[k]? = w.heap[k]?) : CT w' t g v T m :=
  ⟨H.tb.blocks bk_bkt hs hb, (World.cell?_of_block (a := ⟨t, 3, none⟩) (hb t (.inl rfl))).trans H.c3⟩
theorem CT.below (H : CT w t g v T m) (hb : Below w.heap.size w w') : CT w' t g v T m := H.blocks hb.size fun k hk => hb.block k (H.tb.blk k hk)
theorem CT.touched (H : CT w t g v T m) {S : Nat → Prop} (ht : Touch S w w') (hn : ∀ k, Blk t g v k → ¬ S k) : CT w' t g v T m := H.blocks ht.size fun k hk => ht.block k (H.tb.blk k hk) (hn k hk)
theorem CT.turn (H : CT w t g v T m) {i : Nat} (hi : i < T.B.length) {C : List Pl} (h : Turn w w' g (i * 20) 20) (hC : Bkt w' g (i * 20) C) : CT w' t g v (T.set i C) m ∧ Touch (Blk t g v) w w' := by
  have ht : w'.heap[t]? = w.heap[t]? := h.grown.block t H.tb.tlt (by intro e; injection e with e; exact H.tb.tg e)
  have := H.tb.turn bk_bkt hi h hC
  exact ⟨⟨this.1, (World.cell?_of_block (a := ⟨t, 3, none⟩) ht).trans H.c3⟩, this.2⟩
end
/-- A step of a table: it may lay new blocks, and write its own. -/
def CStep (w w' : World) (t g : Nat) (v : Value) (T' : Tab) (m' : Int) : Prop := ∃ g' v', CT w' t g' v' T' m' ∧ Touch (Blk t g v) w w' ∧ ∀ k, Blk t g' v' k → k < w.heap.size → Blk t g v k
def RStep (w w' : World) (t g : Nat) (v : Value) (T' : Tab) : Prop := ∃ g' v', Tb RBk w' t g' v' T' ∧ Touch (Blk t g v) w w' ∧ ∀ k, Blk t g' v' k → k < w.heap.size → Blk t g v k
theorem Touch.then {a b c : World} {t g g' : Nat} {v v' : Value} (h : Touch (Blk t g v) a b) (hs : ∀ k, Blk t g' v' k → k < a.heap.size → Blk t g v k) (k : Touch (Blk t g' v') b c) : Touch (Blk t g v) a c :=
  ⟨k.os.trans h.os, k.tape.trans h.tape, k.output.trans h.output, Nat.le_trans h.size k.size, fun i hi hn => (k.block i (Nat.lt_of_lt_of_le hi h.size) (fun x => hn (hs i x hi))).trans (h.block i hi hn)⟩
theorem CStep.trans {a b c : World} {t g g' : Nat} {v v' : Value} {T' : Tab} {m' : Int} (h : Touch (Blk t g v) a b) (hs : ∀ k, Blk t g' v' k → k < a.heap.size → Blk t g v k) (k : CStep b c t g' v' T' m') : CStep a c t g v T' m' := by
  obtain ⟨g2, v2, h1, h2, h3⟩ := k
  exact ⟨g2, v2, h1, h.then hs h2, fun k hk hl => hs k (h3 k hk (Nat.lt_of_lt_of_le hl h.size)) hl⟩
theorem RStep.trans {a b c : World} {t g g' : Nat} {v v' : Value} {T' : Tab} (h : Touch (Blk t g v) a b) (hs : ∀ k, Blk t g' v' k → k < a.heap.size → Blk t g v k) (k : RStep b c t g' v' T') : RStep a c t g v T' := by
  obtain ⟨g2, v2, h1, h2, h3⟩ := k
  exact ⟨g2, v2, h1, h.then hs h2, fun k hk hl => hs k (h3 k hk (Nat.lt_of_lt_of_le hl h.size)) hl⟩
theorem CStep.quiet {a b : World} {t g : Nat} {v : Value} {T : Tab} {m : Int} (H : CT a t g v T m) (h : Below a.heap.size a b) : CStep a b t g v T m := ⟨g, v, H.below h, Touch.quiet h, fun _ h _ => h⟩
theorem RStep.quiet {a b : World} {t g : Nat} {v : Value} {T : Tab} (H : Tb RBk a t g v T) (h : Below a.heap.size a b) : RStep a b t g v T := ⟨g, v, H.below bk_rbk h, Touch.quiet h, fun _ h _ => h⟩
theorem CStep.same {a b : World} {t g : Nat} {v : Value} {T : Tab} {m : Int} (H : CT b t g v T m) (h : Touch (Blk t g v) a b) : CStep a b t g v T m := ⟨g, v, H, h, fun _ h _ => h⟩
theorem RStep.same {a b : World} {t g : Nat} {v : Value} {T : Tab} (H : Tb RBk b t g v T) (h : Touch (Blk t g v) a b) : RStep a b t g v T := ⟨g, v, H, h, fun _ h _ => h⟩
end Go.Proofs.Ytlglppfkpieabaa
/-
  A table in memory where its stash is written, or is another one. No condition but those that stand in each.
-/
set_option linter.unusedSimpArgs false
set_option linter.unusedVariables false
namespace Go.Proofs.Ytlglppfkpieabaa
open Go.RowKit Go.Sort M

section
variable {K : World → Nat → Nat → List Pl → Prop} {w w1 : World} {t g : Nat} {v v' : Value} {T : Tab} {m : Int}
/-- All but the stash's block is as it was, and the struct's third cell. -/
theorem Tb.newStash (hK : BK K) (H : Tb K w t g v T) {st' : List Rt} (hg : w.grownBy w1 v.ownBlock) (own1 : w1.ownsRow 0 48 4 v' st'.length (rcs st')) (hat : v'.ownBlock = v.ownBlock ∨ ∃ k, v'.ownBlock = some k ∧ w.heap.size ≤ k) :
    Tb K (w1.setCell ⟨t, 2, none⟩ v') t g v' { T with st := st' } ∧ Touch (Blk t g v) w (w1.setCell ⟨t, 2, none⟩ v') ∧ ∀ k, Blk t g v' k → k < w.heap.size → Blk t g v k := by
  have ht1 : w1.heap[t]? = w.heap[t]? := hg.block t H.tlt (fun e => H.tv e.symm)
  have hg1 : w1.heap[g]? = w.heap[g]? := hg.block g H.blt (fun e => H.gv e.symm)
  have hb2 : ∀ k, k ≠ t → (w1.setCell ⟨t, 2, none⟩ v').heap[k]? = w1.heap[k]? := fun k hk => Below.heap_setCell w1 ⟨t, 2, none⟩ v' k (by simpa using hk)
  have hs2 : (w1.setCell ⟨t, 2, none⟩ v').heap.size = w1.heap.size := World.size_setCell _ _ _
  have c0 := (World.cell?_of_block (a := ⟨t, 0, none⟩) ht1).trans H.c0
  have c1 := (World.cell?_of_block (a := ⟨t, 1, none⟩) ht1).trans H.c1
  have c2 := (World.cell?_of_block (a := ⟨t, 2, none⟩) ht1).trans H.c2
  have ne : ∀ j, j ≠ 2 → (w1.setCell ⟨t, 2, none⟩ v').cell? ⟨t, j, none⟩ = w1.cell? ⟨t, j, none⟩ := fun j hj => by
    rw [World.cell?_setCell_other]
    intro e
    injection e with _ e2
    exact hj e2.symm
  have hvt : v'.ownBlock ≠ some t := by
    rcases hat with e | ⟨k, e, hk⟩
    · rw [e]; exact H.tv
    · rw [e]; intro e2; injection e2 with e2; have := H.tlt; omega
  have hvg : v'.ownBlock ≠ some g := by
    rcases hat with e | ⟨k, e, hk⟩
    · rw [e]; exact H.gv
    · rw [e]; intro e2; injection e2 with e2; have := H.blt; omega
  refine ⟨⟨fun i hi => hK.block (H.bk i hi) (by rw [hs2]; exact hg.size) ((hb2 g (fun e => H.tg e.symm)).trans hg1), by rw [hs2]; exact Nat.lt_of_lt_of_le H.blt hg.size, by rw [hs2]; exact Nat.lt_of_lt_of_le H.tlt hg.size,
    (ne 0 (by decide)).trans c0, (ne 1 (by decide)).trans c1, World.cell?_setCell_same _ _ _ c2, fun j => by rw [World.frozen?_setCell, World.frozen?_of_block (a := ⟨t, j, none⟩) ht1]; exact H.f j,
    own_block own1 (fun j e => hb2 j (fun e2 => hvt (e2 ▸ e))), H.tg, hvt, hvg⟩, ⟨hg.os, hg.tape, hg.output, by rw [hs2]; exact hg.size, fun k hk hn => ?_⟩, fun k hk hl => ?_⟩
  · rw [hb2 k (fun e => hn (.inl e))]
    exact hg.block k hk (fun e => hn (.inr (.inr e.symm)))
  · rcases hk with e | e | e
    · exact .inl e
    · exact .inr (.inl e)
    · rcases hat with e2 | ⟨j, e2, hj⟩
      · exact .inr (.inr (e2 ▸ e))
      · rw [e2] at e
        injection e with e
        omega
theorem CT.newStash (H : CT w t g v T m) {st' : List Rt} (hg : w.grownBy w1 v.ownBlock) (own1 : w1.ownsRow 0 48 4 v' st'.length (rcs st')) (hat : v'.ownBlock = v.ownBlock ∨ ∃ k, v'.ownBlock = some k ∧ w.heap.size ≤ k) :
    CT (w1.setCell ⟨t, 2, none⟩ v') t g v' { T with st := st' } m ∧ Touch (Blk t g v) w (w1.setCell ⟨t, 2, none⟩ v') ∧ ∀ k, Blk t g v' k → k < w.heap.size → Blk t g v k := by
  have h := H.tb.newStash bk_bkt hg own1 hat
  have ht1 : w1.heap[t]? = w.heap[t]? := hg.block t H.tb.tlt (fun e => H.tb.tv e.symm)
  refine ⟨⟨h.1, ?_⟩, h.2⟩
  rw [World.cell?_setCell_other]
  · exact (World.cell?_of_block (a := ⟨t, 3, none⟩) ht1).trans H.c3
  · intro e
    injection e with _ e2
    exact absurd e2 (by decide)
/-- The stash is written in place. -/
theorem Tb.inStash (hK : BK K) (H : Tb K w t g v T) {st' : List Rt} (hg : w.grownBy w1 v.ownBlock) (own1 : w1.ownsRow 0 48 4 v st'.length (rcs st')) : Tb K w1 t g v { T with st := st' } ∧ Touch (Blk t g v) w w1 := by
  have ht1 : w1.heap[t]? = w.heap[t]? := hg.block t H.tlt (fun e => H.tv e.symm)
  have hg1 : w1.heap[g]? = w.heap[g]? := hg.block g H.blt (fun e => H.gv e.symm)
  exact ⟨⟨fun i hi => hK.block (H.bk i hi) hg.size hg1, Nat.lt_of_lt_of_le H.blt hg.size, Nat.lt_of_lt_of_le H.tlt hg.size, (World.cell?_of_block (a := ⟨t, 0, none⟩) ht1).trans H.c0, (World.cell?_of_block (a := ⟨t, 1, none⟩) ht1).trans H.c1,
    (World.cell?_of_block (a := ⟨t, 2, none⟩) ht1).trans H.c2, fun j => (World.frozen?_of_block (a := ⟨t, j, none⟩) ht1).trans (H.f j), own1, H.tg, H.tv, H.gv⟩, Touch.of_grown hg (fun k e => .inr (.inr e.symm))⟩
theorem CT.inStash (H : CT w t g v T m) {st' : List Rt} (hg : w.grownBy w1 v.ownBlock) (own1 : w1.ownsRow 0 48 4 v st'.length (rcs st')) : CT w1 t g v { T with st := st' } m ∧ Touch (Blk t g v) w w1 := by
  have h := H.tb.inStash bk_bkt hg own1
  exact ⟨⟨h.1, (World.cell?_of_block (a := ⟨t, 3, none⟩) (hg.block t H.tb.tlt (fun e => H.tb.tv e.symm))).trans H.c3⟩, h.2⟩
/-- How many keys there are, written. -/
theorem CT.count (H : CT w t g v T m) (m' : Int) : CT (w.setCell ⟨t, 3, none⟩ (.int .i64 m')) t g v T m' ∧ Touch (Blk t g v) w (w.setCell ⟨t, 3, none⟩ (.int .i64 m')) := by
  have hb2 : ∀ k, k ≠ t → (w.setCell ⟨t, 3, none⟩ (.int .i64 m')).heap[k]? = w.heap[k]? := fun k hk => Below.heap_setCell w ⟨t, 3, none⟩ _ k (by simpa using hk)
  have hs2 : (w.setCell ⟨t, 3, none⟩ (.int .i64 m')).heap.size = w.heap.size := World.size_setCell _ _ _
  have ne : ∀ j, j ≠ 3 → (w.setCell ⟨t, 3, none⟩ (.int .i64 m')).cell? ⟨t, j, none⟩ = w.cell? ⟨t, j, none⟩ := fun j hj => by
    rw [World.cell?_setCell_other]
    intro e
    injection e with _ e2
    exact hj e2.symm
  have B := H.tb
  exact ⟨⟨⟨fun i hi => bk_bkt.block (B.bk i hi) (by rw [hs2]; exact Nat.le_refl _) (hb2 g (fun e => B.tg e.symm)), by rw [hs2]; exact B.blt, by rw [hs2]; exact B.tlt, (ne 0 (by decide)).trans B.c0, (ne 1 (by decide)).trans B.c1, (ne 2 (by decide)).trans B.c2, fun j => by rw [World.frozen?_setCell]; exact B.f j,
    own_block B.own (fun j e => hb2 j (fun e2 => B.tv (e2 ▸ e))), B.tg, B.tv, B.gv⟩, World.cell?_setCell_same _ _ _ H.c3⟩, ⟨rfl, rfl, rfl, by rw [hs2]; exact Nat.le_refl _, fun k _ hn => hb2 k (fun e => hn (.inl e))⟩⟩
end
/-- A hop is written in a row of routes. -/
theorem rcs_hop : ∀ (L : List Rt) (i : Nat) (h : i < L.length) (x : Int), (rcs L).set (i * 4 + 3) (.int .i64 x) = rcs (L.set i ⟨L[i].k, x⟩)
  | a :: L, 0, _, x => by
    show (rcell a ++ rcs L).set 3 _ = rcell ⟨a.k, x⟩ ++ rcs L
    rfl
  | a :: L, i + 1, h, x => by
    have ih := rcs_hop L i (by simpa using h) x
    show (rcell a ++ rcs L).set ((i + 1) * 4 + 3) _ = rcell a ++ rcs (L.set i ⟨(L[i]'(by simpa using h)).k, x⟩)
    rw [List.set_append_right _ _ (by simp [rcell]; omega), show (i + 1) * 4 + 3 - (rcell a).length = i * 4 + 3 by simp [rcell]; omega, ih]
theorem put_of_get {C : List Pl} {k : Ky} {v : Int} (h : (getC C k).isSome = true) : (putC C k v).isSome = true := by
  obtain ⟨i, hi, e, -⟩ := getC_some h
  rw [putC_hit e]; rfl
end Go.Proofs.Ytlglppfkpieabaa
