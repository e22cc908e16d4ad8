/-
  A table of buckets in memory: its struct, its row of buckets, its stash; what is kept of it while others are written, and what it is where one of its buckets is written. No condition but those that stand in each.
-/
import Derived.Test.YtcfioplbbbaeoaaW11
import Derived.Test.YtcfioplbbbaeoaaW5
import Derived.Test.YtcfioplbbbaeoaaM12d
set_option linter.unusedSimpArgs false
set_option linter.unusedVariables false
namespace Go.Proofs.Ytcfioplbbbaeoaa
open Go.RowKit Go.Sort M

/-- A kind of bucket of twenty cells: what is asked of it. -/
structure BK (K : World → Nat → Nat → List Pl → Prop) : Prop where
  lt : ∀ {w g o C}, K w g o C → g < w.heap.size
  turn : ∀ {w w' g o o' n C}, K w g o C → Turn w w' g o' n → (o + 20 ≤ o' ∨ o' + n ≤ o) → K w' g o C
  block : ∀ {w w' g o C}, K w g o C → w.heap.size ≤ w'.heap.size → w'.heap[g]? = w.heap[g]? → K w' g o C
theorem bk_bkt : BK Bkt where
  lt := Bkt.lt
  turn := fun H h hne => H.kept h (.inr hne)
  block := fun {w w' g o C} H hs hb => by
    have hc : ∀ x, w'.cell? ⟨g, x, none⟩ = w.cell? ⟨g, x, none⟩ ∧ w'.frozen? ⟨g, x, none⟩ = w.frozen? ⟨g, x, none⟩ := fun x => ⟨World.cell?_of_block (a := ⟨g, x, none⟩) hb, World.frozen?_of_block (a := ⟨g, x, none⟩) hb⟩
    exact ⟨H.four, Nat.lt_of_lt_of_le H.lt hs, fun i hi j u hu => (hc _).1.trans (H.cell i hi j u hu), fun j hj => (hc _).2.trans (H.free j hj)⟩
theorem bk_rbk : BK RBk where
  lt := RBk.lt
  turn := fun H h hne => H.apart h (.inr hne)
  block := fun {w w' g o C} H hs hb => H.kept hs fun x _ => ⟨World.cell?_of_block (a := ⟨g, o + x, none⟩) hb, World.frozen?_of_block (a := ⟨g, o + x, none⟩) hb⟩
/-- The blocks of a table. -/
def Blk (t g : Nat) (v : Value) (k : Nat) : Prop := k = t ∨ k = g ∨ v.ownBlock = some k
/-- A table: its struct in block t, its buckets in block g, its stash v. -/
structure Tb (K : World → Nat → Nat → List Pl → Prop) (w : World) (t g : Nat) (v : Value) (T : Tab) : Prop where
  bk : ∀ i, i < T.B.length → K w g (i * 20) (T.bk i)
  blt : g < w.heap.size
  tlt : t < w.heap.size
  c0 : w.cell? ⟨t, 0, none⟩ = some (.int .u64 (T.s : Int))
  c1 : w.cell? ⟨t, 1, none⟩ = some (.slice (some ⟨g, 0, none⟩) T.B.length T.B.length)
  c2 : w.cell? ⟨t, 2, none⟩ = some v
  f : ∀ j, w.frozen? ⟨t, j, none⟩ = false
  own : w.ownsRow 0 43 4 v T.st.length (rcs T.st)
  tg : t ≠ g
  tv : v.ownBlock ≠ some t
  gv : v.ownBlock ≠ some g
section
variable {K : World → Nat → Nat → List Pl → Prop} {w w' : World} {t g : Nat} {v : Value} {T : Tab}
theorem Tb.blk (H : Tb K w t g v T) : ∀ k, Blk t g v k → k < w.heap.size := by
  intro k h
  rcases h with rfl | rfl | h
  · exact H.tlt
  · exact H.blt
  · exact (H.own.lt k h).2
theorem own_block {w w' : World} {B n k : Nat} {e : TypeId} {v : Value} {xs : List Value} (h : w.ownsRow B e k v n xs) (hb : ∀ j, v.ownBlock = some j → w'.heap[j]? = w.heap[j]?) : w'.ownsRow B e k v n xs := by
  refine ⟨h.1, ?_⟩
  rcases h.2 with hx | ⟨g, cap, cur, rfl, hb2, hgg, rest⟩
  · exact .inl hx
  · exact .inr ⟨g, cap, cur, rfl, hb2, (hb g rfl).trans hgg, rest⟩
/-- Where its blocks are as they were. -/
theorem Tb.blocks (hK : BK K) (H : Tb K w t g v T) (hs : w.heap.size ≤ w'.heap.size) (hb : ∀ k, Blk t g v k → w'.heap[k]? = w.heap[k]?) : Tb K w' t g v T := by
  have ht := hb t (.inl rfl)
  have hg := hb g (.inr (.inl rfl))
  exact ⟨fun i hi => hK.block (H.bk i hi) hs hg, Nat.lt_of_lt_of_le H.blt hs, Nat.lt_of_lt_of_le H.tlt hs, (World.cell?_of_block (a := ⟨t, 0, none⟩) ht).trans H.c0, (World.cell?_of_block (a := ⟨t, 1, none⟩) ht).trans H.c1,
    (World.cell?_of_block (a := ⟨t, 2, none⟩) ht).trans H.c2, fun j => (World.frozen?_of_block (a := ⟨t, j, none⟩) ht).trans (H.f j), own_block H.own (fun j e => hb j (.inr (.inr e))), H.tg, H.tv, H.gv⟩
theorem Tb.below (hK : BK K) (H : Tb K w t g v T) (hb : Below w.heap.size w w') : Tb K w' t g v T := H.blocks hK hb.size fun k hk => hb.block k (H.blk k hk)
theorem Tb.touched (hK : BK K) (H : Tb K w t g v T) {S : Nat → Prop} (ht : Touch S w w') (hn : ∀ k, Blk t g v k → ¬ S k) : Tb K w' t g v T := H.blocks hK ht.size fun k hk => ht.block k (H.blk k hk) (hn k hk)
theorem Turn.touch {o n : Nat} {S : Nat → Prop} (h : Turn w w' g o n) (hS : S g) : Touch S w w' := Touch.of_grown h.grown fun k e => by injection e with e; exact e ▸ hS
theorem bk_set' (T : Tab) (i : Nat) (C : List Pl) (k : Nat) (hi : i < T.B.length) : (T.set i C).bk k = if k = i then C else T.bk k := bk_set T i hi C k
/-- One of its buckets is written. -/
theorem Tb.turn (hK : BK K) (H : Tb K w t g v T) {i : Nat} (hi : i < T.B.length) {C : List Pl} (h : Turn w w' g (i * 20) 20) (hC : K w' g (i * 20) C) : Tb K w' t g v (T.set i C) ∧ Touch (Blk t g v) w w' := by
  have ht : w'.heap[t]? = w.heap[t]? := h.grown.block t H.tlt (by intro e; injection e with e; exact H.tg e)
  refine ⟨⟨fun k hk => ?_, Nat.lt_of_lt_of_le H.blt h.grown.size, Nat.lt_of_lt_of_le H.tlt h.grown.size, (World.cell?_of_block (a := ⟨t, 0, none⟩) ht).trans H.c0, ?_, (World.cell?_of_block (a := ⟨t, 2, none⟩) ht).trans H.c2,
    fun j => (World.frozen?_of_block (a := ⟨t, j, none⟩) ht).trans (H.f j), own_block H.own (fun j e => h.grown.block j (H.own.lt j e).2 (fun e2 => H.gv (e.trans e2))), H.tg, H.tv, H.gv⟩, h.touch (.inr (.inl rfl))⟩
  · rw [set_len] at hk
    rw [bk_set T i hi]
    split
    · rename_i e; subst e; exact hC
    · rename_i e
      exact hK.turn (H.bk k hk) h (by omega)
  · rw [set_len]
    exact (World.cell?_of_block (a := ⟨t, 1, none⟩) ht).trans H.c1
end
/-- The program's table: with how many keys it says that there are. -/
structure CT (w : World) (t g : Nat) (v : Value) (T : Tab) (m : Int) : Prop where
  tb : Tb Bkt w t g v T
  c3 : w.cell? ⟨t, 3, none⟩ = some (.int .i64 m)
section
variable {w w' : World} {t g : Nat} {v : Value} {T : Tab} {m : Int}
theorem CT.blocks (H : CT w t g v T m) (hs : w.heap.size ≤ w'.heap.size) (hb : ∀ k, Blk t g v k → w'.heap[k]? = w.heap[k]?) : CT w' t g v T m :=
  ⟨H.tb.blocks bk_bkt hs hb, (World.cell?_of_block (a := ⟨t, 3, none⟩) (hb t (.inl rfl))).trans H.c3⟩
theorem CT.below (H : CT w t g v T m) (hb : Below w.heap.size w w') : CT w' t g v T m := H.blocks hb.size fun k hk => hb.block k (H.tb.blk k hk)
theorem CT.touched (H : CT w t g v T m) {S : Nat → Prop} (ht : Touch S w w') (hn : ∀ k, Blk t g v k → ¬ S k) : CT w' t g v T m := H.blocks ht.size fun k hk => ht.block k (H.tb.blk k hk) (hn k hk)
theorem CT.turn (H : CT w t g v T m) {i : Nat} (hi : i < T.B.length) {C : List Pl} (h : Turn w w' g (i * 20) 20) (hC : Bkt w' g (i * 20) C) : CT w' t g v (T.set i C) m ∧ Touch (Blk t g v) w w' := by
  have ht : w'.heap[t]? = w.heap[t]? := h.grown.block t H.tb.tlt (by intro e; injection e with e; exact H.tb.tg e)
  have := H.tb.turn bk_bkt hi h hC
  exact ⟨⟨this.1, (World.cell?_of_block (a := ⟨t, 3, none⟩) ht).trans H.c3⟩, this.2⟩
end
/-- A step of a table: it may lay new blocks, and write its own. -/
def CStep (w w' : World) (t g : Nat) (v : Value) (T' : Tab) (m' : Int) : Prop := ∃ g' v', CT w' t g' v' T' m' ∧ Touch (Blk t g v) w w' ∧ ∀ k, Blk t g' v' k → k < w.heap.size → Blk t g v k
def RStep (w w' : World) (t g : Nat) (v : Value) (T' : Tab) : Prop := ∃ g' v', Tb RBk w' t g' v' T' ∧ Touch (Blk t g v) w w' ∧ ∀ k, Blk t g' v' k → k < w.heap.size → Blk t g v k
theorem Touch.then {a b c : World} {t g g' : Nat} {v v' : Value} (h : Touch (Blk t g v) a b) (hs : ∀ k, Blk t g' v' k → k < a.heap.size → Blk t g v k) (k : Touch (Blk t g' v') b c) : Touch (Blk t g v) a c :=
  ⟨k.os.trans h.os, k.tape.trans h.tape, k.output.trans h.output, Nat.le_trans h.size k.size, fun i hi hn => (k.block i (Nat.lt_of_lt_of_le hi h.size) (fun x => hn (hs i x hi))).trans (h.block i hi hn)⟩
theorem CStep.trans {a b c : World} {t g g' : Nat} {v v' : Value} {T' : Tab} {m' : Int} (h : Touch (Blk t g v) a b) (hs : ∀ k, Blk t g' v' k → k < a.heap.size → Blk t g v k) (k : CStep b c t g' v' T' m') : CStep a c t g v T' m' := by
  obtain ⟨g2, v2, h1, h2, h3⟩ := k
  exact ⟨g2, v2, h1, h.then hs h2, fun k hk hl => hs k (h3 k hk (Nat.lt_of_lt_of_le hl h.size)) hl⟩
theorem RStep.trans {a b c : World} {t g g' : Nat} {v v' : Value} {T' : Tab} (h : Touch (Blk t g v) a b) (hs : ∀ k, Blk t g' v' k → k < a.heap.size → Blk t g v k) (k : RStep b c t g' v' T') : RStep a c t g v T' := by
  obtain ⟨g2, v2, h1, h2, h3⟩ := k
  exact ⟨g2, v2, h1, h.then hs h2, fun k hk hl => hs k (h3 k hk (Nat.lt_of_lt_of_le hl h.size)) hl⟩
theorem CStep.quiet {a b : World} {t g : Nat} {v : Value} {T : Tab} {m : Int} (H : CT a t g v T m) (h : Below a.heap.size a b) : CStep a b t g v T m := ⟨g, v, H.below h, Touch.quiet h, fun _ h _ => h⟩
theorem RStep.quiet {a b : World} {t g : Nat} {v : Value} {T : Tab} (H : Tb RBk a t g v T) (h : Below a.heap.size a b) : RStep a b t g v T := ⟨g, v, H.below bk_rbk h, Touch.quiet h, fun _ h _ => h⟩
theorem CStep.same {a b : World} {t g : Nat} {v : Value} {T : Tab} {m : Int} (H : CT b t g v T m) (h : Touch (Blk t g v) a b) : CStep a b t g v T m := ⟨g, v, H, h, fun _ h _ => h⟩
theorem RStep.same {a b : World} {t g : Nat} {v : Value} {T : Tab} (H : Tb RBk b t g v T) (h : Touch (Blk t g v) a b) : RStep a b t g v T := ⟨g, v, H, h, fun _ h _ => h⟩
end Go.Proofs.Ytcfioplbbbaeoaa
