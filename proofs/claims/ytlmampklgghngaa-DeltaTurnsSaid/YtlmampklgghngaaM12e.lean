/-
  Plain mathematics of a stash, a row of routes in order: where a key lies in it, what it is with one more, with one turned, with one less. No condition but those that stand in each.
-/
import Derived.Test.YtlmampklgghngaaRow
import Derived.Test.YtlmampklgghngaaRBkt
import Derived.Test.YtlmampklgghngaaRts
import Derived.Test.YtlmampklgghngaaLtR
import Derived.Test.YtlmampklgghngaaShelf
import Derived.Test.YtlmampklgghngaaM12b
/-
  What is kept of old memory where some blocks may be written: a set of blocks aside, all is as it was. No condition but those that stand in each.
-/
set_option linter.unusedSimpArgs false
set_option linter.unusedVariables false
namespace Go.Proofs.Ytlmampklgghngaa
open Go.RowKit Go.Sort M

/-- The blocks of S aside, all old memory is as it was. -/
structure Touch (S : Nat → Prop) (w w' : World) : Prop where
  os : w'.os = w.os
  tape : w'.tape = w.tape
  output : w'.output = w.output
  size : w.heap.size ≤ w'.heap.size
  block : ∀ k, k < w.heap.size → ¬ S k → w'.heap[k]? = w.heap[k]?
/-- The blocks from lo on, below hi. -/
def In (lo hi : Nat) (k : Nat) : Prop := lo ≤ k ∧ k < hi
section
variable {S T : Nat → Prop} {a b c : World}
theorem Touch.refl (S : Nat → Prop) (w : World) : Touch S w w := ⟨rfl, rfl, rfl, Nat.le_refl _, fun _ _ _ => rfl⟩
theorem Touch.trans (h : Touch S a b) (k : Touch S b c) : Touch S a c :=
  ⟨k.os.trans h.os, k.tape.trans h.tape, k.output.trans h.output, Nat.le_trans h.size k.size, fun i hi hn => (k.block i (Nat.lt_of_lt_of_le hi h.size) hn).trans (h.block i hi hn)⟩
theorem Touch.mono (h : Touch S a b) (hs : ∀ k, k < a.heap.size → S k → T k) : Touch T a b :=
  ⟨h.os, h.tape, h.output, h.size, fun i hi hn => h.block i hi (fun x => hn (hs i hi x))⟩
theorem Touch.of_grown {row : Option Nat} (h : a.grownBy b row) (hs : ∀ k, some k = row → S k) : Touch S a b :=
  ⟨h.os, h.tape, h.output, h.size, fun i hi hn => h.block i hi (fun e => hn (hs i e))⟩
theorem Touch.of_below {B : Nat} (h : Below B a b) (hs : ∀ k, k < a.heap.size → B ≤ k → S k) : Touch S a b :=
  ⟨h.os, h.tape, h.output, h.size, fun i hi hn => h.block i (by
    by_cases e : B ≤ i
    · exact absurd (hs i hi e) hn
    · omega)⟩
theorem Touch.quiet (h : Below a.heap.size a b) : Touch S a b := Touch.of_below h (fun k h1 h2 => absurd h1 (by omega))
theorem Touch.below {B : Nat} (h : Touch S a b) (hB : B ≤ a.heap.size) (hs : ∀ k, S k → B ≤ k) : Below B a b :=
  ⟨h.os, h.tape, h.output, h.size, fun i hi => h.block i (by omega) (fun x => by have := hs i x; omega)⟩
theorem Touch.cell (h : Touch S a b) {p : Addr} {v : Value} (hc : a.cell? p = some v) (hn : ¬ S p.block) : b.cell? p = some v :=
  (World.cell?_of_block (h.block p.block (World.block_lt_of_cell? a p hc) hn)).trans hc
theorem Touch.own {B n k : Nat} {e : TypeId} {v : Value} {xs : List Value} (h : a.ownsRow B e k v n xs) (ht : Touch S a b) (hn : ∀ j, v.ownBlock = some j → ¬ S j) : b.ownsRow B e k v n xs := by
  refine ⟨h.1, ?_⟩
  rcases h.2 with hx | ⟨g, cap, cur, rfl, hb, hgg, rest⟩
  · exact .inl hx
  · refine .inr ⟨g, cap, cur, rfl, hb, ?_, rest⟩
    rw [ht.block g (Array.getElem?_eq_some_iff.1 hgg).1 (hn g rfl)]
    exact hgg
end
end Go.Proofs.Ytlmampklgghngaa
/-
  A table of buckets in memory: its struct, its row of buckets, its stash; what is kept of it while others are written, and what it is where one of its buckets is written. No condition but those that stand in each.
-/
set_option linter.unusedSimpArgs false
set_option linter.unusedVariables false
namespace Go.Proofs.Ytlmampklgghngaa
open Go.RowKit Go.Sort M

/-- A kind of bucket of twenty cells: what is asked of it. -/
structure BK (K : World → Nat → Nat → List Pl → Prop) : Prop where
  lt : ∀ {w g o C}, K w g o C → g < w.heap.size
  turn : ∀ {w w' g o o' n C}, K w g o C → Turn w w' g o' n → (o + 20 ≤ o' ∨ o' + n ≤ o) → K w' g o C
  block : ∀ {w w' g o C}, K w g o C → w.heap.size ≤ w'.heap.size → w'.heap[g]? = w.heap[g]? → K w' g o C
theorem bk_bkt : BK Bkt where
  lt := Bkt.lt
  turn := fun H h hne => H.kept h (.inr hne)
  block := fun {w w' g o C} H hs hb => by
    have hc : ∀ x, w'.cell? ⟨g, x, none⟩ = w.cell? ⟨g, x, none⟩ ∧ w'.frozen? ⟨g, x, none⟩ = w.frozen? ⟨g, x, none⟩ := fun x => ⟨World.cell?_of_block (a := ⟨g, x, none⟩) hb, World.frozen?_of_block (a := ⟨g, x, none⟩) hb⟩
    exact ⟨H.four, Nat.lt_of_lt_of_le H.lt hs, fun i hi j u hu => (hc _).1.trans (H.cell i hi j u hu), fun j hj => (hc _).2.trans (H.free j hj)⟩
theorem bk_rbk : BK RBk where
  lt := RBk.lt
  turn := fun H h hne => H.apart h (.inr hne)
  block := fun {w w' g o C} H hs hb => H.kept hs fun x _ => ⟨World.cell?_of_block (a := ⟨g, o + x, none⟩) hb, World.frozen?_of_block (a := ⟨g, o + x, none⟩) hb⟩
/-- The blocks of a table. -/
def Blk (t g : Nat) (v : Value) (k : Nat) : Prop := k = t ∨ k = g ∨ v.ownBlock = some k
/-- A table: its struct in block t, its buckets in block g, its stash v. -/
structure Tb (K : World → Nat → Nat → List Pl → Prop) (w : World) (t g : Nat) (v : Value) (T : Tab) : Prop where
  bk : ∀ i, i < T.B.length → K w g (i * 20) (T.bk i)
  blt : g < w.heap.size
  tlt : t < w.heap.size
  c0 : w.cell? ⟨t, 0, none⟩ = some (.int .u64 (T.s : Int))
  c1 : w.cell? ⟨t, 1, none⟩ = some (.slice (some ⟨g, 0, none⟩) T.B.length T.B.length)
  c2 : w.cell? ⟨t, 2, none⟩ = some v
  f : ∀ j, w.frozen? ⟨t, j, none⟩ = false
  own : w.ownsRow 0 38 4 v T.st.length (rcs T.st)
  tg : t ≠ g
  tv : v.ownBlock ≠ some t
  gv : v.ownBlock ≠ some g
section
variable {K : World → Nat → Nat → List Pl → Prop} {w w' : World} {t g : Nat} {v : Value} {T : Tab}
theorem Tb.blk (H : Tb K w t g v T) : ∀ k, Blk t g v k → k < w.heap.size := by
  intro k h
  rcases h with rfl | rfl | h
  · exact H.tlt
  · exact H.blt
  · exact (H.own.lt k h).2
theorem own_block {w w' : World} {B n k : Nat} {e : TypeId} {v : Value} {xs : List Value} (h : w.ownsRow B e k v n xs) (hb : ∀ j, v.ownBlock = some j → w'.heap[j]? = w.heap[j]?) : w'.ownsRow B e k v n xs := by
  refine ⟨h.1, ?_⟩
  rcases h.2 with hx | ⟨g, cap, cur, rfl, hb2, hgg, rest⟩
  · exact .inl hx
  · exact .inr ⟨g, cap, cur, rfl, hb2, (hb g rfl).trans hgg, rest⟩
/-- Where its blocks are as they were. -/
theorem Tb.blocks (hK : BK K) (H : Tb K w t g v T) (hs : w.heap.size ≤ w'.heap.size) (hb : ∀ k, Blk t g v k → w'.heap[k]? = w.heap[k]?) : Tb K w' t g v T := by
  have ht := hb t (.inl rfl)
  have hg := hb g (.inr (.inl rfl))
  exact ⟨fun i hi => hK.block (H.bk i hi) hs hg, Nat.lt_of_lt_of_le H.blt hs, Nat.lt_of_lt_of_le H.tlt hs, (World.cell?_of_block (a := ⟨t, 0, none⟩) ht).trans H.c0, (World.cell?_of_block (a := ⟨t, 1, none⟩) ht).trans H.c1,
    (World.cell?_of_block (a := ⟨t, 2, none⟩) ht).trans H.c2, fun j => (World.frozen?_of_block (a := ⟨t, j, none⟩) ht).trans (H.f j), own_block H.own (fun j e => hb j (.inr (.inr e))), H.tg, H.tv, H.gv⟩
theorem Tb.below (hK : BK K) (H : Tb K w t g v T) (hb : Below w.heap.size w w') : Tb K w' t g v T := H.blocks hK hb.size fun k hk => hb.block k (H.blk k hk)
theorem Tb.touched (hK : BK K) (H : Tb K w t g v T) {S : Nat → Prop} (ht : Touch S w w') (hn : ∀ k, Blk t g v k → ¬ S k) : Tb K w' t g v T := H.blocks hK ht.size fun k hk => ht.block k (H.blk k hk) (hn k hk)
theorem Turn.touch {o n : Nat} {S : Nat → Prop} (h : Turn w w' g o n) (hS : S g) : Touch S w w' := Touch.of_grown h.grown fun k e => by injection e with e; exact e ▸ hS
theorem bk_set' (T : Tab) (i : Nat) (C : List Pl) (k : Nat) (hi : i < T.B.length) : (T.set i C).bk k = if k = i then C else T.bk k := bk_set T i hi C k
/-- One of its buckets is written. -/
theorem Tb.turn (hK : BK K) (H : Tb K w t g v T) {i : Nat} (hi : i < T.B.length) {C : List Pl} (h : Turn w w' g (i * 20) 20) (hC : K w' g (i * 20) C) : Tb K w' t g v (T.set i C) ∧ Touch (Blk t g v) w w' := by
  have ht : w'.heap[t]? = w.heap[t]? := h.grown.block t H.tlt (by intro e; injection e with e; exact H.tg e)
  refine ⟨⟨fun k hk => ?_, Nat.lt_of_lt_of_le H.blt h.grown.size, Nat.lt_of_lt_of_le H.tlt h.grown.size, (World.cell?_of_block (a := ⟨t, 0, none⟩) ht).trans H.c0, ?_, (World.cell?_of_block (a := ⟨t, 2, none⟩) ht).trans H.c2,
    fun j => (World.frozen?_of_block (a := ⟨t, j, none⟩) ht).trans (H.f j), own_block H.own (fun j e => h.grown.block j (H.own.lt j e).2 (fun e2 => H.gv (e.trans e2))), H.tg, H.tv, H.gv⟩, h.touch (.inr (.inl rfl))⟩
  · rw [set_len] at hk
    rw [bk_set T i hi]
    split
    · rename_i e; subst e; exact hC
    · rename_i e
      exact hK.turn (H.bk k hk) h (by omega)
  · rw [set_len]
    exact (World.cell?_of_block (a := ⟨t, 1, none⟩) ht).trans H.c1
end
/-- The program's table: with how many keys it says that there are. -/
structure CT (w : World) (t g : Nat) (v : Value) (T : Tab) (m : Int) : Prop where
  tb : Tb Bkt w t g v T
  c3 : w.cell? ⟨t, 3, none⟩ = some (.int .i64 m)
section
variable {w w' : World} {t g : Nat} {v : Value} {T : Tab} {m : Int}
theorem CT.blocks (H : CT w t g v T m) (hs : w.heap.size ≤ w'.heap.size) (hb : ∀ k, Blk t g v k → w'.heap[k]? = w.heap[k]?) : CT w' t g v T m :=
  ⟨H.tb.blocks bk_bkt hs hb, (World.cell?_of_block (a := ⟨t, 3, none⟩) (hb t (.inl rfl))).trans H.c3⟩
theorem CT.below (H : CT w t g v T m) (hb : Below w.heap.size w w') : CT w' t g v T m := H.blocks hb.size fun k hk => hb.block k (H.tb.blk k hk)
theorem CT.touched (H : CT w t g v T m) {S : Nat → Prop} (ht : Touch S w w') (hn : ∀ k, Blk t g v k → ¬ S k) : CT w' t g v T m := H.blocks ht.size fun k hk => ht.block k (H.tb.blk k hk) (hn k hk)
theorem CT.turn (H : CT w t g v T m) {i : Nat} (hi : i < T.B.length) {C : List Pl} (h : Turn w w' g (i * 20) 20) (hC : Bkt w' g (i * 20) C) : CT w' t g v (T.set i C) m ∧ Touch (Blk t g v) w w' := by
  have ht : w'.heap[t]? = w.heap[t]? := h.grown.block t H.tb.tlt (by intro e; injection e with e; exact H.tb.tg e)
  have := H.tb.turn bk_bkt hi h hC
  exact ⟨⟨this.1, (World.cell?_of_block (a := ⟨t, 3, none⟩) ht).trans H.c3⟩, this.2⟩
end
/-- A step of a table: it may lay new blocks, and write its own. -/
def CStep (w w' : World) (t g : Nat) (v : Value) (T' : Tab) (m' : Int) : Prop := ∃ g' v', CT w' t g' v' T' m' ∧ Touch (Blk t g v) w w' ∧ ∀ k, Blk t g' v' k → k < w.heap.size → Blk t g v k
def RStep (w w' : World) (t g : Nat) (v : Value) (T' : Tab) : Prop := ∃ g' v', Tb RBk w' t g' v' T' ∧ Touch (Blk t g v) w w' ∧ ∀ k, Blk t g' v' k → k < w.heap.size → Blk t g v k
theorem Touch.then {a b c : World} {t g g' : Nat} {v v' : Value} (h : Touch (Blk t g v) a b) (hs : ∀ k, Blk t g' v' k → k < a.heap.size → Blk t g v k) (k : Touch (Blk t g' v') b c) : Touch (Blk t g v) a c :=
  ⟨k.os.trans h.os, k.tape.trans h.tape, k.output.trans h.output, Nat.le_trans h.size k.size, fun i hi hn => (k.block i (Nat.lt_of_lt_of_le hi h.size) (fun x => hn (hs i x hi))).trans (h.block i hi hn)⟩
theorem CStep.trans {a b c : World} {t g g' : Nat} {v v' : Value} {T' : Tab} {m' : Int} (h : Touch (Blk t g v) a b) (hs : ∀ k, Blk t g' v' k → k < a.heap.size → Blk t g v k) (k : CStep b c t g' v' T' m') : CStep a c t g v T' m' := by
  obtain ⟨g2, v2, h1, h2, h3⟩ := k
  exact ⟨g2, v2, h1, h.then hs h2, fun k hk hl => hs k (h3 k hk (Nat.lt_of_lt_of_le hl h.size)) hl⟩
theorem RStep.trans {a b c : World} {t g g' : Nat} {v v' : Value} {T' : Tab} (h : Touch (Blk t g v) a b) (hs : ∀ k, Blk t g' v' k → k < a.heap.size → Blk t g v k) (k : RStep b c t g' v' T') : RStep a c t g v T' := by
  obtain ⟨g2, v2, h1, h2, h3⟩ := k
  exact ⟨g2, v2, h1, h.then hs h2, fun k hk hl => hs k (h3 k hk (Nat.lt_of_lt_of_le hl h.size)) hl⟩
theorem CStep.quiet {a b : World} {t g : Nat} {v : Value} {T : Tab} {m : Int} (H : CT a t g v T m) (h : Below a.heap.size a b) : CStep a b t g v T m := ⟨g, v, H.below h, Touch.quiet h, fun _ h _ => h⟩
theorem RStep.quiet {a b : World} {t g : Nat} {v : Value} {T : Tab} (H : Tb RBk a t g v T) (h : Below a.heap.size a b) : RStep a b t g v T := ⟨g, v, H.below bk_rbk h, Touch.quiet h, fun _ h _ => h⟩
theorem CStep.same {a b : World} {t g : Nat} {v : Value} {T : Tab} {m : Int} (H : CT b t g v T m) (h : Touch (Blk t g v) a b) : CStep a b t g v T m := ⟨g, v, H, h, fun _ h _ => h⟩
theorem RStep.same {a b : World} {t g : Nat} {v : Value} {T : Tab} (H : Tb RBk b t g v T) (h : Touch (Blk t g v) a b) : RStep a b t g v T := ⟨g, v, H, h, fun _ h _ => h⟩
end Go.Proofs.Ytlmampklgghngaa
/-
  What package pick hands back: the place of a number, the two buckets of a prefix. No condition but that the words are words of 64 bits, and that the count of places is a whole number of 64 bits.
-/
set_option linter.unusedSimpArgs false
set_option linter.unusedVariables false
namespace Go.Proofs.Ytlmampklgghngaa
open Go.RowKit Go.Sort M

end Go.Proofs.Ytlmampklgghngaa
/-
  What the small calls of a table hand back: none, two, other, Len, Size. No condition but that its cells lie in memory, that it has from one to 65536 buckets, and that words are words of 64 bits.
-/
set_option linter.unusedSimpArgs false
set_option linter.unusedVariables false
namespace Go.Proofs.Ytlmampklgghngaa
open Go.RowKit Go.Sort M

/-- What a walk asks of a table's numbers. -/
structure Num (T : Tab) : Prop where
  lo : 1 ≤ T.B.length
  hi : T.B.length ≤ 65536
  word : W64 T.s
theorem Inv.num {T : Tab} (H : Inv T) : Num T := ⟨H.lo, H.hi, H.word⟩
theorem Num.x1_lt {T : Tab} (H : Num T) (k : Ky) : T.x1 k < T.B.length := b1_lt H.lo
theorem Num.x2_lt {T : Tab} (H : Num T) (k : Ky) : T.x2 k < T.B.length := b2_lt H.lo
theorem Num.set {T : Tab} (H : Num T) (i : Nat) (C : List Pl) : Num (T.set i C) := ⟨by rw [set_len]; exact H.lo, by rw [set_len]; exact H.hi, H.word⟩
end Go.Proofs.Ytlmampklgghngaa
/-
  Plain mathematics of a stash, a row of routes in order: where a key lies in it, what it is with one more, with one turned, with one less. No condition but those that stand in each.
-/
set_option linter.unusedSimpArgs false
set_option linter.unusedVariables false
namespace Go.Proofs.Ytlmampklgghngaa
open M

/-- How many, from the first on, are ahead of a key. -/
def bh : List Rt → Ky → Nat
  | [], _ => 0
  | a :: l, k => if lessK a.k k then bh l k + 1 else 0
theorem bh_le : ∀ (l : List Rt) (k : Ky), bh l k ≤ l.length
  | [], _ => Nat.le_refl _
  | a :: l, k => by
    unfold bh
    have := bh_le l k
    split <;> simp <;> omega
theorem bh_lt : ∀ (l : List Rt) (k : Ky) (i : Nat) (h : i < l.length), i < bh l k → lessK l[i].k k = true
  | a :: l, k, i, h, hb => by
    unfold bh at hb
    split at hb
    · rename_i ha
      cases i with
      | zero => simpa using ha
      | succ i => simpa using bh_lt l k i (by simpa using h) (by omega)
    · omega
theorem bh_ge : ∀ (l : List Rt) (k : Ky), Sorted l → ∀ (i : Nat) (h : i < l.length), bh l k ≤ i → lessK l[i].k k = false
  | a :: l, k, hs, i, h, hb => by
    have h1 := List.pairwise_cons.1 hs
    unfold bh at hb
    split at hb
    · cases i with
      | zero => omega
      | succ i => simpa using bh_ge l k h1.2 i (by simpa using h) (by omega)
    · rename_i ha
      rw [Bool.not_eq_true] at ha
      cases i with
      | zero => simpa using ha
      | succ i =>
        have hi : i < l.length := by simpa using h
        cases hc : lessK (l[i]'hi).k k with
        | false => simpa using hc
        | true =>
          have := lessK_trans (h1.1 _ (List.getElem_mem hi)) hc
          rw [ha] at this
          cases this
/-- The test of a search, in a row in order: is number i behind? -/
theorem bh_test (l : List Rt) (k : Ky) (hs : Sorted l) (i : Nat) (h : i < l.length) : (!lessK l[i].k k) = decide (bh l k ≤ i) := by
  by_cases hb : bh l k ≤ i
  · rw [bh_ge l k hs i h hb, decide_eq_true hb]; rfl
  · rw [bh_lt l k i h (by omega), decide_eq_false hb]; rfl
theorem findS_cons (a : Rt) (l : List Rt) (k : Ky) : findS (a :: l) k = if a.k = k then some 0 else (findS l k).map (· + 1) := by
  unfold findS
  rw [List.findIdx?_cons]
  by_cases h : a.k = k
  · rw [if_pos h, decide_eq_true h]; rfl
  · rw [if_neg h, decide_eq_false h]; rfl
theorem findS_bh : ∀ (l : List Rt) (k : Ky), Sorted l → (∀ i, findS l k = some i → i = bh l k ∧ ∃ h : i < l.length, l[i].k = k) ∧ (findS l k = none → ∀ (h : bh l k < l.length), l[bh l k].k ≠ k)
  | [], k, _ => ⟨fun i h => by simp [findS] at h, fun _ h => absurd h (by simp)⟩
  | a :: l, k, hs => by
    have h1 := List.pairwise_cons.1 hs
    have ih := findS_bh l k h1.2
    rw [findS_cons]
    by_cases hk : a.k = k
    · rw [if_pos hk]
      have hb : bh (a :: l) k = 0 := by unfold bh; rw [hk, lessK_irr]; rfl
      refine ⟨fun i h => ?_, fun h => by cases h⟩
      injection h with h
      subst h
      exact ⟨hb.symm, by simp, hk⟩
    · rw [if_neg hk]
      cases hl : lessK a.k k with
      | true =>
        have hb : bh (a :: l) k = bh l k + 1 := by
          show (if lessK a.k k = true then bh l k + 1 else 0) = _
          rw [hl]; rfl
        refine ⟨fun i h => ?_, fun h hlt => ?_⟩
        · rw [Option.map_eq_some_iff] at h
          obtain ⟨j, hj, rfl⟩ := h
          obtain ⟨e, hj2, hjk⟩ := ih.1 j hj
          exact ⟨by rw [hb, e], by simpa using hj2, by simpa using hjk⟩
        · rw [Option.map_eq_none_iff] at h
          have := ih.2 h (by rw [hb] at hlt; simpa using hlt)
          simpa [hb] using this
      | false =>
        have hb : bh (a :: l) k = 0 := by
          show (if lessK a.k k = true then bh l k + 1 else 0) = _
          rw [hl]; rfl
        have hr : lessK k a.k = true := by rw [lessK_total hk, hl]; rfl
        refine ⟨fun i h => ?_, fun h hlt => by simpa [hb] using hk⟩
        rw [Option.map_eq_some_iff] at h
        obtain ⟨j, hj, rfl⟩ := h
        obtain ⟨e, hj2, hjk⟩ := ih.1 j hj
        have := lessK_trans hr (h1.1 _ (List.getElem_mem hj2))
        rw [hjk, lessK_irr] at this
        cases this
theorem into_absent : ∀ (l : List Rt) (r : Rt), findS l r.k = none → intoS l r = l.take (bh l r.k) ++ r :: l.drop (bh l r.k)
  | [], r, _ => rfl
  | a :: l, r, h => by
    rw [findS_cons] at h
    have hk : a.k ≠ r.k := fun e => by rw [if_pos e] at h; cases h
    rw [if_neg hk, Option.map_eq_none_iff] at h
    unfold intoS bh
    split
    · rw [into_absent l r h]; rfl
    · rfl
theorem into_present : ∀ (l : List Rt) (r : Rt) (i : Nat), Sorted l → findS l r.k = some i → intoS l r = l.set i r
  | [], r, i, _, h => by simp [findS] at h
  | a :: l, r, i, hs, h => by
    have h1 := List.pairwise_cons.1 hs
    rw [findS_cons] at h
    by_cases hk : a.k = r.k
    · rw [if_pos hk] at h
      injection h with h
      subst h
      unfold intoS
      rw [hk, lessK_irr]
      simp
    · rw [if_neg hk, Option.map_eq_some_iff] at h
      obtain ⟨j, hj, rfl⟩ := h
      obtain ⟨-, hj2, hjk⟩ := (findS_bh l r.k h1.2).1 j hj
      have hl : lessK a.k r.k = true := by
        have := h1.1 _ (List.getElem_mem hj2)
        rwa [hjk] at this
      unfold intoS
      rw [hl, into_present l r j h1.2 hj]
      rfl
theorem outS_none {l : List Rt} {k : Ky} (h : findS l k = none) : outS l k = l := outS_self (findS_none (by rw [h]; rfl))
theorem out_present : ∀ (l : List Rt) (k : Ky) (i : Nat), Sorted l → findS l k = some i → outS l k = l.eraseIdx i
  | [], k, i, _, h => by simp [findS] at h
  | a :: l, k, i, hs, h => by
    have h1 := List.pairwise_cons.1 hs
    rw [findS_cons] at h
    by_cases hk : a.k = k
    · rw [if_pos hk] at h
      injection h with h
      subst h
      have : outS (a :: l) k = outS l k := by simp [outS, hk]
      rw [this, outS_self]
      · rfl
      · intro hm
        unfold keysR at hm
        rw [List.mem_map] at hm
        obtain ⟨q, hq, e⟩ := hm
        have := h1.1 q hq
        rw [hk, e, lessK_irr] at this
        cases this
    · rw [if_neg hk, Option.map_eq_some_iff] at h
      obtain ⟨j, hj, rfl⟩ := h
      have : outS (a :: l) k = a :: outS l k := by simp [outS, hk]
      rw [this, out_present l k j h1.2 hj]
      rfl
def stI (l : List Rt) (k : Ky) : Int :=
  match findS l k with
  | some i => (i : Int)
  | none => -1
theorem stI_some {l : List Rt} {k : Ky} {i : Nat} (h : findS l k = some i) : stI l k = i := by unfold stI; rw [h]
theorem stI_none {l : List Rt} {k : Ky} (h : findS l k = none) : stI l k = -1 := by unfold stI; rw [h]
end Go.Proofs.Ytlmampklgghngaa
