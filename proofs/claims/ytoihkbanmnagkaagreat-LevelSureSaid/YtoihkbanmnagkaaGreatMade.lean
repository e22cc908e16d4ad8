/-
  New buckets in memory, as 'make' lays them; a new table; what New hands back. No condition but those that stand in each.
-/
import Derived.Test.YtoihkbanmnagkaaGreatRBkt
import Derived.Test.YtoihkbanmnagkaaGreatM5
import Derived.Test.YtoihkbanmnagkaaGreatM12f
import Derived.Laws.CopyOwn
import Derived.Lib.AppendZerosOnto
import Derived.Test.YtoihkbanmnagkaaGreatW6c
/-
  A table of buckets in memory: its struct, its row of buckets, its stash; what is kept of it while others are written, and what it is where one of its buckets is written. No condition but those that stand in each.
-/
set_option linter.unusedSimpArgs false
set_option linter.unusedVariables false
namespace Go.Proofs.YtoihkbanmnagkaaGreat
open Go.RowKit Go.Sort M

/-- A kind of bucket of twenty cells: what is asked of it. -/
structure BK (K : World → Nat → Nat → List Pl → Prop) : Prop where
  lt : ∀ {w g o C}, K w g o C → g < w.heap.size
  turn : ∀ {w w' g o o' n C}, K w g o C → Turn w w' g o' n → (o + 20 ≤ o' ∨ o' + n ≤ o) → K w' g o C
  block : ∀ {w w' g o C}, K w g o C → w.heap.size ≤ w'.heap.size → w'.heap[g]? = w.heap[g]? → K w' g o C
theorem bk_bkt : BK Bkt where
  lt := Bkt.lt
  turn := fun H h hne => H.kept h (.inr hne)
  block := fun {w w' g o C} H hs hb => by
    have hc : ∀ x, w'.cell? ⟨g, x, none⟩ = w.cell? ⟨g, x, none⟩ ∧ w'.frozen? ⟨g, x, none⟩ = w.frozen? ⟨g, x, none⟩ := fun x => ⟨World.cell?_of_block (a := ⟨g, x, none⟩) hb, World.frozen?_of_block (a := ⟨g, x, none⟩) hb⟩
    exact ⟨H.four, Nat.lt_of_lt_of_le H.lt hs, fun i hi j u hu => (hc _).1.trans (H.cell i hi j u hu), fun j hj => (hc _).2.trans (H.free j hj)⟩
theorem bk_rbk : BK RBk where
  lt := RBk.lt
  turn := fun H h hne => H.apart h (.inr hne)
  block := fun {w w' g o C} H hs hb => H.kept hs fun x _ => ⟨World.cell?_of_block (a := ⟨g, o + x, none⟩) hb, World.frozen?_of_block (a := ⟨g, o + x, none⟩) hb⟩
/-- The blocks of a table. -/
def Blk (t g : Nat) (v : Value) (k : Nat) : Prop := k = t ∨ k = g ∨ v.ownBlock = some k
/-- A table: its struct in block t, its buckets in block g, its stash v. -/
structure Tb (K : World → Nat → Nat → List Pl → Prop) (w : World) (t g : Nat) (v : Value) (T : Tab) : Prop where
  bk : ∀ i, i < T.B.length → K w g (i * 20) (T.bk i)
  blt : g < w.heap.size
  tlt : t < w.heap.size
  c0 : w.cell? ⟨t, 0, none⟩ = some (.int .u64 (T.s : Int))
  c1 : w.cell? ⟨t, 1, none⟩ = some (.slice (some ⟨g, 0, none⟩) T.B.length T.B.length)
  c2 : w.cell? ⟨t, 2, none⟩ = some v
  f : ∀ j, w.frozen? ⟨t, j, none⟩ = false
  own : w.ownsRow 0 58 4 v T.st.length (rcs T.st)
  tg : t ≠ g
  tv : v.ownBlock ≠ some t
  gv : v.ownBlock ≠ some g
section
variable {K : World → Nat → Nat → List Pl → Prop} {w w' : World} {t g : Nat} {v : Value} {T : Tab}
theorem Tb.blk (H : Tb K w t g v T) : ∀ k, Blk t g v k → k < w.heap.size := by
  intro k h
  rcases h with rfl | rfl | h
  · exact H.tlt
  · exact H.blt
  · exact (H.own.lt k h).2
theorem own_block {w w' : World} {B n k : Nat} {e : TypeId} {v : Value} {xs : List Value} (h : w.ownsRow B e k v n xs) (hb : ∀ j, v.ownBlock = some j → w'.heap[j]? = w.heap[j]?) : w'.ownsRow B e k v n xs := by
  refine ⟨h.1, ?_⟩
  rcases h.2 with hx | ⟨g, cap, cur, rfl, hb2, hgg, rest⟩
  · exact .inl hx
  · exact .inr ⟨g, cap, cur, rfl, hb2, (hb g rfl).trans hgg, rest⟩
/-- Where its blocks are as they were. -/
theorem Tb.blocks (hK : BK K) (H : Tb K w t g v T) (hs : w.heap.size ≤ w'.heap.size) (hb : ∀ k, Blk t g v k → w'.heap[k]? = w.heap[k]?) : Tb K w' t g v T := by
  have ht := hb t (.inl rfl)
  have hg := hb g (.inr (.inl rfl))
  exact ⟨fun i hi => hK.block (H.bk i hi) hs hg, Nat.lt_of_lt_of_le H.blt hs, Nat.lt_of_lt_of_le H.tlt hs, (World.cell?_of_block (a := ⟨t, 0, none⟩) ht).trans H.c0, (World.cell?_of_block (a := ⟨t, 1, none⟩) ht).trans H.c1,
    (World.cell?_of_block (a := ⟨t, 2, none⟩) ht).trans H.c2, fun j => (World.frozen?_of_block (a := ⟨t, j, none⟩) ht).trans (H.f j), own_block H.own (fun j e => hb j (.inr (.inr e))), H.tg, H.tv, H.gv⟩
theorem Tb.below (hK : BK K) (H : Tb K w t g v T) (hb : Below w.heap.size w w') : Tb K w' t g v T := H.blocks hK hb.size fun k hk => hb.block k (H.blk k hk)
theorem Tb.touched (hK : BK K) (H : Tb K w t g v T) {S : Nat → Prop} (ht : Touch S w w') (hn : ∀ k, Blk t g v k → ¬ S k) : Tb K w' t g v T := H.blocks hK ht.size fun k hk => ht.block k (H.blk k hk) (hn k hk)
theorem Turn.touch {o n : Nat} {S : Nat → Prop} (h : Turn w w' g o n) (hS : S g) : Touch S w w' := Touch.of_grown h.grown fun k e => by injection e with e; exact e ▸ hS
theorem bk_set' (T : Tab) (i : Nat) (C : List Pl) (k : Nat) (hi : i < T.B.length) : (T.set i C).bk k = if k = i then C else T.bk k := bk_set T i hi C k
/-- One of its buckets is written. -/
theorem Tb.turn (hK : BK K) (H : Tb K w t g v T) {i : Nat} (hi : i < T.B.length) {C : List Pl} (h : Turn w w' g (i * 20) 20) (hC : K w' g (i * 20) C) : Tb K w' t g v (T.set i C) ∧ Touch (Blk t g v) w w' := by
  have ht : w'.heap[t]? = w.heap[t]? := h.grown.block t H.tlt (by intro e; injection e with e; exact H.tg e)
  refine ⟨⟨fun k hk => ?_, Nat.lt_of_lt_of_le H.blt h.grown.size, Nat.lt_of_lt_of_le H.tlt h.grown.size, (World.cell?_of_block (a := ⟨t, 0, none⟩) ht).trans H.c0, ?_, (World.cell?_of_block (a := ⟨t, 2, none⟩) ht).trans H.c2,
    fun j => (World.frozen?_of_block (a := ⟨t, j, none⟩) ht).trans (H.f j), own_block H.own (fun j e => h.grown.block j (H.own.lt j e).2 (fun e2 => H.gv (e.trans e2))), H.tg, H.tv, H.gv⟩, h.touch (.inr (.inl rfl))⟩
  · rw [set_len] at hk
    rw [bk_set T i hi]
    split
    · rename_i e; subst e; exact hC
    · rename_i e
      exact hK.turn (H.bk k hk) h (by omega)
  · rw [set_len]
    exact (World.cell?_of_block (a := ⟨t, 1, none⟩) ht).trans H.c1
end
/-- The program's table: with how many keys it says that there are. -/
structure CT (w : World) (t g : Nat) (v : Value) (T : Tab) (m : Int) : Prop where
  tb : Tb Bkt w t g v T
  c3 : w.cell? ⟨t, 3, none⟩ = some (.int .i64 m)
section
variable {w w' : World} {t g : Nat} {v : Value} {T : Tab} {m : Int}
theorem CT.blocks (H : CT w t g v T m) (hs : w.heap.size ≤ w'.heap.size) (hb : ∀ k, Blk t g v k → w'.heap[k]? = w.heap[k]?) : CT w' t g v T m :=
  ⟨H.tb.blocks bk_bkt hs hb, (World.cell?_of_block (a := ⟨t, 3, none⟩) (hb t (.inl rfl))).trans H.c3⟩
theorem CT.below (H : CT w t g v T m) (hb : Below w.heap.size w w') : CT w' t g v T m := H.blocks hb.size fun k hk => hb.block k (H.tb.blk k hk)
theorem CT.touched (H : CT w t g v T m) {S : Nat → Prop} (ht : Touch S w w') (hn : ∀ k, Blk t g v k → ¬ S k) : CT w' t g v T m := H.blocks ht.size fun k hk => ht.block k (H.tb.blk k hk) (hn k hk)
theorem CT.turn (H : CT w t g v T m) {i : Nat} (hi : i < T.B.length) {C : List Pl} (h : Turn w w' g (i * 20) 20) (hC : Bkt w' g (i * 20) C) : CT w' t g v (T.set i C) m ∧ Touch (Blk t g v) w w' := by
  have ht : w'.heap[t]? = w.heap[t]? := h.grown.block t H.tb.tlt (by intro e; injection e with e; exact H.tb.tg e)
  have := H.tb.turn bk_bkt hi h hC
  exact ⟨⟨this.1, (World.cell?_of_block (a := ⟨t, 3, none⟩) ht).trans H.c3⟩, this.2⟩
end
/-- A step of a table: it may lay new blocks, and write its own. -/
def CStep (w w' : World) (t g : Nat) (v : Value) (T' : Tab) (m' : Int) : Prop := ∃ g' v', CT w' t g' v' T' m' ∧ Touch (Blk t g v) w w' ∧ ∀ k, Blk t g' v' k → k < w.heap.size → Blk t g v k
def RStep (w w' : World) (t g : Nat) (v : Value) (T' : Tab) : Prop := ∃ g' v', Tb RBk w' t g' v' T' ∧ Touch (Blk t g v) w w' ∧ ∀ k, Blk t g' v' k → k < w.heap.size → Blk t g v k
theorem Touch.then {a b c : World} {t g g' : Nat} {v v' : Value} (h : Touch (Blk t g v) a b) (hs : ∀ k, Blk t g' v' k → k < a.heap.size → Blk t g v k) (k : Touch (Blk t g' v') b c) : Touch (Blk t g v) a c :=
  ⟨k.os.trans h.os, k.tape.trans h.tape, k.output.trans h.output, Nat.le_trans h.size k.size, fun i hi hn => (k.block i (Nat.lt_of_lt_of_le hi h.size) (fun x => hn (hs i x hi))).trans (h.block i hi hn)⟩
theorem CStep.trans {a b c : World} {t g g' : Nat} {v v' : Value} {T' : Tab} {m' : Int} (h : Touch (Blk t g v) a b) (hs : ∀ k, Blk t g' v' k → k < a.heap.size → Blk t g v k) (k : CStep b c t g' v' T' m') : CStep a c t g v T' m' := by
  obtain ⟨g2, v2, h1, h2, h3⟩ := k
  exact ⟨g2, v2, h1, h.then hs h2, fun k hk hl => hs k (h3 k hk (Nat.lt_of_lt_of_le hl h.size)) hl⟩
theorem RStep.trans {a b c : World} {t g g' : Nat} {v v' : Value} {T' : Tab} (h : Touch (Blk t g v) a b) (hs : ∀ k, Blk t g' v' k → k < a.heap.size → Blk t g v k) (k : RStep b c t g' v' T') : RStep a c t g v T' := by
  obtain ⟨g2, v2, h1, h2, h3⟩ := k
  exact ⟨g2, v2, h1, h.then hs h2, fun k hk hl => hs k (h3 k hk (Nat.lt_of_lt_of_le hl h.size)) hl⟩
theorem CStep.quiet {a b : World} {t g : Nat} {v : Value} {T : Tab} {m : Int} (H : CT a t g v T m) (h : Below a.heap.size a b) : CStep a b t g v T m := ⟨g, v, H.below h, Touch.quiet h, fun _ h _ => h⟩
theorem RStep.quiet {a b : World} {t g : Nat} {v : Value} {T : Tab} (H : Tb RBk a t g v T) (h : Below a.heap.size a b) : RStep a b t g v T := ⟨g, v, H.below bk_rbk h, Touch.quiet h, fun _ h _ => h⟩
theorem CStep.same {a b : World} {t g : Nat} {v : Value} {T : Tab} {m : Int} (H : CT b t g v T m) (h : Touch (Blk t g v) a b) : CStep a b t g v T m := ⟨g, v, H, h, fun _ h _ => h⟩
theorem RStep.same {a b : World} {t g : Nat} {v : Value} {T : Tab} (H : Tb RBk b t g v T) (h : Touch (Blk t g v) a b) : RStep a b t g v T := ⟨g, v, H, h, fun _ h _ => h⟩
end Go.Proofs.YtoihkbanmnagkaaGreat
/-
  copy between rows of elements of several cells, where the block that is written is known whole: its run, and as a step of a walk. No condition on the program.
-/
set_option linter.unusedSimpArgs false
set_option linter.unusedVariables false
namespace Go.Proofs.YtoihkbanmnagkaaGreat
open Go Go.RowKit Go.Sort

section
variable {P : Program}
theorem run_copy_k (w : World) (dT sT ty elem : TypeId) (i0 : TypeInfo) (hu : P.underlying dT = some (.slice elem)) (hi : P.info? elem = some i0) (k : Nat) (hk : i0.size = k) (g o dLen dCap : Nat) (a : Addr) (sLen sCap : Nat) (cur : Array Value) (t : TypeId) (cs : List Value)
    (m : Nat) (hm : Nat.min sLen dLen = m) (hn : cs.length = m * k) (hg : w.heap[g]? = some (.cells cur t (0, 0))) (hsrc : ∀ j v, cs[j]? = some v → w.cell? (a.add j) = some v) (hfit : o + cs.length ≤ cur.size) (h1 : ∀ v ∈ cs, v.oneCell' = true) :
    (Builtin.copy_ #[dT, sT] ty #[.slice (some ⟨g, o, none⟩) dLen dCap, .slice (some a) sLen sCap]).run P w = .ok (goInt m) (w.setRow g (splice cur.toList o cs).toArray) := by
  have hl := run_firstCells_some (P := P) w k m a sLen sCap cs hn hsrc
  have hst := run_storeCells_at P g o t cs 0 cur w hg (by simpa using hfit) h1
  simp [Builtin.copy_, run_underlying hu, Builtin.lenOf, sizeOf, typeInfo, hi, hk, hm, hl, hst, splice]
theorem grown_setRow (w : World) (g : Nat) (cs : Array Value) : w.grownBy (w.setRow g cs) (some g) :=
  ⟨rfl, rfl, rfl, by simp [World.setRow], fun k _ hk => setRow_other w g k cs (fun e => hk (by rw [e]))⟩
theorem wp_copy_rt {o : Oper} {a : Act} {w : World} {K : Act → World → Prop} {Q : Exit → Act → World → Prop} (d s : Operand) (dT sT : TypeId)
    (ho : o.op = .call { callee := .builtin .copy, args := #[d, s], argTypes := #[dT, sT] }) (elem : TypeId) (i0 : TypeInfo) (hu : P.underlying dT = some (.slice elem)) (hi : P.info? elem = some i0) (k : Nat) (hk : i0.size = k)
    (g off dLen dCap : Nat) (ad : Addr) (sLen sCap : Nat) (hd : a.eval d = .slice (some ⟨g, off, none⟩) dLen dCap) (hs : a.eval s = .slice (some ad) sLen sCap)
    (cur : Array Value) (t : TypeId) (hg : w.heap[g]? = some (.cells cur t (0, 0))) (cs : List Value) (m : Nat) (hm : Nat.min sLen dLen = m) (hn : cs.length = m * k)
    (hsrc : ∀ j v, cs[j]? = some v → w.cell? (ad.add j) = some v) (hfit : off + cs.length ≤ cur.size) (h1 : ∀ v ∈ cs, v.oneCell' = true)
    (h : ∀ w', Hid (w'.heap[g]? = some (.cells (splice cur.toList off cs).toArray t (0, 0))) → w.grownBy w' (some g) → K (a.put o.dst (goInt m)) w') : o.wp P a w K Q := by
  have hr := run_copy_k (P := P) w dT sT o.type elem i0 hu hi k hk g off dLen dCap ad sLen sCap cur t cs m hm hn hg hsrc hfit h1
  unfold Oper.wp execOp
  simp only [ho, resolve, invoke, builtin, Sem.run_bind, Sem.run_pure, Result.andThen_ok, List.map_toArray, List.map_cons, List.map_nil, hd, hs, hr]
  exact h _ (show _ = _ from setRow_heap w g cur _ t _ hg) (grown_setRow w g _)
theorem wpList_copy_rt {ops : Array Oper} {rest : List Oper} {o : Oper} {a : Act} {w : World} {Q : Exit → Act → World → Prop} (hgd : o.guard = none) (d s : Operand) (dT sT : TypeId)
    (ho : o.op = .call { callee := .builtin .copy, args := #[d, s], argTypes := #[dT, sT] }) (elem : TypeId) (i0 : TypeInfo) (hu : P.underlying dT = some (.slice elem)) (hi : P.info? elem = some i0) (k : Nat) (hk : i0.size = k)
    (g off dLen dCap : Nat) (ad : Addr) (sLen sCap : Nat) (hd : a.eval d = .slice (some ⟨g, off, none⟩) dLen dCap) (hs : a.eval s = .slice (some ad) sLen sCap)
    (cur : Array Value) (t : TypeId) (hg : w.heap[g]? = some (.cells cur t (0, 0))) (cs : List Value) (m : Nat) (hm : Nat.min sLen dLen = m) (hn : cs.length = m * k)
    (hsrc : ∀ j v, cs[j]? = some v → w.cell? (ad.add j) = some v) (hfit : off + cs.length ≤ cur.size) (h1 : ∀ v ∈ cs, v.oneCell' = true)
    (h : ∀ w', Hid (w'.heap[g]? = some (.cells (splice cur.toList off cs).toArray t (0, 0))) → w.grownBy w' (some g) → wpList P ops Q rest (a.put o.dst (goInt m)) w') : wpList P ops Q (o :: rest) a w :=
  wpList_plain hgd fun _ hK => wp_copy_rt d s dT sT ho elem i0 hu hi k hk g off dLen dCap ad sLen sCap hd hs cur t hg cs m hm hn hsrc hfit h1 fun w' h2 h3 => hK _ _ (h w' h2 h3)
theorem step_copy_rt {ops : Array Oper} {o : Oper} {a : Act} {w : World} {K : Act → World → Prop} {Q : Exit → Act → World → Prop} {E : Prop} (hgd : o.guard = none) (d s : Operand) (dT sT : TypeId)
    (ho : o.op = .call { callee := .builtin .copy, args := #[d, s], argTypes := #[dT, sT] }) (elem : TypeId) (i0 : TypeInfo) (hu : P.underlying dT = some (.slice elem)) (hi : P.info? elem = some i0) (k : Nat) (hk : i0.size = k)
    (g off dLen dCap : Nat) (ad : Addr) (sLen sCap : Nat) (hd : a.eval d = .slice (some ⟨g, off, none⟩) dLen dCap) (hs : a.eval s = .slice (some ad) sLen sCap)
    (cur : Array Value) (t : TypeId) (hg : w.heap[g]? = some (.cells cur t (0, 0))) (cs : List Value) (m : Nat) (hm : Nat.min sLen dLen = m) (hn : cs.length = m * k)
    (hsrc : ∀ j v, cs[j]? = some v → w.cell? (ad.add j) = some v) (hfit : off + cs.length ≤ cur.size) (h1 : ∀ v ∈ cs, v.oneCell' = true)
    (h : ∀ w', Hid (w'.heap[g]? = some (.cells (splice cur.toList off cs).toArray t (0, 0))) → w.grownBy w' (some g) → K (a.put o.dst (goInt m)) w') :
    if Region.wanted o (yielded ops a.tmps) = true then Oper.wp P o a w K Q else E := by
  have hw : Region.wanted o (yielded ops a.tmps) = true := by simp [Region.wanted, hgd]
  rw [if_pos hw]
  exact wp_copy_rt d s dT sT ho elem i0 hu hi k hk g off dLen dCap ad sLen sCap hd hs cur t hg cs m hm hn hsrc hfit h1 h
end
/-- A row of the call's own that has a cell: its block, known whole. -/
theorem own_whole {w : World} {B n k : Nat} {e : TypeId} {v : Value} {xs : List Value} (h : w.ownsRow B e k v n xs) (hn : 0 < n) :
    ∃ g cap cur, v = .slice (some ⟨g, 0, none⟩) n cap ∧ B ≤ g ∧ g < w.heap.size ∧ w.heap[g]? = some (.cells cur e (0, 0)) ∧ n ≤ cap ∧ cap ≤ maxLen ∧ cur.size = cap * k ∧ cur.toList.take (n * k) = xs := by
  rcases h.2 with ⟨-, h0⟩ | ⟨g, cap, cur, rfl, hB, hg, h1, h2, h3, h4⟩
  · omega
  · exact ⟨g, cap, cur, rfl, hB, (Array.getElem?_eq_some_iff.1 hg).1, hg, h1, h2, h3, h4⟩
theorem own_made {w : World} {B n k g cap : Nat} {e : TypeId} {cur : Array Value} {xs : List Value} (hB : B ≤ g) (hg : w.heap[g]? = some (.cells cur e (0, 0))) (h1 : n ≤ cap) (h2 : cap ≤ maxLen) (h3 : cur.size = cap * k) (h4 : cur.toList.take (n * k) = xs) :
    w.ownsRow B e k (.slice (some ⟨g, 0, none⟩) n cap) n xs :=
  ⟨by rw [← h4, List.length_take, Array.length_toList, h3]; exact Nat.min_eq_left (Nat.mul_le_mul_right _ h1), .inr ⟨g, cap, cur, rfl, hB, hg, h1, h2, h3, h4⟩⟩
theorem rcs_take (L : List Rt) (i : Nat) : (rcs L).take (i * 4) = rcs (L.take i) := by
  by_cases h : i ≤ L.length
  · have e : rcs L = rcs (L.take i) ++ rcs (L.drop i) := by rw [← rcs_append, List.take_append_drop]
    rw [e, List.take_append_of_le_length (by rw [rcs_len, List.length_take]; omega), List.take_of_length_le (by rw [rcs_len, List.length_take]; omega)]
  · rw [List.take_of_length_le (by rw [rcs_len]; omega), List.take_of_length_le (by omega)]
theorem rcs_drop (L : List Rt) (i : Nat) : (rcs L).drop (i * 4) = rcs (L.drop i) := by
  by_cases h : i ≤ L.length
  · have e : rcs L = rcs (L.take i) ++ rcs (L.drop i) := by rw [← rcs_append, List.take_append_drop]
    rw [e, List.drop_append, List.drop_eq_nil_of_le (by rw [rcs_len, List.length_take]; omega), rcs_len, List.length_take, Nat.min_eq_left h, Nat.sub_self]
    simp
  · rw [List.drop_eq_nil_of_le (by rw [rcs_len]; omega), List.drop_eq_nil_of_le (by omega)]
    rfl
/-- Out of a block that is known whole: cells from an offset on. -/
theorem cells_at {w : World} {g : Nat} {cur : Array Value} {t : TypeId} (hg : w.heap[g]? = some (.cells cur t (0, 0))) (o : Nat) (cs : List Value) (h : (cur.toList.drop o).take cs.length = cs) : ∀ j u, cs[j]? = some u → w.cell? ((⟨g, o, none⟩ : Addr).add j) = some u := by
  intro j u hu
  have hlt := (List.getElem?_eq_some_iff.1 hu).1
  rw [show (⟨g, o, none⟩ : Addr).add j = ⟨g, o + j, none⟩ by unfold Addr.add; split <;> simp_all]
  rw [cell_of_row w g (o + j) cur t (0, 0) hg]
  rw [← h, List.getElem?_take, if_pos hlt, List.getElem?_drop] at hu
  simpa using hu
theorem splice_take {α : Type} (L : List α) (o n : Nat) (cs : List α) (h : n ≤ o) (ho : o ≤ L.length) : (splice L o cs).take n = L.take n := by
  unfold splice
  rw [List.take_append_of_le_length (by rw [List.length_take]; omega), List.take_take, Nat.min_eq_left h]
/-- One more, in the midst, in place: first what stands behind moves on, then the one is laid. -/
theorem splice_in {α : Type} (cur X1 Y X2 : List α) (a b c : Nat) (ha : X1.length = a) (hb : Y.length = b) (hc : X2.length = c) (h : cur.take (a + c) = X1 ++ X2) (hl : a + b + c ≤ cur.length) :
    (splice (splice cur (a + b) X2) a Y).take (a + b + c) = X1 ++ Y ++ X2 := by
  subst ha hb hc
  obtain ⟨Z, rfl⟩ : ∃ Z, cur = X1 ++ X2 ++ Z := ⟨cur.drop (X1.length + X2.length), by rw [← h, List.take_append_drop]⟩
  unfold splice
  have e1 : (X1 ++ X2 ++ Z).take (X1.length + Y.length) ++ (X2 ++ (X1 ++ X2 ++ Z).drop (X1.length + Y.length + X2.length)) = X1 ++ ((X2 ++ Z).take Y.length ++ (X2 ++ (X1 ++ X2 ++ Z).drop (X1.length + Y.length + X2.length))) := by
    rw [List.append_assoc X1, List.take_length_add_append, List.append_assoc]
  rw [e1, List.take_left' rfl, List.drop_length_add_append]
  have hlen : Y.length ≤ (X2 ++ Z).length := by simp at hl ⊢; omega
  rw [List.drop_append, List.drop_eq_nil_of_le (by rw [List.length_take]; omega), List.length_take, Nat.min_eq_left hlen, Nat.sub_self, List.drop_zero, List.nil_append]
  rw [← List.append_assoc, ← List.append_assoc]
  exact List.take_left' (by simp; omega)
/-- .. in a new row: what stands ahead is there; the one is laid, then what stands behind. -/
theorem splice_new {α : Type} (X1 Z Y X2 : List α) (a b c : Nat) (ha : X1.length = a) (hb : Y.length = b) (hc : X2.length = c) (hl : b + c ≤ Z.length) : (splice (splice (X1 ++ Z) a Y) (a + b) X2).take (a + b + c) = X1 ++ Y ++ X2 := by
  subst ha hb hc
  have e1 : splice (X1 ++ Z) X1.length Y = X1 ++ Y ++ Z.drop Y.length := by
    unfold splice
    rw [List.take_left, List.drop_length_add_append, List.append_assoc]
  rw [e1]
  unfold splice
  rw [List.take_left' (l₁ := X1 ++ Y) (by simp), ← List.append_assoc (X1 ++ Y)]
  exact List.take_left' (by simp; omega)
end Go.Proofs.YtoihkbanmnagkaaGreat
/-
  A table in memory where its stash is written, or is another one. No condition but those that stand in each.
-/
set_option linter.unusedSimpArgs false
set_option linter.unusedVariables false
namespace Go.Proofs.YtoihkbanmnagkaaGreat
open Go.RowKit Go.Sort M

section
variable {K : World → Nat → Nat → List Pl → Prop} {w w1 : World} {t g : Nat} {v v' : Value} {T : Tab} {m : Int}
/-- All but the stash's block is as it was, and the struct's third cell. -/
theorem Tb.newStash (hK : BK K) (H : Tb K w t g v T) {st' : List Rt} (hg : w.grownBy w1 v.ownBlock) (own1 : w1.ownsRow 0 58 4 v' st'.length (rcs st')) (hat : v'.ownBlock = v.ownBlock ∨ ∃ k, v'.ownBlock = some k ∧ w.heap.size ≤ k) :
    Tb K (w1.setCell ⟨t, 2, none⟩ v') t g v' { T with st := st' } ∧ Touch (Blk t g v) w (w1.setCell ⟨t, 2, none⟩ v') ∧ ∀ k, Blk t g v' k → k < w.heap.size → Blk t g v k := by
  have ht1 : w1.heap[t]? = w.heap[t]? := hg.block t H.tlt (fun e => H.tv e.symm)
  have hg1 : w1.heap[g]? = w.heap[g]? := hg.block g H.blt (fun e => H.gv e.symm)
  have hb2 : ∀ k, k ≠ t → (w1.setCell ⟨t, 2, none⟩ v').heap[k]? = w1.heap[k]? := fun k hk => Below.heap_setCell w1 ⟨t, 2, none⟩ v' k (by simpa using hk)
  have hs2 : (w1.setCell ⟨t, 2, none⟩ v').heap.size = w1.heap.size := World.size_setCell _ _ _
  have c0 := (World.cell?_of_block (a := ⟨t, 0, none⟩) ht1).trans H.c0
  have c1 := (World.cell?_of_block (a := ⟨t, 1, none⟩) ht1).trans H.c1
  have c2 := (World.cell?_of_block (a := ⟨t, 2, none⟩) ht1).trans H.c2
  have ne : ∀ j, j ≠ 2 → (w1.setCell ⟨t, 2, none⟩ v').cell? ⟨t, j, none⟩ = w1.cell? ⟨t, j, none⟩ := fun j hj => by
    rw [World.cell?_setCell_other]
    intro e
    injection e with _ e2
    exact hj e2.symm
  have hvt : v'.ownBlock ≠ some t := by
    rcases hat with e | ⟨k, e, hk⟩
    · rw [e]; exact H.tv
    · rw [e]; intro e2; injection e2 with e2; have := H.tlt; omega
  have hvg : v'.ownBlock ≠ some g := by
    rcases hat with e | ⟨k, e, hk⟩
    · rw [e]; exact H.gv
    · rw [e]; intro e2; injection e2 with e2; have := H.blt; omega
  refine ⟨⟨fun i hi => hK.block (H.bk i hi) (by rw [hs2]; exact hg.size) ((hb2 g (fun e => H.tg e.symm)).trans hg1), by rw [hs2]; exact Nat.lt_of_lt_of_le H.blt hg.size, by rw [hs2]; exact Nat.lt_of_lt_of_le H.tlt hg.size,
    (ne 0 (by decide)).trans c0, (ne 1 (by decide)).trans c1, World.cell?_setCell_same _ _ _ c2, fun j => by rw [World.frozen?_setCell, World.frozen?_of_block (a := ⟨t, j, none⟩) ht1]; exact H.f j,
    own_block own1 (fun j e => hb2 j (fun e2 => hvt (e2 ▸ e))), H.tg, hvt, hvg⟩, ⟨hg.os, hg.tape, hg.output, by rw [hs2]; exact hg.size, fun k hk hn => ?_⟩, fun k hk hl => ?_⟩
  · rw [hb2 k (fun e => hn (.inl e))]
    exact hg.block k hk (fun e => hn (.inr (.inr e.symm)))
  · rcases hk with e | e | e
    · exact .inl e
    · exact .inr (.inl e)
    · rcases hat with e2 | ⟨j, e2, hj⟩
      · exact .inr (.inr (e2 ▸ e))
      · rw [e2] at e
        injection e with e
        omega
theorem CT.newStash (H : CT w t g v T m) {st' : List Rt} (hg : w.grownBy w1 v.ownBlock) (own1 : w1.ownsRow 0 58 4 v' st'.length (rcs st')) (hat : v'.ownBlock = v.ownBlock ∨ ∃ k, v'.ownBlock = some k ∧ w.heap.size ≤ k) :
    CT (w1.setCell ⟨t, 2, none⟩ v') t g v' { T with st := st' } m ∧ Touch (Blk t g v) w (w1.setCell ⟨t, 2, none⟩ v') ∧ ∀ k, Blk t g v' k → k < w.heap.size → Blk t g v k := by
  have h := H.tb.newStash bk_bkt hg own1 hat
  have ht1 : w1.heap[t]? = w.heap[t]? := hg.block t H.tb.tlt (fun e => H.tb.tv e.symm)
  refine ⟨⟨h.1, ?_⟩, h.2⟩
  rw [World.cell?_setCell_other]
  · exact (World.cell?_of_block (a := ⟨t, 3, none⟩) ht1).trans H.c3
  · intro e
    injection e with _ e2
    exact absurd e2 (by decide)
/-- The stash is written in place. -/
theorem Tb.inStash (hK : BK K) (H : Tb K w t g v T) {st' : List Rt} (hg : w.grownBy w1 v.ownBlock) (own1 : w1.ownsRow 0 58 4 v st'.length (rcs st')) : Tb K w1 t g v { T with st := st' } ∧ Touch (Blk t g v) w w1 := by
  have ht1 : w1.heap[t]? = w.heap[t]? := hg.block t H.tlt (fun e => H.tv e.symm)
  have hg1 : w1.heap[g]? = w.heap[g]? := hg.block g H.blt (fun e => H.gv e.symm)
  exact ⟨⟨fun i hi => hK.block (H.bk i hi) hg.size hg1, Nat.lt_of_lt_of_le H.blt hg.size, Nat.lt_of_lt_of_le H.tlt hg.size, (World.cell?_of_block (a := ⟨t, 0, none⟩) ht1).trans H.c0, (World.cell?_of_block (a := ⟨t, 1, none⟩) ht1).trans H.c1,
    (World.cell?_of_block (a := ⟨t, 2, none⟩) ht1).trans H.c2, fun j => (World.frozen?_of_block (a := ⟨t, j, none⟩) ht1).trans (H.f j), own1, H.tg, H.tv, H.gv⟩, Touch.of_grown hg (fun k e => .inr (.inr e.symm))⟩
theorem CT.inStash (H : CT w t g v T m) {st' : List Rt} (hg : w.grownBy w1 v.ownBlock) (own1 : w1.ownsRow 0 58 4 v st'.length (rcs st')) : CT w1 t g v { T with st := st' } m ∧ Touch (Blk t g v) w w1 := by
  have h := H.tb.inStash bk_bkt hg own1
  exact ⟨⟨h.1, (World.cell?_of_block (a := ⟨t, 3, none⟩) (hg.block t H.tb.tlt (fun e => H.tb.tv e.symm))).trans H.c3⟩, h.2⟩
/-- How many keys there are, written. -/
theorem CT.count (H : CT w t g v T m) (m' : Int) : CT (w.setCell ⟨t, 3, none⟩ (.int .i64 m')) t g v T m' ∧ Touch (Blk t g v) w (w.setCell ⟨t, 3, none⟩ (.int .i64 m')) := by
  have hb2 : ∀ k, k ≠ t → (w.setCell ⟨t, 3, none⟩ (.int .i64 m')).heap[k]? = w.heap[k]? := fun k hk => Below.heap_setCell w ⟨t, 3, none⟩ _ k (by simpa using hk)
  have hs2 : (w.setCell ⟨t, 3, none⟩ (.int .i64 m')).heap.size = w.heap.size := World.size_setCell _ _ _
  have ne : ∀ j, j ≠ 3 → (w.setCell ⟨t, 3, none⟩ (.int .i64 m')).cell? ⟨t, j, none⟩ = w.cell? ⟨t, j, none⟩ := fun j hj => by
    rw [World.cell?_setCell_other]
    intro e
    injection e with _ e2
    exact hj e2.symm
  have B := H.tb
  exact ⟨⟨⟨fun i hi => bk_bkt.block (B.bk i hi) (by rw [hs2]; exact Nat.le_refl _) (hb2 g (fun e => B.tg e.symm)), by rw [hs2]; exact B.blt, by rw [hs2]; exact B.tlt, (ne 0 (by decide)).trans B.c0, (ne 1 (by decide)).trans B.c1, (ne 2 (by decide)).trans B.c2, fun j => by rw [World.frozen?_setCell]; exact B.f j,
    own_block B.own (fun j e => hb2 j (fun e2 => B.tv (e2 ▸ e))), B.tg, B.tv, B.gv⟩, World.cell?_setCell_same _ _ _ H.c3⟩, ⟨rfl, rfl, rfl, by rw [hs2]; exact Nat.le_refl _, fun k _ hn => hb2 k (fun e => hn (.inl e))⟩⟩
end
/-- A hop is written in a row of routes. -/
theorem rcs_hop : ∀ (L : List Rt) (i : Nat) (h : i < L.length) (x : Int), (rcs L).set (i * 4 + 3) (.int .i64 x) = rcs (L.set i ⟨L[i].k, x⟩)
  | a :: L, 0, _, x => by
    show (rcell a ++ rcs L).set 3 _ = rcell ⟨a.k, x⟩ ++ rcs L
    rfl
  | a :: L, i + 1, h, x => by
    have ih := rcs_hop L i (by simpa using h) x
    show (rcell a ++ rcs L).set ((i + 1) * 4 + 3) _ = rcell a ++ rcs (L.set i ⟨(L[i]'(by simpa using h)).k, x⟩)
    rw [List.set_append_right _ _ (by simp [rcell]; omega), show (i + 1) * 4 + 3 - (rcell a).length = i * 4 + 3 by simp [rcell]; omega, ih]
theorem put_of_get {C : List Pl} {k : Ky} {v : Int} (h : (getC C k).isSome = true) : (putC C k v).isSome = true := by
  obtain ⟨i, hi, e, -⟩ := getC_some h
  rw [putC_hit e]; rfl
end Go.Proofs.YtoihkbanmnagkaaGreat
/-
  What the small calls of a table hand back: none, two, other, Len, Size. No condition but that its cells lie in memory, that it has from one to 65536 buckets, and that words are words of 64 bits.
-/
set_option linter.unusedSimpArgs false
set_option linter.unusedVariables false
namespace Go.Proofs.YtoihkbanmnagkaaGreat
open Go.RowKit Go.Sort M

/-- What a walk asks of a table's numbers. -/
structure Num (T : Tab) : Prop where
  lo : 1 ≤ T.B.length
  hi : T.B.length ≤ 65536
  word : W64 T.s
theorem Inv.num {T : Tab} (H : Inv T) : Num T := ⟨H.lo, H.hi, H.word⟩
theorem Num.x1_lt {T : Tab} (H : Num T) (k : Ky) : T.x1 k < T.B.length := b1_lt H.lo
theorem Num.x2_lt {T : Tab} (H : Num T) (k : Ky) : T.x2 k < T.B.length := b2_lt H.lo
theorem Num.set {T : Tab} (H : Num T) (i : Nat) (C : List Pl) : Num (T.set i C) := ⟨by rw [set_len]; exact H.lo, by rw [set_len]; exact H.hi, H.word⟩
set_option maxRecDepth 100000 in
set_option maxHeartbeats 1000000 in
theorem none_any (t g : Nat) (v : Value) (T : Tab) (m : Int) (w : World) (H : CT w t g v T m) (h : Num T) :
    Calls Tryz.prog 63 #[.pointer (some ⟨t, 0, none⟩)] w fun e w' => e = .returned (.bool false) ∧ Below w.heap.size w w' := by
  have c1 := H.tb.c1
  have hl := H.tb.tlt
  have h1 := h.lo
  generalize T.B.length = n at *
  have hn : ((n : Int) == 0) = false := by simp; omega
  clear H h
  go_enter Tryz.func63, Tryz.ntmps63
  go_wp2
  go_ret
  exact ⟨rfl, by go_grown⟩
set_option maxRecDepth 100000 in
set_option maxHeartbeats 1000000 in
theorem two_any (t g : Nat) (v : Value) (T : Tab) (m : Int) (k : Ky) (w : World) (H : CT w t g v T m) (h : Num T) (hk : k.good) :
    Calls Tryz.prog 64 #[.pointer (some ⟨t, 0, none⟩), kyV k] w fun e w' => e = .returned (.tuple #[.int .i64 (T.x1 k : Int), .int .i64 (T.x2 k : Int)]) ∧ Below w.heap.size w w' := by
  have c0 := H.tb.c0
  have c1 := H.tb.c1
  have hl := H.tb.tlt
  have hB := buck_any T.s k.h k.l k.n (T.B.length : Int) h.word hk.1 hk.2 (by have := h.hi; omega)
  rw [b1_int h.lo, b2_int h.lo] at hB
  change Gives _ _ _ (.tuple #[.int .i64 (T.x1 k : Int), .int .i64 (T.x2 k : Int)]) at hB
  have HB := Lib.hid hB
  generalize T.x1 k = x1 at *
  generalize T.x2 k = x2 at *
  clear H h hB
  unfold kyV
  go_enter Tryz.func64, Tryz.ntmps64
  go_wp2_with fail
  have kg := cell_grow
  refine region_whole (by kernel_rfl) (by kernel_rfl) ?_
  repeat (any_goals (first | go_big_quiet_step ((exact HB.out.at _ _ _)) | quiet_step ((exact HB.out.at _ _ _))))
  refine wpQuiet_nil ?_
  clear kg
  intro w1 hb1
  obtain ⟨hc1, hf1⟩ := bcell hb1
  have hw1 : Below w.heap.size w w1 := by
    refine Below.trans ?_ (hb1.mono ?_)
    · go_grown
    · first | omega | go_size
  go_wp2
  go_ret2
  exact ⟨rfl, hw1⟩
set_option maxRecDepth 100000 in
set_option maxHeartbeats 1000000 in
theorem other_any (t g : Nat) (v : Value) (T : Tab) (m : Int) (k : Ky) (b : Nat) (w : World) (H : CT w t g v T m) (h : Num T) (hk : k.good) :
    Calls Tryz.prog 102 #[.pointer (some ⟨t, 0, none⟩), kyV k, .int .i64 (b : Int)] w fun e w' => e = .returned (.int .i64 (T.other k b : Int)) ∧ Below w.heap.size w w' := by
  have HT := Lib.hid (fun w H => two_any t g v T m k w H h hk)
  have HH := Lib.hid H
  have HE : Hid (T.other k b = if b = T.x1 k then T.x2 k else T.x1 k) := rfl
  generalize T.x1 k = x1 at *
  generalize T.x2 k = x2 at *
  generalize T.other k b = o at *
  clear H h
  unfold kyV at *
  by_cases hb : b = x1
  · subst hb
    have hE := HE.out
    rw [if_pos rfl] at hE
    subst hE
    clear HE
    go_enter Tryz.func102, Tryz.ntmps102
    go_wp2_with fail
    refine (HT.out _ (HH.out.below (by go_grown))).mono ?_
    rintro e w1 ⟨rfl, hb1⟩
    have hw1 : Below w.heap.size w w1 := Below.trans (by go_grown) (hb1.mono (by go_size))
    clear hb1
    go_wp2
    go_ret
    exact ⟨rfl, hw1⟩
  · have hE := HE.out
    rw [if_neg hb] at hE
    subst hE
    have hbi : ((b : Int) == (o : Int)) = false := by simp; omega
    clear HE hb
    go_enter Tryz.func102, Tryz.ntmps102
    go_wp2_with fail
    refine (HT.out _ (HH.out.below (by go_grown))).mono ?_
    rintro e w1 ⟨rfl, hb1⟩
    have hw1 : Below w.heap.size w w1 := Below.trans (by go_grown) (hb1.mono (by go_size))
    clear hb1
    go_wp2
    go_ret
    exact ⟨rfl, hw1⟩
end Go.Proofs.YtoihkbanmnagkaaGreat
/-
  New buckets in memory, as 'make' lays them; a new table; what New hands back. No condition but those that stand in each.
-/
set_option linter.unusedSimpArgs false
set_option linter.unusedVariables false
namespace Go.Proofs.YtoihkbanmnagkaaGreat
open Go.RowKit Go.Sort M

def zB : Value := .agg #[.int .u64 0, .int .u64 0, .int .i64 0, .int .i64 0, .bool false, .int .u64 0, .int .u64 0, .int .i64 0, .int .i64 0, .bool false, .int .u64 0, .int .u64 0, .int .i64 0, .int .i64 0, .bool false, .int .u64 0, .int .u64 0, .int .i64 0, .int .i64 0, .bool false]
def zR : Value := .agg #[.int .u64 0, .int .u64 0, .int .i64 0, .int .i64 0, .int .u64 0, .int .u64 0, .int .i64 0, .int .i64 0, .int .u64 0, .int .u64 0, .int .i64 0, .int .i64 0, .int .u64 0, .int .u64 0, .int .i64 0, .int .i64 0, .bool false, .bool false, .bool false, .bool false]
theorem infoB12 : (Tryz.prog.info? 120).map (fun i => (i.zero, i.size, i.bytes)) = some (some zB, 20, 160) := by kernel_rfl
theorem infoRB : (Tryz.prog.info? 87).map (fun i => (i.zero, i.size, i.bytes)) = some (some zR, 20, 136) := by kernel_rfl
theorem made_cell {w : World} {g n i x : Nat} {z : Array Value} {t : TypeId} (hz : z.size = 20) (hg : w.heap[g]? = some (.cells (madeCells z (n * 20)) t (0, 0))) (hi : i < n) (hx : x < 20) : w.cell? ⟨g, i * 20 + x, none⟩ = some z[x]! := by
  rw [cell_of_row w g _ _ t (0, 0) hg]
  unfold madeCells
  rw [Array.getElem?_map, Array.getElem?_range, if_pos (by omega)]
  simp only [Option.map_some, hz]
  rw [show (i * 20 + x) % 20 = x by omega]
theorem made_free {w : World} {g n : Nat} {z : Array Value} {t : TypeId} (hg : w.heap[g]? = some (.cells (madeCells z (n * 20)) t (0, 0))) (j : Nat) : w.frozen? ⟨g, j, none⟩ = false := frozen_of_row w g j _ t hg
theorem made_bkt {w : World} {g n i : Nat} {t : TypeId} (hg : w.heap[g]? = some (.cells (madeCells zB.cells (n * 20)) t (0, 0))) (hi : i < n) : Bkt w g (i * 20) [none, none, none, none] := by
  refine ⟨rfl, (Array.getElem?_eq_some_iff.1 hg).1, fun k hk j u hu => ?_, fun j _ => made_free hg _⟩
  have hj : j < 5 := (List.getElem?_eq_some_iff.1 hu).1
  simp only [List.length_cons, List.length_nil] at hk
  rw [Nat.add_assoc, made_cell (by rfl) hg hi (by omega)]
  rcases (show k = 0 ∨ k = 1 ∨ k = 2 ∨ k = 3 by omega) with rfl | rfl | rfl | rfl <;> rcases (show j = 0 ∨ j = 1 ∨ j = 2 ∨ j = 3 ∨ j = 4 by omega) with rfl | rfl | rfl | rfl | rfl <;> (simp only [x5, List.getElem_cons_zero, List.getElem_cons_succ, List.getElem?_cons_zero, List.getElem?_cons_succ, Option.some.injEq] at hu; subst hu; rfl)
theorem made_rbk {w : World} {g n i : Nat} {t : TypeId} (hg : w.heap[g]? = some (.cells (madeCells zR.cells (n * 20)) t (0, 0))) (hi : i < n) : RBk w g (i * 20) [none, none, none, none] := by
  refine ⟨rfl, (Array.getElem?_eq_some_iff.1 hg).1, fun k hk => ?_, fun k hk => ?_, fun j _ => made_free hg _⟩
  · simp only [List.length_cons, List.length_nil] at hk
    simp only [Nat.add_assoc]
    rw [made_cell (by rfl) hg hi (by omega), made_cell (by rfl) hg hi (by omega), made_cell (by rfl) hg hi (by omega), made_cell (by rfl) hg hi (by omega)]
    rcases (show k = 0 ∨ k = 1 ∨ k = 2 ∨ k = 3 by omega) with rfl | rfl | rfl | rfl <;> exact ⟨rfl, rfl, rfl, rfl⟩
  · simp only [List.length_cons, List.length_nil] at hk
    rw [Nat.add_assoc, made_cell (by rfl) hg hi (by omega)]
    rcases (show k = 0 ∨ k = 1 ∨ k = 2 ∨ k = 3 by omega) with rfl | rfl | rfl | rfl <;> rfl
theorem empty_len (s n : Nat) : (emptyT s n).B.length = n := by simp [emptyT]
theorem Tb.fresh {K : World → Nat → Nat → List Pl → Prop} {w : World} {t g s n : Nat} (hK : ∀ i, i < n → K w g (i * 20) [none, none, none, none]) (hg : g < w.heap.size) (ht : t < w.heap.size) (c0 : w.cell? ⟨t, 0, none⟩ = some (.int .u64 (s : Int))) (c1 : w.cell? ⟨t, 1, none⟩ = some (.slice (some ⟨g, 0, none⟩) n n))
    (c2 : w.cell? ⟨t, 2, none⟩ = some (.slice none 0 0)) (f : ∀ j, w.frozen? ⟨t, j, none⟩ = false) (tg : t ≠ g) : Tb K w t g (.slice none 0 0) (emptyT s n) :=
  ⟨fun i hi => by rw [empty_len] at hi; rw [empty_bk s n i hi]; exact hK i hi, hg, ht, c0, by rw [empty_len]; exact c1, c2, f, World.ownsRow_nil _ _ _ _, tg, by simp [Value.ownBlock], by simp [Value.ownBlock]⟩
set_option maxRecDepth 100000 in
set_option maxHeartbeats 1000000 in
theorem new_bad (s : Nat) (n : Int) (w : World) (h : n < 1 ∨ 65536 < n) :
    Calls Tryz.prog 23 #[.int .u64 (s : Int), .int .i64 n] w fun e w' => e = .returned (.tuple #[.pointer none, .int .i64 1]) ∧ Below w.heap.size w w' := by
  rcases h with h | h
  · go_enter Tryz.func23, Tryz.ntmps23
    go_wp2
    go_ret2
    exact ⟨rfl, by go_grown⟩
  · have h2 : ¬ n < 1 := by omega
    go_enter Tryz.func23, Tryz.ntmps23
    go_wp2
    go_ret2
    exact ⟨rfl, by go_grown⟩
set_option maxRecDepth 100000 in
set_option maxHeartbeats 1000000 in
theorem cnew_any (s n : Nat) (w : World) (h1 : 1 ≤ n) (h2 : n ≤ 65536) :
    Calls Tryz.prog 23 #[.int .u64 (s : Int), .int .i64 (n : Int)] w fun e w' => ∃ t, e = .returned (.tuple #[.pointer (some ⟨t, 0, none⟩), .int .i64 0]) ∧ ∃ g, CT w' t g (.slice none 0 0) (emptyT s n) 0 ∧ Below w.heap.size w w' ∧ w.heap.size ≤ t ∧ w.heap.size ≤ g := by
  have PLA := fun w => make_row Tryz.underlying97 infoB12 n (by omega) (by unfold maxLen; omega) w
  have h3 : ¬ ((n : Int) < 1) := by omega
  have h4 : ¬ ((65536 : Int) < n) := by omega
  generalize hM : madeCells zB.cells (n * 20) = M at PLA
  go_enter Tryz.func23, Tryz.ntmps23
  go_wp2
  go_ret2
  refine ⟨w.heap.size + 1, rfl, w.heap.size, ⟨Tb.fresh (fun i hi => made_bkt (t := 120) (n := n) ?_ hi) (by simp; omega) (by simp) (by simp [go_sem]) (by simp [go_sem]) (by simp [go_sem]) (fun j => by simp [go_sem]) (by omega), by simp [go_sem]⟩, by go_grown, by omega, Nat.le_refl _⟩
  rw [hM]
  rw [heap_alloc_old _ _ (by simp)]
  exact heap_alloc_new w _
end Go.Proofs.YtoihkbanmnagkaaGreat
