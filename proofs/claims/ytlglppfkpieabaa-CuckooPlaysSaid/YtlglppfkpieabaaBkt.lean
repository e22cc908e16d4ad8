/-
  A bucket in memory: twenty cells of a block, from an offset on; what is kept of them while others are written. No condition but those that stand in each.
-/
import Derived.Test.YtlglppfkpieabaaRts
import Derived.Laws.CopyOwn
import Derived.Lib.AppendZerosOnto
import Derived.Laws.AppendOwnNone
import Derived.Maps.AppendAt
import Derived.Test.YtlglppfkpieabaaOwn
import Derived.Handy
/-
  copy between rows of elements of several cells, where the block that is written is known whole: its run, and as a step of a walk. No condition on the program.
-/
set_option linter.unusedSimpArgs false
set_option linter.unusedVariables false
namespace Go.Proofs.Ytlglppfkpieabaa
open Go Go.RowKit Go.Sort

section
variable {P : Program}
theorem run_copy_k (w : World) (dT sT ty elem : TypeId) (i0 : TypeInfo) (hu : P.underlying dT = some (.slice elem)) (hi : P.info? elem = some i0) (k : Nat) (hk : i0.size = k) (g o dLen dCap : Nat) (a : Addr) (sLen sCap : Nat) (cur : Array Value) (t : TypeId) (cs : List Value)
    (m : Nat) (hm : Nat.min sLen dLen = m) (hn : cs.length = m * k) (hg : w.heap[g]? = some (.cells cur t (0, 0))) (hsrc : ∀ j v, cs[j]? = some v → w.cell? (a.add j) = some v) (hfit : o + cs.length ≤ cur.size) (h1 : ∀ v ∈ cs, v.oneCell' = true) :
    (Builtin.copy_ #[dT, sT] ty #[.slice (some ⟨g, o, none⟩) dLen dCap, .slice (some a) sLen sCap]).run P w = .ok (goInt m) (w.setRow g (splice cur.toList o cs).toArray) := by
  have hl := run_firstCells_some (P := P) w k m a sLen sCap cs hn hsrc
  have hst := run_storeCells_at P g o t cs 0 cur w hg (by simpa using hfit) h1
  simp [Builtin.copy_, run_underlying hu, Builtin.lenOf, sizeOf, typeInfo, hi, hk, hm, hl, hst, splice]
theorem grown_setRow (w : World) (g : Nat) (cs : Array Value) : w.grownBy (w.setRow g cs) (some g) :=
  ⟨rfl, rfl, rfl, by simp [World.setRow], fun k _ hk => setRow_other w g k cs (fun e => hk (by rw [e]))⟩
theorem wp_copy_rt {o : Oper} {a : Act} {w : World} {K : Act → World → Prop} {Q : Exit → Act → World → Prop} (d s : Operand) (dT sT : TypeId)
    (ho : o.op = .call { callee := .builtin .copy, args := #[d, s], argTypes := #[dT, sT] }) (elem : TypeId) (i0 : TypeInfo) (hu : P.underlying dT = some (.slice elem)) (hi : P.info? elem = some i0) (k : Nat) (hk : i0.size = k)
    (g off dLen dCap : Nat) (ad : Addr) (sLen sCap : Nat) (hd : a.eval d = .slice (some ⟨g, off, none⟩) dLen dCap) (hs : a.eval s = .slice (some ad) sLen sCap)
    (cur : Array Value) (t : TypeId) (hg : w.heap[g]? = some (.cells cur t (0, 0))) (cs : List Value) (m : Nat) (hm : Nat.min sLen dLen = m) (hn : cs.length = m * k)
    (hsrc : ∀ j v, cs[j]? = some v → w.cell? (ad.add j) = some v) (hfit : off + cs.length ≤ cur.size) (h1 : ∀ v ∈ cs, v.oneCell' = true)
    (h : ∀ w', Hid (w'.heap[g]? = some (.cells (splice cur.toList off cs).toArray t (0, 0))) → w.grownBy w' (some g) → K (a.put o.dst (goInt m)) w') : o.wp P a w K Q := by
  have hr := run_copy_k (P := P) w dT sT o.type elem i0 hu hi k hk g off dLen dCap ad sLen sCap cur t cs m hm hn hg hsrc hfit h1
  unfold Oper.wp execOp
  simp only [ho, resolve, invoke, builtin, Sem.run_bind, Sem.run_pure, Result.andThen_ok, List.map_toArray, List.map_cons, List.map_nil, hd, hs, hr]
  exact h _ (show _ = _ from setRow_heap w g cur _ t _ hg) (grown_setRow w g _)
theorem wpList_copy_rt {ops : Array Oper} {rest : List Oper} {o : Oper} {a : Act} {w : World} {Q : Exit → Act → World → Prop} (hgd : o.guard = none) (d s : Operand) (dT sT : TypeId)
    (ho : o.op = .call { callee := .builtin .copy, args := #[d, s], argTypes := #[dT, sT] }) (elem : TypeId) (i0 : TypeInfo) (hu : P.underlying dT = some (.slice elem)) (hi : P.info? elem = some i0) (k : Nat) (hk : i0.size = k)
    (g off dLen dCap : Nat) (ad : Addr) (sLen sCap : Nat) (hd : a.eval d = .slice (some ⟨g, off, none⟩) dLen dCap) (hs : a.eval s = .slice (some ad) sLen sCap)
    (cur : Array Value) (t : TypeId) (hg : w.heap[g]? = some (.cells cur t (0, 0))) (cs : List Value) (m : Nat) (hm : Nat.min sLen dLen = m) (hn : cs.length = m * k)
    (hsrc : ∀ j v, cs[j]? = some v → w.cell? (ad.add j) = some v) (hfit : off + cs.length ≤ cur.size) (h1 : ∀ v ∈ cs, v.oneCell' = true)
    (h : ∀ w', Hid (w'.heap[g]? = some (.cells (splice cur.toList off cs).toArray t (0, 0))) → w.grownBy w' (some g) → wpList P ops Q rest (a.put o.dst (goInt m)) w') : wpList P ops Q (o :: rest) a w :=
  wpList_plain hgd fun _ hK => wp_copy_rt d s dT sT ho elem i0 hu hi k hk g off dLen dCap ad sLen sCap hd hs cur t hg cs m hm hn hsrc hfit h1 fun w' h2 h3 => hK _ _ (h w' h2 h3)
theorem step_copy_rt {ops : Array Oper} {o : Oper} {a : Act} {w : World} {K : Act → World → Prop} {Q : Exit → Act → World → Prop} {E : Prop} (hgd : o.guard = none) (d s : Operand) (dT sT : TypeId)
    (ho : o.op = .call { callee := .builtin .copy, args := #[d, s], argTypes := #[dT, sT] }) (elem : TypeId) (i0 : TypeInfo) (hu : P.underlying dT = some (.slice elem)) (hi : P.info? elem = some i0) (k : Nat) (hk : i0.size = k)
    (g off dLen dCap : Nat) (ad : Addr) (sLen sCap : Nat) (hd : a.eval d = .slice (some ⟨g, off, none⟩) dLen dCap) (hs : a.eval s = .slice (some ad) sLen sCap)
    (cur : Array Value) (t : TypeId) (hg : w.heap[g]? = some (.cells cur t (0, 0))) (cs : List Value) (m : Nat) (hm : Nat.min sLen dLen = m) (hn : cs.length = m * k)
    (hsrc : ∀ j v, cs[j]? = some v → w.cell? (ad.add j) = some v) (hfit : off + cs.length ≤ cur.size) (h1 : ∀ v ∈ cs, v.oneCell' = true)
    (h : ∀ w', Hid (w'.heap[g]? = some (.cells (splice cur.toList off cs).toArray t (0, 0))) → w.grownBy w' (some g) → K (a.put o.dst (goInt m)) w') :
    if Region.wanted o (yielded ops a.tmps) = true then Oper.wp P o a w K Q else E := by
  have hw : Region.wanted o (yielded ops a.tmps) = true := by simp [Region.wanted, hgd]
  rw [if_pos hw]
  exact wp_copy_rt d s dT sT ho elem i0 hu hi k hk g off dLen dCap ad sLen sCap hd hs cur t hg cs m hm hn hsrc hfit h1 h
end
/-- A row of the call's own that has a cell: its block, known whole. -/
theorem own_whole {w : World} {B n k : Nat} {e : TypeId} {v : Value} {xs : List Value} (h : w.ownsRow B e k v n xs) (hn : 0 < n) :
    ∃ g cap cur, v = .slice (some ⟨g, 0, none⟩) n cap ∧ B ≤ g ∧ g < w.heap.size ∧ w.heap[g]? = some (.cells cur e (0, 0)) ∧ n ≤ cap ∧ cap ≤ maxLen ∧ cur.size = cap * k ∧ cur.toList.take (n * k) = xs := by
  rcases h.2 with ⟨-, h0⟩ | ⟨g, cap, cur, rfl, hB, hg, h1, h2, h3, h4⟩
  · omega
  · exact ⟨g, cap, cur, rfl, hB, (Array.getElem?_eq_some_iff.1 hg).1, hg, h1, h2, h3, h4⟩
theorem own_made {w : World} {B n k g cap : Nat} {e : TypeId} {cur : Array Value} {xs : List Value} (hB : B ≤ g) (hg : w.heap[g]? = some (.cells cur e (0, 0))) (h1 : n ≤ cap) (h2 : cap ≤ maxLen) (h3 : cur.size = cap * k) (h4 : cur.toList.take (n * k) = xs) :
    w.ownsRow B e k (.slice (some ⟨g, 0, none⟩) n cap) n xs :=
  ⟨by rw [← h4, List.length_take, Array.length_toList, h3]; exact Nat.min_eq_left (Nat.mul_le_mul_right _ h1), .inr ⟨g, cap, cur, rfl, hB, hg, h1, h2, h3, h4⟩⟩
theorem rcs_take (L : List Rt) (i : Nat) : (rcs L).take (i * 4) = rcs (L.take i) := by
  by_cases h : i ≤ L.length
  · have e : rcs L = rcs (L.take i) ++ rcs (L.drop i) := by rw [← rcs_append, List.take_append_drop]
    rw [e, List.take_append_of_le_length (by rw [rcs_len, List.length_take]; omega), List.take_of_length_le (by rw [rcs_len, List.length_take]; omega)]
  · rw [List.take_of_length_le (by rw [rcs_len]; omega), List.take_of_length_le (by omega)]
theorem rcs_drop (L : List Rt) (i : Nat) : (rcs L).drop (i * 4) = rcs (L.drop i) := by
  by_cases h : i ≤ L.length
  · have e : rcs L = rcs (L.take i) ++ rcs (L.drop i) := by rw [← rcs_append, List.take_append_drop]
    rw [e, List.drop_append, List.drop_eq_nil_of_le (by rw [rcs_len, List.length_take]; omega), rcs_len, List.length_take, Nat.min_eq_left h, Nat.sub_self]
    simp
  · rw [List.drop_eq_nil_of_le (by rw [rcs_len]; omega), List.drop_eq_nil_of_le (by omega)]
    rfl
/-- Out of a block that is known whole: cells from an offset on. -/
theorem cells_at {w : World} {g : Nat} {cur : Array Value} {t : TypeId} (hg : w.heap[g]? = some (.cells cur t (0, 0))) (o : Nat) (cs : List Value) (h : (cur.toList.drop o).take cs.length = cs) : ∀ j u, cs[j]? = some u → w.cell? ((⟨g, o, none⟩ : Addr).add j) = some u := by
  intro j u hu
  have hlt := (List.getElem?_eq_some_iff.1 hu).1
  rw [show (⟨g, o, none⟩ : Addr).add j = ⟨g, o + j, none⟩ by unfold Addr.add; split <;> simp_all]
  rw [cell_of_row w g (o + j) cur t (0, 0) hg]
  rw [← h, List.getElem?_take, if_pos hlt, List.getElem?_drop] at hu
  simpa using hu
theorem splice_take {α : Type} (L : List α) (o n : Nat) (cs : List α) (h : n ≤ o) (ho : o ≤ L.length) : (splice L o cs).take n = L.take n := by
  unfold splice
  rw [List.take_append_of_le_length (by rw [List.length_take]; omega), List.take_take, Nat.min_eq_left h]
/-- One more, in the midst, in place: first what stands behind moves on, then the one is laid. -/
theorem splice_in {α : Type} (cur X1 Y X2 : List α) (a b c : Nat) (ha : X1.length = a) (hb : Y.length = b) (hc : X2.length = c) (h : cur.take (a + c) = X1 ++ X2) (hl : a + b + c ≤ cur.length) :
    (splice (splice cur (a + b) X2) a Y).take (a + b + c) = X1 ++ Y ++ X2 := by
  subst ha hb hc
  obtain ⟨Z, rfl⟩ : ∃ Z, cur = X1 ++ X2 ++ Z := ⟨cur.drop (X1.length + X2.length), by rw [← h, List.take_append_drop]⟩
  unfold splice
  have e1 : (X1 ++ X2 ++ Z).take (X1.length + Y.length) ++ (X2 ++ (X1 ++ X2 ++ Z).drop (X1.length + Y.length + X2.length)) = X1 ++ ((X2 ++ Z).take Y.length ++ (X2 ++ (X1 ++ X2 ++ Z).drop (X1.length + Y.length + X2.length))) := by
    rw [List.append_assoc X1, List.take_length_add_append, List.append_assoc]
  rw [e1, List.take_left' rfl, List.drop_length_add_append]
  have hlen : Y.length ≤ (X2 ++ Z).length := by simp at hl ⊢; omega
  rw [List.drop_append, List.drop_eq_nil_of_le (by rw [List.length_take]; omega), List.length_take, Nat.min_eq_left hlen, Nat.sub_self, List.drop_zero, List.nil_append]
  rw [← List.append_assoc, ← List.append_assoc]
  exact List.take_left' (by simp; omega)
/-- .. in a new row: what stands ahead is there; the one is laid, then what stands behind. -/
theorem splice_new {α : Type} (X1 Z Y X2 : List α) (a b c : Nat) (ha : X1.length = a) (hb : Y.length = b) (hc : X2.length = c) (hl : b + c ≤ Z.length) : (splice (splice (X1 ++ Z) a Y) (a + b) X2).take (a + b + c) = X1 ++ Y ++ X2 := by
  subst ha hb hc
  have e1 : splice (X1 ++ Z) X1.length Y = X1 ++ Y ++ Z.drop Y.length := by
    unfold splice
    rw [List.take_left, List.drop_length_add_append, List.append_assoc]
  rw [e1]
  unfold splice
  rw [List.take_left' (l₁ := X1 ++ Y) (by simp), ← List.append_assoc (X1 ++ Y)]
  exact List.take_left' (by simp; omega)
end Go.Proofs.Ytlglppfkpieabaa
/-
  append of one row of routes to another one, each of the call's own or a table's. No condition but that both together are short of 2^40.
-/
set_option linter.unusedSimpArgs false
set_option linter.unusedVariables false
namespace Go.Proofs.Ytlglppfkpieabaa
open Go Go.RowKit Go.Sort M

theorem wpList_append_rts {ops : Array Oper} {rest : List Oper} {o : Oper} {a : Act} {w : World} {Q : Exit → Act → World → Prop} (hgd : o.guard = none) (s x : Operand)
    (ho : o.op = .call { callee := .builtin .append, args := #[s, x], argTypes := #[43, 43] }) (B B2 : Nat) (v u : Value) (L M N : List Rt) (hN : N = L ++ M) (hs : a.eval s = v) (hx : a.eval x = u)
    (hown : w.ownsRow B 48 4 v L.length (rcs L)) (hsrc : w.ownsRow B2 48 4 u M.length (rcs M)) (hlen : L.length + M.length ≤ 1099511627776) (hB : B ≤ w.heap.size)
    (h : ∀ v' w', w'.ownsRow B 48 4 v' N.length (rcs N) → w.grownBy w' v.ownBlock → (v'.ownBlock = v.ownBlock ∨ v'.ownBlock = some w.heap.size) → wpList Try.prog ops Q rest (a.put o.dst v') w') : wpList Try.prog ops Q (o :: rest) a w := by
  subst hN
  obtain ⟨i0, hi0, iz0, iz1, iz2⟩ := info_parts infoR
  rcases hsrc.2 with ⟨hu, h0⟩ | ⟨g, cap, cur, hu, -, -, -, -, -, -⟩
  · subst hu
    refine wpList_append_own_none hgd s x 43 ho B 48 i0 4 Try.underlying43 hi0 v _ _ hs hown hx ?_
    have hM := List.length_eq_zero_iff.1 h0
    subst hM
    refine h v w ?_ ⟨rfl, rfl, rfl, Nat.le_refl _, fun _ _ _ => rfl⟩ (.inl rfl)
    rwa [List.append_nil]
  · have hc := fun hg => hsrc.cells (g := g) hg
    subst hu
    refine wpList_append_own_at w hgd s x 43 ho B 48 i0 _ 4 32 Try.underlying43 hi0 iz0 iz1 iz2 rfl (by decide) v _ _ hs hown ⟨g, 0, none⟩ M.length cap (rcs M) hx (rcs_len M) (hc rfl) (rcs_one' M) (by unfold maxLen; omega) (by omega) hB ?_
    intro v' w' h1 h2 _ h4
    refine h v' w' ?_ h2 h4
    rw [rcs_append, List.length_append]
    exact h1
end Go.Proofs.Ytlglppfkpieabaa
/-
  A bucket in memory: twenty cells of a block, from an offset on; what is kept of them while others are written. No condition but those that stand in each.
-/
set_option linter.unusedSimpArgs false
set_option linter.unusedVariables false
namespace Go.Proofs.Ytlglppfkpieabaa
open Go.RowKit Go.Sort M

/-- A key as a value. -/
def kyV (k : Ky) : Value := .agg #[.int .u64 (k.h : Int), .int .u64 (k.l : Int), .int .i64 k.n]
/-- The cells of a place. -/
def x5 (x : Pl) : List Value := [.int .u64 (xh x : Int), .int .u64 (xl x : Int), .int .i64 (xn x), .int .i64 (xv x), .bool x.isSome]
/-- A bucket at offset o of block g. -/
structure Bkt (w : World) (g o : Nat) (C : List Pl) : Prop where
  four : C.length = 4
  lt : g < w.heap.size
  cell : ∀ (i : Nat) (hi : i < C.length) (j : Nat) (u : Value), (x5 C[i])[j]? = some u → w.cell? ⟨g, o + i * 5 + j, none⟩ = some u
  free : ∀ j, j < 20 → w.frozen? ⟨g, o + j, none⟩ = false
/-- What is written: nothing but n cells of block g, from offset o on. -/
structure Turn (w w' : World) (g o n : Nat) : Prop where
  grown : w.grownBy w' (some g)
  cell : ∀ x, x < o ∨ o + n ≤ x → w'.cell? ⟨g, x, none⟩ = w.cell? ⟨g, x, none⟩
  frozen : ∀ x, w'.frozen? ⟨g, x, none⟩ = w.frozen? ⟨g, x, none⟩
theorem Turn.of_below {w w' : World} {g o n : Nat} (hg : g < w.heap.size) (hb : Below w.heap.size w w') : Turn w w' g o n :=
  ⟨⟨hb.os, hb.tape, hb.output, hb.size, fun k hk _ => hb.block k hk⟩, fun x _ => hb.cell (p := ⟨g, x, none⟩) hg, fun x => hb.frozen (p := ⟨g, x, none⟩) hg⟩
theorem Turn.trans {a b c : World} {g o n : Nat} (h : Turn a b g o n) (k : Turn b c g o n) : Turn a c g o n :=
  ⟨h.grown.trans k.grown, fun x hx => (k.cell x hx).trans (h.cell x hx), fun x => (k.frozen x).trans (h.frozen x)⟩
theorem Bkt.below {w w' : World} {g o : Nat} {C : List Pl} (H : Bkt w g o C) (hb : Below w.heap.size w w') : Bkt w' g o C :=
  ⟨H.four, Nat.lt_of_lt_of_le H.lt hb.size, fun i hi j u hu => (hb.cell (p := ⟨g, o + i * 5 + j, none⟩) H.lt).trans (H.cell i hi j u hu), fun j hj => (hb.frozen (p := ⟨g, o + j, none⟩) H.lt).trans (H.free j hj)⟩
/-- A bucket's own cells are not written. -/
theorem Bkt.kept {w w' : World} {g o g' o' n : Nat} {C : List Pl} (H : Bkt w g o C) (h : Turn w w' g' o' n) (hne : g ≠ g' ∨ o + 20 ≤ o' ∨ o' + n ≤ o) : Bkt w' g o C := by
  have hc : ∀ x, x < 20 → w'.cell? ⟨g, o + x, none⟩ = w.cell? ⟨g, o + x, none⟩ ∧ w'.frozen? ⟨g, o + x, none⟩ = w.frozen? ⟨g, o + x, none⟩ := by
    intro x hx
    by_cases e : g = g'
    · subst e
      exact ⟨h.cell _ (by omega), h.frozen _⟩
    · have hb := h.grown.block g H.lt (by simpa using e)
      exact ⟨World.cell?_of_block hb, by unfold World.frozen?; rw [hb]⟩
  have h4 := H.four
  refine ⟨H.four, Nat.lt_of_lt_of_le H.lt h.grown.size, fun i hi j u hu => ?_, fun j hj => (hc j hj).2.trans (H.free j hj)⟩
  have hj : j < 5 := (List.getElem?_eq_some_iff.1 hu).1
  rw [Nat.add_assoc, (hc (i * 5 + j) (by omega)).1, ← Nat.add_assoc]
  exact H.cell i hi j u hu
theorem Bkt.at {w : World} {g o : Nat} {C : List Pl} (H : Bkt w g o C) (i : Nat) (hi : i < C.length) :
    w.cell? ⟨g, o + i * 5, none⟩ = some (.int .u64 (xh C[i] : Int)) ∧ w.cell? ⟨g, o + i * 5 + 1, none⟩ = some (.int .u64 (xl C[i] : Int)) ∧ w.cell? ⟨g, o + i * 5 + 2, none⟩ = some (.int .i64 (xn C[i])) ∧ w.cell? ⟨g, o + i * 5 + 3, none⟩ = some (.int .i64 (xv C[i])) ∧ w.cell? ⟨g, o + i * 5 + 4, none⟩ = some (.bool C[i].isSome) :=
  ⟨H.cell i hi 0 _ rfl, H.cell i hi 1 _ rfl, H.cell i hi 2 _ rfl, H.cell i hi 3 _ rfl, H.cell i hi 4 _ rfl⟩
theorem turn_one (w : World) (g o n x : Nat) (u : Value) (h1 : o ≤ x) (h2 : x < o + n) : Turn w (w.setCell ⟨g, x, none⟩ u) g o n := by
  refine ⟨⟨rfl, rfl, rfl, by rw [World.size_setCell]; exact Nat.le_refl _, fun k hk hn => Below.heap_setCell w ⟨g, x, none⟩ u k (by simpa using hn)⟩, fun y hy => ?_, fun y => ?_⟩
  · rw [World.cell?_setCell_other]
    intro e
    injection e with e1 e2
    omega
  · rw [World.frozen?_setCell]
theorem Turn.mono {w w' : World} {g o n o' n' : Nat} (h : Turn w w' g o n) (h1 : o' ≤ o) (h2 : o + n ≤ o' + n') : Turn w w' g o' n' := ⟨h.grown, fun x hx => h.cell x (by omega), h.frozen⟩
/-- The five cells of a place are written. -/
def put5 (w : World) (g p : Nat) (x : Pl) : World :=
  ((((w.setCell ⟨g, p, none⟩ (.int .u64 (xh x : Int))).setCell ⟨g, p + 1, none⟩ (.int .u64 (xl x : Int))).setCell ⟨g, p + 2, none⟩ (.int .i64 (xn x))).setCell ⟨g, p + 3, none⟩ (.int .i64 (xv x))).setCell ⟨g, p + 4, none⟩ (.bool x.isSome)
theorem turn_put5 (w : World) (g p : Nat) (x : Pl) : Turn w (put5 w g p x) g p 5 :=
  ((((turn_one w g p 5 p _ (by omega) (by omega)).trans (turn_one _ g p 5 (p + 1) _ (by omega) (by omega))).trans (turn_one _ g p 5 (p + 2) _ (by omega) (by omega))).trans (turn_one _ g p 5 (p + 3) _ (by omega) (by omega))).trans
    (turn_one _ g p 5 (p + 4) _ (by omega) (by omega))
theorem put5_cell {w : World} {g p : Nat} (x : Pl) (hc : ∀ j, j < 5 → (w.cell? ⟨g, p + j, none⟩).isSome = true) (j : Nat) (u : Value) (hu : (x5 x)[j]? = some u) : (put5 w g p x).cell? ⟨g, p + j, none⟩ = some u := by
  have h0 := hc 0 (by omega)
  have h1 := hc 1 (by omega)
  have h2 := hc 2 (by omega)
  have h3 := hc 3 (by omega)
  have h4 := hc 4 (by omega)
  rw [Nat.add_zero] at h0
  have hj : j < 5 := (List.getElem?_eq_some_iff.1 hu).1
  unfold put5
  rcases (show j = 0 ∨ j = 1 ∨ j = 2 ∨ j = 3 ∨ j = 4 by omega) with rfl | rfl | rfl | rfl | rfl <;> (simp only [x5, List.getElem?_cons_zero, List.getElem?_cons_succ, Option.some.injEq] at hu; subst hu; simp [go_sem, h0, h1, h2, h3, h4])
theorem Bkt.put {w : World} {g o : Nat} {C : List Pl} (H : Bkt w g o C) (i : Nat) (hi : i < C.length) (x : Pl) : Bkt (put5 w g (o + i * 5) x) g o (C.set i x) ∧ Turn w (put5 w g (o + i * 5) x) g o 20 := by
  have h4 := H.four
  have ht := turn_put5 w g (o + i * 5) x
  refine ⟨⟨by simpa using h4, Nat.lt_of_lt_of_le H.lt ht.grown.size, fun k hk j u hu => ?_, fun j hj => (ht.frozen _).trans (H.free j hj)⟩, ht.mono (by omega) (by omega)⟩
  rw [List.length_set] at hk
  have hj : j < 5 := (List.getElem?_eq_some_iff.1 hu).1
  by_cases e : i = k
  · subst e
    rw [List.getElem_set_self] at hu
    exact put5_cell x (fun j hj => by rw [H.cell i hi j _ (List.getElem?_eq_getElem (by simpa [x5] using hj))]; rfl) j u hu
  · rw [List.getElem_set_ne e] at hu
    rw [ht.cell _ (by omega)]
    exact H.cell k hk j u hu
theorem Bkt.drew {w : World} {g o : Nat} {C : List Pl} (H : Bkt w g o C) : Bkt w.drew g o C := H.below (by go_grown)
theorem Turn.drew {w w' : World} {g o n : Nat} (h : Turn w w' g o n) (hl : g < w.heap.size) : Turn w w'.drew g o n := h.trans (Turn.of_below (Nat.lt_of_lt_of_le hl h.grown.size) (by go_grown))
/-- A place is written: behind it, and behind the order that was drawn. -/
theorem Bkt.put_drew {w w1 : World} {g o : Nat} {C : List Pl} (H : Bkt w g o C) (hb : Below w.heap.size w w1) (i : Nat) (hi : i < C.length) (x : Pl) :
    Bkt (put5 w1 g (o + i * 5) x).drew g o (C.set i x) ∧ Turn w (put5 w1 g (o + i * 5) x).drew g o 20 := by
  have hP := (H.below hb).put i hi x
  exact ⟨hP.1.drew, ((Turn.of_below H.lt hb).trans hP.2).drew H.lt⟩
/-- A write to a block that was not there. -/
theorem Turn.fresh {w w1 : World} {g o n : Nat} (h : Turn w w1 g o n) (hl : g < w.heap.size) (b x : Nat) (u : Value) (hb : w.heap.size ≤ b) : Turn w (w1.setCell ⟨b, x, none⟩ u) g o n := by
  refine ⟨⟨h.grown.os, h.grown.tape, h.grown.output, by rw [World.size_setCell]; exact h.grown.size, fun k hk hn => (Below.heap_setCell w1 ⟨b, x, none⟩ u k (by simp; omega)).trans (h.grown.block k hk hn)⟩, fun y hy => ?_, fun y => ?_⟩
  · rw [World.cell?_setCell_other]
    · exact h.cell y hy
    · intro e
      injection e with e1 e2
      omega
  · rw [World.frozen?_setCell]
    exact h.frozen y
theorem Bkt.fresh {w1 : World} {g o : Nat} {C : List Pl} (H : Bkt w1 g o C) (b x : Nat) (u : Value) (hb : g ≠ b) : Bkt (w1.setCell ⟨b, x, none⟩ u) g o C := H.kept (turn_one w1 b x 1 x u (Nat.le_refl _) (by omega)) (.inl hb)
/-- Another block is as it was. -/
theorem Turn.far {w w' : World} {g o n b : Nat} (h : Turn w w' g o n) (hb : b < w.heap.size) (hne : b ≠ g) (x : Nat) : w'.cell? ⟨b, x, none⟩ = w.cell? ⟨b, x, none⟩ ∧ w'.frozen? ⟨b, x, none⟩ = w.frozen? ⟨b, x, none⟩ := by
  have hB := h.grown.block b hb (by simpa using hne)
  exact ⟨World.cell?_of_block hB, by unfold World.frozen?; rw [hB]⟩
end Go.Proofs.Ytlglppfkpieabaa
