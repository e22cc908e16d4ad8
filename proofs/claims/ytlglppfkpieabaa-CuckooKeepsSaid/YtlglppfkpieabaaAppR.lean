/-
  append of one row of routes to another one, each of the call's own or a table's. No condition but that both together are short of 2^40.
-/
import Derived.Test.YtlglppfkpieabaaM11
import Derived.Laws.CopyOwn
import Derived.Lib.AppendZerosOnto
import Derived.Laws.AppendOwnNone
import Derived.Maps.AppendAt
/-
  Rows of routes in memory: a list of keys with their values as cells, four to each; rows of the call's own, and what is read of them. No condition but those that stand in each.
-/
set_option linter.unusedSimpArgs false
set_option linter.unusedVariables false
namespace Go.Proofs.Ytlglppfkpieabaa
open Go.RowKit Go.Sort M

def rcell (r : Rt) : List Value := [.int .u64 (r.k.h : Int), .int .u64 (r.k.l : Int), .int .i64 r.k.n, .int .i64 r.v]
def rcs (L : List Rt) : List Value := L.flatMap rcell
theorem rcs_len (L : List Rt) : (rcs L).length = L.length * 4 := by
  unfold rcs
  induction L with
  | nil => rfl
  | cons x L ih => simp only [List.flatMap_cons, List.length_append, ih, rcell, List.length_cons, List.length_nil]; omega
theorem rcs_append (L M : List Rt) : rcs (L ++ M) = rcs L ++ rcs M := by simp [rcs]
theorem rcs_cons (x : Rt) (L : List Rt) : rcs (x :: L) = rcell x ++ rcs L := rfl
theorem rcs_one (p : Rt) : rcs [p] = rcell p := by simp [rcs]
theorem rcs_cell : ∀ (L : List Rt) (k j : Nat) (h : k < L.length), j < 4 → (rcs L)[k * 4 + j]? = (rcell L[k])[j]?
  | x :: L, 0, j, _, hj => by
    rw [rcs_cons, List.getElem?_append_left (by simp [rcell]; omega)]
    simp
  | x :: L, k + 1, j, h, hj => by
    rw [rcs_cons, List.getElem?_append_right (by simp [rcell]; omega), show (k + 1) * 4 + j - (rcell x).length = k * 4 + j by simp [rcell]; omega]
    rw [rcs_cell L k j (by simpa using h) hj]
    simp
theorem rcs_one' (L : List Rt) : ∀ u ∈ rcs L, u.oneCell' = true := by
  intro u hu
  unfold rcs at hu
  rw [List.mem_flatMap] at hu
  obtain ⟨p, -, hp⟩ := hu
  simp only [rcell, List.mem_cons, List.not_mem_nil, or_false] at hp
  rcases hp with rfl | rfl | rfl | rfl <;> rfl
/-- Number k of a row of routes. -/
theorem Row.rt {w : World} {p : Option Addr} {L : List Rt} (h : Row w p (rcs L)) {k : Nat} (hk : k < L.length) : ∃ g o, p = some ⟨g, o, none⟩ ∧ g < w.heap.size ∧
    w.cell? ⟨g, o + k * 4, none⟩ = some (.int .u64 (L[k].k.h : Int)) ∧ w.cell? ⟨g, o + k * 4 + 1, none⟩ = some (.int .u64 (L[k].k.l : Int)) ∧ w.cell? ⟨g, o + k * 4 + 2, none⟩ = some (.int .i64 L[k].k.n) ∧ w.cell? ⟨g, o + k * 4 + 3, none⟩ = some (.int .i64 L[k].v) := by
  rcases h with h | ⟨g, o, e, hg, hc⟩
  · have := rcs_len L
    rw [h] at this
    simp at this; omega
  · exact ⟨g, o, e, hg, hc (k * 4) _ (rcs_cell L k 0 hk (by omega)), hc (k * 4 + 1) _ (rcs_cell L k 1 hk (by omega)), hc (k * 4 + 2) _ (rcs_cell L k 2 hk (by omega)), hc (k * 4 + 3) _ (rcs_cell L k 3 hk (by omega))⟩
/-- A new row of routes. -/
def NewRts (w w' : World) (e : Ending) (L : List Rt) : Prop := ∃ p c, e = .returned (.slice p L.length c) ∧ w'.ownsRow w.heap.size 48 4 (.slice p L.length c) L.length (rcs L) ∧ Below w.heap.size w w'
theorem infoR : (Try.prog.info? 48).map (fun i => (i.zero, i.size, i.bytes)) = some (some (.agg #[.int .u64 0, .int .u64 0, .int .i64 0, .int .i64 0]), 4, 32) := by kernel_rfl
/-- Four new cells, at the head of their block. -/
theorem four_new {w : World} {g : Nat} {a b c d : Value} (h0 : w.cell? ⟨g, 0, none⟩ = some a) (h1 : w.cell? ⟨g, 1, none⟩ = some b) (h2 : w.cell? ⟨g, 2, none⟩ = some c) (h3 : w.cell? ⟨g, 3, none⟩ = some d) :
    ∀ j u, [a, b, c, d][j]? = some u → w.cell? ((⟨g, 0, none⟩ : Addr).add j) = some u := by
  intro j u hj
  have hlt : j < 4 := (List.getElem?_eq_some_iff.1 hj).1
  have he : (⟨g, 0, none⟩ : Addr).add j = ⟨g, j, none⟩ := by unfold Addr.add; split <;> simp_all
  rw [he]
  rcases (show j = 0 ∨ j = 1 ∨ j = 2 ∨ j = 3 by omega) with rfl | rfl | rfl | rfl <;> (simp only [List.getElem?_cons_zero, List.getElem?_cons_succ, Option.some.injEq] at hj; subst hj; assumption)
theorem own_rsnoc {w : World} {B n : Nat} {e : TypeId} {v : Value} {L : List Rt} {x : Rt} (h : w.ownsRow B e 4 v (n + 1) (rcs L ++ rcell x)) (hn : n = L.length) : w.ownsRow B e 4 v (L ++ [x]).length (rcs (L ++ [x])) := by
  rw [rcs_append, rcs_one, List.length_append, ← hn]
  exact h
end Go.Proofs.Ytlglppfkpieabaa
/-
  copy between rows of elements of several cells, where the block that is written is known whole: its run, and as a step of a walk. No condition on the program.
-/
set_option linter.unusedSimpArgs false
set_option linter.unusedVariables false
namespace Go.Proofs.Ytlglppfkpieabaa
open Go Go.RowKit Go.Sort

section
variable {P : Program}
theorem run_copy_k (w : World) (dT sT ty elem : TypeId) (i0 : TypeInfo) (hu : P.underlying dT = some (.slice elem)) (hi : P.info? elem = some i0) (k : Nat) (hk : i0.size = k) (g o dLen dCap : Nat) (a : Addr) (sLen sCap : Nat) (cur : Array Value) (t : TypeId) (cs : List Value)
    (m : Nat) (hm : Nat.min sLen dLen = m) (hn : cs.length = m * k) (hg : w.heap[g]? = some (.cells cur t (0, 0))) (hsrc : ∀ j v, cs[j]? = some v → w.cell? (a.add j) = some v) (hfit : o + cs.length ≤ cur.size) (h1 : ∀ v ∈ cs, v.oneCell' = true) :
    (Builtin.copy_ #[dT, sT] ty #[.slice (some ⟨g, o, none⟩) dLen dCap, .slice (some a) sLen sCap]).run P w = .ok (goInt m) (w.setRow g (splice cur.toList o cs).toArray) := by
  have hl := run_firstCells_some (P := P) w k m a sLen sCap cs hn hsrc
  have hst := run_storeCells_at P g o t cs 0 cur w hg (by simpa using hfit) h1
  simp [Builtin.copy_, run_underlying hu, Builtin.lenOf, sizeOf, typeInfo, hi, hk, hm, hl, hst, splice]
theorem grown_setRow (w : World) (g : Nat) (cs : Array Value) : w.grownBy (w.setRow g cs) (some g) :=
  ⟨rfl, rfl, rfl, by simp [World.setRow], fun k _ hk => setRow_other w g k cs (fun e => hk (by rw [e]))⟩
theorem wp_copy_rt {o : Oper} {a : Act} {w : World} {K : Act → World → Prop} {Q : Exit → Act → World → Prop} (d s : Operand) (dT sT : TypeId)
    (ho : o.op = .call { callee := .builtin .copy, args := #[d, s], argTypes := #[dT, sT] }) (elem : TypeId) (i0 : TypeInfo) (hu : P.underlying dT = some (.slice elem)) (hi : P.info? elem = some i0) (k : Nat) (hk : i0.size = k)
    (g off dLen dCap : Nat) (ad : Addr) (sLen sCap : Nat) (hd : a.eval d = .slice (some ⟨g, off, none⟩) dLen dCap) (hs : a.eval s = .slice (some ad) sLen sCap)
    (cur : Array Value) (t : TypeId) (hg : w.heap[g]? = some (.cells cur t (0, 0))) (cs : List Value) (m : Nat) (hm : Nat.min sLen dLen = m) (hn : cs.length = m * k)
    (hsrc : ∀ j v, cs[j]? = some v → w.cell? (ad.add j) = some v) (hfit : off + cs.length ≤ cur.size) (h1 : ∀ v ∈ cs, v.oneCell' = true)
    (h : ∀ w', Hid (w'.heap[g]? = some (.cells (splice cur.toList off cs).toArray t (0, 0))) → w.grownBy w' (some g) → K (a.put o.dst (goInt m)) w') : o.wp P a w K Q := by
  have hr := run_copy_k (P := P) w dT sT o.type elem i0 hu hi k hk g off dLen dCap ad sLen sCap cur t cs m hm hn hg hsrc hfit h1
  unfold Oper.wp execOp
  simp only [ho, resolve, invoke, builtin, Sem.run_bind, Sem.run_pure, Result.andThen_ok, List.map_toArray, List.map_cons, List.map_nil, hd, hs, hr]
  exact h _ (show _ = _ from setRow_heap w g cur _ t _ hg) (grown_setRow w g _)
theorem wpList_copy_rt {ops : Array Oper} {rest : List Oper} {o : Oper} {a : Act} {w : World} {Q : Exit → Act → World → Prop} (hgd : o.guard = none) (d s : Operand) (dT sT : TypeId)
    (ho : o.op = .call { callee := .builtin .copy, args := #[d, s], argTypes := #[dT, sT] }) (elem : TypeId) (i0 : TypeInfo) (hu : P.underlying dT = some (.slice elem)) (hi : P.info? elem = some i0) (k : Nat) (hk : i0.size = k)
    (g off dLen dCap : Nat) (ad : Addr) (sLen sCap : Nat) (hd : a.eval d = .slice (some ⟨g, off, none⟩) dLen dCap) (hs : a.eval s = .slice (some ad) sLen sCap)
    (cur : Array Value) (t : TypeId) (hg : w.heap[g]? = some (.cells cur t (0, 0))) (cs : List Value) (m : Nat) (hm : Nat.min sLen dLen = m) (hn : cs.length = m * k)
    (hsrc : ∀ j v, cs[j]? = some v → w.cell? (ad.add j) = some v) (hfit : off + cs.length ≤ cur.size) (h1 : ∀ v ∈ cs, v.oneCell' = true)
    (h : ∀ w', Hid (w'.heap[g]? = some (.cells (splice cur.toList off cs).toArray t (0, 0))) → w.grownBy w' (some g) → wpList P ops Q rest (a.put o.dst (goInt m)) w') : wpList P ops Q (o :: rest) a w :=
  wpList_plain hgd fun _ hK => wp_copy_rt d s dT sT ho elem i0 hu hi k hk g off dLen dCap ad sLen sCap hd hs cur t hg cs m hm hn hsrc hfit h1 fun w' h2 h3 => hK _ _ (h w' h2 h3)
theorem step_copy_rt {ops : Array Oper} {o : Oper} {a : Act} {w : World} {K : Act → World → Prop} {Q : Exit → Act → World → Prop} {E : Prop} (hgd : o.guard = none) (d s : Operand) (dT sT : TypeId)
    (ho : o.op = .call { callee := .builtin .copy, args := #[d, s], argTypes := #[dT, sT] }) (elem : TypeId) (i0 : TypeInfo) (hu : P.underlying dT = some (.slice elem)) (hi : P.info? elem = some i0) (k : Nat) (hk : i0.size = k)
    (g off dLen dCap : Nat) (ad : Addr) (sLen sCap : Nat) (hd : a.eval d = .slice (some ⟨g, off, none⟩) dLen dCap) (hs : a.eval s = .slice (some ad) sLen sCap)
    (cur : Array Value) (t : TypeId) (hg : w.heap[g]? = some (.cells cur t (0, 0))) (cs : List Value) (m : Nat) (hm : Nat.min sLen dLen = m) (hn : cs.length = m * k)
    (hsrc : ∀ j v, cs[j]? = some v → w.cell? (ad.add j) = some v) (hfit : off + cs.length ≤ cur.size) (h1 : ∀ v ∈ cs, v.oneCell' = true)
    (h : ∀ w', Hid (w'.heap[g]? = some (.cells (splice cur.toList off cs).toArray t (0, 0))) → w.grownBy w' (some g) → K (a.put o.dst (goInt m)) w') :
    if Region.wanted o (yielded ops a.tmps) = true then Oper.wp P o a w K Q else E := by
  have hw : Region.wanted o (yielded ops a.tmps) = true := by simp [Region.wanted, hgd]
  rw [if_pos hw]
  exact wp_copy_rt d s dT sT ho elem i0 hu hi k hk g off dLen dCap ad sLen sCap hd hs cur t hg cs m hm hn hsrc hfit h1 h
end
/-- A row of the call's own that has a cell: its block, known whole. -/
theorem own_whole {w : World} {B n k : Nat} {e : TypeId} {v : Value} {xs : List Value} (h : w.ownsRow B e k v n xs) (hn : 0 < n) :
    ∃ g cap cur, v = .slice (some ⟨g, 0, none⟩) n cap ∧ B ≤ g ∧ g < w.heap.size ∧ w.heap[g]? = some (.cells cur e (0, 0)) ∧ n ≤ cap ∧ cap ≤ maxLen ∧ cur.size = cap * k ∧ cur.toList.take (n * k) = xs := by
  rcases h.2 with ⟨-, h0⟩ | ⟨g, cap, cur, rfl, hB, hg, h1, h2, h3, h4⟩
  · omega
  · exact ⟨g, cap, cur, rfl, hB, (Array.getElem?_eq_some_iff.1 hg).1, hg, h1, h2, h3, h4⟩
theorem own_made {w : World} {B n k g cap : Nat} {e : TypeId} {cur : Array Value} {xs : List Value} (hB : B ≤ g) (hg : w.heap[g]? = some (.cells cur e (0, 0))) (h1 : n ≤ cap) (h2 : cap ≤ maxLen) (h3 : cur.size = cap * k) (h4 : cur.toList.take (n * k) = xs) :
    w.ownsRow B e k (.slice (some ⟨g, 0, none⟩) n cap) n xs :=
  ⟨by rw [← h4, List.length_take, Array.length_toList, h3]; exact Nat.min_eq_left (Nat.mul_le_mul_right _ h1), .inr ⟨g, cap, cur, rfl, hB, hg, h1, h2, h3, h4⟩⟩
theorem rcs_take (L : List Rt) (i : Nat) : (rcs L).take (i * 4) = rcs (L.take i) := by
  by_cases h : i ≤ L.length
  · have e : rcs L = rcs (L.take i) ++ rcs (L.drop i) := by rw [← rcs_append, List.take_append_drop]
    rw [e, List.take_append_of_le_length (by rw [rcs_len, List.length_take]; omega), List.take_of_length_le (by rw [rcs_len, List.length_take]; omega)]
  · rw [List.take_of_length_le (by rw [rcs_len]; omega), List.take_of_length_le (by omega)]
theorem rcs_drop (L : List Rt) (i : Nat) : (rcs L).drop (i * 4) = rcs (L.drop i) := by
  by_cases h : i ≤ L.length
  · have e : rcs L = rcs (L.take i) ++ rcs (L.drop i) := by rw [← rcs_append, List.take_append_drop]
    rw [e, List.drop_append, List.drop_eq_nil_of_le (by rw [rcs_len, List.length_take]; omega), rcs_len, List.length_take, Nat.min_eq_left h, Nat.sub_self]
    simp
  · rw [List.drop_eq_nil_of_le (by rw [rcs_len]; omega), List.drop_eq_nil_of_le (by omega)]
    rfl
/-- Out of a block that is known whole: cells from an offset on. -/
theorem cells_at {w : World} {g : Nat} {cur : Array Value} {t : TypeId} (hg : w.heap[g]? = some (.cells cur t (0, 0))) (o : Nat) (cs : List Value) (h : (cur.toList.drop o).take cs.length = cs) : ∀ j u, cs[j]? = some u → w.cell? ((⟨g, o, none⟩ : Addr).add j) = some u := by
  intro j u hu
  have hlt := (List.getElem?_eq_some_iff.1 hu).1
  rw [show (⟨g, o, none⟩ : Addr).add j = ⟨g, o + j, none⟩ by unfold Addr.add; split <;> simp_all]
  rw [cell_of_row w g (o + j) cur t (0, 0) hg]
  rw [← h, List.getElem?_take, if_pos hlt, List.getElem?_drop] at hu
  simpa using hu
theorem splice_take {α : Type} (L : List α) (o n : Nat) (cs : List α) (h : n ≤ o) (ho : o ≤ L.length) : (splice L o cs).take n = L.take n := by
  unfold splice
  rw [List.take_append_of_le_length (by rw [List.length_take]; omega), List.take_take, Nat.min_eq_left h]
/-- One more, in the midst, in place: first what stands behind moves on, then the one is laid. -/
theorem splice_in {α : Type} (cur X1 Y X2 : List α) (a b c : Nat) (ha : X1.length = a) (hb : Y.length = b) (hc : X2.length = c) (h : cur.take (a + c) = X1 ++ X2) (hl : a + b + c ≤ cur.length) :
    (splice (splice cur (a + b) X2) a Y).take (a + b + c) = X1 ++ Y ++ X2 := by
  subst ha hb hc
  obtain ⟨Z, rfl⟩ : ∃ Z, cur = X1 ++ X2 ++ Z := ⟨cur.drop (X1.length + X2.length), by rw [← h, List.take_append_drop]⟩
  unfold splice
  have e1 : (X1 ++ X2 ++ Z).take (X1.length + Y.length) ++ (X2 ++ (X1 ++ X2 ++ Z).drop (X1.length + Y.length + X2.length)) = X1 ++ ((X2 ++ Z).take Y.length ++ (X2 ++ (X1 ++ X2 ++ Z).drop (X1.length + Y.length + X2.length))) := by
    rw [List.append_assoc X1, List.take_length_add_append, List.append_assoc]
  rw [e1, List.take_left' rfl, List.drop_length_add_append]
  have hlen : Y.length ≤ (X2 ++ Z).length := by simp at hl ⊢; omega
  rw [List.drop_append, List.drop_eq_nil_of_le (by rw [List.length_take]; omega), List.length_take, Nat.min_eq_left hlen, Nat.sub_self, List.drop_zero, List.nil_append]
  rw [← List.append_assoc, ← List.append_assoc]
  exact List.take_left' (by simp; omega)
/-- .. in a new row: what stands ahead is there; the one is laid, then what stands behind. -/
theorem splice_new {α : Type} (X1 Z Y X2 : List α) (a b c : Nat) (ha : X1.length = a) (hb : Y.length = b) (hc : X2.length = c) (hl : b + c ≤ Z.length) : (splice (splice (X1 ++ Z) a Y) (a + b) X2).take (a + b + c) = X1 ++ Y ++ X2 := by
  subst ha hb hc
  have e1 : splice (X1 ++ Z) X1.length Y = X1 ++ Y ++ Z.drop Y.length := by
    unfold splice
    rw [List.take_left, List.drop_length_add_append, List.append_assoc]
  rw [e1]
  unfold splice
  rw [List.take_left' (l₁ := X1 ++ Y) (by simp), ← List.append_assoc (X1 ++ Y)]
  exact List.take_left' (by simp; omega)
end Go.Proofs.Ytlglppfkpieabaa
/-
  append of one row of routes to another one, each of the call's own or a table's. No condition but that both together are short of 2^40.
-/
set_option linter.unusedSimpArgs false
set_option linter.unusedVariables false
namespace Go.Proofs.Ytlglppfkpieabaa
open Go Go.RowKit Go.Sort M

theorem wpList_append_rts {ops : Array Oper} {rest : List Oper} {o : Oper} {a : Act} {w : World} {Q : Exit → Act → World → Prop} (hgd : o.guard = none) (s x : Operand)
    (ho : o.op = .call { callee := .builtin .append, args := #[s, x], argTypes := #[43, 43] }) (B B2 : Nat) (v u : Value) (L M N : List Rt) (hN : N = L ++ M) (hs : a.eval s = v) (hx : a.eval x = u)
    (hown : w.ownsRow B 48 4 v L.length (rcs L)) (hsrc : w.ownsRow B2 48 4 u M.length (rcs M)) (hlen : L.length + M.length ≤ 1099511627776) (hB : B ≤ w.heap.size)
    (h : ∀ v' w', w'.ownsRow B 48 4 v' N.length (rcs N) → w.grownBy w' v.ownBlock → (v'.ownBlock = v.ownBlock ∨ v'.ownBlock = some w.heap.size) → wpList Try.prog ops Q rest (a.put o.dst v') w') : wpList Try.prog ops Q (o :: rest) a w := by
  subst hN
  obtain ⟨i0, hi0, iz0, iz1, iz2⟩ := info_parts infoR
  rcases hsrc.2 with ⟨hu, h0⟩ | ⟨g, cap, cur, hu, -, -, -, -, -, -⟩
  · subst hu
    refine wpList_append_own_none hgd s x 43 ho B 48 i0 4 Try.underlying43 hi0 v _ _ hs hown hx ?_
    have hM := List.length_eq_zero_iff.1 h0
    subst hM
    refine h v w ?_ ⟨rfl, rfl, rfl, Nat.le_refl _, fun _ _ _ => rfl⟩ (.inl rfl)
    rwa [List.append_nil]
  · have hc := fun hg => hsrc.cells (g := g) hg
    subst hu
    refine wpList_append_own_at w hgd s x 43 ho B 48 i0 _ 4 32 Try.underlying43 hi0 iz0 iz1 iz2 rfl (by decide) v _ _ hs hown ⟨g, 0, none⟩ M.length cap (rcs M) hx (rcs_len M) (hc rfl) (rcs_one' M) (by unfold maxLen; omega) (by omega) hB ?_
    intro v' w' h1 h2 _ h4
    refine h v' w' ?_ h2 h4
    rw [rcs_append, List.length_append]
    exact h1
end Go.Proofs.Ytlglppfkpieabaa
