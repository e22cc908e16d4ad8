/-
  The reference's plain rows of routes: Find, Without; SameRoutes. No condition but that the rows lie in memory, and are short of 2^20.
-/
import Derived.Test.YtcfioplbbbaeoaaW5
import Derived.Laws.CopyOwn
import Derived.Lib.AppendZerosOnto
import Derived.Test.YtcfioplbbbaeoaaW12b
/-
  copy between rows of elements of several cells, where the block that is written is known whole: its run, and as a step of a walk. No condition on the program.
-/
set_option linter.unusedSimpArgs false
set_option linter.unusedVariables false
namespace Go.Proofs.Ytcfioplbbbaeoaa
open Go Go.RowKit Go.Sort

section
variable {P : Program}
theorem run_copy_k (w : World) (dT sT ty elem : TypeId) (i0 : TypeInfo) (hu : P.underlying dT = some (.slice elem)) (hi : P.info? elem = some i0) (k : Nat) (hk : i0.size = k) (g o dLen dCap : Nat) (a : Addr) (sLen sCap : Nat) (cur : Array Value) (t : TypeId) (cs : List Value)
    (m : Nat) (hm : Nat.min sLen dLen = m) (hn : cs.length = m * k) (hg : w.heap[g]? = some (.cells cur t (0, 0))) (hsrc : ∀ j v, cs[j]? = some v → w.cell? (a.add j) = some v) (hfit : o + cs.length ≤ cur.size) (h1 : ∀ v ∈ cs, v.oneCell' = true) :
    (Builtin.copy_ #[dT, sT] ty #[.slice (some ⟨g, o, none⟩) dLen dCap, .slice (some a) sLen sCap]).run P w = .ok (goInt m) (w.setRow g (splice cur.toList o cs).toArray) := by
  have hl := run_firstCells_some (P := P) w k m a sLen sCap cs hn hsrc
  have hst := run_storeCells_at P g o t cs 0 cur w hg (by simpa using hfit) h1
  simp [Builtin.copy_, run_underlying hu, Builtin.lenOf, sizeOf, typeInfo, hi, hk, hm, hl, hst, splice]
theorem grown_setRow (w : World) (g : Nat) (cs : Array Value) : w.grownBy (w.setRow g cs) (some g) :=
  ⟨rfl, rfl, rfl, by simp [World.setRow], fun k _ hk => setRow_other w g k cs (fun e => hk (by rw [e]))⟩
theorem wp_copy_rt {o : Oper} {a : Act} {w : World} {K : Act → World → Prop} {Q : Exit → Act → World → Prop} (d s : Operand) (dT sT : TypeId)
    (ho : o.op = .call { callee := .builtin .copy, args := #[d, s], argTypes := #[dT, sT] }) (elem : TypeId) (i0 : TypeInfo) (hu : P.underlying dT = some (.slice elem)) (hi : P.info? elem = some i0) (k : Nat) (hk : i0.size = k)
    (g off dLen dCap : Nat) (ad : Addr) (sLen sCap : Nat) (hd : a.eval d = .slice (some ⟨g, off, none⟩) dLen dCap) (hs : a.eval s = .slice (some ad) sLen sCap)
    (cur : Array Value) (t : TypeId) (hg : w.heap[g]? = some (.cells cur t (0, 0))) (cs : List Value) (m : Nat) (hm : Nat.min sLen dLen = m) (hn : cs.length = m * k)
    (hsrc : ∀ j v, cs[j]? = some v → w.cell? (ad.add j) = some v) (hfit : off + cs.length ≤ cur.size) (h1 : ∀ v ∈ cs, v.oneCell' = true)
    (h : ∀ w', Hid (w'.heap[g]? = some (.cells (splice cur.toList off cs).toArray t (0, 0))) → w.grownBy w' (some g) → K (a.put o.dst (goInt m)) w') : o.wp P a w K Q := by
  have hr := run_copy_k (P := P) w dT sT o.type elem i0 hu hi k hk g off dLen dCap ad sLen sCap cur t cs m hm hn hg hsrc hfit h1
  unfold Oper.wp execOp
  simp only [ho, resolve, invoke, builtin, Sem.run_bind, Sem.run_pure, Result.andThen_ok, List.map_toArray, List.map_cons, List.map_nil, hd, hs, hr]
  exact h _ (show _ = _ from setRow_heap w g cur _ t _ hg) (grown_setRow w g _)
theorem wpList_copy_rt {ops : Array Oper} {rest : List Oper} {o : Oper} {a : Act} {w : World} {Q : Exit → Act → World → Prop} (hgd : o.guard = none) (d s : Operand) (dT sT : TypeId)
    (ho : o.op = .call { callee := .builtin .copy, args := #[d, s], argTypes := #[dT, sT] }) (elem : TypeId) (i0 : TypeInfo) (hu : P.underlying dT = some (.slice elem)) (hi : P.info? elem = some i0) (k : Nat) (hk : i0.size = k)
    (g off dLen dCap : Nat) (ad : Addr) (sLen sCap : Nat) (hd : a.eval d = .slice (some ⟨g, off, none⟩) dLen dCap) (hs : a.eval s = .slice (some ad) sLen sCap)
    (cur : Array Value) (t : TypeId) (hg : w.heap[g]? = some (.cells cur t (0, 0))) (cs : List Value) (m : Nat) (hm : Nat.min sLen dLen = m) (hn : cs.length = m * k)
    (hsrc : ∀ j v, cs[j]? = some v → w.cell? (ad.add j) = some v) (hfit : off + cs.length ≤ cur.size) (h1 : ∀ v ∈ cs, v.oneCell' = true)
    (h : ∀ w', Hid (w'.heap[g]? = some (.cells (splice cur.toList off cs).toArray t (0, 0))) → w.grownBy w' (some g) → wpList P ops Q rest (a.put o.dst (goInt m)) w') : wpList P ops Q (o :: rest) a w :=
  wpList_plain hgd fun _ hK => wp_copy_rt d s dT sT ho elem i0 hu hi k hk g off dLen dCap ad sLen sCap hd hs cur t hg cs m hm hn hsrc hfit h1 fun w' h2 h3 => hK _ _ (h w' h2 h3)
theorem step_copy_rt {ops : Array Oper} {o : Oper} {a : Act} {w : World} {K : Act → World → Prop} {Q : Exit → Act → World → Prop} {E : Prop} (hgd : o.guard = none) (d s : Operand) (dT sT : TypeId)
    (ho : o.op = .call { callee := .builtin .copy, args := #[d, s], argTypes := #[dT, sT] }) (elem : TypeId) (i0 : TypeInfo) (hu : P.underlying dT = some (.slice elem)) (hi : P.info? elem = some i0) (k : Nat) (hk : i0.size = k)
    (g off dLen dCap : Nat) (ad : Addr) (sLen sCap : Nat) (hd : a.eval d = .slice (some ⟨g, off, none⟩) dLen dCap) (hs : a.eval s = .slice (some ad) sLen sCap)
    (cur : Array Value) (t : TypeId) (hg : w.heap[g]? = some (.cells cur t (0, 0))) (cs : List Value) (m : Nat) (hm : Nat.min sLen dLen = m) (hn : cs.length = m * k)
    (hsrc : ∀ j v, cs[j]? = some v → w.cell? (ad.add j) = some v) (hfit : off + cs.length ≤ cur.size) (h1 : ∀ v ∈ cs, v.oneCell' = true)
    (h : ∀ w', Hid (w'.heap[g]? = some (.cells (splice cur.toList off cs).toArray t (0, 0))) → w.grownBy w' (some g) → K (a.put o.dst (goInt m)) w') :
    if Region.wanted o (yielded ops a.tmps) = true then Oper.wp P o a w K Q else E := by
  have hw : Region.wanted o (yielded ops a.tmps) = true := by simp [Region.wanted, hgd]
  rw [if_pos hw]
  exact wp_copy_rt d s dT sT ho elem i0 hu hi k hk g off dLen dCap ad sLen sCap hd hs cur t hg cs m hm hn hsrc hfit h1 h
end
/-- A row of the call's own that has a cell: its block, known whole. -/
theorem own_whole {w : World} {B n k : Nat} {e : TypeId} {v : Value} {xs : List Value} (h : w.ownsRow B e k v n xs) (hn : 0 < n) :
    ∃ g cap cur, v = .slice (some ⟨g, 0, none⟩) n cap ∧ B ≤ g ∧ g < w.heap.size ∧ w.heap[g]? = some (.cells cur e (0, 0)) ∧ n ≤ cap ∧ cap ≤ maxLen ∧ cur.size = cap * k ∧ cur.toList.take (n * k) = xs := by
  rcases h.2 with ⟨-, h0⟩ | ⟨g, cap, cur, rfl, hB, hg, h1, h2, h3, h4⟩
  · omega
  · exact ⟨g, cap, cur, rfl, hB, (Array.getElem?_eq_some_iff.1 hg).1, hg, h1, h2, h3, h4⟩
theorem own_made {w : World} {B n k g cap : Nat} {e : TypeId} {cur : Array Value} {xs : List Value} (hB : B ≤ g) (hg : w.heap[g]? = some (.cells cur e (0, 0))) (h1 : n ≤ cap) (h2 : cap ≤ maxLen) (h3 : cur.size = cap * k) (h4 : cur.toList.take (n * k) = xs) :
    w.ownsRow B e k (.slice (some ⟨g, 0, none⟩) n cap) n xs :=
  ⟨by rw [← h4, List.length_take, Array.length_toList, h3]; exact Nat.min_eq_left (Nat.mul_le_mul_right _ h1), .inr ⟨g, cap, cur, rfl, hB, hg, h1, h2, h3, h4⟩⟩
theorem rcs_take (L : List Rt) (i : Nat) : (rcs L).take (i * 4) = rcs (L.take i) := by
  by_cases h : i ≤ L.length
  · have e : rcs L = rcs (L.take i) ++ rcs (L.drop i) := by rw [← rcs_append, List.take_append_drop]
    rw [e, List.take_append_of_le_length (by rw [rcs_len, List.length_take]; omega), List.take_of_length_le (by rw [rcs_len, List.length_take]; omega)]
  · rw [List.take_of_length_le (by rw [rcs_len]; omega), List.take_of_length_le (by omega)]
theorem rcs_drop (L : List Rt) (i : Nat) : (rcs L).drop (i * 4) = rcs (L.drop i) := by
  by_cases h : i ≤ L.length
  · have e : rcs L = rcs (L.take i) ++ rcs (L.drop i) := by rw [← rcs_append, List.take_append_drop]
    rw [e, List.drop_append, List.drop_eq_nil_of_le (by rw [rcs_len, List.length_take]; omega), rcs_len, List.length_take, Nat.min_eq_left h, Nat.sub_self]
    simp
  · rw [List.drop_eq_nil_of_le (by rw [rcs_len]; omega), List.drop_eq_nil_of_le (by omega)]
    rfl
/-- Out of a block that is known whole: cells from an offset on. -/
theorem cells_at {w : World} {g : Nat} {cur : Array Value} {t : TypeId} (hg : w.heap[g]? = some (.cells cur t (0, 0))) (o : Nat) (cs : List Value) (h : (cur.toList.drop o).take cs.length = cs) : ∀ j u, cs[j]? = some u → w.cell? ((⟨g, o, none⟩ : Addr).add j) = some u := by
  intro j u hu
  have hlt := (List.getElem?_eq_some_iff.1 hu).1
  rw [show (⟨g, o, none⟩ : Addr).add j = ⟨g, o + j, none⟩ by unfold Addr.add; split <;> simp_all]
  rw [cell_of_row w g (o + j) cur t (0, 0) hg]
  rw [← h, List.getElem?_take, if_pos hlt, List.getElem?_drop] at hu
  simpa using hu
theorem splice_take {α : Type} (L : List α) (o n : Nat) (cs : List α) (h : n ≤ o) (ho : o ≤ L.length) : (splice L o cs).take n = L.take n := by
  unfold splice
  rw [List.take_append_of_le_length (by rw [List.length_take]; omega), List.take_take, Nat.min_eq_left h]
/-- One more, in the midst, in place: first what stands behind moves on, then the one is laid. -/
theorem splice_in {α : Type} (cur X1 Y X2 : List α) (a b c : Nat) (ha : X1.length = a) (hb : Y.length = b) (hc : X2.length = c) (h : cur.take (a + c) = X1 ++ X2) (hl : a + b + c ≤ cur.length) :
    (splice (splice cur (a + b) X2) a Y).take (a + b + c) = X1 ++ Y ++ X2 := by
  subst ha hb hc
  obtain ⟨Z, rfl⟩ : ∃ Z, cur = X1 ++ X2 ++ Z := ⟨cur.drop (X1.length + X2.length), by rw [← h, List.take_append_drop]⟩
  unfold splice
  have e1 : (X1 ++ X2 ++ Z).take (X1.length + Y.length) ++ (X2 ++ (X1 ++ X2 ++ Z).drop (X1.length + Y.length + X2.length)) = X1 ++ ((X2 ++ Z).take Y.length ++ (X2 ++ (X1 ++ X2 ++ Z).drop (X1.length + Y.length + X2.length))) := by
    rw [List.append_assoc X1, List.take_length_add_append, List.append_assoc]
  rw [e1, List.take_left' rfl, List.drop_length_add_append]
  have hlen : Y.length ≤ (X2 ++ Z).length := by simp at hl ⊢; omega
  rw [List.drop_append, List.drop_eq_nil_of_le (by rw [List.length_take]; omega), List.length_take, Nat.min_eq_left hlen, Nat.sub_self, List.drop_zero, List.nil_append]
  rw [← List.append_assoc, ← List.append_assoc]
  exact List.take_left' (by simp; omega)
/-- .. in a new row: what stands ahead is there; the one is laid, then what stands behind. -/
theorem splice_new {α : Type} (X1 Z Y X2 : List α) (a b c : Nat) (ha : X1.length = a) (hb : Y.length = b) (hc : X2.length = c) (hl : b + c ≤ Z.length) : (splice (splice (X1 ++ Z) a Y) (a + b) X2).take (a + b + c) = X1 ++ Y ++ X2 := by
  subst ha hb hc
  have e1 : splice (X1 ++ Z) X1.length Y = X1 ++ Y ++ Z.drop Y.length := by
    unfold splice
    rw [List.take_left, List.drop_length_add_append, List.append_assoc]
  rw [e1]
  unfold splice
  rw [List.take_left' (l₁ := X1 ++ Y) (by simp), ← List.append_assoc (X1 ++ Y)]
  exact List.take_left' (by simp; omega)
end Go.Proofs.Ytcfioplbbbaeoaa
/-
  The reference's plain rows of routes: Find, Without; SameRoutes. No condition but that the rows lie in memory, and are short of 2^20.
-/
set_option linter.unusedSimpArgs false
set_option linter.unusedVariables false
namespace Go.Proofs.Ytcfioplbbbaeoaa
open Go.RowKit Go.Sort M

theorem find_at {L : List Rt} {k : Ky} {j : Nat} (hj : j < L.length) (h1 : ∀ i, ∀ h : i < L.length, i < j → L[i].k ≠ k) (h2 : L[j].k = k) : findS L k = some j := by
  unfold findS
  rw [List.findIdx?_eq_some_iff_getElem]
  exact ⟨hj, decide_eq_true h2, fun i hi => by simp [h1 i (by omega) hi]⟩
theorem find_no {L : List Rt} {k : Ky} (h : ∀ i, ∀ h : i < L.length, L[i].k ≠ k) : findS L k = none := by
  unfold findS
  rw [List.findIdx?_eq_none_iff]
  intro x hx
  obtain ⟨i, hi, rfl⟩ := List.getElem_of_mem hx
  exact decide_eq_false (h i hi)
theorem outS_snoc (L : List Rt) (k : Ky) (j : Nat) (h : j < L.length) : outS (L.take (j + 1)) k = outS (L.take j) k ++ if L[j].k = k then [] else [L[j]] := by
  unfold outS
  rw [List.take_succ_eq_append_getElem h, List.filter_append]
  by_cases e : L[j].k = k <;> simp [e]
theorem neqR (a b : Nat) (n x : Int) (c d : Nat) (m y : Int) (w : World) : (binOp .neq 43 (.agg #[.int .u64 a, .int .u64 b, .int .i64 n, .int .i64 x]) (.agg #[.int .u64 c, .int .u64 d, .int .i64 m, .int .i64 y])).run Try.prog w =
    .ok (.bool (!decide (a = c ∧ b = d ∧ n = m ∧ x = y))) w := by
  have e1 : decide (a = c ∧ b = d ∧ n = m ∧ x = y) = (decide ((a : Int) = c) && (decide ((b : Int) = d) && (decide (n = m) && decide (x = y)))) := by
    rw [← Bool.decide_and, ← Bool.decide_and, ← Bool.decide_and, decide_eq_decide]; omega
  rw [e1]
  by_cases h1 : (a : Int) = c <;> by_cases h2 : (b : Int) = d <;> by_cases h3 : n = m <;> by_cases h4 : x = y <;> simp [go_sem, h1, h2, h3, h4]
theorem rt_eq (a b : Rt) : (a.k.h = b.k.h ∧ a.k.l = b.k.l ∧ a.k.n = b.k.n ∧ a.v = b.v) ↔ a = b := by
  obtain ⟨⟨h, l, n⟩, v⟩ := a
  obtain ⟨⟨h', l', n'⟩, v'⟩ := b
  constructor
  · rintro ⟨e1, e2, e3, e4⟩
    simp only at e1 e2 e3 e4
    subst e1 e2 e3 e4
    rfl
  · intro e
    injection e with e1 e2
    injection e1 with e3 e4 e5
    exact ⟨e3, e4, e5, e2⟩
end Go.Proofs.Ytcfioplbbbaeoaa
