/-
  copy between rows of elements of several cells, where the block that is written is known whole: its run, and as a step of a walk. No condition on the program.
-/
import Derived.Test.YtcbmeollffkekaaLtR
import Derived.Test.YtcbmeollffkekaaStb
import Derived.Test.YtcbmeollffkekaaM5
import Derived.Laws.CopyOwn
import Derived.Lib.AppendZerosOnto
/-
  Of several routes of one prefix the last one counts: rows put one after the other, and sorted rows of which only the last of each prefix is kept. No condition but those that stand in each.
-/
set_option linter.unusedSimpArgs false
set_option linter.unusedVariables false
namespace Go.Proofs.Ytcbmeollffkekaa
open Go.Sort M
set_option linter.unusedSimpArgs false

instance : Inhabited Ky := ⟨⟨0, 0, 0⟩⟩
def lastsR : List Rt → List Rt
  | [] => []
  | [r] => [r]
  | r :: q :: l => if q.k = r.k then lastsR (q :: l) else r :: lastsR (q :: l)
/-- The last one of a prefix. -/
def lst (l : List Rt) (k : Ky) : Option Rt := (l.filter fun r => decide (r.k = k)).getLast?
theorem lst_snoc (l : List Rt) (r : Rt) (k : Ky) : lst (l ++ [r]) k = if r.k = k then some r else lst l k := by
  unfold lst
  rw [List.filter_append]
  by_cases h : r.k = k
  · simp [h]
  · simp [h]
theorem mem_into {L : List Rt} {r q : Rt} (h : Sorted L) : q ∈ intoS L r ↔ q = r ∨ (q ∈ L ∧ q.k ≠ r.k) := by
  rw [(intoS_perm r h).mem_iff, List.mem_cons, mem_outS]
theorem sortR_snoc (l : List Rt) (r : Rt) : sortR (l ++ [r]) = intoS (sortR l) r := by
  unfold sortR
  rw [List.foldl_append]
  rfl
theorem sortR_mem (l : List Rt) : Sorted (sortR l) ∧ ∀ q, q ∈ sortR l ↔ lst l q.k = some q := by
  suffices H : ∀ (n : Nat) (l : List Rt), l.length = n → Sorted (sortR l) ∧ ∀ q, q ∈ sortR l ↔ lst l q.k = some q from H l.length l rfl
  intro n
  induction n with
  | zero =>
    intro l hl
    obtain rfl := List.eq_nil_of_length_eq_zero hl
    exact ⟨List.Pairwise.nil, fun q => by simp [sortR, lst]⟩
  | succ n ih =>
    intro l hl
    obtain ⟨l, r, rfl⟩ : ∃ l' r, l = l' ++ [r] := ⟨l.dropLast, l.getLast (by intro e; simp [e] at hl), (List.dropLast_concat_getLast _).symm⟩
    obtain ⟨h1, h2⟩ := ih l (by simpa using hl)
    rw [sortR_snoc]
    refine ⟨intoS_sorted r h1, fun q => ?_⟩
    rw [mem_into h1, lst_snoc]
    by_cases h : r.k = q.k
    · rw [if_pos h]
      constructor
      · rintro (rfl | ⟨-, h3⟩)
        · rfl
        · exact absurd h.symm h3
      · intro e
        exact .inl (Option.some.inj e).symm
    · rw [if_neg h, ← h2 q]
      constructor
      · rintro (rfl | ⟨h3, -⟩)
        · exact absurd rfl h
        · exact h3
      · intro h3
        exact .inr ⟨h3, fun e => h e.symm⟩
theorem lst_cons (r : Rt) (l : List Rt) (k : Ky) (h : r.k ≠ k) : lst (r :: l) k = lst l k := by
  unfold lst
  rw [List.filter_cons_of_neg (by simpa using h)]
theorem lst_skip (r q : Rt) (l : List Rt) (k : Ky) (h : q.k = r.k) : lst (r :: q :: l) k = lst (q :: l) k := by
  by_cases e : r.k = k
  · unfold lst
    rw [List.filter_cons_of_pos (by simpa using e), List.filter_cons_of_pos (l := l) (a := q) (by simpa using h.trans e)]
    rw [List.getLast?_cons_cons]
  · exact lst_cons r _ k e
theorem lst_none {l : List Rt} {k : Ky} (h : ∀ z ∈ l, z.k ≠ k) : lst l k = none := by
  unfold lst
  rw [List.filter_eq_nil_iff.2 (fun z hz => by simpa using h z hz)]
  rfl
theorem asc_less {r q : Rt} {l : List Rt} (h : Asc ltR (r :: q :: l)) (hk : q.k ≠ r.k) : ∀ z ∈ q :: l, lessK r.k z.k = true := by
  obtain ⟨h1, h2⟩ := List.pairwise_cons.1 h
  have hq : lessK r.k q.k = true := by
    have := lessK_total (a := q.k) (b := r.k) hk
    rw [this]
    have := h1 q (by simp)
    unfold ltR at this
    rw [this]
    rfl
  intro z hz
  rcases List.mem_cons.1 hz with rfl | hz
  · exact hq
  · have h3 := (List.pairwise_cons.1 h2).1 z hz
    cases e : lessK r.k z.k with
    | true => rfl
    | false =>
      have := ltR_swo.ntrans r z q e h3
      unfold ltR at this
      rw [hq] at this
      cases this
theorem lastsR_ok : ∀ {M : List Rt}, Asc ltR M → Sorted (lastsR M) ∧ (∀ q ∈ lastsR M, q ∈ M) ∧ ∀ q, q ∈ lastsR M ↔ lst M q.k = some q
  | [], _ => ⟨List.Pairwise.nil, by simp [lastsR], fun q => by simp [lastsR, lst]⟩
  | [r], _ => by
    refine ⟨by simp [lastsR, Sorted], by simp [lastsR], fun q => ?_⟩
    unfold lastsR
    by_cases h : r.k = q.k
    · have : lst [r] q.k = some r := by simp [lst, h]
      rw [this]
      simp
      exact eq_comm
    · rw [lst_cons r [] q.k h]
      simp [lst]
      rintro rfl
      exact h rfl
  | r :: q :: l, h => by
    obtain ⟨h1, h2⟩ := List.pairwise_cons.1 h
    obtain ⟨i1, i2, i3⟩ := lastsR_ok h2
    unfold lastsR
    by_cases hk : q.k = r.k
    · rw [if_pos hk]
      exact ⟨i1, fun z hz => List.mem_cons_of_mem _ (i2 z hz), fun z => by rw [lst_skip r q l _ hk]; exact i3 z⟩
    · rw [if_neg hk]
      have hl := asc_less h hk
      refine ⟨List.pairwise_cons.2 ⟨fun z hz => hl z (i2 z hz), i1⟩, fun z hz => ?_, fun z => ?_⟩
      · rcases List.mem_cons.1 hz with rfl | hz
        · simp
        · exact List.mem_cons_of_mem _ (i2 z hz)
      · have none : lst (q :: l) r.k = none := lst_none fun z hz e => by
          have := hl z hz
          rw [e, lessK_irr] at this
          cases this
        rw [List.mem_cons, i3 z]
        by_cases e : r.k = z.k
        · rw [← e, none]
          have : lst (r :: q :: l) r.k = some r := by
            unfold lst at none ⊢
            rw [List.filter_cons_of_pos (by simp), List.getLast?_eq_none_iff.1 none]
            rfl
          rw [this]
          constructor
          · rintro (rfl | e)
            · rfl
            · cases e
          · intro e
            exact .inl (Option.some.inj e).symm
        · rw [lst_cons r _ _ e]
          constructor
          · rintro (rfl | h)
            · exact absurd rfl e
            · exact h
          · exact .inr
theorem eqv_key (x y : Rt) : eqv ltR x y = decide (y.k = x.k) := by
  unfold eqv ltR
  by_cases h : y.k = x.k
  · rw [h, lessK_irr]
    simp
  · rw [lessK_total h]
    simp [h]
theorem lst_stb {l M : List Rt} (h : Stb ltR l M) (q : Rt) : lst M q.k = lst l q.k := by
  have := h.2 q
  have e : (eqv ltR q) = fun r => decide (r.k = q.k) := funext fun r => eqv_key q r
  rw [e] at this
  unfold lst
  rw [this]
theorem nodup_sorted {L : List Rt} (h : Sorted L) : L.Nodup := List.Pairwise.imp (fun {a b} hab e => by rw [e, lessK_irr] at hab; cases hab) h
theorem lasts_eq {l M : List Rt} (h : Asc ltR M) (hs : Stb ltR l M) : lastsR M = sortR l := by
  obtain ⟨a1, -, a3⟩ := lastsR_ok h
  obtain ⟨b1, b2⟩ := sortR_mem l
  refine sorted_eq a1 b1 ((List.perm_ext_iff_of_nodup (nodup_sorted a1) (nodup_sorted b1)).2 fun q => ?_)
  rw [a3 q, b2 q, lst_stb hs q]
/-- One step of the row that keeps the last of each prefix. -/
theorem lasts_step (M : List Rt) (i : Nat) (hi : i < M.length) : lastsR (M.drop i) = (if h : i + 1 < M.length then (if M[i + 1].k = M[i].k then [] else [M[i]]) else [M[i]]) ++ lastsR (M.drop (i + 1)) := by
  rw [List.drop_eq_getElem_cons hi]
  by_cases h : i + 1 < M.length
  · rw [dif_pos h, List.drop_eq_getElem_cons h]
    have hs : ∀ (r q : Rt) (l : List Rt), lastsR (r :: q :: l) = if q.k = r.k then lastsR (q :: l) else r :: lastsR (q :: l) := fun _ _ _ => rfl
    rw [hs]
    by_cases e : M[i + 1].k = M[i].k
    · rw [if_pos e, if_pos e, List.nil_append]
    · rw [if_neg e, if_neg e]
      rfl
  · rw [dif_neg h, List.drop_eq_nil_of_le (by omega)]
    rfl
theorem lasts_len : ∀ M : List Rt, (lastsR M).length ≤ M.length
  | [] => by simp [lastsR]
  | [r] => by simp [lastsR]
  | r :: q :: l => by
    have := lasts_len (q :: l)
    unfold lastsR
    split <;> simp at * <;> omega
end Go.Proofs.Ytcbmeollffkekaa
/-
  copy between rows of elements of several cells, where the block that is written is known whole: its run, and as a step of a walk. No condition on the program.
-/
set_option linter.unusedSimpArgs false
set_option linter.unusedVariables false
namespace Go.Proofs.Ytcbmeollffkekaa
open Go Go.RowKit Go.Sort

section
variable {P : Program}
theorem run_copy_k (w : World) (dT sT ty elem : TypeId) (i0 : TypeInfo) (hu : P.underlying dT = some (.slice elem)) (hi : P.info? elem = some i0) (k : Nat) (hk : i0.size = k) (g o dLen dCap : Nat) (a : Addr) (sLen sCap : Nat) (cur : Array Value) (t : TypeId) (cs : List Value)
    (m : Nat) (hm : Nat.min sLen dLen = m) (hn : cs.length = m * k) (hg : w.heap[g]? = some (.cells cur t (0, 0))) (hsrc : ∀ j v, cs[j]? = some v → w.cell? (a.add j) = some v) (hfit : o + cs.length ≤ cur.size) (h1 : ∀ v ∈ cs, v.oneCell' = true) :
    (Builtin.copy_ #[dT, sT] ty #[.slice (some ⟨g, o, none⟩) dLen dCap, .slice (some a) sLen sCap]).run P w = .ok (goInt m) (w.setRow g (splice cur.toList o cs).toArray) := by
  have hl := run_firstCells_some (P := P) w k m a sLen sCap cs hn hsrc
  have hst := run_storeCells_at P g o t cs 0 cur w hg (by simpa using hfit) h1
  simp [Builtin.copy_, run_underlying hu, Builtin.lenOf, sizeOf, typeInfo, hi, hk, hm, hl, hst, splice]
theorem grown_setRow (w : World) (g : Nat) (cs : Array Value) : w.grownBy (w.setRow g cs) (some g) :=
  ⟨rfl, rfl, rfl, by simp [World.setRow], fun k _ hk => setRow_other w g k cs (fun e => hk (by rw [e]))⟩
theorem wp_copy_rt {o : Oper} {a : Act} {w : World} {K : Act → World → Prop} {Q : Exit → Act → World → Prop} (d s : Operand) (dT sT : TypeId)
    (ho : o.op = .call { callee := .builtin .copy, args := #[d, s], argTypes := #[dT, sT] }) (elem : TypeId) (i0 : TypeInfo) (hu : P.underlying dT = some (.slice elem)) (hi : P.info? elem = some i0) (k : Nat) (hk : i0.size = k)
    (g off dLen dCap : Nat) (ad : Addr) (sLen sCap : Nat) (hd : a.eval d = .slice (some ⟨g, off, none⟩) dLen dCap) (hs : a.eval s = .slice (some ad) sLen sCap)
    (cur : Array Value) (t : TypeId) (hg : w.heap[g]? = some (.cells cur t (0, 0))) (cs : List Value) (m : Nat) (hm : Nat.min sLen dLen = m) (hn : cs.length = m * k)
    (hsrc : ∀ j v, cs[j]? = some v → w.cell? (ad.add j) = some v) (hfit : off + cs.length ≤ cur.size) (h1 : ∀ v ∈ cs, v.oneCell' = true)
    (h : ∀ w', Hid (w'.heap[g]? = some (.cells (splice cur.toList off cs).toArray t (0, 0))) → w.grownBy w' (some g) → K (a.put o.dst (goInt m)) w') : o.wp P a w K Q := by
  have hr := run_copy_k (P := P) w dT sT o.type elem i0 hu hi k hk g off dLen dCap ad sLen sCap cur t cs m hm hn hg hsrc hfit h1
  unfold Oper.wp execOp
  simp only [ho, resolve, invoke, builtin, Sem.run_bind, Sem.run_pure, Result.andThen_ok, List.map_toArray, List.map_cons, List.map_nil, hd, hs, hr]
  exact h _ (show _ = _ from setRow_heap w g cur _ t _ hg) (grown_setRow w g _)
theorem wpList_copy_rt {ops : Array Oper} {rest : List Oper} {o : Oper} {a : Act} {w : World} {Q : Exit → Act → World → Prop} (hgd : o.guard = none) (d s : Operand) (dT sT : TypeId)
    (ho : o.op = .call { callee := .builtin .copy, args := #[d, s], argTypes := #[dT, sT] }) (elem : TypeId) (i0 : TypeInfo) (hu : P.underlying dT = some (.slice elem)) (hi : P.info? elem = some i0) (k : Nat) (hk : i0.size = k)
    (g off dLen dCap : Nat) (ad : Addr) (sLen sCap : Nat) (hd : a.eval d = .slice (some ⟨g, off, none⟩) dLen dCap) (hs : a.eval s = .slice (some ad) sLen sCap)
    (cur : Array Value) (t : TypeId) (hg : w.heap[g]? = some (.cells cur t (0, 0))) (cs : List Value) (m : Nat) (hm : Nat.min sLen dLen = m) (hn : cs.length = m * k)
    (hsrc : ∀ j v, cs[j]? = some v → w.cell? (ad.add j) = some v) (hfit : off + cs.length ≤ cur.size) (h1 : ∀ v ∈ cs, v.oneCell' = true)
    (h : ∀ w', Hid (w'.heap[g]? = some (.cells (splice cur.toList off cs).toArray t (0, 0))) → w.grownBy w' (some g) → wpList P ops Q rest (a.put o.dst (goInt m)) w') : wpList P ops Q (o :: rest) a w :=
  wpList_plain hgd fun _ hK => wp_copy_rt d s dT sT ho elem i0 hu hi k hk g off dLen dCap ad sLen sCap hd hs cur t hg cs m hm hn hsrc hfit h1 fun w' h2 h3 => hK _ _ (h w' h2 h3)
theorem step_copy_rt {ops : Array Oper} {o : Oper} {a : Act} {w : World} {K : Act → World → Prop} {Q : Exit → Act → World → Prop} {E : Prop} (hgd : o.guard = none) (d s : Operand) (dT sT : TypeId)
    (ho : o.op = .call { callee := .builtin .copy, args := #[d, s], argTypes := #[dT, sT] }) (elem : TypeId) (i0 : TypeInfo) (hu : P.underlying dT = some (.slice elem)) (hi : P.info? elem = some i0) (k : Nat) (hk : i0.size = k)
    (g off dLen dCap : Nat) (ad : Addr) (sLen sCap : Nat) (hd : a.eval d = .slice (some ⟨g, off, none⟩) dLen dCap) (hs : a.eval s = .slice (some ad) sLen sCap)
    (cur : Array Value) (t : TypeId) (hg : w.heap[g]? = some (.cells cur t (0, 0))) (cs : List Value) (m : Nat) (hm : Nat.min sLen dLen = m) (hn : cs.length = m * k)
    (hsrc : ∀ j v, cs[j]? = some v → w.cell? (ad.add j) = some v) (hfit : off + cs.length ≤ cur.size) (h1 : ∀ v ∈ cs, v.oneCell' = true)
    (h : ∀ w', Hid (w'.heap[g]? = some (.cells (splice cur.toList off cs).toArray t (0, 0))) → w.grownBy w' (some g) → K (a.put o.dst (goInt m)) w') :
    if Region.wanted o (yielded ops a.tmps) = true then Oper.wp P o a w K Q else E := by
  have hw : Region.wanted o (yielded ops a.tmps) = true := by simp [Region.wanted, hgd]
  rw [if_pos hw]
  exact wp_copy_rt d s dT sT ho elem i0 hu hi k hk g off dLen dCap ad sLen sCap hd hs cur t hg cs m hm hn hsrc hfit h1 h
end
/-- A row of the call's own that has a cell: its block, known whole. -/
theorem own_whole {w : World} {B n k : Nat} {e : TypeId} {v : Value} {xs : List Value} (h : w.ownsRow B e k v n xs) (hn : 0 < n) :
    ∃ g cap cur, v = .slice (some ⟨g, 0, none⟩) n cap ∧ B ≤ g ∧ g < w.heap.size ∧ w.heap[g]? = some (.cells cur e (0, 0)) ∧ n ≤ cap ∧ cap ≤ maxLen ∧ cur.size = cap * k ∧ cur.toList.take (n * k) = xs := by
  rcases h.2 with ⟨-, h0⟩ | ⟨g, cap, cur, rfl, hB, hg, h1, h2, h3, h4⟩
  · omega
  · exact ⟨g, cap, cur, rfl, hB, (Array.getElem?_eq_some_iff.1 hg).1, hg, h1, h2, h3, h4⟩
theorem own_made {w : World} {B n k g cap : Nat} {e : TypeId} {cur : Array Value} {xs : List Value} (hB : B ≤ g) (hg : w.heap[g]? = some (.cells cur e (0, 0))) (h1 : n ≤ cap) (h2 : cap ≤ maxLen) (h3 : cur.size = cap * k) (h4 : cur.toList.take (n * k) = xs) :
    w.ownsRow B e k (.slice (some ⟨g, 0, none⟩) n cap) n xs :=
  ⟨by rw [← h4, List.length_take, Array.length_toList, h3]; exact Nat.min_eq_left (Nat.mul_le_mul_right _ h1), .inr ⟨g, cap, cur, rfl, hB, hg, h1, h2, h3, h4⟩⟩
theorem rcs_take (L : List Rt) (i : Nat) : (rcs L).take (i * 4) = rcs (L.take i) := by
  by_cases h : i ≤ L.length
  · have e : rcs L = rcs (L.take i) ++ rcs (L.drop i) := by rw [← rcs_append, List.take_append_drop]
    rw [e, List.take_append_of_le_length (by rw [rcs_len, List.length_take]; omega), List.take_of_length_le (by rw [rcs_len, List.length_take]; omega)]
  · rw [List.take_of_length_le (by rw [rcs_len]; omega), List.take_of_length_le (by omega)]
theorem rcs_drop (L : List Rt) (i : Nat) : (rcs L).drop (i * 4) = rcs (L.drop i) := by
  by_cases h : i ≤ L.length
  · have e : rcs L = rcs (L.take i) ++ rcs (L.drop i) := by rw [← rcs_append, List.take_append_drop]
    rw [e, List.drop_append, List.drop_eq_nil_of_le (by rw [rcs_len, List.length_take]; omega), rcs_len, List.length_take, Nat.min_eq_left h, Nat.sub_self]
    simp
  · rw [List.drop_eq_nil_of_le (by rw [rcs_len]; omega), List.drop_eq_nil_of_le (by omega)]
    rfl
/-- Out of a block that is known whole: cells from an offset on. -/
theorem cells_at {w : World} {g : Nat} {cur : Array Value} {t : TypeId} (hg : w.heap[g]? = some (.cells cur t (0, 0))) (o : Nat) (cs : List Value) (h : (cur.toList.drop o).take cs.length = cs) : ∀ j u, cs[j]? = some u → w.cell? ((⟨g, o, none⟩ : Addr).add j) = some u := by
  intro j u hu
  have hlt := (List.getElem?_eq_some_iff.1 hu).1
  rw [show (⟨g, o, none⟩ : Addr).add j = ⟨g, o + j, none⟩ by unfold Addr.add; split <;> simp_all]
  rw [cell_of_row w g (o + j) cur t (0, 0) hg]
  rw [← h, List.getElem?_take, if_pos hlt, List.getElem?_drop] at hu
  simpa using hu
theorem splice_take {α : Type} (L : List α) (o n : Nat) (cs : List α) (h : n ≤ o) (ho : o ≤ L.length) : (splice L o cs).take n = L.take n := by
  unfold splice
  rw [List.take_append_of_le_length (by rw [List.length_take]; omega), List.take_take, Nat.min_eq_left h]
/-- One more, in the midst, in place: first what stands behind moves on, then the one is laid. -/
theorem splice_in {α : Type} (cur X1 Y X2 : List α) (a b c : Nat) (ha : X1.length = a) (hb : Y.length = b) (hc : X2.length = c) (h : cur.take (a + c) = X1 ++ X2) (hl : a + b + c ≤ cur.length) :
    (splice (splice cur (a + b) X2) a Y).take (a + b + c) = X1 ++ Y ++ X2 := by
  subst ha hb hc
  obtain ⟨Z, rfl⟩ : ∃ Z, cur = X1 ++ X2 ++ Z := ⟨cur.drop (X1.length + X2.length), by rw [← h, List.take_append_drop]⟩
  unfold splice
  have e1 : (X1 ++ X2 ++ Z).take (X1.length + Y.length) ++ (X2 ++ (X1 ++ X2 ++ Z).drop (X1.length + Y.length + X2.length)) = X1 ++ ((X2 ++ Z).take Y.length ++ (X2 ++ (X1 ++ X2 ++ Z).drop (X1.length + Y.length + X2.length))) := by
    rw [List.append_assoc X1, List.take_length_add_append, List.append_assoc]
  rw [e1, List.take_left' rfl, List.drop_length_add_append]
  have hlen : Y.length ≤ (X2 ++ Z).length := by simp at hl ⊢; omega
  rw [List.drop_append, List.drop_eq_nil_of_le (by rw [List.length_take]; omega), List.length_take, Nat.min_eq_left hlen, Nat.sub_self, List.drop_zero, List.nil_append]
  rw [← List.append_assoc, ← List.append_assoc]
  exact List.take_left' (by simp; omega)
/-- .. in a new row: what stands ahead is there; the one is laid, then what stands behind. -/
theorem splice_new {α : Type} (X1 Z Y X2 : List α) (a b c : Nat) (ha : X1.length = a) (hb : Y.length = b) (hc : X2.length = c) (hl : b + c ≤ Z.length) : (splice (splice (X1 ++ Z) a Y) (a + b) X2).take (a + b + c) = X1 ++ Y ++ X2 := by
  subst ha hb hc
  have e1 : splice (X1 ++ Z) X1.length Y = X1 ++ Y ++ Z.drop Y.length := by
    unfold splice
    rw [List.take_left, List.drop_length_add_append, List.append_assoc]
  rw [e1]
  unfold splice
  rw [List.take_left' (l₁ := X1 ++ Y) (by simp), ← List.append_assoc (X1 ++ Y)]
  exact List.take_left' (by simp; omega)
end Go.Proofs.Ytcbmeollffkekaa
