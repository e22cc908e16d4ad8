/-
  Rows of routes in memory: a list of keys with their values as cells, four to each; rows of the call's own, and what is read of them. No condition but those that stand in each.
-/
import Derived.Test.YtlmampklgghngaaM18
import Derived.Test.YtlmampklgghngaaRow
import Derived.Test.YtlmampklgghngaaW1
import Derived.Test.YtlmampklgghngaaM11
/-
  Plain mathematics of what a level holds, continued: an address has a key of a level just if it has a route of its lengths, and then with the hop of the longest. No condition but those that stand in each.
-/
set_option linter.unusedSimpArgs false
set_option linter.unusedVariables false
namespace Go.Proofs.Ytlmampklgghngaa
open M

theorem has_cut_any (r : Rt) (ah al hn : Nat) (h : r.k.n ≤ (hn : Int)) : hasB r.k.h r.k.l r.k.n (cutW ah hn) (cutW al (hn - 64)) = hasB r.k.h r.k.l r.k.n ah al := by
  unfold hasB
  rw [cutW_cutW, cutW_cutW]
  by_cases h0 : 0 ≤ r.k.n
  · rw [show min hn r.k.n.toNat = r.k.n.toNat by omega, show min (hn - 64) (r.k.n.toNat - 64) = r.k.n.toNat - 64 by omega]
  · have : rightB r.k.h r.k.l r.k.n = false := by
      unfold rightB
      exact decide_eq_false (by omega)
    rw [this]
    rfl
theorem cand_cut (ah al hn : Nat) (low : Int) : candB (cutK ah al hn).h (cutK ah al hn).l low (cutK ah al hn).n = candB ah al low (hn : Int) := by
  funext r
  unfold candB cutK
  simp only
  by_cases h : r.k.n ≤ (hn : Int)
  · rw [has_cut_any r ah al hn h]
  · rw [decide_eq_false h]
    simp
theorem lng_is {N : List Rt} {c : Rt → Bool} : (lngI N c N.length).isSome = true ↔ ∃ r ∈ N, c r = true := by
  have h := lng_ok N c N.length (Nat.le_refl _)
  cases e : lngI N c N.length with
  | none =>
    rw [e] at h
    refine ⟨fun h => (by cases h), fun ⟨r, hr, hc⟩ => ?_⟩
    obtain ⟨i, hi, rfl⟩ := List.getElem_of_mem hr
    rw [h i hi hi] at hc
    cases hc
  | some b =>
    rw [e] at h
    obtain ⟨hb, -, hc, -⟩ := h
    exact ⟨fun _ => ⟨N[b], List.getElem_mem hb, hc⟩, fun _ => rfl⟩
theorem key_level {N : List Rt} (hg : ∀ r ∈ N, W64 r.k.h ∧ W64 r.k.l) {ah al hn : Nat} {low : Int} (ha : W64 ah) (hb : W64 al) (h1 : hn ≤ 128) (h8 : (hn : Int) - low ≤ 8) : cutK ah al hn ∈ keysS N low (hn : Int) ↔ ∃ r ∈ N, candB ah al low (hn : Int) r = true := by
  unfold keysS
  simp only [List.mem_flatMap, List.mem_filter]
  refine exists_congr fun r => ?_
  constructor
  · rintro ⟨⟨hr, hi⟩, hk⟩
    refine ⟨hr, ?_⟩
    unfold insB at hi
    simp only [Bool.and_eq_true, decide_eq_true_eq] at hi
    have h := ((mem_spr (hg r hr).1 (hg r hr).2 _ _).1 hk).2.2.2.2.2.2.2
    unfold cutK at h
    simp only at h
    rw [has_cut_any r ah al hn hi.2] at h
    unfold candB
    simp [hi.1, hi.2, h]
  · rintro ⟨hr, hc⟩
    unfold candB at hc
    simp only [Bool.and_eq_true, decide_eq_true_eq] at hc
    obtain ⟨c1, c2, c3⟩ := hc
    refine ⟨⟨hr, by unfold insB; simp [c1, c2]⟩, (mem_spr (hg r hr).1 (hg r hr).2 _ _).2 ⟨c2, by omega, by omega, rfl, ha.cut _, hb.cut _, ?_, ?_⟩⟩
    · have := right_cut ah al (hn : Int) (by omega) (by omega)
      simpa [cutK] using this
    · show hasB _ _ _ (cutW ah hn) (cutW al (hn - 64)) = true
      rw [has_cut_any r ah al hn c2]
      exact c3
theorem find_some18 {l : List Rt} {k : Ky} {i : Nat} (h : findS l k = some i) : ∃ hi : i < l.length, l[i].k = k := by
  unfold findS at h
  obtain ⟨hi, h2, -⟩ := List.findIdx?_eq_some_iff_getElem.1 h
  exact ⟨hi, of_decide_eq_true h2⟩
theorem find_is18 {l : List Rt} {k : Ky} : (findS l k).isSome = true ↔ k ∈ keysR l := by
  unfold findS keysR
  rw [List.findIdx?_isSome, List.any_eq_true, List.mem_map]
  simp only [decide_eq_true_eq]
/-- AN ADDRESS HAS A KEY OF A LEVEL JUST IF IT HAS A ROUTE THERE. -/
theorem cover_is {N : List Rt} (hg : ∀ r ∈ N, W64 r.k.h ∧ W64 r.k.l) {ah al hn : Nat} {low : Int} (ha : W64 ah) (hb : W64 al) (h1 : hn ≤ 128) (hl : low < (hn : Int)) (h8 : (hn : Int) - low ≤ 8) :
    (findS (setS N low (hn : Int)) (cutK ah al hn)).isSome = (lngI N (candB ah al low (hn : Int)) N.length).isSome := by
  rw [Bool.eq_iff_iff, find_is18, lng_is, ← key_level hg ha hb h1 h8]
  unfold keysR
  rw [List.mem_map]
  constructor
  · rintro ⟨q, hq, e⟩
    rw [← e]
    exact ((mem_setS _ _ _ _).1 hq).2.1
  · intro h
    exact ⟨⟨cutK ah al hn, hopV N low (cutK ah al hn)⟩, (mem_setS _ _ _ _).2 ⟨hl, h, rfl⟩, rfl⟩
/-- .. AND THEN WITH THE HOP OF THE LONGEST. -/
theorem cover_hop {N : List Rt} {ah al hn : Nat} {low : Int} {i b : Nat} (hi : findS (setS N low (hn : Int)) (cutK ah al hn) = some i) (hb : lngI N (candB ah al low (hn : Int)) N.length = some b) :
    ((setS N low (hn : Int)).getD i ⟨⟨0, 0, 0⟩, 0⟩).v = (N.getD b ⟨⟨0, 0, 0⟩, 0⟩).v := by
  obtain ⟨hil, hik⟩ := find_some18 hi
  have h := ((mem_setS N low (hn : Int) _).1 (List.getElem_mem hil)).2.2
  rw [hik] at h
  rw [getD_at hil, h]
  unfold hopV hopK
  rw [cand_cut, hb]
  rfl
end Go.Proofs.Ytlmampklgghngaa
/-
  Plain mathematics of what turns between two sets: what a sorted row has of a key; the changes, known by their members; that they make the one of the other; that they turn back; whose keys turn in a level. No condition but those that stand in each.
-/
set_option linter.unusedSimpArgs false
set_option linter.unusedVariables false
namespace Go.Proofs.Ytlmampklgghngaa
open M

/-- What a row has of a key. -/
def getS (N : List Rt) (k : Ky) : Option Int := (N.find? fun r => decide (r.k = k)).map Rt.v
theorem getS_some {N : List Rt} (h : Sorted N) {k : Ky} {v : Int} : getS N k = some v ↔ (⟨k, v⟩ : Rt) ∈ N := by
  unfold getS
  constructor
  · intro e
    obtain ⟨r, hr, hv⟩ := Option.map_eq_some_iff.1 e
    have h1 := List.mem_of_find?_eq_some hr
    have h2 := List.find?_some hr
    have h3 : r.k = k := of_decide_eq_true h2
    rw [← h3, ← hv]
    exact h1
  · intro hm
    cases hf : N.find? fun r => decide (r.k = k) with
    | none =>
      have := List.find?_eq_none.1 hf _ hm
      simp at this
    | some r =>
      have h1 := List.mem_of_find?_eq_some hf
      have h2 := List.find?_some hf
      have h3 : r.k = k := of_decide_eq_true h2
      have : r = ⟨k, v⟩ := one_key18 h.nodup h1 hm h3
      rw [this]
      rfl
theorem getS_none {N : List Rt} {k : Ky} : getS N k = none ↔ k ∉ keysR N := by
  unfold getS keysR
  rw [Option.map_eq_none_iff, List.find?_eq_none, List.mem_map]
  constructor
  · rintro h ⟨r, hr, e⟩
    have := h r hr
    simp [e] at this
  · intro h r hr
    simp only [decide_eq_true_eq]
    exact fun e => h ⟨r, hr, e⟩
theorem getS_ext {M N : List Rt} (hM : Sorted M) (hN : Sorted N) (h : ∀ k, getS M k = getS N k) : M = N :=
  sorted_ext hM hN fun q => by
    obtain ⟨k, v⟩ := q
    rw [← getS_some hM, ← getS_some hN, h]
theorem getS_into {N : List Rt} (h : Sorted N) (r : Rt) (k : Ky) : getS (intoS N r) k = if k = r.k then some r.v else getS N k := by
  have hs := intoS_sorted r h
  have key : ∀ v, getS (intoS N r) k = some v ↔ (if k = r.k then some r.v else getS N k) = some v := fun v => by
    rw [getS_some hs, mem_into h]
    by_cases e : k = r.k
    · rw [if_pos e]
      subst e
      constructor
      · rintro (h1 | ⟨_, h1⟩)
        · rw [← h1]
        · exact absurd rfl h1
      · intro h1
        injection h1 with h1
        exact .inl (by rw [← h1])
    · rw [if_neg e, getS_some h]
      constructor
      · rintro (h1 | ⟨h1, _⟩)
        · exact absurd (by rw [← h1]) e
        · exact h1
      · exact fun h1 => .inr ⟨h1, e⟩
  cases h1 : getS (intoS N r) k with
  | some v => exact ((key v).1 h1).symm
  | none =>
    cases h2 : (if k = r.k then some r.v else getS N k) with
    | none => rfl
    | some v => rw [(key v).2 h2] at h1; cases h1
theorem getS_out {N : List Rt} (h : Sorted N) (j k : Ky) : getS (outS N j) k = if k = j then none else getS N k := by
  have hs := outS_sorted j h
  have key : ∀ v, getS (outS N j) k = some v ↔ (if k = j then none else getS N k) = some v := fun v => by
    rw [getS_some hs, mem_outS]
    by_cases e : k = j
    · rw [if_pos e]
      constructor
      · rintro ⟨_, h1⟩; exact absurd e h1
      · intro h1; cases h1
    · rw [if_neg e, getS_some h]
      exact ⟨fun h1 => h1.1, fun h1 => ⟨h1, e⟩⟩
  cases h1 : getS (outS N j) k with
  | some v => exact ((key v).1 h1).symm
  | none =>
    cases h2 : (if k = j then none else getS N k) with
    | none => rfl
    | some v => rw [(key v).2 h2] at h1; cases h1
/-- A change. -/
structure Ch where
  k : Ky
  o : Int
  n : Int
def chS (A B : List Rt) (k : Ky) : Ch := ⟨k, (getS A k).getD (-1), (getS B k).getD (-1)⟩
def turnB (A B : List Rt) (k : Ky) : Bool := decide (getS A k ≠ getS B k)
/-- WHAT TURNS. -/
def ofS (A B : List Rt) : List Ch := ((keysR (sortR (A ++ B))).filter (turnB A B)).map (chS A B)
def SortedC (L : List Ch) : Prop := L.Pairwise fun a b => lessK a.k b.k = true
theorem keys_sort (l : List Rt) (k : Ky) : k ∈ keysR (sortR l) ↔ k ∈ keysR l := by
  unfold keysR
  simp only [List.mem_map]
  constructor
  · rintro ⟨q, hq, e⟩
    have h := ((sortR_mem l).2 q).1 hq
    unfold lst at h
    exact ⟨q, (List.mem_filter.1 (List.mem_of_getLast? h)).1, e⟩
  · rintro ⟨q, hq, e⟩
    cases hl : (l.filter fun r => decide (r.k = k)).getLast? with
    | none =>
      have := List.getLast?_eq_none_iff.1 hl
      have hm : q ∈ l.filter (fun r => decide (r.k = k)) := List.mem_filter.2 ⟨hq, by simp [e]⟩
      rw [this] at hm
      cases hm
    | some x =>
      have hx : x.k = k := of_decide_eq_true (List.mem_filter.1 (List.mem_of_getLast? hl)).2
      exact ⟨x, ((sortR_mem l).2 x).2 (by unfold lst; rw [hx]; exact hl), hx⟩
theorem of_sorted (A B : List Rt) : SortedC (ofS A B) := by
  have h := (sortR_mem (A ++ B)).1
  unfold ofS SortedC
  rw [List.pairwise_map]
  refine List.Pairwise.filter _ ?_
  unfold keysR
  rw [List.pairwise_map]
  exact h
theorem turn_keys {A B : List Rt} {k : Ky} (h : getS A k ≠ getS B k) : k ∈ keysR (A ++ B) := by
  unfold keysR
  rw [List.map_append, List.mem_append]
  by_cases h1 : k ∈ keysR A
  · exact .inl h1
  · by_cases h2 : k ∈ keysR B
    · exact .inr h2
    · exact absurd ((getS_none.2 h1).trans (getS_none.2 h2).symm) h
theorem mem_of (A B : List Rt) (c : Ch) : c ∈ ofS A B ↔ getS A c.k ≠ getS B c.k ∧ c = chS A B c.k := by
  unfold ofS
  simp only [List.mem_map, List.mem_filter]
  constructor
  · rintro ⟨k, ⟨_, h1⟩, rfl⟩
    exact ⟨of_decide_eq_true h1, rfl⟩
  · rintro ⟨h1, h2⟩
    exact ⟨c.k, ⟨(keys_sort _ _).2 (turn_keys h1), decide_eq_true h1⟩, h2.symm⟩
theorem sortedC_ext : ∀ {L M : List Ch}, SortedC L → SortedC M → (∀ c, c ∈ L ↔ c ∈ M) → L = M
  | [], [], _, _, _ => rfl
  | [], b :: M, _, _, h => absurd ((h b).2 List.mem_cons_self) (by simp)
  | a :: L, [], _, _, h => absurd ((h a).1 List.mem_cons_self) (by simp)
  | a :: L, b :: M, hL, hM, h => by
    have h1 := List.pairwise_cons.1 hL
    have h2 := List.pairwise_cons.1 hM
    have irr : ∀ k, lessK k k = true → False := fun k hk => by rw [lessK_irr] at hk; cases hk
    have hab : a = b := by
      rcases List.mem_cons.1 ((h a).1 List.mem_cons_self) with e | e
      · exact e
      · rcases List.mem_cons.1 ((h b).2 List.mem_cons_self) with e2 | e2
        · exact e2.symm
        · exact (irr _ (lessK_trans (h1.1 b e2) (h2.1 a e))).elim
    subst hab
    congr 1
    refine sortedC_ext h1.2 h2.2 fun c => ⟨fun hc => ?_, fun hc => ?_⟩
    · rcases List.mem_cons.1 ((h c).1 (List.mem_cons_of_mem _ hc)) with e | e
      · subst e; exact (irr _ (h1.1 c hc)).elim
      · exact e
    · rcases List.mem_cons.1 ((h c).2 (List.mem_cons_of_mem _ hc)) with e | e
      · subst e; exact (irr _ (h2.1 c hc)).elim
      · exact e
/-- A row of changes that is sorted and has just these is what turns. -/
theorem of_one {A B : List Rt} {M : List Ch} (hM : SortedC M) (h : ∀ c, c ∈ M ↔ getS A c.k ≠ getS B c.k ∧ c = chS A B c.k) : M = ofS A B :=
  sortedC_ext hM (of_sorted A B) fun c => by rw [h, mem_of]
theorem of_self (A : List Rt) : ofS A A = [] := by
  have : ∀ c, c ∉ ofS A A := fun c hc => ((mem_of A A c).1 hc).1 rfl
  cases h : ofS A A with
  | nil => rfl
  | cons c L => exact absurd (by rw [h]; exact List.mem_cons_self) (this c)
/-- What turns turns back. -/
def backC (c : Ch) : Ch := ⟨c.k, c.n, c.o⟩
theorem of_back (A B : List Rt) : ofS B A = (ofS A B).map backC := by
  refine (of_one (A := B) (B := A) ?_ fun c => ?_).symm
  · unfold SortedC
    rw [List.pairwise_map]
    exact of_sorted A B
  · rw [List.mem_map]
    constructor
    · rintro ⟨d, hd, rfl⟩
      obtain ⟨h1, h2⟩ := (mem_of A B d).1 hd
      refine ⟨fun e => h1 e.symm, ?_⟩
      unfold chS at h2
      unfold chS backC
      rw [h2]
    · rintro ⟨h1, h2⟩
      refine ⟨backC c, (mem_of A B _).2 ⟨fun e => h1 e.symm, ?_⟩, rfl⟩
      unfold chS at h2 ⊢
      unfold backC
      rw [h2]
/-- One change, carried out. -/
def stepC (N : List Rt) (c : Ch) : List Rt := if 0 ≤ c.n then intoS N ⟨c.k, c.n⟩ else outS N c.k
theorem stepC_sorted {N : List Rt} (h : Sorted N) (c : Ch) : Sorted (stepC N c) := by
  unfold stepC
  split
  · exact intoS_sorted _ h
  · exact outS_sorted _ h
/-- The row in the midst: the first i changes are carried out. -/
structure MidC (A B : List Rt) (i : Nat) (N : List Rt) : Prop where
  sorted : Sorted N
  get : ∀ k, getS N k = if k ∈ ((ofS A B).take i).map Ch.k then getS B k else getS A k
theorem MidC.start {A B : List Rt} (h : Sorted A) : MidC A B 0 A := ⟨h, fun k => by simp⟩
theorem pos_get {B : List Rt} (hB : Sorted B) (hp : ∀ r ∈ B, 0 ≤ r.v) {k : Ky} {v : Int} (h : getS B k = some v) : 0 ≤ v := hp _ ((getS_some hB).1 h)
theorem of_nodup (A B : List Rt) : ((ofS A B).map Ch.k).Nodup := by
  unfold List.Nodup
  rw [List.pairwise_map]
  exact List.Pairwise.imp (fun {a b} hab e => by rw [e, lessK_irr] at hab; cases hab) (of_sorted A B)
theorem not_before {A B : List Rt} {i : Nat} (hi : i < (ofS A B).length) : (ofS A B)[i].k ∉ ((ofS A B).take i).map Ch.k := by
  intro h
  have hn := of_nodup A B
  rw [← List.take_append_drop i (ofS A B), List.map_append, List.nodup_append] at hn
  refine hn.2.2 _ h _ ?_ rfl
  rw [List.drop_eq_getElem_cons hi]
  exact List.mem_cons_self
/-- What the next change says is so. -/
theorem MidC.now {A B N : List Rt} {i : Nat} (H : MidC A B i N) (hA : Sorted A) (hB : Sorted B) (pA : ∀ r ∈ A, 0 ≤ r.v) (pB : ∀ r ∈ B, 0 ≤ r.v) (hi : i < (ofS A B).length) :
    (((getS N (ofS A B)[i].k).isSome = decide (0 ≤ (ofS A B)[i].o)) ∧ (∀ v, getS N (ofS A B)[i].k = some v → v = (ofS A B)[i].o) ∧ (ofS A B)[i].o ≠ (ofS A B)[i].n) ∧ MidC A B (i + 1) (stepC N (ofS A B)[i]) := by
  obtain ⟨h1, h2⟩ := (mem_of A B _).1 (List.getElem_mem hi)
  have hg := H.get (ofS A B)[i].k
  rw [if_neg (not_before hi)] at hg
  have hsn : (ofS A B).take (i + 1) = (ofS A B).take i ++ [(ofS A B)[i]] := List.take_succ_eq_append_getElem hi
  generalize (ofS A B)[i] = c at h1 h2 hg hsn ⊢
  obtain ⟨k, o, n⟩ := c
  unfold chS at h2
  simp only at h1 h2 hg
  injection h2 with _ ho hn
  simp only
  refine ⟨⟨?_, ?_, ?_⟩, ?_⟩
  · rw [hg]
    cases ha : getS A k with
    | none => rw [ha] at ho; rw [ho]; rfl
    | some v =>
      rw [ha] at ho
      have := pos_get hA pA ha
      rw [ho]
      exact (decide_eq_true this).symm
  · intro v hv
    rw [hg] at hv
    rw [hv] at ho
    exact ho.symm
  · intro e
    rw [ho, hn] at e
    cases ha : getS A k with
    | none =>
      cases hb : getS B k with
      | none => exact h1 (ha.trans hb.symm)
      | some v =>
        rw [ha, hb] at e
        have := pos_get hB pB hb
        have e : (-1 : Int) = v := e
        omega
    | some u =>
      have hu := pos_get hA pA ha
      cases hb : getS B k with
      | none =>
        rw [ha, hb] at e
        have e : u = (-1 : Int) := e
        omega
      | some v =>
        rw [ha, hb] at e
        have e : u = v := e
        exact h1 (by rw [ha, hb, e])
  · refine ⟨stepC_sorted H.sorted _, fun j => ?_⟩
    have hmem : j ∈ ((ofS A B).take (i + 1)).map Ch.k ↔ j ∈ ((ofS A B).take i).map Ch.k ∨ j = k := by
      rw [hsn, List.map_append, List.mem_append]
      simp
    have hst : getS (stepC N ⟨k, o, n⟩) j = if j = k then getS B k else getS N j := by
      unfold stepC
      simp only
      cases hb : getS B k with
      | none =>
        rw [hb] at hn
        have hn : n = (-1 : Int) := hn
        rw [if_neg (by omega), getS_out H.sorted]
      | some v =>
        rw [hb] at hn
        have hn : n = v := hn
        have := pos_get hB pB hb
        rw [if_pos (by omega), getS_into H.sorted, hn]
    rw [hst, H.get]
    by_cases e : j = k
    · subst e
      rw [if_pos rfl, if_pos (hmem.2 (.inr rfl))]
    · rw [if_neg e]
      by_cases e2 : j ∈ ((ofS A B).take i).map Ch.k
      · rw [if_pos e2, if_pos (hmem.2 (.inl e2))]
      · rw [if_neg e2, if_neg (fun h => by rcases hmem.1 h with h | h; exact e2 h; exact e h)]
theorem MidC.done {A B N : List Rt} (H : MidC A B (ofS A B).length N) (hB : Sorted B) : N = B := by
  refine getS_ext H.sorted hB fun k => ?_
  rw [H.get, List.take_length]
  by_cases h : k ∈ (ofS A B).map Ch.k
  · rw [if_pos h]
  · rw [if_neg h]
    by_cases e : getS A k = getS B k
    · exact e
    · exact absurd (List.mem_map.2 ⟨chS A B k, (mem_of A B _).2 ⟨e, rfl⟩, rfl⟩) h
end Go.Proofs.Ytlmampklgghngaa
/-
  Rows of routes in memory: a list of keys with their values as cells, four to each; rows of the call's own, and what is read of them. No condition but those that stand in each.
-/
set_option linter.unusedSimpArgs false
set_option linter.unusedVariables false
namespace Go.Proofs.Ytlmampklgghngaa
open Go.RowKit Go.Sort M

def rcell (r : Rt) : List Value := [.int .u64 (r.k.h : Int), .int .u64 (r.k.l : Int), .int .i64 r.k.n, .int .i64 r.v]
def rcs (L : List Rt) : List Value := L.flatMap rcell
theorem rcs_len (L : List Rt) : (rcs L).length = L.length * 4 := by
  unfold rcs
  induction L with
  | nil => rfl
  | cons x L ih => simp only [List.flatMap_cons, List.length_append, ih, rcell, List.length_cons, List.length_nil]; omega
theorem rcs_append (L M : List Rt) : rcs (L ++ M) = rcs L ++ rcs M := by simp [rcs]
theorem rcs_cons (x : Rt) (L : List Rt) : rcs (x :: L) = rcell x ++ rcs L := rfl
theorem rcs_one (p : Rt) : rcs [p] = rcell p := by simp [rcs]
theorem rcs_cell : ∀ (L : List Rt) (k j : Nat) (h : k < L.length), j < 4 → (rcs L)[k * 4 + j]? = (rcell L[k])[j]?
  | x :: L, 0, j, _, hj => by
    rw [rcs_cons, List.getElem?_append_left (by simp [rcell]; omega)]
    simp
  | x :: L, k + 1, j, h, hj => by
    rw [rcs_cons, List.getElem?_append_right (by simp [rcell]; omega), show (k + 1) * 4 + j - (rcell x).length = k * 4 + j by simp [rcell]; omega]
    rw [rcs_cell L k j (by simpa using h) hj]
    simp
theorem rcs_one' (L : List Rt) : ∀ u ∈ rcs L, u.oneCell' = true := by
  intro u hu
  unfold rcs at hu
  rw [List.mem_flatMap] at hu
  obtain ⟨p, -, hp⟩ := hu
  simp only [rcell, List.mem_cons, List.not_mem_nil, or_false] at hp
  rcases hp with rfl | rfl | rfl | rfl <;> rfl
/-- Number k of a row of routes. -/
theorem Row.rt {w : World} {p : Option Addr} {L : List Rt} (h : Row w p (rcs L)) {k : Nat} (hk : k < L.length) : ∃ g o, p = some ⟨g, o, none⟩ ∧ g < w.heap.size ∧
    w.cell? ⟨g, o + k * 4, none⟩ = some (.int .u64 (L[k].k.h : Int)) ∧ w.cell? ⟨g, o + k * 4 + 1, none⟩ = some (.int .u64 (L[k].k.l : Int)) ∧ w.cell? ⟨g, o + k * 4 + 2, none⟩ = some (.int .i64 L[k].k.n) ∧ w.cell? ⟨g, o + k * 4 + 3, none⟩ = some (.int .i64 L[k].v) := by
  rcases h with h | ⟨g, o, e, hg, hc⟩
  · have := rcs_len L
    rw [h] at this
    simp at this; omega
  · exact ⟨g, o, e, hg, hc (k * 4) _ (rcs_cell L k 0 hk (by omega)), hc (k * 4 + 1) _ (rcs_cell L k 1 hk (by omega)), hc (k * 4 + 2) _ (rcs_cell L k 2 hk (by omega)), hc (k * 4 + 3) _ (rcs_cell L k 3 hk (by omega))⟩
/-- A new row of routes. -/
def NewRts (w w' : World) (e : Ending) (L : List Rt) : Prop := ∃ p c, e = .returned (.slice p L.length c) ∧ w'.ownsRow w.heap.size 38 4 (.slice p L.length c) L.length (rcs L) ∧ Below w.heap.size w w'
theorem infoR : (Try.prog.info? 38).map (fun i => (i.zero, i.size, i.bytes)) = some (some (.agg #[.int .u64 0, .int .u64 0, .int .i64 0, .int .i64 0]), 4, 32) := by kernel_rfl
/-- Four new cells, at the head of their block. -/
theorem four_new {w : World} {g : Nat} {a b c d : Value} (h0 : w.cell? ⟨g, 0, none⟩ = some a) (h1 : w.cell? ⟨g, 1, none⟩ = some b) (h2 : w.cell? ⟨g, 2, none⟩ = some c) (h3 : w.cell? ⟨g, 3, none⟩ = some d) :
    ∀ j u, [a, b, c, d][j]? = some u → w.cell? ((⟨g, 0, none⟩ : Addr).add j) = some u := by
  intro j u hj
  have hlt : j < 4 := (List.getElem?_eq_some_iff.1 hj).1
  have he : (⟨g, 0, none⟩ : Addr).add j = ⟨g, j, none⟩ := by unfold Addr.add; split <;> simp_all
  rw [he]
  rcases (show j = 0 ∨ j = 1 ∨ j = 2 ∨ j = 3 by omega) with rfl | rfl | rfl | rfl <;> (simp only [List.getElem?_cons_zero, List.getElem?_cons_succ, Option.some.injEq] at hj; subst hj; assumption)
theorem own_rsnoc {w : World} {B n : Nat} {e : TypeId} {v : Value} {L : List Rt} {x : Rt} (h : w.ownsRow B e 4 v (n + 1) (rcs L ++ rcell x)) (hn : n = L.length) : w.ownsRow B e 4 v (L ++ [x]).length (rcs (L ++ [x])) := by
  rw [rcs_append, rcs_one, List.length_append, ← hn]
  exact h
end Go.Proofs.Ytlmampklgghngaa
