/-
  Plain mathematics of longest matches, in ranges that meet, and of prefixes within one another. No condition but those that stand in each.
-/
import Derived.Test.YtoihkbanmnagkaaGreatM18
import Derived.Test.YtoihkbanmnagkaaGreatLtR
import Derived.Test.YtoihkbanmnagkaaGreatM12f
/-
  Plain mathematics of what a level holds, continued: an address has a key of a level just if it has a route of its lengths, and then with the hop of the longest. No condition but those that stand in each.
-/
set_option linter.unusedSimpArgs false
set_option linter.unusedVariables false
namespace Go.Proofs.YtoihkbanmnagkaaGreat
open M

theorem has_cut_any (r : Rt) (ah al hn : Nat) (h : r.k.n ≤ (hn : Int)) : hasB r.k.h r.k.l r.k.n (cutW ah hn) (cutW al (hn - 64)) = hasB r.k.h r.k.l r.k.n ah al := by
  unfold hasB
  rw [cutW_cutW, cutW_cutW]
  by_cases h0 : 0 ≤ r.k.n
  · rw [show min hn r.k.n.toNat = r.k.n.toNat by omega, show min (hn - 64) (r.k.n.toNat - 64) = r.k.n.toNat - 64 by omega]
  · have : rightB r.k.h r.k.l r.k.n = false := by
      unfold rightB
      exact decide_eq_false (by omega)
    rw [this]
    rfl
theorem cand_cut (ah al hn : Nat) (low : Int) : candB (cutK ah al hn).h (cutK ah al hn).l low (cutK ah al hn).n = candB ah al low (hn : Int) := by
  funext r
  unfold candB cutK
  simp only
  by_cases h : r.k.n ≤ (hn : Int)
  · rw [has_cut_any r ah al hn h]
  · rw [decide_eq_false h]
    simp
theorem lng_is {N : List Rt} {c : Rt → Bool} : (lngI N c N.length).isSome = true ↔ ∃ r ∈ N, c r = true := by
  have h := lng_ok N c N.length (Nat.le_refl _)
  cases e : lngI N c N.length with
  | none =>
    rw [e] at h
    refine ⟨fun h => (by cases h), fun ⟨r, hr, hc⟩ => ?_⟩
    obtain ⟨i, hi, rfl⟩ := List.getElem_of_mem hr
    rw [h i hi hi] at hc
    cases hc
  | some b =>
    rw [e] at h
    obtain ⟨hb, -, hc, -⟩ := h
    exact ⟨fun _ => ⟨N[b], List.getElem_mem hb, hc⟩, fun _ => rfl⟩
theorem key_level {N : List Rt} (hg : ∀ r ∈ N, W64 r.k.h ∧ W64 r.k.l) {ah al hn : Nat} {low : Int} (ha : W64 ah) (hb : W64 al) (h1 : hn ≤ 128) (h8 : (hn : Int) - low ≤ 8) : cutK ah al hn ∈ keysS N low (hn : Int) ↔ ∃ r ∈ N, candB ah al low (hn : Int) r = true := by
  unfold keysS
  simp only [List.mem_flatMap, List.mem_filter]
  refine exists_congr fun r => ?_
  constructor
  · rintro ⟨⟨hr, hi⟩, hk⟩
    refine ⟨hr, ?_⟩
    unfold insB at hi
    simp only [Bool.and_eq_true, decide_eq_true_eq] at hi
    have h := ((mem_spr (hg r hr).1 (hg r hr).2 _ _).1 hk).2.2.2.2.2.2.2
    unfold cutK at h
    simp only at h
    rw [has_cut_any r ah al hn hi.2] at h
    unfold candB
    simp [hi.1, hi.2, h]
  · rintro ⟨hr, hc⟩
    unfold candB at hc
    simp only [Bool.and_eq_true, decide_eq_true_eq] at hc
    obtain ⟨c1, c2, c3⟩ := hc
    refine ⟨⟨hr, by unfold insB; simp [c1, c2]⟩, (mem_spr (hg r hr).1 (hg r hr).2 _ _).2 ⟨c2, by omega, by omega, rfl, ha.cut _, hb.cut _, ?_, ?_⟩⟩
    · have := right_cut ah al (hn : Int) (by omega) (by omega)
      simpa [cutK] using this
    · show hasB _ _ _ (cutW ah hn) (cutW al (hn - 64)) = true
      rw [has_cut_any r ah al hn c2]
      exact c3
theorem find_some18 {l : List Rt} {k : Ky} {i : Nat} (h : findS l k = some i) : ∃ hi : i < l.length, l[i].k = k := by
  unfold findS at h
  obtain ⟨hi, h2, -⟩ := List.findIdx?_eq_some_iff_getElem.1 h
  exact ⟨hi, of_decide_eq_true h2⟩
theorem find_is18 {l : List Rt} {k : Ky} : (findS l k).isSome = true ↔ k ∈ keysR l := by
  unfold findS keysR
  rw [List.findIdx?_isSome, List.any_eq_true, List.mem_map]
  simp only [decide_eq_true_eq]
/-- AN ADDRESS HAS A KEY OF A LEVEL JUST IF IT HAS A ROUTE THERE. -/
theorem cover_is {N : List Rt} (hg : ∀ r ∈ N, W64 r.k.h ∧ W64 r.k.l) {ah al hn : Nat} {low : Int} (ha : W64 ah) (hb : W64 al) (h1 : hn ≤ 128) (hl : low < (hn : Int)) (h8 : (hn : Int) - low ≤ 8) :
    (findS (setS N low (hn : Int)) (cutK ah al hn)).isSome = (lngI N (candB ah al low (hn : Int)) N.length).isSome := by
  rw [Bool.eq_iff_iff, find_is18, lng_is, ← key_level hg ha hb h1 h8]
  unfold keysR
  rw [List.mem_map]
  constructor
  · rintro ⟨q, hq, e⟩
    rw [← e]
    exact ((mem_setS _ _ _ _).1 hq).2.1
  · intro h
    exact ⟨⟨cutK ah al hn, hopV N low (cutK ah al hn)⟩, (mem_setS _ _ _ _).2 ⟨hl, h, rfl⟩, rfl⟩
/-- .. AND THEN WITH THE HOP OF THE LONGEST. -/
theorem cover_hop {N : List Rt} {ah al hn : Nat} {low : Int} {i b : Nat} (hi : findS (setS N low (hn : Int)) (cutK ah al hn) = some i) (hb : lngI N (candB ah al low (hn : Int)) N.length = some b) :
    ((setS N low (hn : Int)).getD i ⟨⟨0, 0, 0⟩, 0⟩).v = (N.getD b ⟨⟨0, 0, 0⟩, 0⟩).v := by
  obtain ⟨hil, hik⟩ := find_some18 hi
  have h := ((mem_setS N low (hn : Int) _).1 (List.getElem_mem hil)).2.2
  rw [hik] at h
  rw [getD_at hil, h]
  unfold hopV hopK
  rw [cand_cut, hb]
  rfl
end Go.Proofs.YtoihkbanmnagkaaGreat
/-
  Plain mathematics of what turns between two sets: what a sorted row has of a key; the changes, known by their members; that they make the one of the other; that they turn back; whose keys turn in a level. No condition but those that stand in each.
-/
set_option linter.unusedSimpArgs false
set_option linter.unusedVariables false
namespace Go.Proofs.YtoihkbanmnagkaaGreat
open M

/-- What a row has of a key. -/
def getS (N : List Rt) (k : Ky) : Option Int := (N.find? fun r => decide (r.k = k)).map Rt.v
theorem getS_some {N : List Rt} (h : Sorted N) {k : Ky} {v : Int} : getS N k = some v ↔ (⟨k, v⟩ : Rt) ∈ N := by
  unfold getS
  constructor
  · intro e
    obtain ⟨r, hr, hv⟩ := Option.map_eq_some_iff.1 e
    have h1 := List.mem_of_find?_eq_some hr
    have h2 := List.find?_some hr
    have h3 : r.k = k := of_decide_eq_true h2
    rw [← h3, ← hv]
    exact h1
  · intro hm
    cases hf : N.find? fun r => decide (r.k = k) with
    | none =>
      have := List.find?_eq_none.1 hf _ hm
      simp at this
    | some r =>
      have h1 := List.mem_of_find?_eq_some hf
      have h2 := List.find?_some hf
      have h3 : r.k = k := of_decide_eq_true h2
      have : r = ⟨k, v⟩ := one_key18 h.nodup h1 hm h3
      rw [this]
      rfl
theorem getS_none {N : List Rt} {k : Ky} : getS N k = none ↔ k ∉ keysR N := by
  unfold getS keysR
  rw [Option.map_eq_none_iff, List.find?_eq_none, List.mem_map]
  constructor
  · rintro h ⟨r, hr, e⟩
    have := h r hr
    simp [e] at this
  · intro h r hr
    simp only [decide_eq_true_eq]
    exact fun e => h ⟨r, hr, e⟩
theorem getS_ext {M N : List Rt} (hM : Sorted M) (hN : Sorted N) (h : ∀ k, getS M k = getS N k) : M = N :=
  sorted_ext hM hN fun q => by
    obtain ⟨k, v⟩ := q
    rw [← getS_some hM, ← getS_some hN, h]
theorem getS_into {N : List Rt} (h : Sorted N) (r : Rt) (k : Ky) : getS (intoS N r) k = if k = r.k then some r.v else getS N k := by
  have hs := intoS_sorted r h
  have key : ∀ v, getS (intoS N r) k = some v ↔ (if k = r.k then some r.v else getS N k) = some v := fun v => by
    rw [getS_some hs, mem_into h]
    by_cases e : k = r.k
    · rw [if_pos e]
      subst e
      constructor
      · rintro (h1 | ⟨_, h1⟩)
        · rw [← h1]
        · exact absurd rfl h1
      · intro h1
        injection h1 with h1
        exact .inl (by rw [← h1])
    · rw [if_neg e, getS_some h]
      constructor
      · rintro (h1 | ⟨h1, _⟩)
        · exact absurd (by rw [← h1]) e
        · exact h1
      · exact fun h1 => .inr ⟨h1, e⟩
  cases h1 : getS (intoS N r) k with
  | some v => exact ((key v).1 h1).symm
  | none =>
    cases h2 : (if k = r.k then some r.v else getS N k) with
    | none => rfl
    | some v => rw [(key v).2 h2] at h1; cases h1
theorem getS_out {N : List Rt} (h : Sorted N) (j k : Ky) : getS (outS N j) k = if k = j then none else getS N k := by
  have hs := outS_sorted j h
  have key : ∀ v, getS (outS N j) k = some v ↔ (if k = j then none else getS N k) = some v := fun v => by
    rw [getS_some hs, mem_outS]
    by_cases e : k = j
    · rw [if_pos e]
      constructor
      · rintro ⟨_, h1⟩; exact absurd e h1
      · intro h1; cases h1
    · rw [if_neg e, getS_some h]
      exact ⟨fun h1 => h1.1, fun h1 => ⟨h1, e⟩⟩
  cases h1 : getS (outS N j) k with
  | some v => exact ((key v).1 h1).symm
  | none =>
    cases h2 : (if k = j then none else getS N k) with
    | none => rfl
    | some v => rw [(key v).2 h2] at h1; cases h1
/-- A change. -/
structure Ch where
  k : Ky
  o : Int
  n : Int
def chS (A B : List Rt) (k : Ky) : Ch := ⟨k, (getS A k).getD (-1), (getS B k).getD (-1)⟩
def turnB (A B : List Rt) (k : Ky) : Bool := decide (getS A k ≠ getS B k)
/-- WHAT TURNS. -/
def ofS (A B : List Rt) : List Ch := ((keysR (sortR (A ++ B))).filter (turnB A B)).map (chS A B)
def SortedC (L : List Ch) : Prop := L.Pairwise fun a b => lessK a.k b.k = true
theorem keys_sort (l : List Rt) (k : Ky) : k ∈ keysR (sortR l) ↔ k ∈ keysR l := by
  unfold keysR
  simp only [List.mem_map]
  constructor
  · rintro ⟨q, hq, e⟩
    have h := ((sortR_mem l).2 q).1 hq
    unfold lst at h
    exact ⟨q, (List.mem_filter.1 (List.mem_of_getLast? h)).1, e⟩
  · rintro ⟨q, hq, e⟩
    cases hl : (l.filter fun r => decide (r.k = k)).getLast? with
    | none =>
      have := List.getLast?_eq_none_iff.1 hl
      have hm : q ∈ l.filter (fun r => decide (r.k = k)) := List.mem_filter.2 ⟨hq, by simp [e]⟩
      rw [this] at hm
      cases hm
    | some x =>
      have hx : x.k = k := of_decide_eq_true (List.mem_filter.1 (List.mem_of_getLast? hl)).2
      exact ⟨x, ((sortR_mem l).2 x).2 (by unfold lst; rw [hx]; exact hl), hx⟩
theorem of_sorted (A B : List Rt) : SortedC (ofS A B) := by
  have h := (sortR_mem (A ++ B)).1
  unfold ofS SortedC
  rw [List.pairwise_map]
  refine List.Pairwise.filter _ ?_
  unfold keysR
  rw [List.pairwise_map]
  exact h
theorem turn_keys {A B : List Rt} {k : Ky} (h : getS A k ≠ getS B k) : k ∈ keysR (A ++ B) := by
  unfold keysR
  rw [List.map_append, List.mem_append]
  by_cases h1 : k ∈ keysR A
  · exact .inl h1
  · by_cases h2 : k ∈ keysR B
    · exact .inr h2
    · exact absurd ((getS_none.2 h1).trans (getS_none.2 h2).symm) h
theorem mem_of (A B : List Rt) (c : Ch) : c ∈ ofS A B ↔ getS A c.k ≠ getS B c.k ∧ c = chS A B c.k := by
  unfold ofS
  simp only [List.mem_map, List.mem_filter]
  constructor
  · rintro ⟨k, ⟨_, h1⟩, rfl⟩
    exact ⟨of_decide_eq_true h1, rfl⟩
  · rintro ⟨h1, h2⟩
    exact ⟨c.k, ⟨(keys_sort _ _).2 (turn_keys h1), decide_eq_true h1⟩, h2.symm⟩
theorem sortedC_ext : ∀ {L M : List Ch}, SortedC L → SortedC M → (∀ c, c ∈ L ↔ c ∈ M) → L = M
  | [], [], _, _, _ => rfl
  | [], b :: M, _, _, h => absurd ((h b).2 List.mem_cons_self) (by simp)
  | a :: L, [], _, _, h => absurd ((h a).1 List.mem_cons_self) (by simp)
  | a :: L, b :: M, hL, hM, h => by
    have h1 := List.pairwise_cons.1 hL
    have h2 := List.pairwise_cons.1 hM
    have irr : ∀ k, lessK k k = true → False := fun k hk => by rw [lessK_irr] at hk; cases hk
    have hab : a = b := by
      rcases List.mem_cons.1 ((h a).1 List.mem_cons_self) with e | e
      · exact e
      · rcases List.mem_cons.1 ((h b).2 List.mem_cons_self) with e2 | e2
        · exact e2.symm
        · exact (irr _ (lessK_trans (h1.1 b e2) (h2.1 a e))).elim
    subst hab
    congr 1
    refine sortedC_ext h1.2 h2.2 fun c => ⟨fun hc => ?_, fun hc => ?_⟩
    · rcases List.mem_cons.1 ((h c).1 (List.mem_cons_of_mem _ hc)) with e | e
      · subst e; exact (irr _ (h1.1 c hc)).elim
      · exact e
    · rcases List.mem_cons.1 ((h c).2 (List.mem_cons_of_mem _ hc)) with e | e
      · subst e; exact (irr _ (h2.1 c hc)).elim
      · exact e
/-- A row of changes that is sorted and has just these is what turns. -/
theorem of_one {A B : List Rt} {M : List Ch} (hM : SortedC M) (h : ∀ c, c ∈ M ↔ getS A c.k ≠ getS B c.k ∧ c = chS A B c.k) : M = ofS A B :=
  sortedC_ext hM (of_sorted A B) fun c => by rw [h, mem_of]
theorem of_self (A : List Rt) : ofS A A = [] := by
  have : ∀ c, c ∉ ofS A A := fun c hc => ((mem_of A A c).1 hc).1 rfl
  cases h : ofS A A with
  | nil => rfl
  | cons c L => exact absurd (by rw [h]; exact List.mem_cons_self) (this c)
/-- What turns turns back. -/
def backC (c : Ch) : Ch := ⟨c.k, c.n, c.o⟩
theorem of_back (A B : List Rt) : ofS B A = (ofS A B).map backC := by
  refine (of_one (A := B) (B := A) ?_ fun c => ?_).symm
  · unfold SortedC
    rw [List.pairwise_map]
    exact of_sorted A B
  · rw [List.mem_map]
    constructor
    · rintro ⟨d, hd, rfl⟩
      obtain ⟨h1, h2⟩ := (mem_of A B d).1 hd
      refine ⟨fun e => h1 e.symm, ?_⟩
      unfold chS at h2
      unfold chS backC
      rw [h2]
    · rintro ⟨h1, h2⟩
      refine ⟨backC c, (mem_of A B _).2 ⟨fun e => h1 e.symm, ?_⟩, rfl⟩
      unfold chS at h2 ⊢
      unfold backC
      rw [h2]
/-- One change, carried out. -/
def stepC (N : List Rt) (c : Ch) : List Rt := if 0 ≤ c.n then intoS N ⟨c.k, c.n⟩ else outS N c.k
theorem stepC_sorted {N : List Rt} (h : Sorted N) (c : Ch) : Sorted (stepC N c) := by
  unfold stepC
  split
  · exact intoS_sorted _ h
  · exact outS_sorted _ h
/-- The row in the midst: the first i changes are carried out. -/
structure MidC (A B : List Rt) (i : Nat) (N : List Rt) : Prop where
  sorted : Sorted N
  get : ∀ k, getS N k = if k ∈ ((ofS A B).take i).map Ch.k then getS B k else getS A k
theorem MidC.start {A B : List Rt} (h : Sorted A) : MidC A B 0 A := ⟨h, fun k => by simp⟩
theorem pos_get {B : List Rt} (hB : Sorted B) (hp : ∀ r ∈ B, 0 ≤ r.v) {k : Ky} {v : Int} (h : getS B k = some v) : 0 ≤ v := hp _ ((getS_some hB).1 h)
theorem of_nodup (A B : List Rt) : ((ofS A B).map Ch.k).Nodup := by
  unfold List.Nodup
  rw [List.pairwise_map]
  exact List.Pairwise.imp (fun {a b} hab e => by rw [e, lessK_irr] at hab; cases hab) (of_sorted A B)
theorem not_before {A B : List Rt} {i : Nat} (hi : i < (ofS A B).length) : (ofS A B)[i].k ∉ ((ofS A B).take i).map Ch.k := by
  intro h
  have hn := of_nodup A B
  rw [← List.take_append_drop i (ofS A B), List.map_append, List.nodup_append] at hn
  refine hn.2.2 _ h _ ?_ rfl
  rw [List.drop_eq_getElem_cons hi]
  exact List.mem_cons_self
/-- What the next change says is so. -/
theorem MidC.now {A B N : List Rt} {i : Nat} (H : MidC A B i N) (hA : Sorted A) (hB : Sorted B) (pA : ∀ r ∈ A, 0 ≤ r.v) (pB : ∀ r ∈ B, 0 ≤ r.v) (hi : i < (ofS A B).length) :
    (((getS N (ofS A B)[i].k).isSome = decide (0 ≤ (ofS A B)[i].o)) ∧ (∀ v, getS N (ofS A B)[i].k = some v → v = (ofS A B)[i].o) ∧ (ofS A B)[i].o ≠ (ofS A B)[i].n) ∧ MidC A B (i + 1) (stepC N (ofS A B)[i]) := by
  obtain ⟨h1, h2⟩ := (mem_of A B _).1 (List.getElem_mem hi)
  have hg := H.get (ofS A B)[i].k
  rw [if_neg (not_before hi)] at hg
  have hsn : (ofS A B).take (i + 1) = (ofS A B).take i ++ [(ofS A B)[i]] := List.take_succ_eq_append_getElem hi
  generalize (ofS A B)[i] = c at h1 h2 hg hsn ⊢
  obtain ⟨k, o, n⟩ := c
  unfold chS at h2
  simp only at h1 h2 hg
  injection h2 with _ ho hn
  simp only
  refine ⟨⟨?_, ?_, ?_⟩, ?_⟩
  · rw [hg]
    cases ha : getS A k with
    | none => rw [ha] at ho; rw [ho]; rfl
    | some v =>
      rw [ha] at ho
      have := pos_get hA pA ha
      rw [ho]
      exact (decide_eq_true this).symm
  · intro v hv
    rw [hg] at hv
    rw [hv] at ho
    exact ho.symm
  · intro e
    rw [ho, hn] at e
    cases ha : getS A k with
    | none =>
      cases hb : getS B k with
      | none => exact h1 (ha.trans hb.symm)
      | some v =>
        rw [ha, hb] at e
        have := pos_get hB pB hb
        have e : (-1 : Int) = v := e
        omega
    | some u =>
      have hu := pos_get hA pA ha
      cases hb : getS B k with
      | none =>
        rw [ha, hb] at e
        have e : u = (-1 : Int) := e
        omega
      | some v =>
        rw [ha, hb] at e
        have e : u = v := e
        exact h1 (by rw [ha, hb, e])
  · refine ⟨stepC_sorted H.sorted _, fun j => ?_⟩
    have hmem : j ∈ ((ofS A B).take (i + 1)).map Ch.k ↔ j ∈ ((ofS A B).take i).map Ch.k ∨ j = k := by
      rw [hsn, List.map_append, List.mem_append]
      simp
    have hst : getS (stepC N ⟨k, o, n⟩) j = if j = k then getS B k else getS N j := by
      unfold stepC
      simp only
      cases hb : getS B k with
      | none =>
        rw [hb] at hn
        have hn : n = (-1 : Int) := hn
        rw [if_neg (by omega), getS_out H.sorted]
      | some v =>
        rw [hb] at hn
        have hn : n = v := hn
        have := pos_get hB pB hb
        rw [if_pos (by omega), getS_into H.sorted, hn]
    rw [hst, H.get]
    by_cases e : j = k
    · subst e
      rw [if_pos rfl, if_pos (hmem.2 (.inr rfl))]
    · rw [if_neg e]
      by_cases e2 : j ∈ ((ofS A B).take i).map Ch.k
      · rw [if_pos e2, if_pos (hmem.2 (.inl e2))]
      · rw [if_neg e2, if_neg (fun h => by rcases hmem.1 h with h | h; exact e2 h; exact e h)]
theorem MidC.done {A B N : List Rt} (H : MidC A B (ofS A B).length N) (hB : Sorted B) : N = B := by
  refine getS_ext H.sorted hB fun k => ?_
  rw [H.get, List.take_length]
  by_cases h : k ∈ (ofS A B).map Ch.k
  · rw [if_pos h]
  · rw [if_neg h]
    by_cases e : getS A k = getS B k
    · exact e
    · exact absurd (List.mem_map.2 ⟨chS A B k, (mem_of A B _).2 ⟨e, rfl⟩, rfl⟩) h
end Go.Proofs.YtoihkbanmnagkaaGreat
/-
  Plain mathematics of tries: the bits of a key as its path; a binary trie by paths; what a sorted row has of a key, behind Into and Without. No condition but those that stand in each.
-/
set_option linter.unusedSimpArgs false
set_option linter.unusedVariables false
namespace Go.Proofs.YtoihkbanmnagkaaGreat
open M

/-- The first bits of an address. -/
def pathN (h l : Nat) (n : Nat) : List Bool := (List.range n).map fun i => bitN h l i
theorem path_len (h l n : Nat) : (pathN h l n).length = n := by simp [pathN]
theorem path_at {h l n i : Nat} (hi : i < n) : (pathN h l n)[i]'(by rw [path_len]; exact hi) = bitN h l i := by simp [pathN]
theorem path_take (h l n m : Nat) (hm : m ≤ n) : (pathN h l n).take m = pathN h l m := by
  unfold pathN
  rw [← List.map_take, List.take_range, Nat.min_eq_left hm]
theorem path_snoc (h l n : Nat) : pathN h l (n + 1) = pathN h l n ++ [bitN h l n] := by
  unfold pathN
  rw [List.range_succ, List.map_append]
  rfl
/-- Same path, same cut. -/
theorem path_cut {h l h' l' n : Nat} (a : W64 h) (b : W64 l) (c : W64 h') (d : W64 l') (hn : n ≤ 128) : pathN h l n = pathN h' l' n ↔ cutW h n = cutW h' n ∧ cutW l (n - 64) = cutW l' (n - 64) := by
  constructor
  · intro e
    have hb : ∀ i, i < n → bitN h l i = bitN h' l' i := fun i hi => by
      have := congrArg (fun L => L[i]?) e
      simp only [List.getElem?_eq_getElem (show i < (pathN h l n).length by rw [path_len]; exact hi), List.getElem?_eq_getElem (show i < (pathN h' l' n).length by rw [path_len]; exact hi), path_at hi] at this
      exact Option.some.inj this
    refine addr_ext _ _ _ _ (a.cut _) (b.cut _) (c.cut _) (d.cut _) fun i _ => ?_
    rw [bitN_cut, bitN_cut]
    by_cases h : i < n
    · rw [hb i h]
    · simp [h]
  · rintro ⟨e1, e2⟩
    refine List.ext_getElem (by rw [path_len, path_len]) fun i h1 h2 => ?_
    rw [path_len] at h1
    rw [path_at h1, path_at h1]
    unfold bitN
    by_cases hi : i < 64
    · rw [if_pos hi, if_pos hi]
      have := congrArg (fun w => w.testBit (63 - i)) e1
      simp only [cutW_bit, show 64 - n ≤ 63 - i by omega, decide_true, Bool.true_and] at this
      exact this
    · rw [if_neg hi, if_neg hi, if_pos (by omega), if_pos (by omega)]
      have := congrArg (fun w => w.testBit (127 - i)) e2
      simp only [cutW_bit, show 64 - (n - 64) ≤ 127 - i by omega, decide_true, Bool.true_and] at this
      exact this
/-- A key's path. -/
def pathK (k : Ky) : List Bool := pathN k.h k.l k.n.toNat
def rightK (k : Ky) : Prop := rightB k.h k.l k.n = true
theorem cutK_good {ah al m : Nat} (a : W64 ah) (b : W64 al) : (cutK ah al m).good := ⟨W64.cut _ a, W64.cut _ b⟩
theorem cutK_right {ah al m : Nat} (hm : m ≤ 128) : rightK (cutK ah al m) := by
  have := right_cut ah al (m : Int) (by omega) (by omega)
  rw [Int.toNat_natCast] at this
  exact this
theorem pathK_inj {k k' : Ky} (g : k.good) (g' : k'.good) (r : rightK k) (r' : rightK k') (h : pathK k = pathK k') : k = k' := by
  have h1 := (rightB_iff _ _ _).1 r
  have h2 := (rightB_iff _ _ _).1 r'
  have hl := congrArg List.length h
  unfold pathK at hl h
  rw [path_len, path_len] at hl
  have hn : k.n = k'.n := by omega
  rw [← hl] at h
  have hc := (path_cut g.1 g.2 g'.1 g'.2 (by omega)).1 h
  obtain ⟨kh, kl, kn⟩ := k
  obtain ⟨kh', kl', kn'⟩ := k'
  simp only at *
  subst hn
  rw [h1.2.2.1, h2.2.2.1, h1.2.2.2, h2.2.2.2] at hc
  rw [hc.1, hc.2]
theorem pathK_cut {ah al m : Nat} (a : W64 ah) (b : W64 al) (hm : m ≤ 128) : pathK (cutK ah al m) = pathN ah al m := by
  unfold pathK cutK
  simp only [Int.toNat_natCast]
  rw [path_cut (W64.cut _ a) (W64.cut _ b) a b hm, cutW_idem, cutW_idem]
  exact ⟨rfl, rfl⟩
/-! ### A binary trie -/
inductive Tr where
  | nil
  | node (v : Option Int) (l r : Tr)
def Tr.get : Tr → List Bool → Option Int
  | .nil, _ => none
  | .node v _ _, [] => v
  | .node _ l r, b :: p => if b then r.get p else l.get p
def Tr.put : Tr → List Bool → Int → Tr
  | .nil, [], x => .node (some x) .nil .nil
  | .nil, b :: p, x => if b then .node none .nil (Tr.put .nil p x) else .node none (Tr.put .nil p x) .nil
  | .node _ l r, [], x => .node (some x) l r
  | .node v l r, b :: p, x => if b then .node v l (r.put p x) else .node v (l.put p x) r
/-- A place emptied; its node stays. -/
def Tr.del : Tr → List Bool → Tr
  | .nil, _ => .nil
  | .node _ l r, [] => .node none l r
  | .node v l r, b :: p => if b then .node v l (r.del p) else .node v (l.del p) r
theorem Tr.get_nil (p : List Bool) : Tr.nil.get p = none := by cases p <;> rfl
theorem Tr.get_put : ∀ (t : Tr) (p q : List Bool) (x : Int), (t.put p x).get q = if q = p then some x else t.get q
  | .nil, [], [], x => rfl
  | .nil, [], c :: q, x => by
    rw [if_neg (by simp)]
    cases c <;> exact Tr.get_nil q
  | .nil, b :: p, [], x => by
    rw [if_neg (by simp)]
    unfold Tr.put
    cases b <;> rfl
  | .nil, b :: p, c :: q, x => by
    have ih := Tr.get_put .nil p q x
    rw [Tr.get_nil] at ih
    unfold Tr.put
    cases b <;> cases c <;> simp [Tr.get, Tr.get_nil, ih]
  | .node v l r, [], [], x => rfl
  | .node v l r, [], c :: q, x => by
    rw [if_neg (by simp)]
    rfl
  | .node v l r, b :: p, [], x => by
    rw [if_neg (by simp)]
    unfold Tr.put
    cases b <;> rfl
  | .node v l r, b :: p, c :: q, x => by
    have i1 := Tr.get_put l p q x
    have i2 := Tr.get_put r p q x
    unfold Tr.put
    cases b <;> cases c <;> simp [Tr.get, i1, i2]
theorem Tr.get_del : ∀ (t : Tr) (p q : List Bool), (t.del p).get q = if q = p then none else t.get q
  | .nil, p, q => by
    unfold Tr.del
    rw [Tr.get_nil]
    split <;> rfl
  | .node v l r, [], [] => rfl
  | .node v l r, [], c :: q => by
    rw [if_neg (by simp)]
    rfl
  | .node v l r, b :: p, [] => by
    rw [if_neg (by simp)]
    unfold Tr.del
    cases b <;> rfl
  | .node v l r, b :: p, c :: q => by
    have i1 := Tr.get_del l p q
    have i2 := Tr.get_del r p q
    unfold Tr.del
    cases b <;> cases c <;> simp [Tr.get, i1, i2]
/-- The trie behind a path. -/
def Tr.sub : Tr → List Bool → Tr
  | t, [] => t
  | .nil, _ :: _ => .nil
  | .node _ l r, b :: p => if b then r.sub p else l.sub p
theorem Tr.sub_nil (p : List Bool) : Tr.nil.sub p = .nil := by cases p <;> rfl
theorem Tr.get_sub : ∀ (t : Tr) (p q : List Bool), (t.sub p).get q = t.get (p ++ q)
  | t, [], q => by simp [Tr.sub]
  | .nil, b :: p, q => by rw [Tr.sub_nil, Tr.get_nil, Tr.get_nil]
  | .node v l r, b :: p, q => by
    have i1 := Tr.get_sub l p q
    have i2 := Tr.get_sub r p q
    cases b <;> simp [Tr.sub, Tr.get, i1, i2]
theorem Tr.sub_zero (t : Tr) : t.sub [] = t := by cases t <;> rfl
theorem Tr.sub_snoc : ∀ (t : Tr) (p : List Bool) (b : Bool), t.sub (p ++ [b]) = (t.sub p).sub [b]
  | t, [], b => by rw [Tr.sub_zero]; rfl
  | .nil, c :: p, b => by rw [Tr.sub_nil, Tr.sub_nil]; rfl
  | .node v l r, c :: p, b => by
    have i1 := Tr.sub_snoc l p b
    have i2 := Tr.sub_snoc r p b
    cases c <;> simp only [List.cons_append, Tr.sub, i1, i2, Bool.false_eq_true, if_true, if_false]
/-! ### What a sorted row has of a key -/
def conT' (N : List Rt) (k : Ky) : Option Int := (N.find? fun r => decide (r.k = k)).map Rt.v
theorem con_some {N : List Rt} (hn : (keysR N).Nodup) {k : Ky} {x : Int} : conT' N k = some x ↔ (⟨k, x⟩ : Rt) ∈ N := by
  unfold conT'
  induction N with
  | nil => simp
  | cons a N ih =>
    have h1 : a.k ∉ keysR N ∧ (keysR N).Nodup := by
      unfold keysR at *
      rw [List.map_cons, List.nodup_cons] at hn
      exact hn
    rw [List.find?_cons]
    by_cases e : a.k = k
    · simp only [e, decide_true, Option.map_some, Option.some.injEq, List.mem_cons]
      constructor
      · intro h
        left
        rw [← h, ← e]
      · rintro (h | h)
        · rw [← h]
        · exact absurd (by rw [e]; exact mem_keys h) h1.1
    · simp only [e, decide_false, List.mem_cons]
      rw [ih h1.2]
      constructor
      · exact .inr
      · rintro (h | h)
        · exact absurd (by rw [← h]) e
        · exact h
theorem con_none {N : List Rt} {k : Ky} : conT' N k = none ↔ k ∉ keysR N := by
  unfold conT' keysR
  rw [Option.map_eq_none_iff, List.find?_eq_none]
  simp
theorem con_into {N : List Rt} (h : Sorted N) (r : Rt) (k : Ky) : conT' (intoS N r) k = if k = r.k then some r.v else conT' N k := by
  have hs := intoS_sorted r h
  have hp := intoS_perm r h
  by_cases e : k = r.k
  · rw [if_pos e, con_some hs.nodup]
    refine hp.mem_iff.2 ?_
    rw [e]
    exact List.mem_cons_self
  · rw [if_neg e]
    cases hc : conT' N k with
    | none =>
      rw [con_none] at hc ⊢
      intro hm
      unfold keysR at hm hc
      rw [List.mem_map] at hm
      obtain ⟨q, hq, rfl⟩ := hm
      rcases List.mem_cons.1 (hp.mem_iff.1 hq) with e2 | e2
      · exact e (by rw [e2])
      · exact hc (List.mem_map_of_mem (mem_outS.1 e2).1)
    | some x =>
      rw [con_some hs.nodup]
      rw [con_some h.nodup] at hc
      exact hp.mem_iff.2 (List.mem_cons_of_mem _ (mem_outS.2 ⟨hc, e⟩))
theorem con_out {N : List Rt} (h : Sorted N) (k0 k : Ky) : conT' (outS N k0) k = if k = k0 then none else conT' N k := by
  have hs : Sorted (outS N k0) := List.Pairwise.filter _ h
  by_cases e : k = k0
  · rw [if_pos e, con_none]
    intro hm
    unfold keysR at hm
    rw [List.mem_map] at hm
    obtain ⟨q, hq, hk⟩ := hm
    exact (mem_outS.1 hq).2 (hk.trans e)
  · rw [if_neg e]
    cases hc : conT' N k with
    | none =>
      rw [con_none] at hc ⊢
      intro hm
      unfold keysR at hm hc
      rw [List.mem_map] at hm
      obtain ⟨q, hq, rfl⟩ := hm
      exact hc (List.mem_map_of_mem (mem_outS.1 hq).1)
    | some x =>
      rw [con_some hs.nodup]
      rw [con_some h.nodup] at hc
      exact mem_outS.2 ⟨hc, e⟩
theorem dep_con (N : List Rt) (ah al m : Nat) : depV N ah al m = conT' N (cutK ah al m) := rfl
/-- A trie that has what a row has. -/
structure TrOf (t : Tr) (N : List Rt) : Prop where
  sort : Sorted N
  good : ∀ r ∈ N, r.k.good
  right : ∀ r ∈ N, rightK r.k
  has : ∀ k : Ky, k.good → rightK k → t.get (pathK k) = conT' N k
theorem TrOf.empty : TrOf .nil [] := ⟨List.Pairwise.nil, fun _ h => (by cases h), fun _ h => (by cases h), fun k _ _ => Tr.get_nil _⟩
theorem TrOf.put {t : Tr} {N : List Rt} (H : TrOf t N) (r : Rt) (g : r.k.good) (hr : rightK r.k) : TrOf (t.put (pathK r.k) r.v) (intoS N r) := by
  refine ⟨intoS_sorted r H.sort, fun q hq => ?_, fun q hq => ?_, fun k kg kr => ?_⟩
  · rcases intoS_mem H.sort hq with e | e
    · rw [e]; exact g
    · exact H.good q e
  · rcases intoS_mem H.sort hq with e | e
    · rw [e]; exact hr
    · exact H.right q e
  · rw [Tr.get_put, con_into H.sort, H.has k kg kr]
    by_cases e : k = r.k
    · rw [if_pos e, if_pos (by rw [e])]
    · rw [if_neg e, if_neg (fun h => e (pathK_inj kg g kr hr h))]
theorem TrOf.del {t : Tr} {N : List Rt} (H : TrOf t N) (k0 : Ky) (g : k0.good) (hr : rightK k0) : TrOf (t.del (pathK k0)) (outS N k0) := by
  refine ⟨List.Pairwise.filter _ H.sort, fun q hq => H.good q (mem_outS.1 hq).1, fun q hq => H.right q (mem_outS.1 hq).1, fun k kg kr => ?_⟩
  rw [Tr.get_del, con_out H.sort, H.has k kg kr]
  by_cases e : k = k0
  · rw [if_pos e, if_pos (by rw [e])]
  · rw [if_neg e, if_neg (fun h => e (pathK_inj kg g kr hr h))]
/-- What an address has, by depth: the trie's walk, and the row's. -/
theorem TrOf.depth {t : Tr} {N : List Rt} (H : TrOf t N) {ah al m : Nat} (a : W64 ah) (b : W64 al) (hm : m ≤ 128) : t.get (pathN ah al m) = depV N ah al m := by
  rw [dep_con, ← H.has _ (cutK_good a b) (cutK_right hm), pathK_cut a b hm]
end Go.Proofs.YtoihkbanmnagkaaGreat
/-
  Plain mathematics of longest matches, in ranges that meet, and of prefixes within one another. No condition but those that stand in each.
-/
set_option linter.unusedSimpArgs false
set_option linter.unusedVariables false
namespace Go.Proofs.YtoihkbanmnagkaaGreat
open M

theorem best_congr {D D' : Nat → Option Int} {low high low' high' : Int} : ∀ {f : Nat}, (∀ m, m < f → ((low < (m : Int) ∧ (m : Int) ≤ high ∧ (D m).isSome = true) ↔ (low' < (m : Int) ∧ (m : Int) ≤ high' ∧ (D' m).isSome = true))) → bestM D low high f = bestM D' low' high' f
  | 0, _ => rfl
  | f + 1, h => by
    have ih := best_congr (f := f) fun m hm => h m (by omega)
    unfold bestM
    by_cases c : low < (f : Int) ∧ (f : Int) ≤ high ∧ (D f).isSome = true
    · rw [if_pos c, if_pos ((h f (by omega)).1 c)]
    · rw [if_neg c, if_neg (fun g => c ((h f (by omega)).2 g)), ih]
/-- What is in the upper range is it. -/
theorem best_upper {D : Nat → Option Int} {low mid high : Int} {f b : Nat} (h : low ≤ mid) (e : bestM D mid high f = some b) : bestM D low high f = some b := by
  obtain ⟨h1, h2, h3⟩ := best_some.1 e
  refine best_some.2 ⟨h1, ⟨by omega, h2.2⟩, fun m hm hf g => h3 m hm hf ⟨by omega, g.2⟩⟩
/-- Nothing in the upper range: it is that of the lower one. -/
theorem best_lower {D : Nat → Option Int} {low mid high high' : Int} {f : Nat} (hh : ∀ m : Nat, m < f → ((m : Int) ≤ high' ↔ (m : Int) ≤ high ∧ (m : Int) ≤ mid)) (e : bestM D mid high f = none) : bestM D low high f = bestM D low high' f := by
  have h := best_none.1 e
  refine best_congr fun m hm => ⟨fun ⟨a, b, c⟩ => ⟨a, ?_, c⟩, fun ⟨a, b, c⟩ => ⟨a, ((hh m hm).1 b).1, c⟩⟩
  refine (hh m hm).2 ⟨b, ?_⟩
  by_cases g : mid < (m : Int)
  · exact absurd ⟨g, b, c⟩ (h m hm)
  · omega
/-- Two addresses' keys of one length: the same as far as the addresses are. -/
theorem cutK_common {ah al bh bl m m' : Nat} (a : W64 ah) (b : W64 al) (c : W64 bh) (d : W64 bl) (hm : m ≤ 128) : cutK ah al m = cutK bh bl m' ↔ m = m' ∧ m ≤ commonN ah al bh bl := by
  constructor
  · intro e
    have hn : m = m' := by
      unfold cutK at e
      injection e with _ _ e
      exact Int.ofNat.inj e
    subst hn
    refine ⟨rfl, ?_⟩
    unfold cutK at e
    injection e with e1 e2 _
    have hp := (path_cut a b c d hm).2 ⟨e1, e2⟩
    by_cases h : m ≤ commonN ah al bh bl
    · exact h
    · have hlt : commonN ah al bh bl < m := by omega
      have hne := commonN_next ah al bh bl a b c d (by omega)
      have := congrArg (fun L => L[commonN ah al bh bl]?) hp
      simp only [List.getElem?_eq_getElem (show commonN ah al bh bl < (pathN ah al m).length by rw [path_len]; exact hlt), List.getElem?_eq_getElem (show commonN ah al bh bl < (pathN bh bl m).length by rw [path_len]; exact hlt), path_at hlt] at this
      exact absurd (Option.some.inj this) hne
  · rintro ⟨rfl, h⟩
    have hp : pathN ah al m = pathN bh bl m := by
      refine List.ext_getElem (by rw [path_len, path_len]) fun i h1 h2 => ?_
      rw [path_len] at h1
      rw [path_at h1, path_at h1]
      exact commonN_same ah al bh bl a b c d i (by omega)
    have := (path_cut a b c d hm).1 hp
    unfold cutK
    rw [this.1, this.2]
end Go.Proofs.YtoihkbanmnagkaaGreat
