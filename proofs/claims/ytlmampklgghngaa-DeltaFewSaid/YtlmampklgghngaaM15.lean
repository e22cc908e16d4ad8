/-
  Of several routes of one prefix the last one counts: rows put one after the other, and sorted rows of which only the last of each prefix is kept. No condition but those that stand in each.
-/
import Derived.Test.YtlmampklgghngaaLtR
import Derived.Test.YtlmampklgghngaaStb
set_option linter.unusedSimpArgs false
set_option linter.unusedVariables false
namespace Go.Proofs.Ytlmampklgghngaa
open Go.Sort M
set_option linter.unusedSimpArgs false

instance : Inhabited Ky := ⟨⟨0, 0, 0⟩⟩
def lastsR : List Rt → List Rt
  | [] => []
  | [r] => [r]
  | r :: q :: l => if q.k = r.k then lastsR (q :: l) else r :: lastsR (q :: l)
/-- The last one of a prefix. -/
def lst (l : List Rt) (k : Ky) : Option Rt := (l.filter fun r => decide (r.k = k)).getLast?
theorem lst_snoc (l : List Rt) (r : Rt) (k : Ky) : lst (l ++ [r]) k = if r.k = k then some r else lst l k := by
  unfold lst
  rw [List.filter_append]
  by_cases h : r.k = k
  · simp [h]
  · simp [h]
theorem mem_into {L : List Rt} {r q : Rt} (h : Sorted L) : q ∈ intoS L r ↔ q = r ∨ (q ∈ L ∧ q.k ≠ r.k) := by
  rw [(intoS_perm r h).mem_iff, List.mem_cons, mem_outS]
theorem sortR_snoc (l : List Rt) (r : Rt) : sortR (l ++ [r]) = intoS (sortR l) r := by
  unfold sortR
  rw [List.foldl_append]
  rfl
theorem sortR_mem (l : List Rt) : Sorted (sortR l) ∧ ∀ q, q ∈ sortR l ↔ lst l q.k = some q := by
  suffices H : ∀ (n : Nat) (l : List Rt), l.length = n → Sorted (sortR l) ∧ ∀ q, q ∈ sortR l ↔ lst l q.k = some q from H l.length l rfl
  intro n
  induction n with
  | zero =>
    intro l hl
    obtain rfl := List.eq_nil_of_length_eq_zero hl
    exact ⟨List.Pairwise.nil, fun q => by simp [sortR, lst]⟩
  | succ n ih =>
    intro l hl
    obtain ⟨l, r, rfl⟩ : ∃ l' r, l = l' ++ [r] := ⟨l.dropLast, l.getLast (by intro e; simp [e] at hl), (List.dropLast_concat_getLast _).symm⟩
    obtain ⟨h1, h2⟩ := ih l (by simpa using hl)
    rw [sortR_snoc]
    refine ⟨intoS_sorted r h1, fun q => ?_⟩
    rw [mem_into h1, lst_snoc]
    by_cases h : r.k = q.k
    · rw [if_pos h]
      constructor
      · rintro (rfl | ⟨-, h3⟩)
        · rfl
        · exact absurd h.symm h3
      · intro e
        exact .inl (Option.some.inj e).symm
    · rw [if_neg h, ← h2 q]
      constructor
      · rintro (rfl | ⟨h3, -⟩)
        · exact absurd rfl h
        · exact h3
      · intro h3
        exact .inr ⟨h3, fun e => h e.symm⟩
theorem lst_cons (r : Rt) (l : List Rt) (k : Ky) (h : r.k ≠ k) : lst (r :: l) k = lst l k := by
  unfold lst
  rw [List.filter_cons_of_neg (by simpa using h)]
theorem lst_skip (r q : Rt) (l : List Rt) (k : Ky) (h : q.k = r.k) : lst (r :: q :: l) k = lst (q :: l) k := by
  by_cases e : r.k = k
  · unfold lst
    rw [List.filter_cons_of_pos (by simpa using e), List.filter_cons_of_pos (l := l) (a := q) (by simpa using h.trans e)]
    rw [List.getLast?_cons_cons]
  · exact lst_cons r _ k e
theorem lst_none {l : List Rt} {k : Ky} (h : ∀ z ∈ l, z.k ≠ k) : lst l k = none := by
  unfold lst
  rw [List.filter_eq_nil_iff.2 (fun z hz => by simpa using h z hz)]
  rfl
theorem asc_less {r q : Rt} {l : List Rt} (h : Asc ltR (r :: q :: l)) (hk : q.k ≠ r.k) : ∀ z ∈ q :: l, lessK r.k z.k = true := by
  obtain ⟨h1, h2⟩ := List.pairwise_cons.1 h
  have hq : lessK r.k q.k = true := by
    have := lessK_total (a := q.k) (b := r.k) hk
    rw [this]
    have := h1 q (by simp)
    unfold ltR at this
    rw [this]
    rfl
  intro z hz
  rcases List.mem_cons.1 hz with rfl | hz
  · exact hq
  · have h3 := (List.pairwise_cons.1 h2).1 z hz
    cases e : lessK r.k z.k with
    | true => rfl
    | false =>
      have := ltR_swo.ntrans r z q e h3
      unfold ltR at this
      rw [hq] at this
      cases this
theorem lastsR_ok : ∀ {M : List Rt}, Asc ltR M → Sorted (lastsR M) ∧ (∀ q ∈ lastsR M, q ∈ M) ∧ ∀ q, q ∈ lastsR M ↔ lst M q.k = some q
  | [], _ => ⟨List.Pairwise.nil, by simp [lastsR], fun q => by simp [lastsR, lst]⟩
  | [r], _ => by
    refine ⟨by simp [lastsR, Sorted], by simp [lastsR], fun q => ?_⟩
    unfold lastsR
    by_cases h : r.k = q.k
    · have : lst [r] q.k = some r := by simp [lst, h]
      rw [this]
      simp
      exact eq_comm
    · rw [lst_cons r [] q.k h]
      simp [lst]
      rintro rfl
      exact h rfl
  | r :: q :: l, h => by
    obtain ⟨h1, h2⟩ := List.pairwise_cons.1 h
    obtain ⟨i1, i2, i3⟩ := lastsR_ok h2
    unfold lastsR
    by_cases hk : q.k = r.k
    · rw [if_pos hk]
      exact ⟨i1, fun z hz => List.mem_cons_of_mem _ (i2 z hz), fun z => by rw [lst_skip r q l _ hk]; exact i3 z⟩
    · rw [if_neg hk]
      have hl := asc_less h hk
      refine ⟨List.pairwise_cons.2 ⟨fun z hz => hl z (i2 z hz), i1⟩, fun z hz => ?_, fun z => ?_⟩
      · rcases List.mem_cons.1 hz with rfl | hz
        · simp
        · exact List.mem_cons_of_mem _ (i2 z hz)
      · have none : lst (q :: l) r.k = none := lst_none fun z hz e => by
          have := hl z hz
          rw [e, lessK_irr] at this
          cases this
        rw [List.mem_cons, i3 z]
        by_cases e : r.k = z.k
        · rw [← e, none]
          have : lst (r :: q :: l) r.k = some r := by
            unfold lst at none ⊢
            rw [List.filter_cons_of_pos (by simp), List.getLast?_eq_none_iff.1 none]
            rfl
          rw [this]
          constructor
          · rintro (rfl | e)
            · rfl
            · cases e
          · intro e
            exact .inl (Option.some.inj e).symm
        · rw [lst_cons r _ _ e]
          constructor
          · rintro (rfl | h)
            · exact absurd rfl e
            · exact h
          · exact .inr
theorem eqv_key (x y : Rt) : eqv ltR x y = decide (y.k = x.k) := by
  unfold eqv ltR
  by_cases h : y.k = x.k
  · rw [h, lessK_irr]
    simp
  · rw [lessK_total h]
    simp [h]
theorem lst_stb {l M : List Rt} (h : Stb ltR l M) (q : Rt) : lst M q.k = lst l q.k := by
  have := h.2 q
  have e : (eqv ltR q) = fun r => decide (r.k = q.k) := funext fun r => eqv_key q r
  rw [e] at this
  unfold lst
  rw [this]
theorem nodup_sorted {L : List Rt} (h : Sorted L) : L.Nodup := List.Pairwise.imp (fun {a b} hab e => by rw [e, lessK_irr] at hab; cases hab) h
theorem lasts_eq {l M : List Rt} (h : Asc ltR M) (hs : Stb ltR l M) : lastsR M = sortR l := by
  obtain ⟨a1, -, a3⟩ := lastsR_ok h
  obtain ⟨b1, b2⟩ := sortR_mem l
  refine sorted_eq a1 b1 ((List.perm_ext_iff_of_nodup (nodup_sorted a1) (nodup_sorted b1)).2 fun q => ?_)
  rw [a3 q, b2 q, lst_stb hs q]
/-- One step of the row that keeps the last of each prefix. -/
theorem lasts_step (M : List Rt) (i : Nat) (hi : i < M.length) : lastsR (M.drop i) = (if h : i + 1 < M.length then (if M[i + 1].k = M[i].k then [] else [M[i]]) else [M[i]]) ++ lastsR (M.drop (i + 1)) := by
  rw [List.drop_eq_getElem_cons hi]
  by_cases h : i + 1 < M.length
  · rw [dif_pos h, List.drop_eq_getElem_cons h]
    have hs : ∀ (r q : Rt) (l : List Rt), lastsR (r :: q :: l) = if q.k = r.k then lastsR (q :: l) else r :: lastsR (q :: l) := fun _ _ _ => rfl
    rw [hs]
    by_cases e : M[i + 1].k = M[i].k
    · rw [if_pos e, if_pos e, List.nil_append]
    · rw [if_neg e, if_neg e]
      rfl
  · rw [dif_neg h, List.drop_eq_nil_of_le (by omega)]
    rfl
theorem lasts_len : ∀ M : List Rt, (lastsR M).length ≤ M.length
  | [] => by simp [lastsR]
  | [r] => by simp [lastsR]
  | r :: q :: l => by
    have := lasts_len (q :: l)
    unfold lastsR
    split <;> simp at * <;> omega
end Go.Proofs.Ytlmampklgghngaa
