/-
  Plain mathematics of tables of buckets: what a place more, or less, makes of all that a table has. No condition but those that stand in each.
-/
import Derived.Test.YtlglppfkpieabaaM12
set_option linter.unusedSimpArgs false
set_option linter.unusedVariables false
namespace Go.Proofs.Ytlglppfkpieabaa
open M

def keysR (L : List Rt) : List Ky := L.map Rt.k
theorem keysR_perm {L M : List Rt} (h : L.Perm M) : (keysR L).Perm (keysR M) := h.map _
theorem allC_cons (x : Pl) (C : List Pl) : allC (x :: C) = x.toList ++ allC C := by
  cases x <;> rfl
theorem set_perm : ∀ (C : List Pl) (i : Nat) (hi : i < C.length) (x : Pl), (C[i].toList ++ allC (C.set i x)).Perm (x.toList ++ allC C)
  | y :: C, 0, _, x => by
    show (y.toList ++ allC (x :: C)).Perm (x.toList ++ allC (y :: C))
    rw [allC_cons, allC_cons]
    exact List.perm_append_comm_assoc _ _ _
  | y :: C, i + 1, hi, x => by
    have ih := set_perm C i (by simpa using hi) x
    show ((C[i]'(by simpa using hi)).toList ++ allC (y :: C.set i x)).Perm (x.toList ++ allC (y :: C))
    rw [allC_cons, allC_cons, List.perm_iff_count]
    intro a
    have := ih.count_eq a
    simp only [List.count_append] at *
    omega
theorem setB_perm : ∀ (B : List (List Pl)) (i : Nat) (hi : i < B.length) (C : List Pl), (allC B[i] ++ (B.set i C).flatMap allC).Perm (allC C ++ B.flatMap allC)
  | D :: B, 0, _, C => by
    show (allC D ++ (C :: B).flatMap allC).Perm (allC C ++ (D :: B).flatMap allC)
    rw [List.flatMap_cons, List.flatMap_cons]
    exact List.perm_append_comm_assoc _ _ _
  | D :: B, i + 1, hi, C => by
    have ih := setB_perm B i (by simpa using hi) C
    show (allC (B[i]'(by simpa using hi)) ++ (D :: B.set i C).flatMap allC).Perm (allC C ++ (D :: B).flatMap allC)
    rw [List.flatMap_cons, List.flatMap_cons, List.perm_iff_count]
    intro a
    have := ih.count_eq a
    simp only [List.count_append] at *
    omega
theorem bk_at (T : Tab) (i : Nat) (hi : i < T.B.length) : T.bk i = T.B[i] := by
  unfold Tab.bk
  rw [List.getD_eq_getElem?_getD, List.getElem?_eq_getElem hi]
  rfl
theorem cont_set (T : Tab) (i : Nat) (hi : i < T.B.length) (j : Nat) (hj : j < (T.bk i).length) (x : Pl) : ((T.bk i)[j].toList ++ contT (T.set i ((T.bk i).set j x))).Perm (x.toList ++ contT T) := by
  have h1 := setB_perm T.B i hi ((T.bk i).set j x)
  have h2 := set_perm (T.bk i) j hj x
  rw [← bk_at T i hi] at h1
  rw [List.perm_iff_count]
  intro a
  have e1 := h1.count_eq a
  have e2 := h2.count_eq a
  unfold contT Tab.set
  simp only [List.count_append] at *
  omega
theorem split_key : ∀ {L : List Rt} {r : Rt}, (keysR L).Nodup → r ∈ L → L.Perm (r :: outS L r.k)
  | a :: L, r, hn, hm => by
    unfold keysR at hn
    rw [List.map_cons, List.nodup_cons] at hn
    have hin : ∀ q ∈ L, q.k ≠ a.k := fun q hq e => hn.1 (e ▸ List.mem_map_of_mem hq)
    rw [List.mem_cons] at hm
    rcases hm with rfl | hm
    · have : outS (r :: L) r.k = L := by
        unfold outS
        rw [List.filter_cons_of_neg (by simp), List.filter_eq_self.2 (fun q hq => by simpa using hin q hq)]
      rw [this]
    · have ne : a.k ≠ r.k := fun e => hin r hm e.symm
      have : outS (a :: L) r.k = a :: outS L r.k := by
        unfold outS
        rw [List.filter_cons_of_pos (by simpa using ne)]
      rw [this]
      exact ((split_key hn.2 hm).cons a).trans (List.Perm.swap _ _ _)
theorem outS_perm {L M : List Rt} (h : L.Perm M) (k : Ky) : (outS L k).Perm (outS M k) := h.filter _
theorem outS_self {L : List Rt} {k : Ky} (h : k ∉ keysR L) : outS L k = L := by
  unfold outS
  refine List.filter_eq_self.2 fun q hq => ?_
  simp only [decide_eq_true_eq]
  intro e
  exact h (List.mem_map.2 ⟨q, hq, e⟩)
theorem mem_outS {L : List Rt} {k : Ky} {q : Rt} : q ∈ outS L k ↔ q ∈ L ∧ q.k ≠ k := by simp [outS]
theorem mem_keys {L : List Rt} {q : Rt} (h : q ∈ L) : q.k ∈ keysR L := List.mem_map_of_mem h
/-! ### The order of keys -/
theorem lessK_irr (a : Ky) : lessK a a = false := lessB_self _ _ _
theorem lessK_trans {a b c : Ky} (h : lessK a b = true) (g : lessK b c = true) : lessK a c = true := lessB_trans _ _ _ _ _ _ _ _ _ h g
theorem lessK_total {a b : Ky} (h : a ≠ b) : lessK b a = !lessK a b := lessB_total _ _ _ _ _ _ (fun ⟨e1, e2, e3⟩ => h (by cases a; cases b; simp_all))
def Sorted (L : List Rt) : Prop := L.Pairwise fun a b => lessK a.k b.k = true
theorem Sorted.nodup {L : List Rt} (h : Sorted L) : (keysR L).Nodup := by
  unfold keysR List.Nodup
  rw [List.pairwise_map]
  refine List.Pairwise.imp (fun {a b} hab e => ?_) h
  rw [e, lessK_irr] at hab
  cases hab
theorem intoS_perm : ∀ {L : List Rt} (r : Rt), Sorted L → (intoS L r).Perm (r :: outS L r.k)
  | [], r, _ => by simp [intoS, outS]
  | a :: L, r, h => by
    have h1 := List.pairwise_cons.1 h
    unfold intoS
    split
    · rename_i hl
      have ne : a.k ≠ r.k := fun e => by rw [e, lessK_irr] at hl; cases hl
      have : outS (a :: L) r.k = a :: outS L r.k := by
        unfold outS
        rw [List.filter_cons_of_pos (by simpa using ne)]
      rw [this]
      exact ((intoS_perm r h1.2).cons a).trans (List.Perm.swap _ _ _)
    · rename_i hl
      split
      · rename_i he
        have : outS (a :: L) r.k = L := by
          unfold outS
          rw [List.filter_cons_of_neg (by simp [he])]
          refine List.filter_eq_self.2 fun q hq => ?_
          simp only [decide_eq_true_eq]
          intro e
          have := h1.1 q hq
          rw [e, he, lessK_irr] at this
          cases this
        rw [this]
      · rename_i he
        rw [outS_self]
        intro hm
        unfold keysR at hm
        rw [List.mem_map] at hm
        obtain ⟨q, hq, e⟩ := hm
        rw [List.mem_cons] at hq
        rcases hq with rfl | hq
        · exact he e
        · have := h1.1 q hq
          rw [e] at this
          exact hl this
theorem intoS_mem {L : List Rt} {r q : Rt} (h : Sorted L) (hq : q ∈ intoS L r) : q = r ∨ q ∈ L := by
  have := (intoS_perm r h).mem_iff.1 hq
  rw [List.mem_cons] at this
  exact this.imp id (fun h => (mem_outS.1 h).1)
theorem intoS_sorted : ∀ {L : List Rt} (r : Rt), Sorted L → Sorted (intoS L r)
  | [], r, _ => by simp [intoS, Sorted]
  | a :: L, r, h => by
    have h1 := List.pairwise_cons.1 h
    unfold intoS
    split
    · rename_i hl
      refine List.pairwise_cons.2 ⟨fun q hq => ?_, intoS_sorted r h1.2⟩
      rcases intoS_mem h1.2 hq with rfl | hq
      · exact hl
      · exact h1.1 q hq
    · rename_i hl
      split
      · rename_i he
        exact List.pairwise_cons.2 ⟨fun q hq => by rw [← he]; exact h1.1 q hq, h1.2⟩
      · rename_i he
        have hr : lessK r.k a.k = true := by
          rw [lessK_total he]
          simpa using hl
        refine List.pairwise_cons.2 ⟨fun q hq => ?_, h⟩
        rw [List.mem_cons] at hq
        rcases hq with rfl | hq
        · exact hr
        · exact lessK_trans hr (h1.1 q hq)
theorem outS_sorted {L : List Rt} (k : Ky) (h : Sorted L) : Sorted (outS L k) := List.Pairwise.filter _ h
/-- Two rows in order that have the same are one. -/
theorem sorted_eq : ∀ {L M : List Rt}, Sorted L → Sorted M → L.Perm M → L = M
  | [], M, _, _, h => by rw [List.nil_perm.1 h]
  | a :: L, [], _, _, h => absurd h.length_eq (by simp)
  | a :: L, b :: M, hL, hM, h => by
    have hl := List.pairwise_cons.1 hL
    have hm := List.pairwise_cons.1 hM
    have e : a = b := by
      have h1 : a ∈ b :: M := h.mem_iff.1 (by simp)
      have h2 : b ∈ a :: L := h.mem_iff.2 (by simp)
      rw [List.mem_cons] at h1 h2
      rcases h1 with rfl | h1
      · rfl
      · rcases h2 with e | h2
        · exact e.symm
        · have := lessK_trans (hl.1 b h2) (hm.1 a h1)
          rw [lessK_irr] at this
          cases this
    subst e
    rw [sorted_eq hl.2 hm.2 ((List.perm_cons a).1 h)]
theorem sortR_fold : ∀ (l M : List Rt), Sorted M → (keysR (l ++ M)).Nodup → Sorted (l.foldl intoS M) ∧ (l.foldl intoS M).Perm (l ++ M)
  | [], M, h, _ => ⟨h, List.Perm.refl _⟩
  | a :: l, M, h, hn => by
    have hp := intoS_perm a h
    have hk : a.k ∉ keysR (l ++ M) := by
      unfold keysR at *
      rw [List.cons_append, List.map_cons, List.nodup_cons] at hn
      exact hn.1
    have hkM : a.k ∉ keysR M := fun hm => hk (by unfold keysR at *; rw [List.map_append]; exact List.mem_append_right _ hm)
    rw [outS_self hkM] at hp
    have hpp : (l ++ intoS M a).Perm (a :: l ++ M) := (hp.append_left l).trans List.perm_middle
    have ih := sortR_fold l (intoS M a) (intoS_sorted a h) ((keysR_perm hpp).nodup_iff.2 hn)
    exact ⟨ih.1, ih.2.trans hpp⟩
theorem sortR_ok (l : List Rt) (h : (keysR l).Nodup) : Sorted (sortR l) ∧ (sortR l).Perm l := by
  have := sortR_fold l [] List.Pairwise.nil (by rwa [List.append_nil])
  rwa [List.append_nil] at this
end Go.Proofs.Ytlglppfkpieabaa
