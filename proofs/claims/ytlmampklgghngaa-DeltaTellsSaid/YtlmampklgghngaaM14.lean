/-
  Plain mathematics of longest matches: the longest of a row of routes that has an address, within a range of lengths; the keys of an address, by length. No condition but those that stand in each.
-/
import Derived.Test.YtlmampklgghngaaM12
/-
  Plain mathematics of tables of buckets: what a place more, or less, makes of all that a table has. No condition but those that stand in each.
-/
set_option linter.unusedSimpArgs false
set_option linter.unusedVariables false
namespace Go.Proofs.Ytlmampklgghngaa
open M

def keysR (L : List Rt) : List Ky := L.map Rt.k
theorem keysR_perm {L M : List Rt} (h : L.Perm M) : (keysR L).Perm (keysR M) := h.map _
theorem allC_cons (x : Pl) (C : List Pl) : allC (x :: C) = x.toList ++ allC C := by
  cases x <;> rfl
theorem set_perm : ∀ (C : List Pl) (i : Nat) (hi : i < C.length) (x : Pl), (C[i].toList ++ allC (C.set i x)).Perm (x.toList ++ allC C)
  | y :: C, 0, _, x => by
    show (y.toList ++ allC (x :: C)).Perm (x.toList ++ allC (y :: C))
    rw [allC_cons, allC_cons]
    exact List.perm_append_comm_assoc _ _ _
  | y :: C, i + 1, hi, x => by
    have ih := set_perm C i (by simpa using hi) x
    show ((C[i]'(by simpa using hi)).toList ++ allC (y :: C.set i x)).Perm (x.toList ++ allC (y :: C))
    rw [allC_cons, allC_cons, List.perm_iff_count]
    intro a
    have := ih.count_eq a
    simp only [List.count_append] at *
    omega
theorem setB_perm : ∀ (B : List (List Pl)) (i : Nat) (hi : i < B.length) (C : List Pl), (allC B[i] ++ (B.set i C).flatMap allC).Perm (allC C ++ B.flatMap allC)
  | D :: B, 0, _, C => by
    show (allC D ++ (C :: B).flatMap allC).Perm (allC C ++ (D :: B).flatMap allC)
    rw [List.flatMap_cons, List.flatMap_cons]
    exact List.perm_append_comm_assoc _ _ _
  | D :: B, i + 1, hi, C => by
    have ih := setB_perm B i (by simpa using hi) C
    show (allC (B[i]'(by simpa using hi)) ++ (D :: B.set i C).flatMap allC).Perm (allC C ++ (D :: B).flatMap allC)
    rw [List.flatMap_cons, List.flatMap_cons, List.perm_iff_count]
    intro a
    have := ih.count_eq a
    simp only [List.count_append] at *
    omega
theorem bk_at (T : Tab) (i : Nat) (hi : i < T.B.length) : T.bk i = T.B[i] := by
  unfold Tab.bk
  rw [List.getD_eq_getElem?_getD, List.getElem?_eq_getElem hi]
  rfl
theorem cont_set (T : Tab) (i : Nat) (hi : i < T.B.length) (j : Nat) (hj : j < (T.bk i).length) (x : Pl) : ((T.bk i)[j].toList ++ contT (T.set i ((T.bk i).set j x))).Perm (x.toList ++ contT T) := by
  have h1 := setB_perm T.B i hi ((T.bk i).set j x)
  have h2 := set_perm (T.bk i) j hj x
  rw [← bk_at T i hi] at h1
  rw [List.perm_iff_count]
  intro a
  have e1 := h1.count_eq a
  have e2 := h2.count_eq a
  unfold contT Tab.set
  simp only [List.count_append] at *
  omega
theorem split_key : ∀ {L : List Rt} {r : Rt}, (keysR L).Nodup → r ∈ L → L.Perm (r :: outS L r.k)
  | a :: L, r, hn, hm => by
    unfold keysR at hn
    rw [List.map_cons, List.nodup_cons] at hn
    have hin : ∀ q ∈ L, q.k ≠ a.k := fun q hq e => hn.1 (e ▸ List.mem_map_of_mem hq)
    rw [List.mem_cons] at hm
    rcases hm with rfl | hm
    · have : outS (r :: L) r.k = L := by
        unfold outS
        rw [List.filter_cons_of_neg (by simp), List.filter_eq_self.2 (fun q hq => by simpa using hin q hq)]
      rw [this]
    · have ne : a.k ≠ r.k := fun e => hin r hm e.symm
      have : outS (a :: L) r.k = a :: outS L r.k := by
        unfold outS
        rw [List.filter_cons_of_pos (by simpa using ne)]
      rw [this]
      exact ((split_key hn.2 hm).cons a).trans (List.Perm.swap _ _ _)
theorem outS_perm {L M : List Rt} (h : L.Perm M) (k : Ky) : (outS L k).Perm (outS M k) := h.filter _
theorem outS_self {L : List Rt} {k : Ky} (h : k ∉ keysR L) : outS L k = L := by
  unfold outS
  refine List.filter_eq_self.2 fun q hq => ?_
  simp only [decide_eq_true_eq]
  intro e
  exact h (List.mem_map.2 ⟨q, hq, e⟩)
theorem mem_outS {L : List Rt} {k : Ky} {q : Rt} : q ∈ outS L k ↔ q ∈ L ∧ q.k ≠ k := by simp [outS]
theorem mem_keys {L : List Rt} {q : Rt} (h : q ∈ L) : q.k ∈ keysR L := List.mem_map_of_mem h
/-! ### The order of keys -/
theorem lessK_irr (a : Ky) : lessK a a = false := lessB_self _ _ _
theorem lessK_trans {a b c : Ky} (h : lessK a b = true) (g : lessK b c = true) : lessK a c = true := lessB_trans _ _ _ _ _ _ _ _ _ h g
theorem lessK_total {a b : Ky} (h : a ≠ b) : lessK b a = !lessK a b := lessB_total _ _ _ _ _ _ (fun ⟨e1, e2, e3⟩ => h (by cases a; cases b; simp_all))
def Sorted (L : List Rt) : Prop := L.Pairwise fun a b => lessK a.k b.k = true
theorem Sorted.nodup {L : List Rt} (h : Sorted L) : (keysR L).Nodup := by
  unfold keysR List.Nodup
  rw [List.pairwise_map]
  refine List.Pairwise.imp (fun {a b} hab e => ?_) h
  rw [e, lessK_irr] at hab
  cases hab
theorem intoS_perm : ∀ {L : List Rt} (r : Rt), Sorted L → (intoS L r).Perm (r :: outS L r.k)
  | [], r, _ => by simp [intoS, outS]
  | a :: L, r, h => by
    have h1 := List.pairwise_cons.1 h
    unfold intoS
    split
    · rename_i hl
      have ne : a.k ≠ r.k := fun e => by rw [e, lessK_irr] at hl; cases hl
      have : outS (a :: L) r.k = a :: outS L r.k := by
        unfold outS
        rw [List.filter_cons_of_pos (by simpa using ne)]
      rw [this]
      exact ((intoS_perm r h1.2).cons a).trans (List.Perm.swap _ _ _)
    · rename_i hl
      split
      · rename_i he
        have : outS (a :: L) r.k = L := by
          unfold outS
          rw [List.filter_cons_of_neg (by simp [he])]
          refine List.filter_eq_self.2 fun q hq => ?_
          simp only [decide_eq_true_eq]
          intro e
          have := h1.1 q hq
          rw [e, he, lessK_irr] at this
          cases this
        rw [this]
      · rename_i he
        rw [outS_self]
        intro hm
        unfold keysR at hm
        rw [List.mem_map] at hm
        obtain ⟨q, hq, e⟩ := hm
        rw [List.mem_cons] at hq
        rcases hq with rfl | hq
        · exact he e
        · have := h1.1 q hq
          rw [e] at this
          exact hl this
theorem intoS_mem {L : List Rt} {r q : Rt} (h : Sorted L) (hq : q ∈ intoS L r) : q = r ∨ q ∈ L := by
  have := (intoS_perm r h).mem_iff.1 hq
  rw [List.mem_cons] at this
  exact this.imp id (fun h => (mem_outS.1 h).1)
theorem intoS_sorted : ∀ {L : List Rt} (r : Rt), Sorted L → Sorted (intoS L r)
  | [], r, _ => by simp [intoS, Sorted]
  | a :: L, r, h => by
    have h1 := List.pairwise_cons.1 h
    unfold intoS
    split
    · rename_i hl
      refine List.pairwise_cons.2 ⟨fun q hq => ?_, intoS_sorted r h1.2⟩
      rcases intoS_mem h1.2 hq with rfl | hq
      · exact hl
      · exact h1.1 q hq
    · rename_i hl
      split
      · rename_i he
        exact List.pairwise_cons.2 ⟨fun q hq => by rw [← he]; exact h1.1 q hq, h1.2⟩
      · rename_i he
        have hr : lessK r.k a.k = true := by
          rw [lessK_total he]
          simpa using hl
        refine List.pairwise_cons.2 ⟨fun q hq => ?_, h⟩
        rw [List.mem_cons] at hq
        rcases hq with rfl | hq
        · exact hr
        · exact lessK_trans hr (h1.1 q hq)
theorem outS_sorted {L : List Rt} (k : Ky) (h : Sorted L) : Sorted (outS L k) := List.Pairwise.filter _ h
/-- Two rows in order that have the same are one. -/
theorem sorted_eq : ∀ {L M : List Rt}, Sorted L → Sorted M → L.Perm M → L = M
  | [], M, _, _, h => by rw [List.nil_perm.1 h]
  | a :: L, [], _, _, h => absurd h.length_eq (by simp)
  | a :: L, b :: M, hL, hM, h => by
    have hl := List.pairwise_cons.1 hL
    have hm := List.pairwise_cons.1 hM
    have e : a = b := by
      have h1 : a ∈ b :: M := h.mem_iff.1 (by simp)
      have h2 : b ∈ a :: L := h.mem_iff.2 (by simp)
      rw [List.mem_cons] at h1 h2
      rcases h1 with rfl | h1
      · rfl
      · rcases h2 with e | h2
        · exact e.symm
        · have := lessK_trans (hl.1 b h2) (hm.1 a h1)
          rw [lessK_irr] at this
          cases this
    subst e
    rw [sorted_eq hl.2 hm.2 ((List.perm_cons a).1 h)]
theorem sortR_fold : ∀ (l M : List Rt), Sorted M → (keysR (l ++ M)).Nodup → Sorted (l.foldl intoS M) ∧ (l.foldl intoS M).Perm (l ++ M)
  | [], M, h, _ => ⟨h, List.Perm.refl _⟩
  | a :: l, M, h, hn => by
    have hp := intoS_perm a h
    have hk : a.k ∉ keysR (l ++ M) := by
      unfold keysR at *
      rw [List.cons_append, List.map_cons, List.nodup_cons] at hn
      exact hn.1
    have hkM : a.k ∉ keysR M := fun hm => hk (by unfold keysR at *; rw [List.map_append]; exact List.mem_append_right _ hm)
    rw [outS_self hkM] at hp
    have hpp : (l ++ intoS M a).Perm (a :: l ++ M) := (hp.append_left l).trans List.perm_middle
    have ih := sortR_fold l (intoS M a) (intoS_sorted a h) ((keysR_perm hpp).nodup_iff.2 hn)
    exact ⟨ih.1, ih.2.trans hpp⟩
theorem sortR_ok (l : List Rt) (h : (keysR l).Nodup) : Sorted (sortR l) ∧ (sortR l).Perm l := by
  have := sortR_fold l [] List.Pairwise.nil (by rwa [List.append_nil])
  rwa [List.append_nil] at this
end Go.Proofs.Ytlmampklgghngaa
/-
  Plain mathematics of longest matches: the longest of a row of routes that has an address, within a range of lengths; the keys of an address, by length. No condition but those that stand in each.
-/
set_option linter.unusedSimpArgs false
set_option linter.unusedVariables false
namespace Go.Proofs.Ytlmampklgghngaa
open M

/-- The key of an address with so many bits. -/
def cutK (ah al m : Nat) : Ky := ⟨cutW ah m, cutW al (m - 64), (m : Int)⟩
theorem cutW_cut (w n : Nat) : cutW (cutW w n) n = cutW w n := by
  unfold cutW
  rw [Nat.mul_div_cancel _ (Nat.two_pow_pos _)]
theorem has_cutK (k : Ky) (ah al : Nat) : hasB k.h k.l k.n ah al = true ↔ ∃ m : Nat, m ≤ 128 ∧ k = cutK ah al m := by
  unfold hasB rightB
  simp only [Bool.and_eq_true, decide_eq_true_eq]
  constructor
  · rintro ⟨⟨h1, h2, -, -⟩, h3, h4⟩
    refine ⟨k.n.toNat, by omega, ?_⟩
    obtain ⟨h, l, n⟩ := k
    simp only at h1 h2 h3 h4
    unfold cutK
    simp only
    rw [h3, h4, Int.toNat_of_nonneg h1]
  · rintro ⟨m, hm, rfl⟩
    unfold cutK
    simp only [Int.toNat_natCast]
    exact ⟨⟨by omega, by omega, cutW_cut _ _, cutW_cut _ _⟩, trivial, trivial⟩
theorem cutK_n {ah al m m' : Nat} (h : cutK ah al m = cutK ah al m') : m = m' := by
  unfold cutK at h
  injection h with _ _ h
  exact Int.ofNat.inj h
/-- The longest of the first so many that c allows: where it stands; of two as long the first. -/
def lngI (L : List Rt) (c : Rt → Bool) : Nat → Option Nat
  | 0 => none
  | j + 1 =>
    match lngI L c j with
    | none => if c (L.getD j ⟨⟨0, 0, 0⟩, 0⟩) = true then some j else none
    | some b => if c (L.getD j ⟨⟨0, 0, 0⟩, 0⟩) = true ∧ (L.getD b ⟨⟨0, 0, 0⟩, 0⟩).k.n < (L.getD j ⟨⟨0, 0, 0⟩, 0⟩).k.n then some j else some b
theorem getD_at {L : List Rt} {i : Nat} (h : i < L.length) : L.getD i ⟨⟨0, 0, 0⟩, 0⟩ = L[i] := by
  rw [List.getD_eq_getElem?_getD, List.getElem?_eq_getElem h]
  rfl
/-- What that is. -/
def LngOk (L : List Rt) (c : Rt → Bool) (j : Nat) : Option Nat → Prop
  | none => ∀ i (h : i < L.length), i < j → c L[i] = false
  | some b => ∃ hb : b < L.length, b < j ∧ c L[b] = true ∧ ∀ i (h : i < L.length), i < j → c L[i] = true → L[i].k.n ≤ L[b].k.n
theorem lng_ok (L : List Rt) (c : Rt → Bool) : ∀ j, j ≤ L.length → LngOk L c j (lngI L c j)
  | 0, _ => fun i _ h => absurd h (by omega)
  | j + 1, hj => by
    have ih := lng_ok L c j (by omega)
    have hjl : j < L.length := by omega
    unfold lngI
    rw [getD_at hjl]
    cases e : lngI L c j with
    | none =>
      rw [e] at ih
      have ih : ∀ i (h : i < L.length), i < j → c L[i] = false := ih
      by_cases hc : c L[j] = true
      · simp only [hc, if_true]
        refine ⟨hjl, by omega, hc, fun i hi hlt hci => ?_⟩
        by_cases hij : i = j
        · subst hij; exact Int.le_refl _
        · rw [ih i hi (by omega)] at hci; cases hci
      · simp only [hc]
        intro i hi hlt
        by_cases hij : i = j
        · subst hij; simpa using hc
        · exact ih i hi (by omega)
    | some b =>
      rw [e] at ih
      obtain ⟨hb, hbj, hcb, hmax⟩ := ih
      simp only [getD_at hb]
      by_cases hc : c L[j] = true ∧ L[b].k.n < L[j].k.n
      · rw [if_pos hc]
        refine ⟨hjl, by omega, hc.1, fun i hi hlt hci => ?_⟩
        by_cases hij : i = j
        · subst hij; exact Int.le_refl _
        · have := hmax i hi (by omega) hci; omega
      · rw [if_neg hc]
        refine ⟨hb, by omega, hcb, fun i hi hlt hci => ?_⟩
        by_cases hij : i = j
        · subst hij
          by_cases h2 : L[b].k.n < L[i].k.n
          · exact absurd ⟨hci, h2⟩ hc
          · omega
        · exact hmax i hi (by omega) hci
/-- Which routes Longest looks at. -/
def candB (ah al : Nat) (low high : Int) (r : Rt) : Bool := decide (low < r.k.n) && (decide (r.k.n ≤ high) && hasB r.k.h r.k.l r.k.n ah al)
/-- What a row has of an address, by length. -/
def depV (N : List Rt) (ah al m : Nat) : Option Int := (N.find? fun r => decide (r.k = cutK ah al m)).map Rt.v
/-- The greatest length below f, within a range, at which there is something. -/
def bestM (D : Nat → Option Int) (low high : Int) : Nat → Option Nat
  | 0 => none
  | f + 1 => if low < (f : Int) ∧ (f : Int) ≤ high ∧ (D f).isSome = true then some f else bestM D low high f
theorem best_none {D : Nat → Option Int} {low high : Int} : ∀ {f : Nat}, bestM D low high f = none ↔ ∀ m, m < f → ¬ (low < (m : Int) ∧ (m : Int) ≤ high ∧ (D m).isSome = true)
  | 0 => ⟨fun _ m h => absurd h (by omega), fun _ => rfl⟩
  | f + 1 => by
    unfold bestM
    split
    · rename_i h
      exact ⟨fun e => by (cases e), fun g => absurd h (g f (by omega))⟩
    · rename_i h
      rw [best_none (f := f)]
      refine ⟨fun g m hm => ?_, fun g m hm => g m (by omega)⟩
      by_cases e : m = f
      · subst e; exact h
      · exact g m (by omega)
theorem best_some {D : Nat → Option Int} {low high : Int} {b : Nat} : ∀ {f : Nat}, bestM D low high f = some b ↔ b < f ∧ (low < (b : Int) ∧ (b : Int) ≤ high ∧ (D b).isSome = true) ∧ ∀ m, b < m → m < f → ¬ (low < (m : Int) ∧ (m : Int) ≤ high ∧ (D m).isSome = true)
  | 0 => ⟨fun e => by (cases e), fun h => absurd h.1 (by omega)⟩
  | f + 1 => by
    unfold bestM
    split
    · rename_i h
      constructor
      · intro e
        injection e with e
        subst e
        exact ⟨by omega, h, fun m h1 h2 => absurd h2 (by omega)⟩
      · rintro ⟨h1, h2, h3⟩
        by_cases e : b = f
        · rw [e]
        · exact absurd h (h3 f (by omega) (by omega))
    · rename_i h
      rw [best_some (f := f)]
      constructor
      · rintro ⟨h1, h2, h3⟩
        refine ⟨by omega, h2, fun m hb hm => ?_⟩
        by_cases e : m = f
        · subst e; exact h
        · exact h3 m hb (by omega)
      · rintro ⟨h1, h2, h3⟩
        have hbf : b ≠ f := fun e => h (e ▸ h2)
        exact ⟨by omega, h2, fun m hb hm => h3 m hb (by omega)⟩
theorem dep_some {N : List Rt} {ah al m : Nat} : (depV N ah al m).isSome = true ↔ ∃ r ∈ N, r.k = cutK ah al m := by
  unfold depV
  rw [Option.isSome_map, List.find?_isSome]
  simp
theorem dep_of {N : List Rt} (hn : (keysR N).Nodup) {ah al m : Nat} {r : Rt} (hr : r ∈ N) (hk : r.k = cutK ah al m) : depV N ah al m = some r.v := by
  unfold depV
  cases e : N.find? (fun r => decide (r.k = cutK ah al m)) with
  | none =>
    rw [List.find?_eq_none] at e
    exact absurd (decide_eq_true hk) (e r hr)
  | some q =>
    have hq := List.mem_of_find?_eq_some e
    have hqk : q.k = cutK ah al m := by simpa using List.find?_some e
    obtain ⟨i, hi, rfl⟩ := List.getElem_of_mem hr
    obtain ⟨j, hj, rfl⟩ := List.getElem_of_mem hq
    have : i = j := by
      unfold keysR at hn
      exact (List.getElem_inj (xs := N.map Rt.k) (h₀ := by simpa using hi) (h₁ := by simpa using hj) hn).1 (by simp [hk, hqk])
    subst this
    rfl
/-- The longest of a row is the greatest length at which the row has something of the address. -/
theorem lng_best {N : List Rt} (ah al : Nat) (low high : Int) :
    (lngI N (candB ah al low high) N.length = none ∧ bestM (depV N ah al) low high 129 = none) ∨
    ∃ b, ∃ hb : b < N.length, ∃ m : Nat, lngI N (candB ah al low high) N.length = some b ∧ bestM (depV N ah al) low high 129 = some m ∧ N[b].k = cutK ah al m := by
  have hl := lng_ok N (candB ah al low high) N.length (Nat.le_refl _)
  have hc : ∀ r : Rt, candB ah al low high r = true ↔ low < r.k.n ∧ r.k.n ≤ high ∧ ∃ m : Nat, m ≤ 128 ∧ r.k = cutK ah al m := fun r => by
    unfold candB
    simp only [Bool.and_eq_true, decide_eq_true_eq, has_cutK]
  cases e : lngI N (candB ah al low high) N.length with
  | none =>
    rw [e] at hl
    have hl : ∀ i (h : i < N.length), i < N.length → candB ah al low high N[i] = false := hl
    refine .inl ⟨rfl, best_none.2 fun m hm h => ?_⟩
    obtain ⟨r, hr, hk⟩ := dep_some.1 h.2.2
    obtain ⟨i, hi, rfl⟩ := List.getElem_of_mem hr
    have h1 := hl i hi hi
    have h2 := (hc N[i]).2 ⟨by rw [hk]; exact h.1, by rw [hk]; exact h.2.1, m, by omega, hk⟩
    rw [h1] at h2
    cases h2
  | some b =>
    rw [e] at hl
    obtain ⟨hb, -, hcb, hmax⟩ := hl
    obtain ⟨h1, h2, m, hm, hk⟩ := (hc N[b]).1 hcb
    have hkn : N[b].k.n = (m : Int) := by rw [hk]; rfl
    refine .inr ⟨b, hb, m, rfl, best_some.2 ⟨by omega, ⟨by omega, by omega, dep_some.2 ⟨_, List.getElem_mem hb, hk⟩⟩, fun m' hm' hm2 h => ?_⟩, hk⟩
    obtain ⟨r, hr, hk'⟩ := dep_some.1 h.2.2
    obtain ⟨i, hi, rfl⟩ := List.getElem_of_mem hr
    have hn' : N[i].k.n = (m' : Int) := by rw [hk']; rfl
    have := hmax i hi hi ((hc N[i]).2 ⟨by rw [hn']; exact h.1, by rw [hn']; exact h.2.1, m', by omega, hk'⟩)
    omega
end Go.Proofs.Ytlmampklgghngaa
