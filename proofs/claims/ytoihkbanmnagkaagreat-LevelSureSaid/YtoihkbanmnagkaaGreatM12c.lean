/-
  Plain mathematics of tables of buckets: what always holds of a table, and what a put makes of it. No condition but those that stand in each.
-/
import Derived.Test.YtoihkbanmnagkaaGreatM11
import Derived.Test.YtoihkbanmnagkaaGreatW6c
/-
  Plain mathematics of tables of buckets: where a key lies, what is put, deleted, found, listed; what a table has, whatever was put. No condition but those that stand in each.
-/
set_option linter.unusedSimpArgs false
set_option linter.unusedVariables false
namespace Go.Proofs.YtoihkbanmnagkaaGreat
open M

def b1 (s : Nat) (k : Ky) (n : Nat) : Nat := (buckI (hashN s k.h k.l (wordZ k.n)) 1 n).toNat
def b2 (s : Nat) (k : Ky) (n : Nat) : Nat := (buckI (hashN s k.h k.l (wordZ k.n)) 2 n).toNat
theorem buck_nat (h i n : Nat) (hn : 1 ≤ n) : ∃ j : Nat, buckI h i n = (j : Int) ∧ j < n := by
  have h0 := redI_nonneg (mixN (h ^^^ i)) (n : Int)
  have h1 := redI_lt (x := mixN (h ^^^ i)) (m := (n : Int)) (mixN_w _) (by omega)
  exact ⟨(buckI h i n).toNat, by unfold buckI; omega, by unfold buckI; omega⟩
theorem b1_lt {s n : Nat} {k : Ky} (hn : 1 ≤ n) : b1 s k n < n := by
  obtain ⟨j, h, hl⟩ := buck_nat (hashN s k.h k.l (wordZ k.n)) 1 n hn
  unfold b1
  rw [h]
  simpa using hl
theorem b2_lt {s n : Nat} {k : Ky} (hn : 1 ≤ n) : b2 s k n < n := by
  obtain ⟨j, h, hl⟩ := buck_nat (hashN s k.h k.l (wordZ k.n)) 2 n hn
  unfold b2
  rw [h]
  simpa using hl
theorem b1_int {s n : Nat} {k : Ky} (hn : 1 ≤ n) : buckI (hashN s k.h k.l (wordZ k.n)) 1 n = (b1 s k n : Int) := by
  obtain ⟨j, h, hl⟩ := buck_nat (hashN s k.h k.l (wordZ k.n)) 1 n hn
  unfold b1
  rw [h]
  simp
theorem b2_int {s n : Nat} {k : Ky} (hn : 1 ≤ n) : buckI (hashN s k.h k.l (wordZ k.n)) 2 n = (b2 s k n : Int) := by
  obtain ⟨j, h, hl⟩ := buck_nat (hashN s k.h k.l (wordZ k.n)) 2 n hn
  unfold b2
  rw [h]
  simp
structure Tab where
  s : Nat
  B : List (List Pl)
  st : List Rt
def Tab.x1 (T : Tab) (k : Ky) : Nat := b1 T.s k T.B.length
def Tab.x2 (T : Tab) (k : Ky) : Nat := b2 T.s k T.B.length
def Tab.other (T : Tab) (k : Ky) (b : Nat) : Nat := if b = T.x1 k then T.x2 k else T.x1 k
def Tab.bk (T : Tab) (i : Nat) : List Pl := T.B.getD i []
def Tab.set (T : Tab) (i : Nat) (C : List Pl) : Tab := { T with B := T.B.set i C }
def lessK (a b : Ky) : Bool := lessB a.h a.l a.n b.h b.l b.n
def intoS : List Rt → Rt → List Rt
  | [], r => [r]
  | a :: l, r => if lessK a.k r.k then a :: intoS l r else if a.k = r.k then r :: l else r :: a :: l
def outS (l : List Rt) (k : Ky) : List Rt := l.filter fun r => decide (r.k ≠ k)
def findS (l : List Rt) (k : Ky) : Option Nat := l.findIdx? fun r => decide (r.k = k)
def contT (T : Tab) : List Rt := T.B.flatMap allC ++ T.st
def kOut (T : Tab) (b i : Nat) (r : Rt) : Rt := ((swapC (T.bk b) ((i % 4 : Nat) : Int) r.k r.v).map Prod.fst).getD ⟨⟨0, 0, 0⟩, 0⟩
def kTab (T : Tab) (b i : Nat) (r : Rt) : Tab := T.set b (((swapC (T.bk b) ((i % 4 : Nat) : Int) r.k r.v).map Prod.snd).getD (T.bk b))
def kNew (T : Tab) (b i : Nat) (r : Rt) : Nat := (kTab T b i r).other (kOut T b i r).k b
def kicks : Nat → Nat → Tab → Nat → Rt → Tab × Option Rt
  | 0, _, T, _, r => (T, some r)
  | f + 1, i, T, b, r =>
    match putC ((kTab T b i r).bk (kNew T b i r)) (kOut T b i r).k (kOut T b i r).v with
    | some C => ((kTab T b i r).set (kNew T b i r) C, none)
    | none => kicks f (i + 1) (kTab T b i r) (kNew T b i r) (kOut T b i r)
def putIn (T : Tab) (r : Rt) : Tab × Option Rt :=
  if (getC (T.bk (T.x1 r.k)) r.k).isSome then (T.set (T.x1 r.k) ((putC (T.bk (T.x1 r.k)) r.k r.v).getD (T.bk (T.x1 r.k))), none)
  else if (getC (T.bk (T.x2 r.k)) r.k).isSome then (T.set (T.x2 r.k) ((putC (T.bk (T.x2 r.k)) r.k r.v).getD (T.bk (T.x2 r.k))), none)
  else if (findS T.st r.k).isSome then ({ T with st := intoS T.st r }, none)
  else
    match putC (T.bk (T.x1 r.k)) r.k r.v with
    | some C => (T.set (T.x1 r.k) C, none)
    | none =>
      match putC (T.bk (T.x2 r.k)) r.k r.v with
      | some C => (T.set (T.x2 r.k) C, none)
      | none => kicks 16 0 T (T.x2 r.k) r
def stay (T : Tab) (r : Rt) : Tab × Bool :=
  match (putIn T r).2 with
  | none => ((putIn T r).1, false)
  | some q => ({ (putIn T r).1 with st := intoS (putIn T r).1.st q }, true)
def emptyT (s n : Nat) : Tab := ⟨s, List.replicate n [none, none, none, none], []⟩
def grows (p : Tab × Bool) : Bool := p.2 && (decide (8 < p.1.st.length) && decide (p.1.B.length < 65536))
def grown (T : Tab) : Tab := emptyT (mixN T.s) (min (2 * T.B.length) 65536)
def putF : Nat → Tab → Rt → Tab
  | 0, T, r => (stay T r).1
  | d + 1, T, r => if grows (stay T r) then (contT (stay T r).1).foldl (putF d) (grown (stay T r).1) else (stay T r).1
def getT (T : Tab) (k : Ky) : Option Int :=
  match getC (T.bk (T.x1 k)) k with
  | some v => some v
  | none =>
    match getC (T.bk (T.x2 k)) k with
    | some v => some v
    | none => (T.st.find? fun r => decide (r.k = k)).map Rt.v
def readT (T : Tab) (k : Ky) : List Int := if (getC (T.bk (T.x1 k)) k).isSome then [(T.x1 k : Int)] else [(T.x1 k : Int), (T.x2 k : Int)]
def delT (T : Tab) (k : Ky) : Tab × Bool :=
  match takeC (T.bk (T.x1 k)) k with
  | some C => (T.set (T.x1 k) C, true)
  | none =>
    match takeC (T.bk (T.x2 k)) k with
    | some C => (T.set (T.x2 k) C, true)
    | none => ({ T with st := outS T.st k }, decide ((outS T.st k).length < T.st.length))
def sortR (l : List Rt) : List Rt := l.foldl intoS []
end Go.Proofs.YtoihkbanmnagkaaGreat
/-
  Plain mathematics of tables of buckets: what a place more, or less, makes of all that a table has. No condition but those that stand in each.
-/
set_option linter.unusedSimpArgs false
set_option linter.unusedVariables false
namespace Go.Proofs.YtoihkbanmnagkaaGreat
open M

def keysR (L : List Rt) : List Ky := L.map Rt.k
theorem keysR_perm {L M : List Rt} (h : L.Perm M) : (keysR L).Perm (keysR M) := h.map _
theorem allC_cons (x : Pl) (C : List Pl) : allC (x :: C) = x.toList ++ allC C := by
  cases x <;> rfl
theorem set_perm : ∀ (C : List Pl) (i : Nat) (hi : i < C.length) (x : Pl), (C[i].toList ++ allC (C.set i x)).Perm (x.toList ++ allC C)
  | y :: C, 0, _, x => by
    show (y.toList ++ allC (x :: C)).Perm (x.toList ++ allC (y :: C))
    rw [allC_cons, allC_cons]
    exact List.perm_append_comm_assoc _ _ _
  | y :: C, i + 1, hi, x => by
    have ih := set_perm C i (by simpa using hi) x
    show ((C[i]'(by simpa using hi)).toList ++ allC (y :: C.set i x)).Perm (x.toList ++ allC (y :: C))
    rw [allC_cons, allC_cons, List.perm_iff_count]
    intro a
    have := ih.count_eq a
    simp only [List.count_append] at *
    omega
theorem setB_perm : ∀ (B : List (List Pl)) (i : Nat) (hi : i < B.length) (C : List Pl), (allC B[i] ++ (B.set i C).flatMap allC).Perm (allC C ++ B.flatMap allC)
  | D :: B, 0, _, C => by
    show (allC D ++ (C :: B).flatMap allC).Perm (allC C ++ (D :: B).flatMap allC)
    rw [List.flatMap_cons, List.flatMap_cons]
    exact List.perm_append_comm_assoc _ _ _
  | D :: B, i + 1, hi, C => by
    have ih := setB_perm B i (by simpa using hi) C
    show (allC (B[i]'(by simpa using hi)) ++ (D :: B.set i C).flatMap allC).Perm (allC C ++ (D :: B).flatMap allC)
    rw [List.flatMap_cons, List.flatMap_cons, List.perm_iff_count]
    intro a
    have := ih.count_eq a
    simp only [List.count_append] at *
    omega
theorem bk_at (T : Tab) (i : Nat) (hi : i < T.B.length) : T.bk i = T.B[i] := by
  unfold Tab.bk
  rw [List.getD_eq_getElem?_getD, List.getElem?_eq_getElem hi]
  rfl
theorem cont_set (T : Tab) (i : Nat) (hi : i < T.B.length) (j : Nat) (hj : j < (T.bk i).length) (x : Pl) : ((T.bk i)[j].toList ++ contT (T.set i ((T.bk i).set j x))).Perm (x.toList ++ contT T) := by
  have h1 := setB_perm T.B i hi ((T.bk i).set j x)
  have h2 := set_perm (T.bk i) j hj x
  rw [← bk_at T i hi] at h1
  rw [List.perm_iff_count]
  intro a
  have e1 := h1.count_eq a
  have e2 := h2.count_eq a
  unfold contT Tab.set
  simp only [List.count_append] at *
  omega
theorem split_key : ∀ {L : List Rt} {r : Rt}, (keysR L).Nodup → r ∈ L → L.Perm (r :: outS L r.k)
  | a :: L, r, hn, hm => by
    unfold keysR at hn
    rw [List.map_cons, List.nodup_cons] at hn
    have hin : ∀ q ∈ L, q.k ≠ a.k := fun q hq e => hn.1 (e ▸ List.mem_map_of_mem hq)
    rw [List.mem_cons] at hm
    rcases hm with rfl | hm
    · have : outS (r :: L) r.k = L := by
        unfold outS
        rw [List.filter_cons_of_neg (by simp), List.filter_eq_self.2 (fun q hq => by simpa using hin q hq)]
      rw [this]
    · have ne : a.k ≠ r.k := fun e => hin r hm e.symm
      have : outS (a :: L) r.k = a :: outS L r.k := by
        unfold outS
        rw [List.filter_cons_of_pos (by simpa using ne)]
      rw [this]
      exact ((split_key hn.2 hm).cons a).trans (List.Perm.swap _ _ _)
theorem outS_perm {L M : List Rt} (h : L.Perm M) (k : Ky) : (outS L k).Perm (outS M k) := h.filter _
theorem outS_self {L : List Rt} {k : Ky} (h : k ∉ keysR L) : outS L k = L := by
  unfold outS
  refine List.filter_eq_self.2 fun q hq => ?_
  simp only [decide_eq_true_eq]
  intro e
  exact h (List.mem_map.2 ⟨q, hq, e⟩)
theorem mem_outS {L : List Rt} {k : Ky} {q : Rt} : q ∈ outS L k ↔ q ∈ L ∧ q.k ≠ k := by simp [outS]
theorem mem_keys {L : List Rt} {q : Rt} (h : q ∈ L) : q.k ∈ keysR L := List.mem_map_of_mem h
/-! ### The order of keys -/
theorem lessK_irr (a : Ky) : lessK a a = false := lessB_self _ _ _
theorem lessK_trans {a b c : Ky} (h : lessK a b = true) (g : lessK b c = true) : lessK a c = true := lessB_trans _ _ _ _ _ _ _ _ _ h g
theorem lessK_total {a b : Ky} (h : a ≠ b) : lessK b a = !lessK a b := lessB_total _ _ _ _ _ _ (fun ⟨e1, e2, e3⟩ => h (by cases a; cases b; simp_all))
def Sorted (L : List Rt) : Prop := L.Pairwise fun a b => lessK a.k b.k = true
theorem Sorted.nodup {L : List Rt} (h : Sorted L) : (keysR L).Nodup := by
  unfold keysR List.Nodup
  rw [List.pairwise_map]
  refine List.Pairwise.imp (fun {a b} hab e => ?_) h
  rw [e, lessK_irr] at hab
  cases hab
theorem intoS_perm : ∀ {L : List Rt} (r : Rt), Sorted L → (intoS L r).Perm (r :: outS L r.k)
  | [], r, _ => by simp [intoS, outS]
  | a :: L, r, h => by
    have h1 := List.pairwise_cons.1 h
    unfold intoS
    split
    · rename_i hl
      have ne : a.k ≠ r.k := fun e => by rw [e, lessK_irr] at hl; cases hl
      have : outS (a :: L) r.k = a :: outS L r.k := by
        unfold outS
        rw [List.filter_cons_of_pos (by simpa using ne)]
      rw [this]
      exact ((intoS_perm r h1.2).cons a).trans (List.Perm.swap _ _ _)
    · rename_i hl
      split
      · rename_i he
        have : outS (a :: L) r.k = L := by
          unfold outS
          rw [List.filter_cons_of_neg (by simp [he])]
          refine List.filter_eq_self.2 fun q hq => ?_
          simp only [decide_eq_true_eq]
          intro e
          have := h1.1 q hq
          rw [e, he, lessK_irr] at this
          cases this
        rw [this]
      · rename_i he
        rw [outS_self]
        intro hm
        unfold keysR at hm
        rw [List.mem_map] at hm
        obtain ⟨q, hq, e⟩ := hm
        rw [List.mem_cons] at hq
        rcases hq with rfl | hq
        · exact he e
        · have := h1.1 q hq
          rw [e] at this
          exact hl this
theorem intoS_mem {L : List Rt} {r q : Rt} (h : Sorted L) (hq : q ∈ intoS L r) : q = r ∨ q ∈ L := by
  have := (intoS_perm r h).mem_iff.1 hq
  rw [List.mem_cons] at this
  exact this.imp id (fun h => (mem_outS.1 h).1)
theorem intoS_sorted : ∀ {L : List Rt} (r : Rt), Sorted L → Sorted (intoS L r)
  | [], r, _ => by simp [intoS, Sorted]
  | a :: L, r, h => by
    have h1 := List.pairwise_cons.1 h
    unfold intoS
    split
    · rename_i hl
      refine List.pairwise_cons.2 ⟨fun q hq => ?_, intoS_sorted r h1.2⟩
      rcases intoS_mem h1.2 hq with rfl | hq
      · exact hl
      · exact h1.1 q hq
    · rename_i hl
      split
      · rename_i he
        exact List.pairwise_cons.2 ⟨fun q hq => by rw [← he]; exact h1.1 q hq, h1.2⟩
      · rename_i he
        have hr : lessK r.k a.k = true := by
          rw [lessK_total he]
          simpa using hl
        refine List.pairwise_cons.2 ⟨fun q hq => ?_, h⟩
        rw [List.mem_cons] at hq
        rcases hq with rfl | hq
        · exact hr
        · exact lessK_trans hr (h1.1 q hq)
theorem outS_sorted {L : List Rt} (k : Ky) (h : Sorted L) : Sorted (outS L k) := List.Pairwise.filter _ h
theorem sorted_eq : ∀ {L M : List Rt}, Sorted L → Sorted M → L.Perm M → L = M
  | [], M, _, _, h => by rw [List.nil_perm.1 h]
  | a :: L, [], _, _, h => absurd h.length_eq (by simp)
  | a :: L, b :: M, hL, hM, h => by
    have hl := List.pairwise_cons.1 hL
    have hm := List.pairwise_cons.1 hM
    have e : a = b := by
      have h1 : a ∈ b :: M := h.mem_iff.1 (by simp)
      have h2 : b ∈ a :: L := h.mem_iff.2 (by simp)
      rw [List.mem_cons] at h1 h2
      rcases h1 with rfl | h1
      · rfl
      · rcases h2 with e | h2
        · exact e.symm
        · have := lessK_trans (hl.1 b h2) (hm.1 a h1)
          rw [lessK_irr] at this
          cases this
    subst e
    rw [sorted_eq hl.2 hm.2 ((List.perm_cons a).1 h)]
end Go.Proofs.YtoihkbanmnagkaaGreat
/-
  Plain mathematics of tables of buckets: what always holds of a table, and what a put makes of it. No condition but those that stand in each.
-/
set_option linter.unusedSimpArgs false
set_option linter.unusedVariables false
namespace Go.Proofs.YtoihkbanmnagkaaGreat
open M

theorem hasK_some {k : Ky} {r : Rt} : hasK k (some r) = true ↔ r.k = k := by simp [hasK]
theorem idx_none {C : List Pl} {k : Ky} (h : C.findIdx? (hasK k) = none) : ∀ r, some r ∈ C → r.k ≠ k := by
  intro r hr e
  have := (List.findIdx?_eq_none_iff.1 h) _ hr
  rw [hasK_some.2 e] at this
  cases this
theorem getC_none {C : List Pl} {k : Ky} (h : getC C k = none) : C.findIdx? (hasK k) = none := by
  rcases idx_cases (hasK k) C with ⟨i, hi, h1, -, h3⟩ | ⟨h1, -⟩
  · rw [getC_hit hi h1 h3] at h
    cases h
  · exact h1
theorem hit_at {C : List Pl} {k : Ky} {i : Nat} (hi : i < C.length) (h : hasK k C[i] = true) : ∃ q, C[i] = some q ∧ q.k = k := by
  cases e : C[i] with
  | none => rw [e] at h; cases h
  | some q => exact ⟨q, rfl, hasK_some.1 (e ▸ h)⟩
theorem getC_some {C : List Pl} {k : Ky} (h : (getC C k).isSome = true) : ∃ i, ∃ hi : i < C.length, C.findIdx? (hasK k) = some i ∧ ∃ q, C[i] = some q ∧ q.k = k ∧ getC C k = some q.v := by
  rcases idx_cases (hasK k) C with ⟨i, hi, h1, -, h3⟩ | ⟨h1, -⟩
  · obtain ⟨q, e, hq⟩ := hit_at hi h3
    exact ⟨i, hi, h1, q, e, hq, by rw [getC_hit hi h1 h3, e]; rfl⟩
  · rw [getC_miss h1] at h
    cases h
theorem putC_hit {C : List Pl} {k : Ky} {v : Int} {i : Nat} (h : C.findIdx? (hasK k) = some i) : putC C k v = some (C.set i (some ⟨k, v⟩)) := by
  unfold putC
  rw [h]
theorem putC_some {C C' : List Pl} {k : Ky} {v : Int} (hm : C.findIdx? (hasK k) = none) (h : putC C k v = some C') : ∃ j, ∃ hj : j < C.length, C' = C.set j (some ⟨k, v⟩) ∧ C[j] = none := by
  unfold putC at h
  rw [hm] at h
  rcases idx_cases Option.isNone C with ⟨i, hi, h1, -, h3⟩ | ⟨h1, -⟩
  · simp only [h1, Option.some.injEq] at h
    exact ⟨i, hi, h.symm, by simpa using h3⟩
  · simp only [h1] at h
    cases h
theorem putC_none {C : List Pl} {k : Ky} {v : Int} (h : putC C k v = none) : C.findIdx? (hasK k) = none ∧ ∀ x ∈ C, x.isSome = true := by
  unfold putC at h
  rcases idx_cases (hasK k) C with ⟨i, hi, h1, -, h3⟩ | ⟨h1, -⟩
  · simp only [h1] at h
    cases h
  · refine ⟨h1, ?_⟩
    simp only [h1] at h
    rcases idx_cases Option.isNone C with ⟨i, hi, h2, -, h3⟩ | ⟨h2, -⟩
    · simp only [h2] at h
      cases h
    · intro x hx
      have := (List.findIdx?_eq_none_iff.1 h2) x hx
      cases x with
      | none => cases this
      | some r => rfl
theorem takeC_cases (C : List Pl) (k : Ky) : (takeC C k = none ∧ C.findIdx? (hasK k) = none) ∨ ∃ j, ∃ hj : j < C.length, ∃ q, takeC C k = some (C.set j none) ∧ C[j] = some q ∧ q.k = k := by
  unfold takeC
  rcases idx_cases (hasK k) C with ⟨i, hi, h1, -, h3⟩ | ⟨h1, -⟩
  · obtain ⟨q, e, hq⟩ := hit_at hi h3
    exact .inr ⟨i, hi, q, by rw [h1], e, hq⟩
  · exact .inl ⟨by rw [h1], h1⟩
theorem swapC_full {C : List Pl} {i : Nat} (hi : i < C.length) (hf : ∀ x ∈ C, x.isSome = true) (k : Ky) (v : Int) : ∃ q, C[i] = some q ∧ swapC C (i : Int) k v = some (q, C.set i (some ⟨k, v⟩)) := by
  obtain ⟨q, e⟩ := Option.isSome_iff_exists.1 (hf _ (List.getElem_mem hi))
  refine ⟨q, e, ?_⟩
  unfold swapC
  rw [if_pos (by omega), Int.toNat_natCast, List.getD_eq_getElem?_getD, List.getElem?_eq_getElem hi, e]
  rfl

structure Inv (T : Tab) : Prop where
  lo : 1 ≤ T.B.length
  hi : T.B.length ≤ 65536
  four : ∀ i, i < T.B.length → (T.bk i).length = 4
  word : W64 T.s
  good : ∀ r ∈ contT T, r.k.good
  home : ∀ i, i < T.B.length → ∀ r, some r ∈ T.bk i → i = T.x1 r.k ∨ i = T.x2 r.k
  keys : (keysR (contT T)).Nodup
  sort : Sorted T.st
theorem Inv.x1_lt {T : Tab} (H : Inv T) (k : Ky) : T.x1 k < T.B.length := b1_lt H.lo
theorem Inv.x2_lt {T : Tab} (H : Inv T) (k : Ky) : T.x2 k < T.B.length := b2_lt H.lo
theorem bk_set (T : Tab) (i : Nat) (hi : i < T.B.length) (C : List Pl) (k : Nat) : (T.set i C).bk k = if k = i then C else T.bk k := by
  unfold Tab.bk Tab.set
  simp only [List.getD_eq_getElem?_getD, List.getElem?_set]
  by_cases e : i = k
  · subst e
    rw [if_pos rfl, if_pos hi, if_pos rfl]
    rfl
  · rw [if_neg e, if_neg (fun x => e x.symm)]
theorem set_len (T : Tab) (i : Nat) (C : List Pl) : (T.set i C).B.length = T.B.length := List.length_set
theorem set_x1 (T : Tab) (i : Nat) (C : List Pl) (k : Ky) : (T.set i C).x1 k = T.x1 k := by unfold Tab.x1; rw [set_len]; rfl
theorem set_x2 (T : Tab) (i : Nat) (C : List Pl) (k : Ky) : (T.set i C).x2 k = T.x2 k := by unfold Tab.x2; rw [set_len]; rfl
theorem mem_bk {T : Tab} {i : Nat} (hi : i < T.B.length) {r : Rt} (h : some r ∈ T.bk i) : r ∈ contT T := by
  unfold contT
  rw [bk_at T i hi] at h
  refine List.mem_append_left _ (List.mem_flatMap.2 ⟨T.B[i], List.getElem_mem hi, ?_⟩)
  unfold allC
  exact List.mem_filterMap.2 ⟨some r, h, rfl⟩
theorem mem_cont {T : Tab} {r : Rt} (h : r ∈ contT T) : (∃ i, i < T.B.length ∧ some r ∈ T.bk i) ∨ r ∈ T.st := by
  unfold contT at h
  rw [List.mem_append, List.mem_flatMap] at h
  rcases h with ⟨C, hC, h⟩ | h
  · obtain ⟨i, hi, rfl⟩ := List.getElem_of_mem hC
    unfold allC at h
    rw [List.mem_filterMap] at h
    obtain ⟨x, hx, e⟩ := h
    simp only [id] at e
    subst e
    exact .inl ⟨i, hi, by rw [bk_at T i hi]; exact hx⟩
  · exact .inr h
theorem Inv.place {T : Tab} (H : Inv T) {i : Nat} (hi : i < T.B.length) {j : Nat} (hj : j < (T.bk i).length) {x : Pl} (hx : ∀ r, x = some r → r.k.good ∧ (i = T.x1 r.k ∨ i = T.x2 r.k))
    (hk : (keysR (contT (T.set i ((T.bk i).set j x)))).Nodup) : Inv (T.set i ((T.bk i).set j x)) := by
  refine ⟨by rw [set_len]; exact H.lo, by rw [set_len]; exact H.hi, fun k hkl => ?_, H.word, fun r hr => ?_, fun k hkl r hr => ?_, hk, H.sort⟩
  · rw [set_len] at hkl
    rw [bk_set T i hi]
    split
    · rw [List.length_set]; exact H.four i hi
    · exact H.four k hkl
  · have hp := (cont_set T i hi j hj x).mem_iff.1 (List.mem_append_right _ hr)
    rw [List.mem_append] at hp
    rcases hp with hp | hp
    · exact (hx r (by simpa using hp)).1
    · exact H.good r hp
  · rw [set_len] at hkl
    rw [set_x1, set_x2]
    rw [bk_set T i hi] at hr
    split at hr
    · rename_i e
      rcases List.mem_or_eq_of_mem_set hr with h | h
      · exact e ▸ H.home i hi r h
      · exact e ▸ (hx r h.symm).2
    · exact H.home k hkl r hr
theorem cont_same {T : Tab} (H : Inv T) {i : Nat} (hi : i < T.B.length) {j : Nat} (hj : j < (T.bk i).length) {q r : Rt} (hq : (T.bk i)[j] = some q) (he : q.k = r.k) :
    (keysR (contT (T.set i ((T.bk i).set j (some r))))).Nodup ∧ (contT (T.set i ((T.bk i).set j (some r)))).Perm (r :: outS (contT T) r.k) := by
  have hp := cont_set T i hi j hj (some r)
  rw [hq] at hp
  have hk := keysR_perm hp
  have hk2 : (keysR (contT (T.set i ((T.bk i).set j (some r))))).Perm (keysR (contT T)) := by
    unfold keysR at *
    simp only [Option.toList_some, List.singleton_append, List.map_cons, he] at hk
    exact (List.perm_cons _).1 hk
  have hn := hk2.nodup_iff.2 H.keys
  refine ⟨hn, ?_⟩
  have hm : r ∈ contT (T.set i ((T.bk i).set j (some r))) := by
    refine mem_bk (i := i) (by rw [set_len]; exact hi) ?_
    rw [bk_set T i hi, if_pos rfl]
    exact List.mem_set hj _
  have ho := outS_perm hp r.k
  have e1 : outS ((some q).toList ++ contT (T.set i ((T.bk i).set j (some r)))) r.k = outS (contT (T.set i ((T.bk i).set j (some r)))) r.k := by simp [outS, he]
  have e2 : outS ((some r).toList ++ contT T) r.k = outS (contT T) r.k := by simp [outS]
  rw [e1, e2] at ho
  exact (split_key hn hm).trans (ho.cons r)
theorem cont_more {T : Tab} (H : Inv T) {i : Nat} (hi : i < T.B.length) {j : Nat} (hj : j < (T.bk i).length) {r : Rt} (hq : (T.bk i)[j] = none) (he : r.k ∉ keysR (contT T)) :
    (keysR (contT (T.set i ((T.bk i).set j (some r))))).Nodup ∧ (contT (T.set i ((T.bk i).set j (some r)))).Perm (r :: contT T) := by
  have hp := cont_set T i hi j hj (some r)
  rw [hq] at hp
  simp only [Option.toList_none, List.nil_append, Option.toList_some, List.singleton_append] at hp
  refine ⟨(keysR_perm hp).nodup_iff.2 ?_, hp⟩
  unfold keysR at *
  rw [List.map_cons, List.nodup_cons]
  exact ⟨he, H.keys⟩
theorem cont_less {T : Tab} (H : Inv T) {i : Nat} (hi : i < T.B.length) {j : Nat} (hj : j < (T.bk i).length) {q : Rt} (hq : (T.bk i)[j] = some q) :
    (keysR (contT (T.set i ((T.bk i).set j none)))).Nodup ∧ (contT (T.set i ((T.bk i).set j none))).Perm (outS (contT T) q.k) := by
  have hp := cont_set T i hi j hj none
  rw [hq] at hp
  simp only [Option.toList_none, List.nil_append, Option.toList_some, List.singleton_append] at hp
  have hn := (keysR_perm hp).nodup_iff.2 H.keys
  unfold keysR at hn
  rw [List.map_cons, List.nodup_cons] at hn
  refine ⟨hn.2, ?_⟩
  have ho := outS_perm hp q.k
  have e1 : outS (q :: contT (T.set i ((T.bk i).set j none))) q.k = contT (T.set i ((T.bk i).set j none)) := by
    rw [show outS (q :: contT (T.set i ((T.bk i).set j none))) q.k = outS (contT (T.set i ((T.bk i).set j none))) q.k by simp [outS]]
    exact outS_self hn.1
  rw [e1] at ho
  exact ho
theorem cont_swap {T : Tab} (H : Inv T) {i : Nat} (hi : i < T.B.length) {j : Nat} (hj : j < (T.bk i).length) {q r : Rt} (hq : (T.bk i)[j] = some q) (he : r.k ∉ keysR (contT T)) :
    (keysR (contT (T.set i ((T.bk i).set j (some r))))).Nodup ∧ (q :: contT (T.set i ((T.bk i).set j (some r)))).Perm (r :: contT T) ∧ q.k ∉ keysR (contT (T.set i ((T.bk i).set j (some r)))) := by
  have hp := cont_set T i hi j hj (some r)
  rw [hq] at hp
  simp only [Option.toList_some, List.singleton_append] at hp
  have hn : (keysR (q :: contT (T.set i ((T.bk i).set j (some r))))).Nodup := by
    refine (keysR_perm hp).nodup_iff.2 ?_
    unfold keysR at *
    rw [List.map_cons, List.nodup_cons]
    exact ⟨he, H.keys⟩
  unfold keysR at *
  rw [List.map_cons, List.nodup_cons] at hn
  exact ⟨hn.2, hp, hn.1⟩
end Go.Proofs.YtoihkbanmnagkaaGreat
