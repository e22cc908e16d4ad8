/-
  Plain mathematics of tables of buckets: what a place more, or less, makes of all that a table has. No condition but those that stand in each.
-/
import Derived.Test.YtoihkbanmnagkaaGreatW1
import Derived.Test.YtoihkbanmnagkaaGreatShelf
/-
  Plain mathematics of buckets: a key, a key with its value, four places; what is put, taken, swapped, found, listed. No condition but those that stand in each.
-/
set_option linter.unusedSimpArgs false
set_option linter.unusedVariables false
namespace Go.Proofs.YtoihkbanmnagkaaGreat
open M

structure Ky where
  h : Nat
  l : Nat
  n : Int
deriving DecidableEq
def Ky.good (k : Ky) : Prop := W64 k.h ∧ W64 k.l
structure Rt where
  k : Ky
  v : Int
deriving DecidableEq
abbrev Pl := Option Rt
def hasK (k : Ky) (x : Pl) : Bool :=
  match x with
  | some r => decide (r.k = k)
  | none => false
def idxI (p : Pl → Bool) (C : List Pl) : Int :=
  match C.findIdx? p with
  | some i => (i : Int)
  | none => -1
def putC (C : List Pl) (k : Ky) (v : Int) : Option (List Pl) :=
  match C.findIdx? (hasK k) with
  | some i => some (C.set i (some ⟨k, v⟩))
  | none =>
    match C.findIdx? Option.isNone with
    | some i => some (C.set i (some ⟨k, v⟩))
    | none => none
def takeC (C : List Pl) (k : Ky) : Option (List Pl) :=
  match C.findIdx? (hasK k) with
  | some i => some (C.set i none)
  | none => none
def getC (C : List Pl) (k : Ky) : Option Int :=
  match C.findIdx? (hasK k) with
  | some i => (C.getD i none).map Rt.v
  | none => none
def swapC (C : List Pl) (i : Int) (k : Ky) (v : Int) : Option (Rt × List Pl) :=
  if 0 ≤ i then
    match C.getD i.toNat none with
    | some r => some (r, C.set i.toNat (some ⟨k, v⟩))
    | none => none
  else none
def allC (C : List Pl) : List Rt := C.filterMap id
def xh (x : Pl) : Nat := match x with | some r => r.k.h | none => 0
def xl (x : Pl) : Nat := match x with | some r => r.k.l | none => 0
def xn (x : Pl) : Int := match x with | some r => r.k.n | none => 0
def xv (x : Pl) : Int := match x with | some r => r.v | none => 0
theorem hasK_eq (k : Ky) (x : Pl) : hasK k x = (x.isSome && decide (xh x = k.h ∧ xl x = k.l ∧ xn x = k.n)) := by
  cases x with
  | none => rfl
  | some r =>
    obtain ⟨⟨a, b, c⟩, v⟩ := r
    obtain ⟨d, e, f⟩ := k
    rw [Bool.eq_iff_iff]
    simp [hasK, xh, xl, xn]
    exact decide_eq_true_iff.symm
theorem idx_hit {p : Pl → Bool} {C : List Pl} {i : Nat} (hi : i < C.length) (h : p C[i] = true) (hb : ∀ j (hj : j < C.length), j < i → p C[j] = false) : C.findIdx? p = some i := by
  rw [List.findIdx?_eq_some_iff_getElem]
  exact ⟨hi, h, fun j hj => by simp [hb j (by omega) hj]⟩
theorem idx_miss {p : Pl → Bool} {C : List Pl} (hb : ∀ j (hj : j < C.length), p C[j] = false) : C.findIdx? p = none := by
  rw [List.findIdx?_eq_none_iff]
  intro x hx
  obtain ⟨j, hj, rfl⟩ := List.getElem_of_mem hx
  exact hb j hj
theorem idxI_hit {p : Pl → Bool} {C : List Pl} {i : Nat} (hi : i < C.length) (h : p C[i] = true) (hb : ∀ j (hj : j < C.length), j < i → p C[j] = false) : idxI p C = i := by
  unfold idxI
  rw [idx_hit hi h hb]
theorem idxI_miss {p : Pl → Bool} {C : List Pl} (hb : ∀ j (hj : j < C.length), p C[j] = false) : idxI p C = -1 := by
  unfold idxI
  rw [idx_miss hb]
theorem idx_cases (p : Pl → Bool) (C : List Pl) : (∃ i, ∃ hi : i < C.length, C.findIdx? p = some i ∧ idxI p C = i ∧ p C[i] = true) ∨ (C.findIdx? p = none ∧ idxI p C = -1) := by
  cases h : C.findIdx? p with
  | none => exact .inr ⟨rfl, by unfold idxI; rw [h]⟩
  | some i =>
    have := List.findIdx?_eq_some_iff_getElem.1 h
    exact .inl ⟨i, this.1, rfl, by unfold idxI; rw [h], this.2.1⟩
theorem allC_len (C : List Pl) : (allC C).length ≤ C.length := List.length_filterMap_le _ _
theorem allC_snoc (C : List Pl) (i : Nat) (h : i < C.length) : allC (C.take (i + 1)) = allC (C.take i) ++ (C[i]).toList := by
  unfold allC
  rw [List.take_succ_eq_append_getElem h, List.filterMap_append]
  cases C[i] <;> rfl
theorem getC_hit {C : List Pl} {k : Ky} {i : Nat} (hi : i < C.length) (h : C.findIdx? (hasK k) = some i) (hk : hasK k C[i] = true) : getC C k = some (xv C[i]) := by
  unfold getC
  rw [h]
  simp only [List.getD_eq_getElem?_getD, List.getElem?_eq_getElem hi, Option.getD_some]
  cases e : C[i] with
  | none => rw [e] at hk; cases hk
  | some r => rfl
theorem getC_miss {C : List Pl} {k : Ky} (h : C.findIdx? (hasK k) = none) : getC C k = none := by
  unfold getC
  rw [h]
end Go.Proofs.YtoihkbanmnagkaaGreat
/-
  Plain mathematics of tables of buckets: where a key lies, what is put, deleted, found, listed; what a table has, whatever was put. No condition but those that stand in each.
-/
set_option linter.unusedSimpArgs false
set_option linter.unusedVariables false
namespace Go.Proofs.YtoihkbanmnagkaaGreat
open M

def b1 (s : Nat) (k : Ky) (n : Nat) : Nat := (buckI (hashN s k.h k.l (wordZ k.n)) 1 n).toNat
def b2 (s : Nat) (k : Ky) (n : Nat) : Nat := (buckI (hashN s k.h k.l (wordZ k.n)) 2 n).toNat
theorem buck_nat (h i n : Nat) (hn : 1 ≤ n) : ∃ j : Nat, buckI h i n = (j : Int) ∧ j < n := by
  have h0 := redI_nonneg (mixN (h ^^^ i)) (n : Int)
  have h1 := redI_lt (x := mixN (h ^^^ i)) (m := (n : Int)) (mixN_w _) (by omega)
  exact ⟨(buckI h i n).toNat, by unfold buckI; omega, by unfold buckI; omega⟩
theorem b1_lt {s n : Nat} {k : Ky} (hn : 1 ≤ n) : b1 s k n < n := by
  obtain ⟨j, h, hl⟩ := buck_nat (hashN s k.h k.l (wordZ k.n)) 1 n hn
  unfold b1
  rw [h]
  simpa using hl
theorem b2_lt {s n : Nat} {k : Ky} (hn : 1 ≤ n) : b2 s k n < n := by
  obtain ⟨j, h, hl⟩ := buck_nat (hashN s k.h k.l (wordZ k.n)) 2 n hn
  unfold b2
  rw [h]
  simpa using hl
theorem b1_int {s n : Nat} {k : Ky} (hn : 1 ≤ n) : buckI (hashN s k.h k.l (wordZ k.n)) 1 n = (b1 s k n : Int) := by
  obtain ⟨j, h, hl⟩ := buck_nat (hashN s k.h k.l (wordZ k.n)) 1 n hn
  unfold b1
  rw [h]
  simp
theorem b2_int {s n : Nat} {k : Ky} (hn : 1 ≤ n) : buckI (hashN s k.h k.l (wordZ k.n)) 2 n = (b2 s k n : Int) := by
  obtain ⟨j, h, hl⟩ := buck_nat (hashN s k.h k.l (wordZ k.n)) 2 n hn
  unfold b2
  rw [h]
  simp
structure Tab where
  s : Nat
  B : List (List Pl)
  st : List Rt
def Tab.x1 (T : Tab) (k : Ky) : Nat := b1 T.s k T.B.length
def Tab.x2 (T : Tab) (k : Ky) : Nat := b2 T.s k T.B.length
def Tab.other (T : Tab) (k : Ky) (b : Nat) : Nat := if b = T.x1 k then T.x2 k else T.x1 k
def Tab.bk (T : Tab) (i : Nat) : List Pl := T.B.getD i []
def Tab.set (T : Tab) (i : Nat) (C : List Pl) : Tab := { T with B := T.B.set i C }
def lessK (a b : Ky) : Bool := lessB a.h a.l a.n b.h b.l b.n
def intoS : List Rt → Rt → List Rt
  | [], r => [r]
  | a :: l, r => if lessK a.k r.k then a :: intoS l r else if a.k = r.k then r :: l else r :: a :: l
def outS (l : List Rt) (k : Ky) : List Rt := l.filter fun r => decide (r.k ≠ k)
def findS (l : List Rt) (k : Ky) : Option Nat := l.findIdx? fun r => decide (r.k = k)
def contT (T : Tab) : List Rt := T.B.flatMap allC ++ T.st
def kOut (T : Tab) (b i : Nat) (r : Rt) : Rt := ((swapC (T.bk b) ((i % 4 : Nat) : Int) r.k r.v).map Prod.fst).getD ⟨⟨0, 0, 0⟩, 0⟩
def kTab (T : Tab) (b i : Nat) (r : Rt) : Tab := T.set b (((swapC (T.bk b) ((i % 4 : Nat) : Int) r.k r.v).map Prod.snd).getD (T.bk b))
def kNew (T : Tab) (b i : Nat) (r : Rt) : Nat := (kTab T b i r).other (kOut T b i r).k b
def kicks : Nat → Nat → Tab → Nat → Rt → Tab × Option Rt
  | 0, _, T, _, r => (T, some r)
  | f + 1, i, T, b, r =>
    match putC ((kTab T b i r).bk (kNew T b i r)) (kOut T b i r).k (kOut T b i r).v with
    | some C => ((kTab T b i r).set (kNew T b i r) C, none)
    | none => kicks f (i + 1) (kTab T b i r) (kNew T b i r) (kOut T b i r)
def putIn (T : Tab) (r : Rt) : Tab × Option Rt :=
  if (getC (T.bk (T.x1 r.k)) r.k).isSome then (T.set (T.x1 r.k) ((putC (T.bk (T.x1 r.k)) r.k r.v).getD (T.bk (T.x1 r.k))), none)
  else if (getC (T.bk (T.x2 r.k)) r.k).isSome then (T.set (T.x2 r.k) ((putC (T.bk (T.x2 r.k)) r.k r.v).getD (T.bk (T.x2 r.k))), none)
  else if (findS T.st r.k).isSome then ({ T with st := intoS T.st r }, none)
  else
    match putC (T.bk (T.x1 r.k)) r.k r.v with
    | some C => (T.set (T.x1 r.k) C, none)
    | none =>
      match putC (T.bk (T.x2 r.k)) r.k r.v with
      | some C => (T.set (T.x2 r.k) C, none)
      | none => kicks 16 0 T (T.x2 r.k) r
def stay (T : Tab) (r : Rt) : Tab × Bool :=
  match (putIn T r).2 with
  | none => ((putIn T r).1, false)
  | some q => ({ (putIn T r).1 with st := intoS (putIn T r).1.st q }, true)
def emptyT (s n : Nat) : Tab := ⟨s, List.replicate n [none, none, none, none], []⟩
def grows (p : Tab × Bool) : Bool := p.2 && (decide (8 < p.1.st.length) && decide (p.1.B.length < 65536))
def grown (T : Tab) : Tab := emptyT (mixN T.s) (min (2 * T.B.length) 65536)
def putF : Nat → Tab → Rt → Tab
  | 0, T, r => (stay T r).1
  | d + 1, T, r => if grows (stay T r) then (contT (stay T r).1).foldl (putF d) (grown (stay T r).1) else (stay T r).1
def getT (T : Tab) (k : Ky) : Option Int :=
  match getC (T.bk (T.x1 k)) k with
  | some v => some v
  | none =>
    match getC (T.bk (T.x2 k)) k with
    | some v => some v
    | none => (T.st.find? fun r => decide (r.k = k)).map Rt.v
def readT (T : Tab) (k : Ky) : List Int := if (getC (T.bk (T.x1 k)) k).isSome then [(T.x1 k : Int)] else [(T.x1 k : Int), (T.x2 k : Int)]
def delT (T : Tab) (k : Ky) : Tab × Bool :=
  match takeC (T.bk (T.x1 k)) k with
  | some C => (T.set (T.x1 k) C, true)
  | none =>
    match takeC (T.bk (T.x2 k)) k with
    | some C => (T.set (T.x2 k) C, true)
    | none => ({ T with st := outS T.st k }, decide ((outS T.st k).length < T.st.length))
end Go.Proofs.YtoihkbanmnagkaaGreat
/-
  Plain mathematics of tables of buckets: what a place more, or less, makes of all that a table has. No condition but those that stand in each.
-/
set_option linter.unusedSimpArgs false
set_option linter.unusedVariables false
namespace Go.Proofs.YtoihkbanmnagkaaGreat
open M

def keysR (L : List Rt) : List Ky := L.map Rt.k
theorem keysR_perm {L M : List Rt} (h : L.Perm M) : (keysR L).Perm (keysR M) := h.map _
theorem allC_cons (x : Pl) (C : List Pl) : allC (x :: C) = x.toList ++ allC C := by
  cases x <;> rfl
theorem set_perm : ∀ (C : List Pl) (i : Nat) (hi : i < C.length) (x : Pl), (C[i].toList ++ allC (C.set i x)).Perm (x.toList ++ allC C)
  | y :: C, 0, _, x => by
    show (y.toList ++ allC (x :: C)).Perm (x.toList ++ allC (y :: C))
    rw [allC_cons, allC_cons]
    exact List.perm_append_comm_assoc _ _ _
  | y :: C, i + 1, hi, x => by
    have ih := set_perm C i (by simpa using hi) x
    show ((C[i]'(by simpa using hi)).toList ++ allC (y :: C.set i x)).Perm (x.toList ++ allC (y :: C))
    rw [allC_cons, allC_cons, List.perm_iff_count]
    intro a
    have := ih.count_eq a
    simp only [List.count_append] at *
    omega
theorem setB_perm : ∀ (B : List (List Pl)) (i : Nat) (hi : i < B.length) (C : List Pl), (allC B[i] ++ (B.set i C).flatMap allC).Perm (allC C ++ B.flatMap allC)
  | D :: B, 0, _, C => by
    show (allC D ++ (C :: B).flatMap allC).Perm (allC C ++ (D :: B).flatMap allC)
    rw [List.flatMap_cons, List.flatMap_cons]
    exact List.perm_append_comm_assoc _ _ _
  | D :: B, i + 1, hi, C => by
    have ih := setB_perm B i (by simpa using hi) C
    show (allC (B[i]'(by simpa using hi)) ++ (D :: B.set i C).flatMap allC).Perm (allC C ++ (D :: B).flatMap allC)
    rw [List.flatMap_cons, List.flatMap_cons, List.perm_iff_count]
    intro a
    have := ih.count_eq a
    simp only [List.count_append] at *
    omega
theorem bk_at (T : Tab) (i : Nat) (hi : i < T.B.length) : T.bk i = T.B[i] := by
  unfold Tab.bk
  rw [List.getD_eq_getElem?_getD, List.getElem?_eq_getElem hi]
  rfl
theorem cont_set (T : Tab) (i : Nat) (hi : i < T.B.length) (j : Nat) (hj : j < (T.bk i).length) (x : Pl) : ((T.bk i)[j].toList ++ contT (T.set i ((T.bk i).set j x))).Perm (x.toList ++ contT T) := by
  have h1 := setB_perm T.B i hi ((T.bk i).set j x)
  have h2 := set_perm (T.bk i) j hj x
  rw [← bk_at T i hi] at h1
  rw [List.perm_iff_count]
  intro a
  have e1 := h1.count_eq a
  have e2 := h2.count_eq a
  unfold contT Tab.set
  simp only [List.count_append] at *
  omega
theorem split_key : ∀ {L : List Rt} {r : Rt}, (keysR L).Nodup → r ∈ L → L.Perm (r :: outS L r.k)
  | a :: L, r, hn, hm => by
    unfold keysR at hn
    rw [List.map_cons, List.nodup_cons] at hn
    have hin : ∀ q ∈ L, q.k ≠ a.k := fun q hq e => hn.1 (e ▸ List.mem_map_of_mem hq)
    rw [List.mem_cons] at hm
    rcases hm with rfl | hm
    · have : outS (r :: L) r.k = L := by
        unfold outS
        rw [List.filter_cons_of_neg (by simp), List.filter_eq_self.2 (fun q hq => by simpa using hin q hq)]
      rw [this]
    · have ne : a.k ≠ r.k := fun e => hin r hm e.symm
      have : outS (a :: L) r.k = a :: outS L r.k := by
        unfold outS
        rw [List.filter_cons_of_pos (by simpa using ne)]
      rw [this]
      exact ((split_key hn.2 hm).cons a).trans (List.Perm.swap _ _ _)
theorem outS_perm {L M : List Rt} (h : L.Perm M) (k : Ky) : (outS L k).Perm (outS M k) := h.filter _
theorem outS_self {L : List Rt} {k : Ky} (h : k ∉ keysR L) : outS L k = L := by
  unfold outS
  refine List.filter_eq_self.2 fun q hq => ?_
  simp only [decide_eq_true_eq]
  intro e
  exact h (List.mem_map.2 ⟨q, hq, e⟩)
theorem mem_outS {L : List Rt} {k : Ky} {q : Rt} : q ∈ outS L k ↔ q ∈ L ∧ q.k ≠ k := by simp [outS]
theorem mem_keys {L : List Rt} {q : Rt} (h : q ∈ L) : q.k ∈ keysR L := List.mem_map_of_mem h
/-! ### The order of keys -/
theorem lessK_irr (a : Ky) : lessK a a = false := lessB_self _ _ _
theorem lessK_trans {a b c : Ky} (h : lessK a b = true) (g : lessK b c = true) : lessK a c = true := lessB_trans _ _ _ _ _ _ _ _ _ h g
theorem lessK_total {a b : Ky} (h : a ≠ b) : lessK b a = !lessK a b := lessB_total _ _ _ _ _ _ (fun ⟨e1, e2, e3⟩ => h (by cases a; cases b; simp_all))
def Sorted (L : List Rt) : Prop := L.Pairwise fun a b => lessK a.k b.k = true
theorem Sorted.nodup {L : List Rt} (h : Sorted L) : (keysR L).Nodup := by
  unfold keysR List.Nodup
  rw [List.pairwise_map]
  refine List.Pairwise.imp (fun {a b} hab e => ?_) h
  rw [e, lessK_irr] at hab
  cases hab
theorem intoS_perm : ∀ {L : List Rt} (r : Rt), Sorted L → (intoS L r).Perm (r :: outS L r.k)
  | [], r, _ => by simp [intoS, outS]
  | a :: L, r, h => by
    have h1 := List.pairwise_cons.1 h
    unfold intoS
    split
    · rename_i hl
      have ne : a.k ≠ r.k := fun e => by rw [e, lessK_irr] at hl; cases hl
      have : outS (a :: L) r.k = a :: outS L r.k := by
        unfold outS
        rw [List.filter_cons_of_pos (by simpa using ne)]
      rw [this]
      exact ((intoS_perm r h1.2).cons a).trans (List.Perm.swap _ _ _)
    · rename_i hl
      split
      · rename_i he
        have : outS (a :: L) r.k = L := by
          unfold outS
          rw [List.filter_cons_of_neg (by simp [he])]
          refine List.filter_eq_self.2 fun q hq => ?_
          simp only [decide_eq_true_eq]
          intro e
          have := h1.1 q hq
          rw [e, he, lessK_irr] at this
          cases this
        rw [this]
      · rename_i he
        rw [outS_self]
        intro hm
        unfold keysR at hm
        rw [List.mem_map] at hm
        obtain ⟨q, hq, e⟩ := hm
        rw [List.mem_cons] at hq
        rcases hq with rfl | hq
        · exact he e
        · have := h1.1 q hq
          rw [e] at this
          exact hl this
theorem intoS_mem {L : List Rt} {r q : Rt} (h : Sorted L) (hq : q ∈ intoS L r) : q = r ∨ q ∈ L := by
  have := (intoS_perm r h).mem_iff.1 hq
  rw [List.mem_cons] at this
  exact this.imp id (fun h => (mem_outS.1 h).1)
theorem intoS_sorted : ∀ {L : List Rt} (r : Rt), Sorted L → Sorted (intoS L r)
  | [], r, _ => by simp [intoS, Sorted]
  | a :: L, r, h => by
    have h1 := List.pairwise_cons.1 h
    unfold intoS
    split
    · rename_i hl
      refine List.pairwise_cons.2 ⟨fun q hq => ?_, intoS_sorted r h1.2⟩
      rcases intoS_mem h1.2 hq with rfl | hq
      · exact hl
      · exact h1.1 q hq
    · rename_i hl
      split
      · rename_i he
        exact List.pairwise_cons.2 ⟨fun q hq => by rw [← he]; exact h1.1 q hq, h1.2⟩
      · rename_i he
        have hr : lessK r.k a.k = true := by
          rw [lessK_total he]
          simpa using hl
        refine List.pairwise_cons.2 ⟨fun q hq => ?_, h⟩
        rw [List.mem_cons] at hq
        rcases hq with rfl | hq
        · exact hr
        · exact lessK_trans hr (h1.1 q hq)
theorem outS_sorted {L : List Rt} (k : Ky) (h : Sorted L) : Sorted (outS L k) := List.Pairwise.filter _ h
theorem sorted_eq : ∀ {L M : List Rt}, Sorted L → Sorted M → L.Perm M → L = M
  | [], M, _, _, h => by rw [List.nil_perm.1 h]
  | a :: L, [], _, _, h => absurd h.length_eq (by simp)
  | a :: L, b :: M, hL, hM, h => by
    have hl := List.pairwise_cons.1 hL
    have hm := List.pairwise_cons.1 hM
    have e : a = b := by
      have h1 : a ∈ b :: M := h.mem_iff.1 (by simp)
      have h2 : b ∈ a :: L := h.mem_iff.2 (by simp)
      rw [List.mem_cons] at h1 h2
      rcases h1 with rfl | h1
      · rfl
      · rcases h2 with e | h2
        · exact e.symm
        · have := lessK_trans (hl.1 b h2) (hm.1 a h1)
          rw [lessK_irr] at this
          cases this
    subst e
    rw [sorted_eq hl.2 hm.2 ((List.perm_cons a).1 h)]
end Go.Proofs.YtoihkbanmnagkaaGreat
