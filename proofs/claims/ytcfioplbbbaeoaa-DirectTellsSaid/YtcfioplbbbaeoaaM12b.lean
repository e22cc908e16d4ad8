/-
  Plain mathematics of tables of buckets: what a place more, or less, makes of all that a table has. No condition but those that stand in each.
-/
import Derived.Test.YtcfioplbbbaeoaaM11
import Derived.Test.YtcfioplbbbaeoaaW6
/-
  Plain mathematics of tables of buckets: where a key lies, what is put, deleted, found, listed; what a table has, whatever was put. No condition but those that stand in each.
-/
set_option linter.unusedSimpArgs false
set_option linter.unusedVariables false
namespace Go.Proofs.Ytcfioplbbbaeoaa
open M

def b1 (s : Nat) (k : Ky) (n : Nat) : Nat := (buckI (hashN s k.h k.l (wordZ k.n)) 1 n).toNat
def b2 (s : Nat) (k : Ky) (n : Nat) : Nat := (buckI (hashN s k.h k.l (wordZ k.n)) 2 n).toNat
theorem buck_nat (h i n : Nat) (hn : 1 ≤ n) : ∃ j : Nat, buckI h i n = (j : Int) ∧ j < n := by
  have h0 := redI_nonneg (mixN (h ^^^ i)) (n : Int)
  have h1 := redI_lt (x := mixN (h ^^^ i)) (m := (n : Int)) (mixN_w _) (by omega)
  exact ⟨(buckI h i n).toNat, by unfold buckI; omega, by unfold buckI; omega⟩
theorem b1_lt {s n : Nat} {k : Ky} (hn : 1 ≤ n) : b1 s k n < n := by
  obtain ⟨j, h, hl⟩ := buck_nat (hashN s k.h k.l (wordZ k.n)) 1 n hn
  unfold b1
  rw [h]
  simpa using hl
theorem b2_lt {s n : Nat} {k : Ky} (hn : 1 ≤ n) : b2 s k n < n := by
  obtain ⟨j, h, hl⟩ := buck_nat (hashN s k.h k.l (wordZ k.n)) 2 n hn
  unfold b2
  rw [h]
  simpa using hl
theorem b1_int {s n : Nat} {k : Ky} (hn : 1 ≤ n) : buckI (hashN s k.h k.l (wordZ k.n)) 1 n = (b1 s k n : Int) := by
  obtain ⟨j, h, hl⟩ := buck_nat (hashN s k.h k.l (wordZ k.n)) 1 n hn
  unfold b1
  rw [h]
  simp
theorem b2_int {s n : Nat} {k : Ky} (hn : 1 ≤ n) : buckI (hashN s k.h k.l (wordZ k.n)) 2 n = (b2 s k n : Int) := by
  obtain ⟨j, h, hl⟩ := buck_nat (hashN s k.h k.l (wordZ k.n)) 2 n hn
  unfold b2
  rw [h]
  simp
/-- A table: its seed, its buckets, its stash. -/
structure Tab where
  s : Nat
  B : List (List Pl)
  st : List Rt
def Tab.x1 (T : Tab) (k : Ky) : Nat := b1 T.s k T.B.length
def Tab.x2 (T : Tab) (k : Ky) : Nat := b2 T.s k T.B.length
def Tab.other (T : Tab) (k : Ky) (b : Nat) : Nat := if b = T.x1 k then T.x2 k else T.x1 k
def Tab.bk (T : Tab) (i : Nat) : List Pl := T.B.getD i []
def Tab.set (T : Tab) (i : Nat) (C : List Pl) : Tab := { T with B := T.B.set i C }
def lessK (a b : Ky) : Bool := lessB a.h a.l a.n b.h b.l b.n
/-- A route comes into a row, in its place; of one key it is instead of the other one. -/
def intoS : List Rt → Rt → List Rt
  | [], r => [r]
  | a :: l, r => if lessK a.k r.k then a :: intoS l r else if a.k = r.k then r :: l else r :: a :: l
def outS (l : List Rt) (k : Ky) : List Rt := l.filter fun r => decide (r.k ≠ k)
def findS (l : List Rt) (k : Ky) : Option Nat := l.findIdx? fun r => decide (r.k = k)
def contT (T : Tab) : List Rt := T.B.flatMap allC ++ T.st
/-- What a swap brings out, and the table behind it. -/
def kOut (T : Tab) (b i : Nat) (r : Rt) : Rt := ((swapC (T.bk b) ((i % 4 : Nat) : Int) r.k r.v).map Prod.fst).getD ⟨⟨0, 0, 0⟩, 0⟩
def kTab (T : Tab) (b i : Nat) (r : Rt) : Tab := T.set b (((swapC (T.bk b) ((i % 4 : Nat) : Int) r.k r.v).map Prod.snd).getD (T.bk b))
def kNew (T : Tab) (b i : Nat) (r : Rt) : Nat := (kTab T b i r).other (kOut T b i r).k b
/-- So many kicks from number i on, from bucket b on: the table behind them, and who is left. -/
def kicks : Nat → Nat → Tab → Nat → Rt → Tab × Option Rt
  | 0, _, T, _, r => (T, some r)
  | f + 1, i, T, b, r =>
    match putC ((kTab T b i r).bk (kNew T b i r)) (kOut T b i r).k (kOut T b i r).v with
    | some C => ((kTab T b i r).set (kNew T b i r) C, none)
    | none => kicks f (i + 1) (kTab T b i r) (kNew T b i r) (kOut T b i r)
/-- A put, but for the stash's new one: the table behind it, and who is left. -/
def putIn (T : Tab) (r : Rt) : Tab × Option Rt :=
  if (getC (T.bk (T.x1 r.k)) r.k).isSome then (T.set (T.x1 r.k) ((putC (T.bk (T.x1 r.k)) r.k r.v).getD (T.bk (T.x1 r.k))), none)
  else if (getC (T.bk (T.x2 r.k)) r.k).isSome then (T.set (T.x2 r.k) ((putC (T.bk (T.x2 r.k)) r.k r.v).getD (T.bk (T.x2 r.k))), none)
  else if (findS T.st r.k).isSome then ({ T with st := intoS T.st r }, none)
  else
    match putC (T.bk (T.x1 r.k)) r.k r.v with
    | some C => (T.set (T.x1 r.k) C, none)
    | none =>
      match putC (T.bk (T.x2 r.k)) r.k r.v with
      | some C => (T.set (T.x2 r.k) C, none)
      | none => kicks 16 0 T (T.x2 r.k) r
/-- .. the table, with who is left in the stash; is there anyone? -/
def stay (T : Tab) (r : Rt) : Tab × Bool :=
  match (putIn T r).2 with
  | none => ((putIn T r).1, false)
  | some q => ({ (putIn T r).1 with st := intoS (putIn T r).1.st q }, true)
def emptyT (s n : Nat) : Tab := ⟨s, List.replicate n [none, none, none, none], []⟩
def grows (p : Tab × Bool) : Bool := p.2 && (decide (8 < p.1.st.length) && decide (p.1.B.length < 65536))
def grown (T : Tab) : Tab := emptyT (mixN T.s) (min (2 * T.B.length) 65536)
def putF : Nat → Tab → Rt → Tab
  | 0, T, r => (stay T r).1
  | d + 1, T, r => if grows (stay T r) then (contT (stay T r).1).foldl (putF d) (grown (stay T r).1) else (stay T r).1
def getT (T : Tab) (k : Ky) : Option Int :=
  match getC (T.bk (T.x1 k)) k with
  | some v => some v
  | none =>
    match getC (T.bk (T.x2 k)) k with
    | some v => some v
    | none => (T.st.find? fun r => decide (r.k = k)).map Rt.v
def readT (T : Tab) (k : Ky) : List Int := if (getC (T.bk (T.x1 k)) k).isSome then [(T.x1 k : Int)] else [(T.x1 k : Int), (T.x2 k : Int)]
def delT (T : Tab) (k : Ky) : Tab × Bool :=
  match takeC (T.bk (T.x1 k)) k with
  | some C => (T.set (T.x1 k) C, true)
  | none =>
    match takeC (T.bk (T.x2 k)) k with
    | some C => (T.set (T.x2 k) C, true)
    | none => ({ T with st := outS T.st k }, decide ((outS T.st k).length < T.st.length))
def sortR (l : List Rt) : List Rt := l.foldl intoS []
def allT (T : Tab) : List Rt := sortR (contT T)
end Go.Proofs.Ytcfioplbbbaeoaa
/-
  Plain mathematics of tables of buckets: what a place more, or less, makes of all that a table has. No condition but those that stand in each.
-/
set_option linter.unusedSimpArgs false
set_option linter.unusedVariables false
namespace Go.Proofs.Ytcfioplbbbaeoaa
open M

def keysR (L : List Rt) : List Ky := L.map Rt.k
theorem keysR_perm {L M : List Rt} (h : L.Perm M) : (keysR L).Perm (keysR M) := h.map _
theorem allC_cons (x : Pl) (C : List Pl) : allC (x :: C) = x.toList ++ allC C := by
  cases x <;> rfl
theorem set_perm : ∀ (C : List Pl) (i : Nat) (hi : i < C.length) (x : Pl), (C[i].toList ++ allC (C.set i x)).Perm (x.toList ++ allC C)
  | y :: C, 0, _, x => by
    show (y.toList ++ allC (x :: C)).Perm (x.toList ++ allC (y :: C))
    rw [allC_cons, allC_cons]
    exact List.perm_append_comm_assoc _ _ _
  | y :: C, i + 1, hi, x => by
    have ih := set_perm C i (by simpa using hi) x
    show ((C[i]'(by simpa using hi)).toList ++ allC (y :: C.set i x)).Perm (x.toList ++ allC (y :: C))
    rw [allC_cons, allC_cons, List.perm_iff_count]
    intro a
    have := ih.count_eq a
    simp only [List.count_append] at *
    omega
theorem setB_perm : ∀ (B : List (List Pl)) (i : Nat) (hi : i < B.length) (C : List Pl), (allC B[i] ++ (B.set i C).flatMap allC).Perm (allC C ++ B.flatMap allC)
  | D :: B, 0, _, C => by
    show (allC D ++ (C :: B).flatMap allC).Perm (allC C ++ (D :: B).flatMap allC)
    rw [List.flatMap_cons, List.flatMap_cons]
    exact List.perm_append_comm_assoc _ _ _
  | D :: B, i + 1, hi, C => by
    have ih := setB_perm B i (by simpa using hi) C
    show (allC (B[i]'(by simpa using hi)) ++ (D :: B.set i C).flatMap allC).Perm (allC C ++ (D :: B).flatMap allC)
    rw [List.flatMap_cons, List.flatMap_cons, List.perm_iff_count]
    intro a
    have := ih.count_eq a
    simp only [List.count_append] at *
    omega
theorem bk_at (T : Tab) (i : Nat) (hi : i < T.B.length) : T.bk i = T.B[i] := by
  unfold Tab.bk
  rw [List.getD_eq_getElem?_getD, List.getElem?_eq_getElem hi]
  rfl
theorem cont_set (T : Tab) (i : Nat) (hi : i < T.B.length) (j : Nat) (hj : j < (T.bk i).length) (x : Pl) : ((T.bk i)[j].toList ++ contT (T.set i ((T.bk i).set j x))).Perm (x.toList ++ contT T) := by
  have h1 := setB_perm T.B i hi ((T.bk i).set j x)
  have h2 := set_perm (T.bk i) j hj x
  rw [← bk_at T i hi] at h1
  rw [List.perm_iff_count]
  intro a
  have e1 := h1.count_eq a
  have e2 := h2.count_eq a
  unfold contT Tab.set
  simp only [List.count_append] at *
  omega
theorem split_key : ∀ {L : List Rt} {r : Rt}, (keysR L).Nodup → r ∈ L → L.Perm (r :: outS L r.k)
  | a :: L, r, hn, hm => by
    unfold keysR at hn
    rw [List.map_cons, List.nodup_cons] at hn
    have hin : ∀ q ∈ L, q.k ≠ a.k := fun q hq e => hn.1 (e ▸ List.mem_map_of_mem hq)
    rw [List.mem_cons] at hm
    rcases hm with rfl | hm
    · have : outS (r :: L) r.k = L := by
        unfold outS
        rw [List.filter_cons_of_neg (by simp), List.filter_eq_self.2 (fun q hq => by simpa using hin q hq)]
      rw [this]
    · have ne : a.k ≠ r.k := fun e => hin r hm e.symm
      have : outS (a :: L) r.k = a :: outS L r.k := by
        unfold outS
        rw [List.filter_cons_of_pos (by simpa using ne)]
      rw [this]
      exact ((split_key hn.2 hm).cons a).trans (List.Perm.swap _ _ _)
theorem outS_perm {L M : List Rt} (h : L.Perm M) (k : Ky) : (outS L k).Perm (outS M k) := h.filter _
theorem outS_self {L : List Rt} {k : Ky} (h : k ∉ keysR L) : outS L k = L := by
  unfold outS
  refine List.filter_eq_self.2 fun q hq => ?_
  simp only [decide_eq_true_eq]
  intro e
  exact h (List.mem_map.2 ⟨q, hq, e⟩)
theorem mem_outS {L : List Rt} {k : Ky} {q : Rt} : q ∈ outS L k ↔ q ∈ L ∧ q.k ≠ k := by simp [outS]
theorem mem_keys {L : List Rt} {q : Rt} (h : q ∈ L) : q.k ∈ keysR L := List.mem_map_of_mem h
/-! ### The order of keys -/
theorem lessK_irr (a : Ky) : lessK a a = false := lessB_self _ _ _
theorem lessK_trans {a b c : Ky} (h : lessK a b = true) (g : lessK b c = true) : lessK a c = true := lessB_trans _ _ _ _ _ _ _ _ _ h g
theorem lessK_total {a b : Ky} (h : a ≠ b) : lessK b a = !lessK a b := lessB_total _ _ _ _ _ _ (fun ⟨e1, e2, e3⟩ => h (by cases a; cases b; simp_all))
def Sorted (L : List Rt) : Prop := L.Pairwise fun a b => lessK a.k b.k = true
theorem Sorted.nodup {L : List Rt} (h : Sorted L) : (keysR L).Nodup := by
  unfold keysR List.Nodup
  rw [List.pairwise_map]
  refine List.Pairwise.imp (fun {a b} hab e => ?_) h
  rw [e, lessK_irr] at hab
  cases hab
theorem intoS_perm : ∀ {L : List Rt} (r : Rt), Sorted L → (intoS L r).Perm (r :: outS L r.k)
  | [], r, _ => by simp [intoS, outS]
  | a :: L, r, h => by
    have h1 := List.pairwise_cons.1 h
    unfold intoS
    split
    · rename_i hl
      have ne : a.k ≠ r.k := fun e => by rw [e, lessK_irr] at hl; cases hl
      have : outS (a :: L) r.k = a :: outS L r.k := by
        unfold outS
        rw [List.filter_cons_of_pos (by simpa using ne)]
      rw [this]
      exact ((intoS_perm r h1.2).cons a).trans (List.Perm.swap _ _ _)
    · rename_i hl
      split
      · rename_i he
        have : outS (a :: L) r.k = L := by
          unfold outS
          rw [List.filter_cons_of_neg (by simp [he])]
          refine List.filter_eq_self.2 fun q hq => ?_
          simp only [decide_eq_true_eq]
          intro e
          have := h1.1 q hq
          rw [e, he, lessK_irr] at this
          cases this
        rw [this]
      · rename_i he
        rw [outS_self]
        intro hm
        unfold keysR at hm
        rw [List.mem_map] at hm
        obtain ⟨q, hq, e⟩ := hm
        rw [List.mem_cons] at hq
        rcases hq with rfl | hq
        · exact he e
        · have := h1.1 q hq
          rw [e] at this
          exact hl this
theorem intoS_mem {L : List Rt} {r q : Rt} (h : Sorted L) (hq : q ∈ intoS L r) : q = r ∨ q ∈ L := by
  have := (intoS_perm r h).mem_iff.1 hq
  rw [List.mem_cons] at this
  exact this.imp id (fun h => (mem_outS.1 h).1)
theorem intoS_sorted : ∀ {L : List Rt} (r : Rt), Sorted L → Sorted (intoS L r)
  | [], r, _ => by simp [intoS, Sorted]
  | a :: L, r, h => by
    have h1 := List.pairwise_cons.1 h
    unfold intoS
    split
    · rename_i hl
      refine List.pairwise_cons.2 ⟨fun q hq => ?_, intoS_sorted r h1.2⟩
      rcases intoS_mem h1.2 hq with rfl | hq
      · exact hl
      · exact h1.1 q hq
    · rename_i hl
      split
      · rename_i he
        exact List.pairwise_cons.2 ⟨fun q hq => by rw [← he]; exact h1.1 q hq, h1.2⟩
      · rename_i he
        have hr : lessK r.k a.k = true := by
          rw [lessK_total he]
          simpa using hl
        refine List.pairwise_cons.2 ⟨fun q hq => ?_, h⟩
        rw [List.mem_cons] at hq
        rcases hq with rfl | hq
        · exact hr
        · exact lessK_trans hr (h1.1 q hq)
theorem outS_sorted {L : List Rt} (k : Ky) (h : Sorted L) : Sorted (outS L k) := List.Pairwise.filter _ h
/-- Two rows in order that have the same are one. -/
theorem sorted_eq : ∀ {L M : List Rt}, Sorted L → Sorted M → L.Perm M → L = M
  | [], M, _, _, h => by rw [List.nil_perm.1 h]
  | a :: L, [], _, _, h => absurd h.length_eq (by simp)
  | a :: L, b :: M, hL, hM, h => by
    have hl := List.pairwise_cons.1 hL
    have hm := List.pairwise_cons.1 hM
    have e : a = b := by
      have h1 : a ∈ b :: M := h.mem_iff.1 (by simp)
      have h2 : b ∈ a :: L := h.mem_iff.2 (by simp)
      rw [List.mem_cons] at h1 h2
      rcases h1 with rfl | h1
      · rfl
      · rcases h2 with e | h2
        · exact e.symm
        · have := lessK_trans (hl.1 b h2) (hm.1 a h1)
          rw [lessK_irr] at this
          cases this
    subst e
    rw [sorted_eq hl.2 hm.2 ((List.perm_cons a).1 h)]
theorem sortR_fold : ∀ (l M : List Rt), Sorted M → (keysR (l ++ M)).Nodup → Sorted (l.foldl intoS M) ∧ (l.foldl intoS M).Perm (l ++ M)
  | [], M, h, _ => ⟨h, List.Perm.refl _⟩
  | a :: l, M, h, hn => by
    have hp := intoS_perm a h
    have hk : a.k ∉ keysR (l ++ M) := by
      unfold keysR at *
      rw [List.cons_append, List.map_cons, List.nodup_cons] at hn
      exact hn.1
    have hkM : a.k ∉ keysR M := fun hm => hk (by unfold keysR at *; rw [List.map_append]; exact List.mem_append_right _ hm)
    rw [outS_self hkM] at hp
    have hpp : (l ++ intoS M a).Perm (a :: l ++ M) := (hp.append_left l).trans List.perm_middle
    have ih := sortR_fold l (intoS M a) (intoS_sorted a h) ((keysR_perm hpp).nodup_iff.2 hn)
    exact ⟨ih.1, ih.2.trans hpp⟩
theorem sortR_ok (l : List Rt) (h : (keysR l).Nodup) : Sorted (sortR l) ∧ (sortR l).Perm l := by
  have := sortR_fold l [] List.Pairwise.nil (by rwa [List.append_nil])
  rwa [List.append_nil] at this
end Go.Proofs.Ytcfioplbbbaeoaa
