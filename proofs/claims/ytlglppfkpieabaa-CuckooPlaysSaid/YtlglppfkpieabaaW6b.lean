/-
  What package pick hands back: the place of a number, the two buckets of a prefix. No condition but that the words are words of 64 bits, and that the count of places is a whole number of 64 bits.
-/
import Derived.Test.YtlglppfkpieabaaM12d
import Derived.Shelf.Bits.Mul64
import Derived.Test.YtlglppfkpieabaaProg
import Derived.Test.YtlglppfkpieabaaW6
/-
  Plain mathematics of a stash, a row of routes in order: where a key lies in it, what it is with one more, with one turned, with one less. No condition but those that stand in each.
-/
set_option linter.unusedSimpArgs false
set_option linter.unusedVariables false
namespace Go.Proofs.Ytlglppfkpieabaa
open M

/-- How many, from the first on, are ahead of a key. -/
def bh : List Rt → Ky → Nat
  | [], _ => 0
  | a :: l, k => if lessK a.k k then bh l k + 1 else 0
theorem bh_le : ∀ (l : List Rt) (k : Ky), bh l k ≤ l.length
  | [], _ => Nat.le_refl _
  | a :: l, k => by
    unfold bh
    have := bh_le l k
    split <;> simp <;> omega
theorem bh_lt : ∀ (l : List Rt) (k : Ky) (i : Nat) (h : i < l.length), i < bh l k → lessK l[i].k k = true
  | a :: l, k, i, h, hb => by
    unfold bh at hb
    split at hb
    · rename_i ha
      cases i with
      | zero => simpa using ha
      | succ i => simpa using bh_lt l k i (by simpa using h) (by omega)
    · omega
theorem bh_ge : ∀ (l : List Rt) (k : Ky), Sorted l → ∀ (i : Nat) (h : i < l.length), bh l k ≤ i → lessK l[i].k k = false
  | a :: l, k, hs, i, h, hb => by
    have h1 := List.pairwise_cons.1 hs
    unfold bh at hb
    split at hb
    · cases i with
      | zero => omega
      | succ i => simpa using bh_ge l k h1.2 i (by simpa using h) (by omega)
    · rename_i ha
      rw [Bool.not_eq_true] at ha
      cases i with
      | zero => simpa using ha
      | succ i =>
        have hi : i < l.length := by simpa using h
        cases hc : lessK (l[i]'hi).k k with
        | false => simpa using hc
        | true =>
          have := lessK_trans (h1.1 _ (List.getElem_mem hi)) hc
          rw [ha] at this
          cases this
/-- The test of a search, in a row in order: is number i behind? -/
theorem bh_test (l : List Rt) (k : Ky) (hs : Sorted l) (i : Nat) (h : i < l.length) : (!lessK l[i].k k) = decide (bh l k ≤ i) := by
  by_cases hb : bh l k ≤ i
  · rw [bh_ge l k hs i h hb, decide_eq_true hb]; rfl
  · rw [bh_lt l k i h (by omega), decide_eq_false hb]; rfl
theorem findS_cons (a : Rt) (l : List Rt) (k : Ky) : findS (a :: l) k = if a.k = k then some 0 else (findS l k).map (· + 1) := by
  unfold findS
  rw [List.findIdx?_cons]
  by_cases h : a.k = k
  · rw [if_pos h, decide_eq_true h]; rfl
  · rw [if_neg h, decide_eq_false h]; rfl
theorem findS_bh : ∀ (l : List Rt) (k : Ky), Sorted l → (∀ i, findS l k = some i → i = bh l k ∧ ∃ h : i < l.length, l[i].k = k) ∧ (findS l k = none → ∀ (h : bh l k < l.length), l[bh l k].k ≠ k)
  | [], k, _ => ⟨fun i h => by simp [findS] at h, fun _ h => absurd h (by simp)⟩
  | a :: l, k, hs => by
    have h1 := List.pairwise_cons.1 hs
    have ih := findS_bh l k h1.2
    rw [findS_cons]
    by_cases hk : a.k = k
    · rw [if_pos hk]
      have hb : bh (a :: l) k = 0 := by unfold bh; rw [hk, lessK_irr]; rfl
      refine ⟨fun i h => ?_, fun h => by cases h⟩
      injection h with h
      subst h
      exact ⟨hb.symm, by simp, hk⟩
    · rw [if_neg hk]
      cases hl : lessK a.k k with
      | true =>
        have hb : bh (a :: l) k = bh l k + 1 := by
          show (if lessK a.k k = true then bh l k + 1 else 0) = _
          rw [hl]; rfl
        refine ⟨fun i h => ?_, fun h hlt => ?_⟩
        · rw [Option.map_eq_some_iff] at h
          obtain ⟨j, hj, rfl⟩ := h
          obtain ⟨e, hj2, hjk⟩ := ih.1 j hj
          exact ⟨by rw [hb, e], by simpa using hj2, by simpa using hjk⟩
        · rw [Option.map_eq_none_iff] at h
          have := ih.2 h (by rw [hb] at hlt; simpa using hlt)
          simpa [hb] using this
      | false =>
        have hb : bh (a :: l) k = 0 := by
          show (if lessK a.k k = true then bh l k + 1 else 0) = _
          rw [hl]; rfl
        have hr : lessK k a.k = true := by rw [lessK_total hk, hl]; rfl
        refine ⟨fun i h => ?_, fun h hlt => by simpa [hb] using hk⟩
        rw [Option.map_eq_some_iff] at h
        obtain ⟨j, hj, rfl⟩ := h
        obtain ⟨e, hj2, hjk⟩ := ih.1 j hj
        have := lessK_trans hr (h1.1 _ (List.getElem_mem hj2))
        rw [hjk, lessK_irr] at this
        cases this
theorem into_absent : ∀ (l : List Rt) (r : Rt), findS l r.k = none → intoS l r = l.take (bh l r.k) ++ r :: l.drop (bh l r.k)
  | [], r, _ => rfl
  | a :: l, r, h => by
    rw [findS_cons] at h
    have hk : a.k ≠ r.k := fun e => by rw [if_pos e] at h; cases h
    rw [if_neg hk, Option.map_eq_none_iff] at h
    unfold intoS bh
    split
    · rw [into_absent l r h]; rfl
    · rfl
theorem into_present : ∀ (l : List Rt) (r : Rt) (i : Nat), Sorted l → findS l r.k = some i → intoS l r = l.set i r
  | [], r, i, _, h => by simp [findS] at h
  | a :: l, r, i, hs, h => by
    have h1 := List.pairwise_cons.1 hs
    rw [findS_cons] at h
    by_cases hk : a.k = r.k
    · rw [if_pos hk] at h
      injection h with h
      subst h
      unfold intoS
      rw [hk, lessK_irr]
      simp
    · rw [if_neg hk, Option.map_eq_some_iff] at h
      obtain ⟨j, hj, rfl⟩ := h
      obtain ⟨-, hj2, hjk⟩ := (findS_bh l r.k h1.2).1 j hj
      have hl : lessK a.k r.k = true := by
        have := h1.1 _ (List.getElem_mem hj2)
        rwa [hjk] at this
      unfold intoS
      rw [hl, into_present l r j h1.2 hj]
      rfl
theorem outS_none {l : List Rt} {k : Ky} (h : findS l k = none) : outS l k = l := outS_self (findS_none (by rw [h]; rfl))
theorem out_present : ∀ (l : List Rt) (k : Ky) (i : Nat), Sorted l → findS l k = some i → outS l k = l.eraseIdx i
  | [], k, i, _, h => by simp [findS] at h
  | a :: l, k, i, hs, h => by
    have h1 := List.pairwise_cons.1 hs
    rw [findS_cons] at h
    by_cases hk : a.k = k
    · rw [if_pos hk] at h
      injection h with h
      subst h
      have : outS (a :: l) k = outS l k := by simp [outS, hk]
      rw [this, outS_self]
      · rfl
      · intro hm
        unfold keysR at hm
        rw [List.mem_map] at hm
        obtain ⟨q, hq, e⟩ := hm
        have := h1.1 q hq
        rw [hk, e, lessK_irr] at this
        cases this
    · rw [if_neg hk, Option.map_eq_some_iff] at h
      obtain ⟨j, hj, rfl⟩ := h
      have : outS (a :: l) k = a :: outS l k := by simp [outS, hk]
      rw [this, out_present l k j h1.2 hj]
      rfl
def stI (l : List Rt) (k : Ky) : Int :=
  match findS l k with
  | some i => (i : Int)
  | none => -1
theorem stI_some {l : List Rt} {k : Ky} {i : Nat} (h : findS l k = some i) : stI l k = i := by unfold stI; rw [h]
theorem stI_none {l : List Rt} {k : Ky} (h : findS l k = none) : stI l k = -1 := by unfold stI; rw [h]
end Go.Proofs.Ytlglppfkpieabaa
/-
  Plain mathematics of a put into a table, part by part: where the key is there; kick after kick. No condition but those that stand in each.
-/
set_option linter.unusedSimpArgs false
set_option linter.unusedVariables false
namespace Go.Proofs.Ytlglppfkpieabaa
open M

/-- Where the key is there: the table with the new value. -/
def rep (T : Tab) (r : Rt) : Option Tab :=
  if (getC (T.bk (T.x1 r.k)) r.k).isSome then some (T.set (T.x1 r.k) ((putC (T.bk (T.x1 r.k)) r.k r.v).getD (T.bk (T.x1 r.k))))
  else if (getC (T.bk (T.x2 r.k)) r.k).isSome then some (T.set (T.x2 r.k) ((putC (T.bk (T.x2 r.k)) r.k r.v).getD (T.bk (T.x2 r.k))))
  else if (findS T.st r.k).isSome then some { T with st := intoS T.st r }
  else none
/-- .. where it is not: the first bucket, the second, kicks. -/
def fresh (T : Tab) (r : Rt) : Tab × Option Rt :=
  match putC (T.bk (T.x1 r.k)) r.k r.v with
  | some C => (T.set (T.x1 r.k) C, none)
  | none =>
    match putC (T.bk (T.x2 r.k)) r.k r.v with
    | some C => (T.set (T.x2 r.k) C, none)
    | none => kicks 16 0 T (T.x2 r.k) r
theorem putIn_eq (T : Tab) (r : Rt) : putIn T r = match rep T r with | some T' => (T', none) | none => fresh T r := by
  unfold putIn rep fresh
  split
  · rfl
  · split
    · rfl
    · split <;> rfl
/-- All keys of a table's buckets are of words of 64 bits. -/
def GoodT (T : Tab) : Prop := ∀ i, i < T.B.length → ∀ q, some q ∈ T.bk i → q.k.good
theorem Inv.goodT {T : Tab} (H : Inv T) : GoodT T := fun _ hi q hq => H.good q (mem_bk hi hq)
theorem mem_set {C : List Pl} {j : Nat} {x : Pl} {q : Rt} (h : some q ∈ C.set j x) : some q ∈ C ∨ x = some q := (List.mem_or_eq_of_mem_set h).imp id Eq.symm
theorem mem_put {C : List Pl} {k : Ky} {v : Int} {q : Rt} (h : some q ∈ (putC C k v).getD C) : some q ∈ C ∨ q = ⟨k, v⟩ := by
  unfold putC at h
  split at h
  · exact (mem_set h).imp id (fun e => by injection e with e; exact e.symm)
  · split at h
    · exact (mem_set h).imp id (fun e => by injection e with e; exact e.symm)
    · exact .inl h
theorem GoodT.set {T : Tab} (H : GoodT T) {i : Nat} (hi : i < T.B.length) {C : List Pl} (h : ∀ q, some q ∈ C → q.k.good) : GoodT (T.set i C) := by
  intro k hk q hq
  rw [set_len] at hk
  rw [bk_set T i hi] at hq
  split at hq
  · exact h q hq
  · exact H k hk q hq
theorem GoodT.put {T : Tab} (H : GoodT T) {i : Nat} (hi : i < T.B.length) {r : Rt} (hr : r.k.good) : GoodT (T.set i ((putC (T.bk i) r.k r.v).getD (T.bk i))) :=
  H.set hi fun q hq => (mem_put hq).elim (H i hi q) (fun e => e ▸ hr)
theorem zero_good : (⟨0, 0, 0⟩ : Ky).good := ⟨W64.mk (by decide), W64.mk (by decide)⟩
theorem swapC_out {C : List Pl} {j : Nat} {k : Ky} {v : Int} : (∃ q, C.getD j none = some q ∧ swapC C (j : Int) k v = some (q, C.set j (some ⟨k, v⟩))) ∨ swapC C (j : Int) k v = none := by
  unfold swapC
  rw [if_pos (by omega), Int.toNat_natCast]
  cases h : C.getD j none with
  | none => exact .inr rfl
  | some q => exact .inl ⟨q, rfl, rfl⟩
theorem getD_mem {C : List Pl} {j : Nat} {q : Rt} (h : C.getD j none = some q) : some q ∈ C := by
  rw [List.getD_eq_getElem?_getD] at h
  cases e : C[j]? with
  | none => rw [e] at h; cases h
  | some x =>
    rw [e] at h
    simp only [Option.getD_some] at h
    subst h
    exact List.mem_of_getElem? e
theorem GoodT.kick {T : Tab} (H : GoodT T) {b : Nat} (hb : b < T.B.length) (i : Nat) {r : Rt} (hr : r.k.good) : (kOut T b i r).k.good ∧ GoodT (kTab T b i r) := by
  unfold kOut kTab
  rcases swapC_out (C := T.bk b) (j := i % 4) (k := r.k) (v := r.v) with ⟨q, hq, e⟩ | e
  · rw [e]
    exact ⟨H b hb q (getD_mem hq), H.set hb fun p hp => (mem_set hp).elim (H b hb p) (fun e => by injection e with e; exact e ▸ hr)⟩
  · rw [e]
    exact ⟨zero_good, H.set hb fun p hp => H b hb p hp⟩
theorem kTab_len (T : Tab) (b i : Nat) (r : Rt) : (kTab T b i r).B.length = T.B.length := set_len _ _ _
theorem kTab_s (T : Tab) (b i : Nat) (r : Rt) : (kTab T b i r).s = T.s := rfl
theorem kTab_st (T : Tab) (b i : Nat) (r : Rt) : (kTab T b i r).st = T.st := rfl
theorem kicks_zero (i : Nat) (T : Tab) (b : Nat) (r : Rt) : kicks 0 i T b r = (T, some r) := rfl
theorem kicks_in {f i : Nat} {T : Tab} {b : Nat} {r : Rt} {C : List Pl} (h : putC ((kTab T b i r).bk (kNew T b i r)) (kOut T b i r).k (kOut T b i r).v = some C) : kicks (f + 1) i T b r = ((kTab T b i r).set (kNew T b i r) C, none) := by
  show (match putC ((kTab T b i r).bk (kNew T b i r)) (kOut T b i r).k (kOut T b i r).v with | some C => _ | none => _) = _
  rw [h]
theorem kicks_on {f i : Nat} {T : Tab} {b : Nat} {r : Rt} (h : putC ((kTab T b i r).bk (kNew T b i r)) (kOut T b i r).k (kOut T b i r).v = none) : kicks (f + 1) i T b r = kicks f (i + 1) (kTab T b i r) (kNew T b i r) (kOut T b i r) := by
  show (match putC ((kTab T b i r).bk (kNew T b i r)) (kOut T b i r).k (kOut T b i r).v with | some C => _ | none => _) = _
  rw [h]
end Go.Proofs.Ytlglppfkpieabaa
/-
  Plain mathematics of a put, with how many keys there are. No condition but those that stand in each.
-/
set_option linter.unusedSimpArgs false
set_option linter.unusedVariables false
namespace Go.Proofs.Ytlglppfkpieabaa
open M

theorem rep_keys {T : Tab} {r : Rt} (H : Inv T) : (rep T r = none ↔ r.k ∉ keysR (contT T)) := by
  have hp := @absent T H r.k
  unfold rep
  constructor
  · intro h
    split at h
    · cases h
    · rename_i h1
      split at h
      · cases h
      · rename_i h2
        split at h
        · cases h
        · rename_i h3
          exact hp (by simpa using h1) (by simpa using h2) (by simpa using h3)
  · intro h
    have g1 : ∀ b, b < T.B.length → ¬ (getC (T.bk b) r.k).isSome = true := by
      intro b hb e
      obtain ⟨i, hi, -, q, hq, hqk, -⟩ := getC_some e
      exact h (hqk ▸ mem_keys (mem_bk hb (hq ▸ List.getElem_mem hi)))
    rw [if_neg (g1 _ (H.x1_lt r.k)), if_neg (g1 _ (H.x2_lt r.k)), if_neg]
    intro e
    have := findS_some e
    unfold keysR contT at *
    rw [List.map_append] at h
    exact h (List.mem_append_right _ this)
theorem stay_rep {T : Tab} {r : Rt} {T' : Tab} (h : rep T r = some T') : stay T r = (T', false) := by
  unfold stay
  rw [putIn_eq, h]
theorem stay_in {T : Tab} {r : Rt} (h : rep T r = none) (h2 : (fresh T r).2 = none) : stay T r = ((fresh T r).1, false) := by
  unfold stay
  rw [putIn_eq, h]
  simp only [h2]
theorem stay_left {T : Tab} {r q : Rt} (h : rep T r = none) (h2 : (fresh T r).2 = some q) : stay T r = ({ (fresh T r).1 with st := intoS (fresh T r).1.st q }, true) := by
  unfold stay
  rw [putIn_eq, h]
  simp only [h2]
theorem fresh_putIn {T : Tab} {r : Rt} (h : rep T r = none) : putIn T r = fresh T r := by rw [putIn_eq, h]
theorem out_len {L : List Rt} {r : Rt} (hn : (keysR L).Nodup) (h : r.k ∈ keysR L) : (r :: outS L r.k).length = L.length := by
  unfold keysR at h
  rw [List.mem_map] at h
  obtain ⟨q, hq, e⟩ := h
  have := (split_key hn hq).length_eq
  rw [e] at this
  rw [this]
  rfl
/-- How many there are behind a put. -/
theorem stay_count_old {T : Tab} {r : Rt} (H : Inv T) (hr : r.k.good) (h : rep T r ≠ none) : (contT (stay T r).1).length = (contT T).length := by
  have := (stay_ok H r hr).all.length_eq
  rw [this]
  exact out_len H.keys (Classical.byContradiction fun hn => h ((rep_keys H).2 hn))
theorem stay_count_new {T : Tab} {r : Rt} (H : Inv T) (hr : r.k.good) (h : rep T r = none) : (contT (stay T r).1).length = (contT T).length + 1 := by
  have := (stay_ok H r hr).all.length_eq
  rw [this, outS_self ((rep_keys H).1 h)]
  rfl
theorem st_le (T : Tab) : T.st.length ≤ (contT T).length := by unfold contT; rw [List.length_append]; omega
theorem fresh_like {T : Tab} {r : Rt} (H : Inv T) (hr : r.k.good) (h : rep T r = none) : Inv (fresh T r).1 ∧ (fresh T r).1.B.length = T.B.length ∧ (fresh T r).1.st.length = T.st.length ∧ ∀ q, (fresh T r).2 = some q → q.k.good ∧ q.k ∉ keysR (contT (fresh T r).1) := by
  have := putIn_ok H r hr
  rw [fresh_putIn h] at this
  exact ⟨this.inv, this.like.n, this.st, fun q hq => ⟨(this.left q hq).1, (this.left q hq).2.1⟩⟩
theorem find_absent {T : Tab} {k : Ky} (h : k ∉ keysR (contT T)) : findS T.st k = none := by
  cases e : findS T.st k with
  | none => rfl
  | some i =>
    have := findS_some (by rw [e]; rfl : (findS T.st k).isSome = true)
    exact absurd (by unfold contT keysR at *; rw [List.map_append]; exact List.mem_append_right _ this) h
theorem putF_zero (T : Tab) (r : Rt) : putF 0 T r = (stay T r).1 := rfl
theorem putF_stay (d : Nat) {T : Tab} {r : Rt} (h : grows (stay T r) = false) : putF d T r = (stay T r).1 := by
  cases d with
  | zero => rfl
  | succ d => unfold putF; rw [h]; rfl
theorem putF_grow (d : Nat) {T : Tab} {r : Rt} (h : grows (stay T r) = true) : putF (d + 1) T r = (contT (stay T r).1).foldl (putF d) (grown (stay T r).1) := by
  show (if grows (stay T r) = true then _ else _) = _
  rw [if_pos h]
end Go.Proofs.Ytlglppfkpieabaa
/-
  Plain mathematics of a growth: so many keys laid anew. No condition but those that stand in each.
-/
set_option linter.unusedSimpArgs false
set_option linter.unusedVariables false
namespace Go.Proofs.Ytlglppfkpieabaa
open M

/-- The first keys of a table, laid into the grown one. -/
theorem fold_pre {T : Tab} (H : Inv T) {f : Tab → Rt → Tab} (hf : ∀ T r, Inv T → r.k.good → GrowOk T r (f T r)) (j : Nat) (hj : j ≤ (contT T).length) :
    Inv (((contT T).take j).foldl f (grown T)) ∧ (contT (((contT T).take j).foldl f (grown T))).length = j ∧ (grown T).B.length ≤ (((contT T).take j).foldl f (grown T)).B.length := by
  have hG := grown_inv H
  have he : contT (grown T) = [] := empty_cont _ _
  have h := fold_ok hf ((contT T).take j) (grown T) hG.1 (fun r hr => H.good r (List.mem_of_mem_take hr)) (by
    rw [he, List.append_nil]
    have := H.keys
    unfold keysR at *
    rw [List.map_take]
    exact this.sublist (List.take_sublist _ _))
  refine ⟨h.1, ?_, h.2.2⟩
  have hl := h.2.1.length_eq
  rw [he, List.append_nil, List.length_take] at hl
  omega
theorem fold_snoc {α β : Type} (f : β → α → β) (L : List α) (x : β) (j : Nat) (h : j < L.length) : (L.take (j + 1)).foldl f x = f ((L.take j).foldl f x) L[j] := by
  rw [List.take_succ_eq_append_getElem h, List.foldl_append]
  rfl
end Go.Proofs.Ytlglppfkpieabaa
/-
  What the library's functions hand back, by the shelf's own theorems at this program's numbers. No condition but those that stand in each.
-/
namespace Go.Proofs
open Go.Shelf
def Try.lays264_ren : Go.Shelf.Ren := ⟨fun | 264 => 95 | n => n, fun | 53 => 22 | 46 => 58 | n => n, fun | n => n⟩
theorem Try.lays264 : Go.Proofs.Lays.n264 Try.prog Try.lays264_ren := {
  mixed := by kernel_rfl
  f264 := Try.func95.trans (congrArg some (by kernel_rfl))
  t46 := Try.underlying58
  a46 := Try.isAgg58
  z46 := Try.sizeOf58
  v46 := Try.zeroValue58
  t53 := Try.underlying22
  a53 := Try.isAgg22
  z53 := Try.sizeOf22
  v53 := Try.zeroValue22 }
open Go.RowKit Go.Lib in
theorem Try.bits_Mul64 (x y : Nat) (hx : x < 18446744073709551616) (hy : y < 18446744073709551616) (w : World) :
    Calls Try.prog 95 #[.int .u64 x, .int .u64 y] w fun e w' => e = .returned (.tuple #[.int .u64 ((x * y / 18446744073709551616 : Nat) : Int), .int .u64 ((x * y % 18446744073709551616 : Nat) : Int)]) ∧ w' = w := Any.bits_Mul64 Try.lays264 x y hx hy w
end Go.Proofs
/-
  What package pick hands back: the place of a number, the two buckets of a prefix. No condition but that the words are words of 64 bits, and that the count of places is a whole number of 64 bits.
-/
set_option linter.unusedSimpArgs false
set_option linter.unusedVariables false
namespace Go.Proofs.Ytlglppfkpieabaa
open Go.RowKit Go.Sort M

theorem mul64_any (x y : Nat) (hx : W64 x) (hy : W64 y) : Gives Try.prog 95 #[.int .u64 x, .int .u64 y] (.tuple #[.int .u64 (redN x y : Nat), .int .u64 (x * y % 18446744073709551616 : Nat)]) :=
  Gives.still fun w => (Try.bits_Mul64 x y hx.lt hy.lt w).mono fun e w' ⟨he, hw⟩ => ⟨he, hw.symm⟩

set_option maxHeartbeats 1000000 in
theorem red_any (x : Nat) (m : Int) (hx : W64 x) (hm : m ≤ 9223372036854775807) :
    Gives Try.prog 74 #[.int .u64 x, .int .i64 m] (.int .i64 (redI x m)) := by
  intro w
  by_cases h : m < 1
  · rw [redI_none h]
    go_enter Try.func74, Try.ntmps74
    go_wp2
    go_ret
    exact ⟨rfl, by go_grown⟩
  · obtain ⟨k, rfl⟩ := Int.eq_ofNat_of_zero_le (show 0 ≤ m by omega)
    rw [redI_nat x k (by omega)]
    have hlt := redN_lt x k hx (by omega)
    have HM := Lib.hid (mul64_any x k hx (W64.mk (by omega)))
    have HL := Lib.hid (IntWalk.wrap64_in (redN x k : Nat) (by omega))
    clear hlt
    go_enter Try.func74, Try.ntmps74
    go_wp2_with fail
    refine (HM.out _).mono ?_
    rintro e0 w0 ⟨rfl, hb0⟩
    have hw0 : Below w.heap.size w w0 := by
      refine Below.trans ?_ (hb0.mono ?_)
      · go_grown
      · go_size
    go_wp2
    go_ret
    exact ⟨ret_num HL.out, hw0⟩
theorem mixx_any (h i : Nat) (hh : W64 h) (hi : W64 i) : Gives Try.prog 65 #[.int .u64 (bits BinOp.xor IntKind.u64 (h : Int) (i : Int))] (.int .u64 (mixN (h ^^^ i) : Nat)) := by
  have := mix_any (bits BinOp.xor IntKind.u64 (h : Int) (i : Int))
  rw [xor_word h i hh hi, mixZ_nat _ (Nat.xor_lt_two_pow hh hi)] at this
  rwa [xor_word h i hh hi]
set_option maxHeartbeats 1000000 in
theorem buck_any (s h l : Nat) (n m : Int) (hs : W64 s) (hh : W64 h) (hl : W64 l) (hm : m ≤ 9223372036854775807) :
    Gives Try.prog 52 #[.int .u64 s, .agg #[.int .u64 h, .int .u64 l, .int .i64 n], .int .i64 m] (.tuple #[.int .i64 (buckI (hashN s h l (wordZ n)) 1 m), .int .i64 (buckI (hashN s h l (wordZ n)) 2 m)]) := by
  intro w
  have HH := Lib.hid (hash_any s h l n hs hh hl)
  have hw : W64 (hashN s h l (wordZ n)) := mixN_w _
  generalize hashN s h l (wordZ n) = v at HH hw ⊢
  have HM1 := Lib.hid (mixx_any v 1 hw (W64.mk (by omega)))
  have HM2 := Lib.hid (mixx_any v 2 hw (W64.mk (by omega)))
  have HR1 := Lib.hid (red_any (mixN (v ^^^ 1)) m (mixN_w _) hm)
  have HR2 := Lib.hid (red_any (mixN (v ^^^ 2)) m (mixN_w _) hm)
  go_enter Try.func52, Try.ntmps52
  go_wp2_with fail
  refine (HH.out _).mono ?_
  rintro e0 w0 ⟨rfl, hb0⟩
  have hw0 : Below w.heap.size w w0 := by
    refine Below.trans ?_ (hb0.mono ?_)
    · go_grown
    · go_size
  go_wp2_with fail
  refine (HM1.out _).mono ?_
  rintro e w1 ⟨rfl, hb1⟩
  have hw1 := hw0.trans (hb1.mono hw0.size)
  go_wp2_with fail
  refine (HR1.out _).mono ?_
  rintro e w2 ⟨rfl, hb2⟩
  have hw2 := hw1.trans (hb2.mono hw1.size)
  go_wp2_with fail
  refine (HM2.out _).mono ?_
  rintro e w3 ⟨rfl, hb3⟩
  have hw3 := hw2.trans (hb3.mono hw2.size)
  go_wp2_with fail
  refine (HR2.out _).mono ?_
  rintro e w4 ⟨rfl, hb4⟩
  have hw4 := hw3.trans (hb4.mono hw3.size)
  go_wp2
  go_ret2
  exact ⟨rfl, hw4⟩
end Go.Proofs.Ytlglppfkpieabaa
