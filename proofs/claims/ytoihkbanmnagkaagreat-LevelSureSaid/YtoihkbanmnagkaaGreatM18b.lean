/-
  Plain mathematics of what a level holds, continued: an address has a key of a level just if it has a route of its lengths, and then with the hop of the longest. No condition but those that stand in each.
-/
import Derived.Test.YtoihkbanmnagkaaGreatM12e
import Derived.Test.YtoihkbanmnagkaaGreatM12c
import Derived.Sort.Statements
import Derived.Sort.WalkA
import Derived.Sort.LotA
import Derived.Test.YtoihkbanmnagkaaGreatM7b
import Derived.Test.YtoihkbanmnagkaaGreatW6c
/-
  Plain mathematics of a put into a table, part by part: where the key is there; kick after kick. No condition but those that stand in each.
-/
set_option linter.unusedSimpArgs false
set_option linter.unusedVariables false
namespace Go.Proofs.YtoihkbanmnagkaaGreat
open M

def rep12 (T : Tab) (r : Rt) : Option Tab :=
  if (getC (T.bk (T.x1 r.k)) r.k).isSome then some (T.set (T.x1 r.k) ((putC (T.bk (T.x1 r.k)) r.k r.v).getD (T.bk (T.x1 r.k))))
  else if (getC (T.bk (T.x2 r.k)) r.k).isSome then some (T.set (T.x2 r.k) ((putC (T.bk (T.x2 r.k)) r.k r.v).getD (T.bk (T.x2 r.k))))
  else if (findS T.st r.k).isSome then some { T with st := intoS T.st r }
  else none
def fresh (T : Tab) (r : Rt) : Tab × Option Rt :=
  match putC (T.bk (T.x1 r.k)) r.k r.v with
  | some C => (T.set (T.x1 r.k) C, none)
  | none =>
    match putC (T.bk (T.x2 r.k)) r.k r.v with
    | some C => (T.set (T.x2 r.k) C, none)
    | none => kicks 16 0 T (T.x2 r.k) r
theorem putIn_eq (T : Tab) (r : Rt) : putIn T r = match rep12 T r with | some T' => (T', none) | none => fresh T r := by
  unfold putIn rep12 fresh
  split
  · rfl
  · split
    · rfl
    · split <;> rfl
def GoodT (T : Tab) : Prop := ∀ i, i < T.B.length → ∀ q, some q ∈ T.bk i → q.k.good
theorem Inv.goodT {T : Tab} (H : Inv T) : GoodT T := fun _ hi q hq => H.good q (mem_bk hi hq)
theorem mem_set {C : List Pl} {j : Nat} {x : Pl} {q : Rt} (h : some q ∈ C.set j x) : some q ∈ C ∨ x = some q := (List.mem_or_eq_of_mem_set h).imp id Eq.symm
theorem mem_put {C : List Pl} {k : Ky} {v : Int} {q : Rt} (h : some q ∈ (putC C k v).getD C) : some q ∈ C ∨ q = ⟨k, v⟩ := by
  unfold putC at h
  split at h
  · exact (mem_set h).imp id (fun e => by injection e with e; exact e.symm)
  · split at h
    · exact (mem_set h).imp id (fun e => by injection e with e; exact e.symm)
    · exact .inl h
theorem GoodT.set {T : Tab} (H : GoodT T) {i : Nat} (hi : i < T.B.length) {C : List Pl} (h : ∀ q, some q ∈ C → q.k.good) : GoodT (T.set i C) := by
  intro k hk q hq
  rw [set_len] at hk
  rw [bk_set T i hi] at hq
  split at hq
  · exact h q hq
  · exact H k hk q hq
theorem GoodT.put {T : Tab} (H : GoodT T) {i : Nat} (hi : i < T.B.length) {r : Rt} (hr : r.k.good) : GoodT (T.set i ((putC (T.bk i) r.k r.v).getD (T.bk i))) :=
  H.set hi fun q hq => (mem_put hq).elim (H i hi q) (fun e => e ▸ hr)
theorem zero_good : (⟨0, 0, 0⟩ : Ky).good := ⟨W64.mk (by decide), W64.mk (by decide)⟩
theorem swapC_out {C : List Pl} {j : Nat} {k : Ky} {v : Int} : (∃ q, C.getD j none = some q ∧ swapC C (j : Int) k v = some (q, C.set j (some ⟨k, v⟩))) ∨ swapC C (j : Int) k v = none := by
  unfold swapC
  rw [if_pos (by omega), Int.toNat_natCast]
  cases h : C.getD j none with
  | none => exact .inr rfl
  | some q => exact .inl ⟨q, rfl, rfl⟩
theorem getD_mem {C : List Pl} {j : Nat} {q : Rt} (h : C.getD j none = some q) : some q ∈ C := by
  rw [List.getD_eq_getElem?_getD] at h
  cases e : C[j]? with
  | none => rw [e] at h; cases h
  | some x =>
    rw [e] at h
    simp only [Option.getD_some] at h
    subst h
    exact List.mem_of_getElem? e
theorem GoodT.kick {T : Tab} (H : GoodT T) {b : Nat} (hb : b < T.B.length) (i : Nat) {r : Rt} (hr : r.k.good) : (kOut T b i r).k.good ∧ GoodT (kTab T b i r) := by
  unfold kOut kTab
  rcases swapC_out (C := T.bk b) (j := i % 4) (k := r.k) (v := r.v) with ⟨q, hq, e⟩ | e
  · rw [e]
    exact ⟨H b hb q (getD_mem hq), H.set hb fun p hp => (mem_set hp).elim (H b hb p) (fun e => by injection e with e; exact e ▸ hr)⟩
  · rw [e]
    exact ⟨zero_good, H.set hb fun p hp => H b hb p hp⟩
theorem kicks_in {f i : Nat} {T : Tab} {b : Nat} {r : Rt} {C : List Pl} (h : putC ((kTab T b i r).bk (kNew T b i r)) (kOut T b i r).k (kOut T b i r).v = some C) : kicks (f + 1) i T b r = ((kTab T b i r).set (kNew T b i r) C, none) := by
  show (match putC ((kTab T b i r).bk (kNew T b i r)) (kOut T b i r).k (kOut T b i r).v with | some C => _ | none => _) = _
  rw [h]
theorem kicks_on {f i : Nat} {T : Tab} {b : Nat} {r : Rt} (h : putC ((kTab T b i r).bk (kNew T b i r)) (kOut T b i r).k (kOut T b i r).v = none) : kicks (f + 1) i T b r = kicks f (i + 1) (kTab T b i r) (kNew T b i r) (kOut T b i r) := by
  show (match putC ((kTab T b i r).bk (kNew T b i r)) (kOut T b i r).k (kOut T b i r).v with | some C => _ | none => _) = _
  rw [h]
end Go.Proofs.YtoihkbanmnagkaaGreat
/-
  Plain mathematics of a put, with how many keys there are. No condition but those that stand in each.
-/
set_option linter.unusedSimpArgs false
set_option linter.unusedVariables false
namespace Go.Proofs.YtoihkbanmnagkaaGreat
open M

theorem rep_keys {T : Tab} {r : Rt} (H : Inv T) : (rep12 T r = none ↔ r.k ∉ keysR (contT T)) := by
  have hp := @absent T H r.k
  unfold rep12
  constructor
  · intro h
    split at h
    · cases h
    · rename_i h1
      split at h
      · cases h
      · rename_i h2
        split at h
        · cases h
        · rename_i h3
          exact hp (by simpa using h1) (by simpa using h2) (by simpa using h3)
  · intro h
    have g1 : ∀ b, b < T.B.length → ¬ (getC (T.bk b) r.k).isSome = true := by
      intro b hb e
      obtain ⟨i, hi, -, q, hq, hqk, -⟩ := getC_some e
      exact h (hqk ▸ mem_keys (mem_bk hb (hq ▸ List.getElem_mem hi)))
    rw [if_neg (g1 _ (H.x1_lt r.k)), if_neg (g1 _ (H.x2_lt r.k)), if_neg]
    intro e
    have := findS_some e
    unfold keysR contT at *
    rw [List.map_append] at h
    exact h (List.mem_append_right _ this)
theorem stay_rep {T : Tab} {r : Rt} {T' : Tab} (h : rep12 T r = some T') : stay T r = (T', false) := by
  unfold stay
  rw [putIn_eq, h]
theorem stay_in {T : Tab} {r : Rt} (h : rep12 T r = none) (h2 : (fresh T r).2 = none) : stay T r = ((fresh T r).1, false) := by
  unfold stay
  rw [putIn_eq, h]
  simp only [h2]
theorem stay_left {T : Tab} {r q : Rt} (h : rep12 T r = none) (h2 : (fresh T r).2 = some q) : stay T r = ({ (fresh T r).1 with st := intoS (fresh T r).1.st q }, true) := by
  unfold stay
  rw [putIn_eq, h]
  simp only [h2]
theorem fresh_putIn {T : Tab} {r : Rt} (h : rep12 T r = none) : putIn T r = fresh T r := by rw [putIn_eq, h]
theorem out_len {L : List Rt} {r : Rt} (hn : (keysR L).Nodup) (h : r.k ∈ keysR L) : (r :: outS L r.k).length = L.length := by
  unfold keysR at h
  rw [List.mem_map] at h
  obtain ⟨q, hq, e⟩ := h
  have := (split_key hn hq).length_eq
  rw [e] at this
  rw [this]
  rfl
theorem stay_count_old {T : Tab} {r : Rt} (H : Inv T) (hr : r.k.good) (h : rep12 T r ≠ none) : (contT (stay T r).1).length = (contT T).length := by
  have := (stay_ok H r hr).all.length_eq
  rw [this]
  exact out_len H.keys (Classical.byContradiction fun hn => h ((rep_keys H).2 hn))
theorem stay_count_new {T : Tab} {r : Rt} (H : Inv T) (hr : r.k.good) (h : rep12 T r = none) : (contT (stay T r).1).length = (contT T).length + 1 := by
  have := (stay_ok H r hr).all.length_eq
  rw [this, outS_self ((rep_keys H).1 h)]
  rfl
theorem st_le (T : Tab) : T.st.length ≤ (contT T).length := by unfold contT; rw [List.length_append]; omega
theorem fresh_like {T : Tab} {r : Rt} (H : Inv T) (hr : r.k.good) (h : rep12 T r = none) : Inv (fresh T r).1 ∧ (fresh T r).1.B.length = T.B.length ∧ (fresh T r).1.st.length = T.st.length ∧ ∀ q, (fresh T r).2 = some q → q.k.good ∧ q.k ∉ keysR (contT (fresh T r).1) := by
  have := putIn_ok H r hr
  rw [fresh_putIn h] at this
  exact ⟨this.inv, this.like.n, this.st, fun q hq => ⟨(this.left q hq).1, (this.left q hq).2.1⟩⟩
theorem find_absent {T : Tab} {k : Ky} (h : k ∉ keysR (contT T)) : findS T.st k = none := by
  cases e : findS T.st k with
  | none => rfl
  | some i =>
    have := findS_some (by rw [e]; rfl : (findS T.st k).isSome = true)
    exact absurd (by unfold contT keysR at *; rw [List.map_append]; exact List.mem_append_right _ this) h
theorem putF_stay (d : Nat) {T : Tab} {r : Rt} (h : grows (stay T r) = false) : putF d T r = (stay T r).1 := by
  cases d with
  | zero => rfl
  | succ d => unfold putF; rw [h]; rfl
theorem putF_grow (d : Nat) {T : Tab} {r : Rt} (h : grows (stay T r) = true) : putF (d + 1) T r = (contT (stay T r).1).foldl (putF d) (grown (stay T r).1) := by
  show (if grows (stay T r) = true then _ else _) = _
  rw [if_pos h]
end Go.Proofs.YtoihkbanmnagkaaGreat
/-
  Plain mathematics of rows of puts into one table: who is there, who is found, when it grows. No condition but those that stand in each.
-/
set_option linter.unusedSimpArgs false
set_option linter.unusedVariables false
namespace Go.Proofs.YtoihkbanmnagkaaGreat
open M

theorem find12_some {l : List Rt} {k : Ky} {i : Nat} (h : findS l k = some i) : ∃ hi : i < l.length, (l.find? fun r => decide (r.k = k)) = some l[i] ∧ l[i].k = k := by
  unfold findS at h
  rw [List.findIdx?_eq_some_iff_getElem] at h
  obtain ⟨hi, h1, h2⟩ := h
  refine ⟨hi, ?_, of_decide_eq_true h1⟩
  rw [List.find?_eq_some_iff_getElem]
  exact ⟨h1, i, hi, rfl, fun j hj => by have := h2 j hj; simpa using this⟩
theorem mem_outK {L : List Rt} {k : Ky} {q : Rt} : q ∈ outS L k ↔ q ∈ L ∧ q.k ≠ k := by unfold outS; rw [List.mem_filter]; simp
theorem one_key {L : List Rt} (hn : (keysR L).Nodup) {a b : Rt} (ha : a ∈ L) (hb : b ∈ L) (h : a.k = b.k) : a = b := by
  have := (split_key hn hb).mem_iff.1 ha
  rcases List.mem_cons.1 this with e | e
  · exact e
  · exact absurd h (mem_outK.1 e).2
theorem get_mem {T : Tab} (H : Inv T) {r : Rt} (h : r ∈ contT T) : getT T r.k = some r.v := by
  have hit : ∀ b, b < T.B.length → ∀ v, getC (T.bk b) r.k = some v → v = r.v := by
    intro b hb v e
    obtain ⟨i, hi, -, q, hq, hqk, hg⟩ := getC_some (by rw [e]; rfl : (getC (T.bk b) r.k).isSome = true)
    rw [e] at hg
    injection hg with hg
    rw [hg, one_key H.keys (mem_bk hb (hq ▸ List.getElem_mem hi)) h hqk]
  unfold getT
  cases h1 : getC (T.bk (T.x1 r.k)) r.k with
  | some v => exact congrArg some (hit _ (H.x1_lt _) v h1)
  | none =>
    cases h2 : getC (T.bk (T.x2 r.k)) r.k with
    | some v => exact congrArg some (hit _ (H.x2_lt _) v h2)
    | none =>
      cases h3 : findS T.st r.k with
      | none => exact absurd (mem_keys h) (absent H (by rw [h1]; rfl) (by rw [h2]; rfl) (by rw [h3]; rfl))
      | some i =>
        obtain ⟨hi, e, hk⟩ := find12_some h3
        show (List.find? _ _).map _ = _
        rw [e, one_key H.keys (show T.st[i] ∈ contT T from List.mem_append_right _ (List.getElem_mem hi)) h hk]
        rfl
structure Hold (T : Tab) (n : Nat) (K : Nat → Ky) (V : Nat → Int) : Prop where
  inv : Inv T
  len : (contT T).length = n
  mem : ∀ j, j < n → (⟨K j, V j⟩ : Rt) ∈ contT T
  all : ∀ r ∈ contT T, ∃ j, j < n ∧ r.k = K j
theorem Hold.empty {s n : Nat} (hs : W64 s) (h1 : 1 ≤ n) (h2 : n ≤ 65536) (K : Nat → Ky) (V : Nat → Int) : Hold (emptyT s n) 0 K V :=
  ⟨empty_inv hs h1 h2, by rw [empty_cont]; rfl, fun j hj => absurd hj (by omega), fun r hr => by rw [empty_cont] at hr; cases hr⟩
theorem Hold.get {T : Tab} {n : Nat} {K : Nat → Ky} {V : Nat → Int} (H : Hold T n K V) {j : Nat} (hj : j < n) : getT T (K j) = some (V j) := by
  have h := get_mem H.inv (H.mem j hj)
  exact h
end Go.Proofs.YtoihkbanmnagkaaGreat
/-
  Plain mathematics of deletions from a table, and of a table beside the sorted row of what it has. No condition but those that stand in each.
-/
set_option linter.unusedSimpArgs false
set_option linter.unusedVariables false
namespace Go.Proofs.YtoihkbanmnagkaaGreat
open M

theorem keys_out {L : List Rt} {k : Ky} (h : (keysR L).Nodup) : (keysR (outS L k)).Nodup := by
  unfold keysR outS at *
  exact h.sublist (List.filter_sublist.map _)
theorem stash_lt {l : List Rt} {k : Ky} : (outS l k).length < l.length ↔ k ∈ keysR l := by
  constructor
  · intro h
    exact Classical.byContradiction fun hn => by rw [outS_self hn] at h; omega
  · intro h
    unfold keysR at h
    rw [List.mem_map] at h
    obtain ⟨r, hr, e⟩ := h
    unfold outS
    rw [List.length_filter_lt_length_iff_exists]
    exact ⟨r, hr, by simp [e]⟩
theorem del_bucket {T : Tab} (H : Inv T) {b : Nat} (hb : b < T.B.length) {k : Ky} {j : Nat} (hj : j < (T.bk b).length) {q : Rt} (hq : (T.bk b)[j] = some q) (hk : q.k = k) :
    Inv (T.set b ((T.bk b).set j none)) ∧ (contT (T.set b ((T.bk b).set j none))).Perm (outS (contT T) k) ∧ k ∈ keysR (contT T) := by
  have h := cont_less H hb hj hq
  rw [hk] at h
  exact ⟨H.place hb hj (fun r e => by cases e) h.1, h.2, hk ▸ mem_keys (mem_bk hb (hq ▸ List.getElem_mem hj))⟩
theorem delT_ok {T : Tab} (H : Inv T) (k : Ky) : Inv (delT T k).1 ∧ (contT (delT T k).1).Perm (outS (contT T) k) ∧ ((delT T k).2 = true ↔ k ∈ keysR (contT T)) := by
  unfold delT
  rcases takeC_cases (T.bk (T.x1 k)) k with ⟨e1, n1⟩ | ⟨j, hj, q, e1, hq, hk⟩
  · rw [e1]
    rcases takeC_cases (T.bk (T.x2 k)) k with ⟨e2, n2⟩ | ⟨j, hj, q, e2, hq, hk⟩
    · rw [e2]
      have hno : k ∉ keysR (T.B.flatMap allC) := by
        intro hm
        unfold keysR at hm
        rw [List.mem_map] at hm
        obtain ⟨r, hr, rfl⟩ := hm
        rw [List.mem_flatMap] at hr
        obtain ⟨C, hC, hr⟩ := hr
        obtain ⟨i, hi, rfl⟩ := List.getElem_of_mem hC
        unfold allC at hr
        rw [List.mem_filterMap] at hr
        obtain ⟨x, hx, e⟩ := hr
        simp only [id] at e
        subst e
        rw [← bk_at T i hi] at hx
        rcases H.home i hi r hx with e | e
        · subst e; exact idx_none n1 r hx rfl
        · subst e; exact idx_none n2 r hx rfl
      have hc : contT { T with st := outS T.st k } = outS (contT T) k := by
        show T.B.flatMap allC ++ outS T.st k = outS (T.B.flatMap allC ++ T.st) k
        have := outS_self hno
        unfold outS at *
        rw [List.filter_append, this]
      refine ⟨⟨H.lo, H.hi, H.four, H.word, fun r hr => ?_, H.home, ?_, outS_sorted k H.sort⟩, by rw [hc], ?_⟩
      · rw [hc] at hr
        exact H.good r (mem_outK.1 hr).1
      · rw [hc]
        exact keys_out H.keys
      · rw [decide_eq_true_iff, stash_lt]
        unfold contT keysR at *
        rw [List.map_append, List.mem_append]
        exact ⟨.inr, fun h => h.resolve_left hno⟩
    · rw [e2]
      have h := del_bucket H (H.x2_lt k) hj hq hk
      exact ⟨h.1, h.2.1, fun _ => h.2.2, fun _ => rfl⟩
  · rw [e1]
    have h := del_bucket H (H.x1_lt k) hj hq hk
    exact ⟨h.1, h.2.1, fun _ => h.2.2, fun _ => rfl⟩
structure Kept (T : Tab) (N : List Rt) : Prop where
  inv : Inv T
  sort : Sorted N
  all : (contT T).Perm N
theorem Kept.empty {s n : Nat} (hs : W64 s) (h1 : 1 ≤ n) (h2 : n ≤ 65536) : Kept (emptyT s n) [] := ⟨empty_inv hs h1 h2, List.Pairwise.nil, by rw [empty_cont]⟩
theorem Kept.len {T : Tab} {N : List Rt} (H : Kept T N) : (contT T).length = N.length := H.all.length_eq
theorem Kept.put {T : Tab} {N : List Rt} (H : Kept T N) (d : Nat) (r : Rt) (hr : r.k.good) : Kept (putF d T r) (intoS N r) := by
  have h := putF_ok d T r H.inv hr
  exact ⟨h.inv, intoS_sorted r H.sort, (h.all.trans ((outS_perm H.all r.k).cons r)).trans (intoS_perm r H.sort).symm⟩
theorem Kept.del {T : Tab} {N : List Rt} (H : Kept T N) (k : Ky) : Kept (delT T k).1 (outS N k) := by
  have h := delT_ok H.inv k
  exact ⟨h.1, outS_sorted k H.sort, h.2.1.trans (outS_perm H.all k)⟩
theorem Kept.del_tells {T : Tab} {N : List Rt} (H : Kept T N) (k : Ky) : ((delT T k).2 = true ↔ k ∈ keysR N) := by
  rw [(delT_ok H.inv k).2.2]
  exact (keysR_perm H.all).mem_iff
theorem Kept.get {T : Tab} {N : List Rt} (H : Kept T N) {r : Rt} (hr : r ∈ N) : getT T r.k = some r.v := get_mem H.inv (H.all.mem_iff.2 hr)
theorem Kept.sorted {T : Tab} {N M : List Rt} (H : Kept T N) (hM : Sorted M) (hp : M.Perm (contT T)) : M = N := sorted_eq hM H.sort (hp.trans H.all)
end Go.Proofs.YtoihkbanmnagkaaGreat
/-
  Plain mathematics of longest matches: the longest of a row of routes that has an address, within a range of lengths; the keys of an address, by length. No condition but those that stand in each.
-/
set_option linter.unusedSimpArgs false
set_option linter.unusedVariables false
namespace Go.Proofs.YtoihkbanmnagkaaGreat
open M

def cutK (ah al m : Nat) : Ky := ⟨cutW ah m, cutW al (m - 64), (m : Int)⟩
end Go.Proofs.YtoihkbanmnagkaaGreat
/-
  Routes by their prefixes, as an order for the library's sorts. No condition but those that stand in each.
-/
set_option linter.unusedSimpArgs false
set_option linter.unusedVariables false
namespace Go.Proofs.YtoihkbanmnagkaaGreat
open Go.Sort M

def ltR (a b : Rt) : Bool := lessK a.k b.k
theorem ltR_swo : SWO ltR := by
  refine ⟨fun x => lessK_irr _, fun x y z h g => lessK_trans h g, fun x y z h g => ?_⟩
  unfold ltR at *
  cases hc : lessK x.k z.k with
  | false => rfl
  | true =>
    by_cases e : y.k = z.k
    · rw [e] at h
      rw [h] at hc
      cases hc
    · have h2 := lessK_total e
      rw [g] at h2
      have := lessK_trans hc h2
      rw [h] at this
      cases this
theorem sorted_strict {M : List Rt} (hk : (keysR M).Nodup) (h : M.Pairwise fun a b => ltR b a = false) : Sorted M := by
  unfold keysR List.Nodup at hk
  rw [List.pairwise_map] at hk
  refine (hk.and h).imp ?_
  rintro a b ⟨hne, hl⟩
  have := lessK_total (a := b.k) (b := a.k) (fun e => hne e.symm)
  rw [this]
  unfold ltR at hl
  rw [hl]
  rfl
end Go.Proofs.YtoihkbanmnagkaaGreat
/-
  Sorting that keeps the order of equals, plainly: what insertion, swaps of neighbouring ranges and merging by halves do to a row. No condition but those that stand in each.
-/
set_option linter.unusedSimpArgs false
set_option linter.unusedVariables false
namespace Go.Proofs.YtoihkbanmnagkaaGreat
open Go.Sort
set_option linter.unusedSectionVars false
set_option linter.unusedSimpArgs false

section
variable {α : Type} [Inhabited α] {lt : α → α → Bool}
def eqv (lt : α → α → Bool) (x y : α) : Bool := !lt x y && !lt y x
def Stb (lt : α → α → Bool) (X Y : List α) : Prop := X.Perm Y ∧ ∀ x, X.filter (eqv lt x) = Y.filter (eqv lt x)
theorem Stb.refl (X : List α) : Stb lt X X := ⟨List.Perm.refl _, fun _ => rfl⟩
theorem Stb.trans {X Y Z : List α} (h : Stb lt X Y) (g : Stb lt Y Z) : Stb lt X Z := ⟨h.1.trans g.1, fun x => (h.2 x).trans (g.2 x)⟩
theorem Stb.append {X Y X' Y' : List α} (h : Stb lt X X') (g : Stb lt Y Y') : Stb lt (X ++ Y) (X' ++ Y') := ⟨h.1.append g.1, fun x => by rw [List.filter_append, List.filter_append, h.2, g.2]⟩
theorem Stb.len {X Y : List α} (h : Stb lt X Y) : X.length = Y.length := h.1.length_eq
structure Bs (f : Nat → Bool) (lo hi i j : Nat) : Prop where
  h1 : lo ≤ i
  h2 : i ≤ j
  h3 : j ≤ hi
  low : ∀ c, lo ≤ c → c < i → f c = true
  high : ∀ c, j ≤ c → c < hi → f c = false
theorem Bs.start (f : Nat → Bool) {lo hi : Nat} (h : lo ≤ hi) : Bs f lo hi lo hi := ⟨Nat.le_refl _, h, Nat.le_refl _, fun c h1 h2 => by omega, fun c h1 h2 => by omega⟩
theorem Bs.up {f : Nat → Bool} {lo hi i j h : Nat} (B : Bs f lo hi i j) (mono : ∀ c e, lo ≤ c → c ≤ e → e < hi → f e = true → f c = true) (g1 : i ≤ h) (g2 : h < j) (hf : f h = true) : Bs f lo hi (h + 1) j := by
  have := B.h1; have := B.h3
  exact ⟨by omega, by omega, B.h3, fun c c1 c2 => mono c h c1 (by omega) (by omega) hf, B.high⟩
end
end Go.Proofs.YtoihkbanmnagkaaGreat
/-
  Of several routes of one prefix the last one counts: rows put one after the other, and sorted rows of which only the last of each prefix is kept. No condition but those that stand in each.
-/
set_option linter.unusedSimpArgs false
set_option linter.unusedVariables false
namespace Go.Proofs.YtoihkbanmnagkaaGreat
open Go.Sort M
set_option linter.unusedSimpArgs false

instance : Inhabited Ky := ⟨⟨0, 0, 0⟩⟩
theorem mem_into {L : List Rt} {r q : Rt} (h : Sorted L) : q ∈ intoS L r ↔ q = r ∨ (q ∈ L ∧ q.k ≠ r.k) := by
  rw [(intoS_perm r h).mem_iff, List.mem_cons, mem_outS]
theorem nodup_sorted {L : List Rt} (h : Sorted L) : L.Nodup := List.Pairwise.imp (fun {a b} hab e => by rw [e, lessK_irr] at hab; cases hab) h
end Go.Proofs.YtoihkbanmnagkaaGreat
/-
  What addr.Right, Has, Common and Less hand back, for every prefix and address. No condition but that the words are words of 64 bits.
-/
set_option linter.unusedSimpArgs false
set_option linter.unusedVariables false
namespace Go.Proofs.YtoihkbanmnagkaaGreat
open Go.RowKit Go.Sort M

theorem eql_addr (a b c d : Nat) (w : World) : (binOp .eql 36 (.agg #[.int .u64 a, .int .u64 b]) (.agg #[.int .u64 c, .int .u64 d])).run Tryz.prog w = .ok (.bool (decide (a = c) && decide (b = d))) w := by
  have e1 : decide (a = c) = decide ((a : Int) = c) := by rw [decide_eq_decide]; omega
  have e2 : decide (b = d) = decide ((b : Int) = d) := by rw [decide_eq_decide]; omega
  rw [e1, e2]
  by_cases h1 : (a : Int) = c <;> by_cases h2 : (b : Int) = d <;> simp [go_sem, h1, h2]

set_option maxHeartbeats 400000 in
theorem less_any (h1 l1 : Nat) (n1 : Int) (h2 l2 : Nat) (n2 : Int) :
    Gives Tryz.prog 70 #[.agg #[.int .u64 h1, .int .u64 l1, .int .i64 n1], .agg #[.int .u64 h2, .int .u64 l2, .int .i64 n2]] (.bool (lessB h1 l1 n1 h2 l2 n2)) := by
  intro w
  by_cases e1 : h1 = h2
  · by_cases e2 : l1 = l2
    · subst e1 e2
      go_enter Tryz.func70, Tryz.ntmps70
      go_wp2
      go_ret
      refine ⟨ret_bool ?_, by go_grown⟩
      simp [lessB]
    · subst e1
      go_enter Tryz.func70, Tryz.ntmps70
      go_wp2
      go_ret
      refine ⟨ret_bool ?_, by go_grown⟩
      simp [lessB, e2]
  · go_enter Tryz.func70, Tryz.ntmps70
    go_wp2
    go_ret
    refine ⟨ret_bool ?_, by go_grown⟩
    simp [lessB, e1]

end Go.Proofs.YtoihkbanmnagkaaGreat
/-
  What package spread's raise and Count hand back. No condition but that the words are words of 64 bits.
-/
set_option linter.unusedSimpArgs false
set_option linter.unusedVariables false
namespace Go.Proofs.YtoihkbanmnagkaaGreat
open Go.RowKit Go.Sort M

end Go.Proofs.YtoihkbanmnagkaaGreat
/-
  What spread.Keys hands back: a new row of prefixes. No condition but that the words are words of 64 bits.
-/
set_option linter.unusedSimpArgs false
set_option linter.unusedVariables false
namespace Go.Proofs.YtoihkbanmnagkaaGreat
open Go.RowKit Go.Sort M

end Go.Proofs.YtoihkbanmnagkaaGreat
/-
  Plain mathematics of what a level holds: the keys that a route makes there, the hop of a key, the set of a level; that a sorted row is known by its members; what an address finds. No condition but those that stand in each.
-/
set_option linter.unusedSimpArgs false
set_option linter.unusedVariables false
namespace Go.Proofs.YtoihkbanmnagkaaGreat
open M

theorem sorted_ext {L M : List Rt} (hL : Sorted L) (hM : Sorted M) (h : ∀ q, q ∈ L ↔ q ∈ M) : L = M :=
  sorted_eq hL hM ((List.perm_ext_iff_of_nodup (nodup_sorted hL) (nodup_sorted hM)).2 h)
theorem mem_outK18 {L : List Rt} {k : Ky} {q : Rt} : q ∈ outS L k ↔ q ∈ L ∧ q.k ≠ k := by unfold outS; rw [List.mem_filter]; simp
theorem one_key18 {L : List Rt} (hn : (keysR L).Nodup) {a b : Rt} (ha : a ∈ L) (hb : b ∈ L) (h : a.k = b.k) : a = b := by
  have := (split_key hn hb).mem_iff.1 ha
  rcases List.mem_cons.1 this with e | e
  · exact e
  · exact absurd h (mem_outK18.1 e).2
end Go.Proofs.YtoihkbanmnagkaaGreat
/-
  Plain mathematics of what a level holds, continued: an address has a key of a level just if it has a route of its lengths, and then with the hop of the longest. No condition but those that stand in each.
-/
set_option linter.unusedSimpArgs false
set_option linter.unusedVariables false
namespace Go.Proofs.YtoihkbanmnagkaaGreat
open M

theorem find_is18 {l : List Rt} {k : Ky} : (findS l k).isSome = true ↔ k ∈ keysR l := by
  unfold findS keysR
  rw [List.findIdx?_isSome, List.any_eq_true, List.mem_map]
  simp only [decide_eq_true_eq]
end Go.Proofs.YtoihkbanmnagkaaGreat
