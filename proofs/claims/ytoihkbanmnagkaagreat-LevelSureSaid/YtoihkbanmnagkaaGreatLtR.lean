/-
  Routes by their prefixes, as an order for the library's sorts. No condition but those that stand in each.
-/
import Derived.Test.YtoihkbanmnagkaaGreatM12f
import Derived.Test.YtoihkbanmnagkaaGreatM12b
import Derived.Sort.Statements
/-
  Plain mathematics of a put, with how many keys there are. No condition but those that stand in each.
-/
set_option linter.unusedSimpArgs false
set_option linter.unusedVariables false
namespace Go.Proofs.YtoihkbanmnagkaaGreat
open M

theorem rep_keys {T : Tab} {r : Rt} (H : Inv T) : (rep12 T r = none ↔ r.k ∉ keysR (contT T)) := by
  have hp := @absent T H r.k
  unfold rep12
  constructor
  · intro h
    split at h
    · cases h
    · rename_i h1
      split at h
      · cases h
      · rename_i h2
        split at h
        · cases h
        · rename_i h3
          exact hp (by simpa using h1) (by simpa using h2) (by simpa using h3)
  · intro h
    have g1 : ∀ b, b < T.B.length → ¬ (getC (T.bk b) r.k).isSome = true := by
      intro b hb e
      obtain ⟨i, hi, -, q, hq, hqk, -⟩ := getC_some e
      exact h (hqk ▸ mem_keys (mem_bk hb (hq ▸ List.getElem_mem hi)))
    rw [if_neg (g1 _ (H.x1_lt r.k)), if_neg (g1 _ (H.x2_lt r.k)), if_neg]
    intro e
    have := findS_some e
    unfold keysR contT at *
    rw [List.map_append] at h
    exact h (List.mem_append_right _ this)
theorem stay_rep {T : Tab} {r : Rt} {T' : Tab} (h : rep12 T r = some T') : stay T r = (T', false) := by
  unfold stay
  rw [putIn_eq, h]
theorem stay_in {T : Tab} {r : Rt} (h : rep12 T r = none) (h2 : (fresh T r).2 = none) : stay T r = ((fresh T r).1, false) := by
  unfold stay
  rw [putIn_eq, h]
  simp only [h2]
theorem stay_left {T : Tab} {r q : Rt} (h : rep12 T r = none) (h2 : (fresh T r).2 = some q) : stay T r = ({ (fresh T r).1 with st := intoS (fresh T r).1.st q }, true) := by
  unfold stay
  rw [putIn_eq, h]
  simp only [h2]
theorem fresh_putIn {T : Tab} {r : Rt} (h : rep12 T r = none) : putIn T r = fresh T r := by rw [putIn_eq, h]
theorem out_len {L : List Rt} {r : Rt} (hn : (keysR L).Nodup) (h : r.k ∈ keysR L) : (r :: outS L r.k).length = L.length := by
  unfold keysR at h
  rw [List.mem_map] at h
  obtain ⟨q, hq, e⟩ := h
  have := (split_key hn hq).length_eq
  rw [e] at this
  rw [this]
  rfl
/-- How many there are behind a put. -/
theorem stay_count_old {T : Tab} {r : Rt} (H : Inv T) (hr : r.k.good) (h : rep12 T r ≠ none) : (contT (stay T r).1).length = (contT T).length := by
  have := (stay_ok H r hr).all.length_eq
  rw [this]
  exact out_len H.keys (Classical.byContradiction fun hn => h ((rep_keys H).2 hn))
theorem stay_count_new {T : Tab} {r : Rt} (H : Inv T) (hr : r.k.good) (h : rep12 T r = none) : (contT (stay T r).1).length = (contT T).length + 1 := by
  have := (stay_ok H r hr).all.length_eq
  rw [this, outS_self ((rep_keys H).1 h)]
  rfl
theorem st_le (T : Tab) : T.st.length ≤ (contT T).length := by unfold contT; rw [List.length_append]; omega
theorem fresh_like {T : Tab} {r : Rt} (H : Inv T) (hr : r.k.good) (h : rep12 T r = none) : Inv (fresh T r).1 ∧ (fresh T r).1.B.length = T.B.length ∧ (fresh T r).1.st.length = T.st.length ∧ ∀ q, (fresh T r).2 = some q → q.k.good ∧ q.k ∉ keysR (contT (fresh T r).1) := by
  have := putIn_ok H r hr
  rw [fresh_putIn h] at this
  exact ⟨this.inv, this.like.n, this.st, fun q hq => ⟨(this.left q hq).1, (this.left q hq).2.1⟩⟩
theorem find_absent {T : Tab} {k : Ky} (h : k ∉ keysR (contT T)) : findS T.st k = none := by
  cases e : findS T.st k with
  | none => rfl
  | some i =>
    have := findS_some (by rw [e]; rfl : (findS T.st k).isSome = true)
    exact absurd (by unfold contT keysR at *; rw [List.map_append]; exact List.mem_append_right _ this) h
theorem putF_zero (T : Tab) (r : Rt) : putF 0 T r = (stay T r).1 := rfl
theorem putF_stay (d : Nat) {T : Tab} {r : Rt} (h : grows (stay T r) = false) : putF d T r = (stay T r).1 := by
  cases d with
  | zero => rfl
  | succ d => unfold putF; rw [h]; rfl
theorem putF_grow (d : Nat) {T : Tab} {r : Rt} (h : grows (stay T r) = true) : putF (d + 1) T r = (contT (stay T r).1).foldl (putF d) (grown (stay T r).1) := by
  show (if grows (stay T r) = true then _ else _) = _
  rw [if_pos h]
end Go.Proofs.YtoihkbanmnagkaaGreat
/-
  Plain mathematics of rows of puts into one table: who is there, who is found, when it grows. No condition but those that stand in each.
-/
set_option linter.unusedSimpArgs false
set_option linter.unusedVariables false
namespace Go.Proofs.YtoihkbanmnagkaaGreat
open M

theorem find12_some {l : List Rt} {k : Ky} {i : Nat} (h : findS l k = some i) : ∃ hi : i < l.length, (l.find? fun r => decide (r.k = k)) = some l[i] ∧ l[i].k = k := by
  unfold findS at h
  rw [List.findIdx?_eq_some_iff_getElem] at h
  obtain ⟨hi, h1, h2⟩ := h
  refine ⟨hi, ?_, of_decide_eq_true h1⟩
  rw [List.find?_eq_some_iff_getElem]
  exact ⟨h1, i, hi, rfl, fun j hj => by have := h2 j hj; simpa using this⟩
theorem mem_outK {L : List Rt} {k : Ky} {q : Rt} : q ∈ outS L k ↔ q ∈ L ∧ q.k ≠ k := by unfold outS; rw [List.mem_filter]; simp
theorem one_key {L : List Rt} (hn : (keysR L).Nodup) {a b : Rt} (ha : a ∈ L) (hb : b ∈ L) (h : a.k = b.k) : a = b := by
  have := (split_key hn hb).mem_iff.1 ha
  rcases List.mem_cons.1 this with e | e
  · exact e
  · exact absurd h (mem_outK.1 e).2
/-- Who is there is found. -/
theorem get_mem {T : Tab} (H : Inv T) {r : Rt} (h : r ∈ contT T) : getT T r.k = some r.v := by
  have hit : ∀ b, b < T.B.length → ∀ v, getC (T.bk b) r.k = some v → v = r.v := by
    intro b hb v e
    obtain ⟨i, hi, -, q, hq, hqk, hg⟩ := getC_some (by rw [e]; rfl : (getC (T.bk b) r.k).isSome = true)
    rw [e] at hg
    injection hg with hg
    rw [hg, one_key H.keys (mem_bk hb (hq ▸ List.getElem_mem hi)) h hqk]
  unfold getT
  cases h1 : getC (T.bk (T.x1 r.k)) r.k with
  | some v => exact congrArg some (hit _ (H.x1_lt _) v h1)
  | none =>
    cases h2 : getC (T.bk (T.x2 r.k)) r.k with
    | some v => exact congrArg some (hit _ (H.x2_lt _) v h2)
    | none =>
      cases h3 : findS T.st r.k with
      | none => exact absurd (mem_keys h) (absent H (by rw [h1]; rfl) (by rw [h2]; rfl) (by rw [h3]; rfl))
      | some i =>
        obtain ⟨hi, e, hk⟩ := find12_some h3
        show (List.find? _ _).map _ = _
        rw [e, one_key H.keys (show T.st[i] ∈ contT T from List.mem_append_right _ (List.getElem_mem hi)) h hk]
        rfl
theorem read_len (T : Tab) (k : Ky) : 1 ≤ (readT T k).length ∧ (readT T k).length ≤ 2 := by unfold readT; split <;> simp
/-- A table that has not grown as far as it may has a short stash. -/
def Calm (T : Tab) : Prop := T.st.length ≤ 8 ∨ 65536 ≤ T.B.length
theorem stay_calm {T : Tab} {r : Rt} (H : Inv T) (hr : r.k.good) (hc : Calm T) (hg : grows (stay T r) = false) : Calm (stay T r).1 := by
  have h := stay_ok H r hr
  have hn := h.like.n
  unfold Calm at *
  cases e : (stay T r).2 with
  | false => rw [h.no e, hn]; exact hc
  | true =>
    unfold grows at hg
    rw [e, Bool.true_and, Bool.and_eq_false_iff, decide_eq_false_iff_not, decide_eq_false_iff_not] at hg
    omega
theorem fold_calm {f : Tab → Rt → Tab} {N : Nat} (hf : ∀ T r, Inv T → r.k.good → GrowOk T r (f T r)) (hc : ∀ T r, Inv T → r.k.good → N ≤ T.B.length → Calm T → Calm (f T r)) : ∀ (l : List Rt) (T : Tab), Inv T → (∀ r ∈ l, r.k.good) → N ≤ T.B.length → Calm T → Calm (l.foldl f T)
  | [], _, _, _, _, h => h
  | a :: l, T, H, hg, hN, h => by
    have ha := hg a (by simp)
    have ho := hf T a H ha
    exact fold_calm hf hc l (f T a) ho.inv (fun r hr => hg r (by simp [hr])) (Nat.le_trans hN ho.len) (hc T a H ha hN h)
theorem grown_pow {T : Tab} {d : Nat} (H : Inv T) (hd : 65536 ≤ T.B.length * 2 ^ (d + 1)) : 65536 ≤ (grown T).B.length * 2 ^ d := by
  have h1 : 1 ≤ 2 ^ d := Nat.one_le_two_pow
  rw [(grown_inv H).2]
  by_cases h2 : 2 * T.B.length ≤ 65536
  · rw [Nat.min_eq_left h2]
    rw [Nat.pow_succ] at hd
    have : 2 * T.B.length * 2 ^ d = T.B.length * (2 ^ d * 2) := by rw [Nat.mul_comm 2, Nat.mul_assoc, Nat.mul_comm 2]
    omega
  · rw [Nat.min_eq_right (by omega)]
    omega
theorem putF_calm : ∀ (d : Nat) (T : Tab) (r : Rt), Inv T → r.k.good → 65536 ≤ T.B.length * 2 ^ d → Calm T → Calm (putF d T r)
  | 0, T, r, H, hr, hd, _ => by
    have hn := (stay_ok H r hr).like.n
    show Calm (stay T r).1
    unfold Calm
    omega
  | d + 1, T, r, H, hr, hd, hc => by
    cases hg : grows (stay T r) with
    | false => rw [putF_stay _ hg]; exact stay_calm H hr hc hg
    | true =>
      rw [putF_grow d hg]
      have hS := stay_ok H r hr
      have hp := grown_pow (d := d) hS.inv (by rw [hS.like.n]; exact hd)
      exact fold_calm (N := (grown (stay T r).1).B.length) (fun T r H hg => putF_ok d T r H hg) (fun T r H hg hN hc => putF_calm d T r H hg (Nat.le_trans hp (Nat.mul_le_mul_right _ hN)) hc) _ _ (grown_inv hS.inv).1 (fun q hq => hS.inv.good q hq) (Nat.le_refl _) (.inl (by simp [grown, emptyT]))
theorem allC_full : ∀ {C : List Pl}, (∀ x ∈ C, x.isSome = true) → (allC C).length = C.length
  | [], _ => rfl
  | none :: C, h => by have := h none (by simp); cases this
  | some q :: C, h => by
    have := allC_full (C := C) fun x hx => h x (by simp [hx])
    show (q :: allC C).length = _
    simp [this]
/-- A table of one bucket bears twelve. -/
theorem one_bucket {T : Tab} (h : T.B.length = 1) : contT T = allC (T.bk 0) ++ T.st := by
  unfold contT
  obtain ⟨s, B, st⟩ := T
  match B, h with
  | [C], _ => simp [Tab.bk]
theorem put_small (d : Nat) {T : Tab} {r : Rt} (H : Inv T) (hr : r.k.good) (h1 : T.B.length = 1) (hn : (contT (putF d T r)).length ≤ 12) : (putF d T r).B.length = 1 := by
  have h := stay_ok H r hr
  cases hg : grows (stay T r) with
  | false => rw [putF_stay _ hg, h.like.n, h1]
  | true =>
    exfalso
    have hp := (putF_ok d T r H hr).all.length_eq
    unfold grows at hg
    simp only [Bool.and_eq_true, decide_eq_true_eq] at hg
    obtain ⟨e1, e2, e3⟩ := h.yes hg.1
    rw [outS_self e2] at hp
    have hx := H.x1_lt r.k
    have hx0 : T.x1 r.k = 0 := by omega
    rw [hx0] at e3
    have hf := allC_full e3
    have h4 := H.four 0 (by omega)
    rw [one_bucket h1, List.length_cons, List.length_append] at hp
    omega
theorem small_le {T : Tab} (H : Inv T) (hc : Calm T) (h1 : T.B.length = 1) : (contT T).length ≤ 12 := by
  have h4 := H.four 0 (by omega)
  have := allC_len (T.bk 0)
  unfold Calm at hc
  rw [one_bucket h1, List.length_append]
  omega
/-- A table that has just these. -/
structure Hold (T : Tab) (n : Nat) (K : Nat → Ky) (V : Nat → Int) : Prop where
  inv : Inv T
  len : (contT T).length = n
  mem : ∀ j, j < n → (⟨K j, V j⟩ : Rt) ∈ contT T
  all : ∀ r ∈ contT T, ∃ j, j < n ∧ r.k = K j
theorem Hold.empty {s n : Nat} (hs : W64 s) (h1 : 1 ≤ n) (h2 : n ≤ 65536) (K : Nat → Ky) (V : Nat → Int) : Hold (emptyT s n) 0 K V :=
  ⟨empty_inv hs h1 h2, by rw [empty_cont]; rfl, fun j hj => absurd hj (by omega), fun r hr => by rw [empty_cont] at hr; cases hr⟩
theorem Hold.get {T : Tab} {n : Nat} {K : Nat → Ky} {V : Nat → Int} (H : Hold T n K V) {j : Nat} (hj : j < n) : getT T (K j) = some (V j) := by
  have h := get_mem H.inv (H.mem j hj)
  exact h
theorem Hold.new {T : Tab} {n : Nat} {K : Nat → Ky} {V : Nat → Int} (H : Hold T n K V) (d : Nat) (hk : (K n).good) (hK : ∀ j, j < n → K j ≠ K n) : Hold (putF d T ⟨K n, V n⟩) (n + 1) K V := by
  have h := putF_ok d T ⟨K n, V n⟩ H.inv hk
  have hno : K n ∉ keysR (contT T) := by
    intro hm
    unfold keysR at hm
    rw [List.mem_map] at hm
    obtain ⟨q, hq, e⟩ := hm
    obtain ⟨j, hj, e2⟩ := H.all q hq
    exact hK j hj (e2.symm.trans e)
  have ho : outS (contT T) (K n) = contT T := outS_self hno
  have ha := h.all
  simp only [ho] at ha
  refine ⟨h.inv, by rw [ha.length_eq, List.length_cons, H.len], fun j hj => ha.mem_iff.2 ?_, fun r hr => ?_⟩
  · by_cases e : j = n
    · subst e; exact List.mem_cons_self
    · exact List.mem_cons_of_mem _ (H.mem j (by omega))
  · rcases List.mem_cons.1 (ha.mem_iff.1 hr) with e | e
    · exact ⟨n, by omega, by rw [e]⟩
    · obtain ⟨j, hj, e2⟩ := H.all r e
      exact ⟨j, by omega, e2⟩
theorem Hold.again {T : Tab} {n : Nat} {K : Nat → Ky} {V V' : Nat → Int} (H : Hold T n K V) (d : Nat) {i : Nat} (hi : i < n) (hK : ∀ j, j < n → j ≠ i → K j ≠ K i) (hV : ∀ j, j < n → j ≠ i → V' j = V j) :
    Hold (putF d T ⟨K i, V' i⟩) n K V' ∧ (putF d T ⟨K i, V' i⟩).B.length = T.B.length ∧ (putF d T ⟨K i, V' i⟩).st.length = T.st.length ∧ (putF d T ⟨K i, V' i⟩).s = T.s := by
  have hin := H.mem i hi
  have hk : (K i).good := H.inv.good _ hin
  have hki : K i ∈ keysR (contT T) := mem_keys hin
  have hr : rep12 T ⟨K i, V' i⟩ ≠ none := fun e => (rep_keys H.inv).1 e hki
  have h := putF_ok d T ⟨K i, V' i⟩ H.inv hk
  have hS := stay_ok H.inv ⟨K i, V' i⟩ hk
  obtain ⟨T', hT'⟩ : ∃ T', rep12 T ⟨K i, V' i⟩ = some T' := by
    cases e : rep12 T ⟨K i, V' i⟩ with
    | none => exact absurd e hr
    | some T' => exact ⟨T', rfl⟩
  have h2 : (stay T ⟨K i, V' i⟩).2 = false := by rw [stay_rep hT']
  have hp : putF d T ⟨K i, V' i⟩ = (stay T ⟨K i, V' i⟩).1 := putF_stay d (by unfold grows; rw [h2]; rfl)
  have ha := h.all
  refine ⟨⟨h.inv, ?_, fun j hj => ha.mem_iff.2 ?_, fun r hr => ?_⟩, by rw [hp, hS.like.n], by rw [hp, hS.no h2], by rw [hp, hS.like.s]⟩
  · rw [ha.length_eq, ← H.len]
    exact out_len H.inv.keys hki
  · by_cases e : j = i
    · subst e; exact List.mem_cons_self
    · refine List.mem_cons_of_mem _ (mem_outK.2 ⟨?_, hK j hj e⟩)
      rw [hV j hj e]
      exact H.mem j hj
  · rcases List.mem_cons.1 (ha.mem_iff.1 hr) with e | e
    · exact ⟨i, hi, by rw [e]⟩
    · exact H.all r (mem_outK.1 e).1
set_option maxRecDepth 100000 in
theorem alive12_math : (putF 16 (emptyT 1 2) ⟨⟨0, 0, 3⟩, 8⟩ |> fun T => decide (getT T ⟨0, 0, 3⟩ = some 8) && decide ((readT T ⟨0, 0, 3⟩).length = 1)) = true := by decide +kernel
end Go.Proofs.YtoihkbanmnagkaaGreat
/-
  Plain mathematics of deletions from a table, and of a table beside the sorted row of what it has. No condition but those that stand in each.
-/
set_option linter.unusedSimpArgs false
set_option linter.unusedVariables false
namespace Go.Proofs.YtoihkbanmnagkaaGreat
open M

theorem keys_out {L : List Rt} {k : Ky} (h : (keysR L).Nodup) : (keysR (outS L k)).Nodup := by
  unfold keysR outS at *
  exact h.sublist (List.filter_sublist.map _)
theorem stash_lt {l : List Rt} {k : Ky} : (outS l k).length < l.length ↔ k ∈ keysR l := by
  constructor
  · intro h
    exact Classical.byContradiction fun hn => by rw [outS_self hn] at h; omega
  · intro h
    unfold keysR at h
    rw [List.mem_map] at h
    obtain ⟨r, hr, e⟩ := h
    unfold outS
    rw [List.length_filter_lt_length_iff_exists]
    exact ⟨r, hr, by simp [e]⟩
theorem del_bucket {T : Tab} (H : Inv T) {b : Nat} (hb : b < T.B.length) {k : Ky} {j : Nat} (hj : j < (T.bk b).length) {q : Rt} (hq : (T.bk b)[j] = some q) (hk : q.k = k) :
    Inv (T.set b ((T.bk b).set j none)) ∧ (contT (T.set b ((T.bk b).set j none))).Perm (outS (contT T) k) ∧ k ∈ keysR (contT T) := by
  have h := cont_less H hb hj hq
  rw [hk] at h
  exact ⟨H.place hb hj (fun r e => by cases e) h.1, h.2, hk ▸ mem_keys (mem_bk hb (hq ▸ List.getElem_mem hj))⟩
/-- What a deletion makes of a table. -/
theorem delT_ok {T : Tab} (H : Inv T) (k : Ky) : Inv (delT T k).1 ∧ (contT (delT T k).1).Perm (outS (contT T) k) ∧ ((delT T k).2 = true ↔ k ∈ keysR (contT T)) := by
  unfold delT
  rcases takeC_cases (T.bk (T.x1 k)) k with ⟨e1, n1⟩ | ⟨j, hj, q, e1, hq, hk⟩
  · rw [e1]
    rcases takeC_cases (T.bk (T.x2 k)) k with ⟨e2, n2⟩ | ⟨j, hj, q, e2, hq, hk⟩
    · rw [e2]
      have hno : k ∉ keysR (T.B.flatMap allC) := by
        intro hm
        unfold keysR at hm
        rw [List.mem_map] at hm
        obtain ⟨r, hr, rfl⟩ := hm
        rw [List.mem_flatMap] at hr
        obtain ⟨C, hC, hr⟩ := hr
        obtain ⟨i, hi, rfl⟩ := List.getElem_of_mem hC
        unfold allC at hr
        rw [List.mem_filterMap] at hr
        obtain ⟨x, hx, e⟩ := hr
        simp only [id] at e
        subst e
        rw [← bk_at T i hi] at hx
        rcases H.home i hi r hx with e | e
        · subst e; exact idx_none n1 r hx rfl
        · subst e; exact idx_none n2 r hx rfl
      have hc : contT { T with st := outS T.st k } = outS (contT T) k := by
        show T.B.flatMap allC ++ outS T.st k = outS (T.B.flatMap allC ++ T.st) k
        have := outS_self hno
        unfold outS at *
        rw [List.filter_append, this]
      refine ⟨⟨H.lo, H.hi, H.four, H.word, fun r hr => ?_, H.home, ?_, outS_sorted k H.sort⟩, by rw [hc], ?_⟩
      · rw [hc] at hr
        exact H.good r (mem_outK.1 hr).1
      · rw [hc]
        exact keys_out H.keys
      · rw [decide_eq_true_iff, stash_lt]
        unfold contT keysR at *
        rw [List.map_append, List.mem_append]
        exact ⟨.inr, fun h => h.resolve_left hno⟩
    · rw [e2]
      have h := del_bucket H (H.x2_lt k) hj hq hk
      exact ⟨h.1, h.2.1, fun _ => h.2.2, fun _ => rfl⟩
  · rw [e1]
    have h := del_bucket H (H.x1_lt k) hj hq hk
    exact ⟨h.1, h.2.1, fun _ => h.2.2, fun _ => rfl⟩
/-- A table and the sorted row of what it has. -/
structure Kept (T : Tab) (N : List Rt) : Prop where
  inv : Inv T
  sort : Sorted N
  all : (contT T).Perm N
theorem Kept.empty {s n : Nat} (hs : W64 s) (h1 : 1 ≤ n) (h2 : n ≤ 65536) : Kept (emptyT s n) [] := ⟨empty_inv hs h1 h2, List.Pairwise.nil, by rw [empty_cont]⟩
theorem Kept.len {T : Tab} {N : List Rt} (H : Kept T N) : (contT T).length = N.length := H.all.length_eq
theorem Kept.put {T : Tab} {N : List Rt} (H : Kept T N) (d : Nat) (r : Rt) (hr : r.k.good) : Kept (putF d T r) (intoS N r) := by
  have h := putF_ok d T r H.inv hr
  exact ⟨h.inv, intoS_sorted r H.sort, (h.all.trans ((outS_perm H.all r.k).cons r)).trans (intoS_perm r H.sort).symm⟩
theorem Kept.del {T : Tab} {N : List Rt} (H : Kept T N) (k : Ky) : Kept (delT T k).1 (outS N k) := by
  have h := delT_ok H.inv k
  exact ⟨h.1, outS_sorted k H.sort, h.2.1.trans (outS_perm H.all k)⟩
theorem Kept.del_tells {T : Tab} {N : List Rt} (H : Kept T N) (k : Ky) : ((delT T k).2 = true ↔ k ∈ keysR N) := by
  rw [(delT_ok H.inv k).2.2]
  exact (keysR_perm H.all).mem_iff
theorem Kept.get {T : Tab} {N : List Rt} (H : Kept T N) {r : Rt} (hr : r ∈ N) : getT T r.k = some r.v := get_mem H.inv (H.all.mem_iff.2 hr)
/-- What is there, sorted, is the row. -/
theorem Kept.sorted {T : Tab} {N M : List Rt} (H : Kept T N) (hM : Sorted M) (hp : M.Perm (contT T)) : M = N := sorted_eq hM H.sort (hp.trans H.all)
theorem find_tells {L : List Rt} {k : Ky} : (findS L k).isSome = true ↔ k ∈ keysR L := by
  constructor
  · exact findS_some
  · intro h
    exact Classical.byContradiction fun hn => (findS_none (by simpa using hn)) h
end Go.Proofs.YtoihkbanmnagkaaGreat
/-
  Plain mathematics of longest matches: the longest of a row of routes that has an address, within a range of lengths; the keys of an address, by length. No condition but those that stand in each.
-/
set_option linter.unusedSimpArgs false
set_option linter.unusedVariables false
namespace Go.Proofs.YtoihkbanmnagkaaGreat
open M

/-- The key of an address with so many bits. -/
def cutK (ah al m : Nat) : Ky := ⟨cutW ah m, cutW al (m - 64), (m : Int)⟩
theorem cutW_cut (w n : Nat) : cutW (cutW w n) n = cutW w n := by
  unfold cutW
  rw [Nat.mul_div_cancel _ (Nat.two_pow_pos _)]
theorem has_cutK (k : Ky) (ah al : Nat) : hasB k.h k.l k.n ah al = true ↔ ∃ m : Nat, m ≤ 128 ∧ k = cutK ah al m := by
  unfold hasB rightB
  simp only [Bool.and_eq_true, decide_eq_true_eq]
  constructor
  · rintro ⟨⟨h1, h2, -, -⟩, h3, h4⟩
    refine ⟨k.n.toNat, by omega, ?_⟩
    obtain ⟨h, l, n⟩ := k
    simp only at h1 h2 h3 h4
    unfold cutK
    simp only
    rw [h3, h4, Int.toNat_of_nonneg h1]
  · rintro ⟨m, hm, rfl⟩
    unfold cutK
    simp only [Int.toNat_natCast]
    exact ⟨⟨by omega, by omega, cutW_cut _ _, cutW_cut _ _⟩, trivial, trivial⟩
theorem cutK_n {ah al m m' : Nat} (h : cutK ah al m = cutK ah al m') : m = m' := by
  unfold cutK at h
  injection h with _ _ h
  exact Int.ofNat.inj h
/-- The longest of the first so many that c allows: where it stands; of two as long the first. -/
def lngI (L : List Rt) (c : Rt → Bool) : Nat → Option Nat
  | 0 => none
  | j + 1 =>
    match lngI L c j with
    | none => if c (L.getD j ⟨⟨0, 0, 0⟩, 0⟩) = true then some j else none
    | some b => if c (L.getD j ⟨⟨0, 0, 0⟩, 0⟩) = true ∧ (L.getD b ⟨⟨0, 0, 0⟩, 0⟩).k.n < (L.getD j ⟨⟨0, 0, 0⟩, 0⟩).k.n then some j else some b
theorem getD_at {L : List Rt} {i : Nat} (h : i < L.length) : L.getD i ⟨⟨0, 0, 0⟩, 0⟩ = L[i] := by
  rw [List.getD_eq_getElem?_getD, List.getElem?_eq_getElem h]
  rfl
/-- What that is. -/
def LngOk (L : List Rt) (c : Rt → Bool) (j : Nat) : Option Nat → Prop
  | none => ∀ i (h : i < L.length), i < j → c L[i] = false
  | some b => ∃ hb : b < L.length, b < j ∧ c L[b] = true ∧ ∀ i (h : i < L.length), i < j → c L[i] = true → L[i].k.n ≤ L[b].k.n
theorem lng_ok (L : List Rt) (c : Rt → Bool) : ∀ j, j ≤ L.length → LngOk L c j (lngI L c j)
  | 0, _ => fun i _ h => absurd h (by omega)
  | j + 1, hj => by
    have ih := lng_ok L c j (by omega)
    have hjl : j < L.length := by omega
    unfold lngI
    rw [getD_at hjl]
    cases e : lngI L c j with
    | none =>
      rw [e] at ih
      have ih : ∀ i (h : i < L.length), i < j → c L[i] = false := ih
      by_cases hc : c L[j] = true
      · simp only [hc, if_true]
        refine ⟨hjl, by omega, hc, fun i hi hlt hci => ?_⟩
        by_cases hij : i = j
        · subst hij; exact Int.le_refl _
        · rw [ih i hi (by omega)] at hci; cases hci
      · simp only [hc]
        intro i hi hlt
        by_cases hij : i = j
        · subst hij; simpa using hc
        · exact ih i hi (by omega)
    | some b =>
      rw [e] at ih
      obtain ⟨hb, hbj, hcb, hmax⟩ := ih
      simp only [getD_at hb]
      by_cases hc : c L[j] = true ∧ L[b].k.n < L[j].k.n
      · rw [if_pos hc]
        refine ⟨hjl, by omega, hc.1, fun i hi hlt hci => ?_⟩
        by_cases hij : i = j
        · subst hij; exact Int.le_refl _
        · have := hmax i hi (by omega) hci; omega
      · rw [if_neg hc]
        refine ⟨hb, by omega, hcb, fun i hi hlt hci => ?_⟩
        by_cases hij : i = j
        · subst hij
          by_cases h2 : L[b].k.n < L[i].k.n
          · exact absurd ⟨hci, h2⟩ hc
          · omega
        · exact hmax i hi (by omega) hci
/-- Which routes Longest looks at. -/
def candB (ah al : Nat) (low high : Int) (r : Rt) : Bool := decide (low < r.k.n) && (decide (r.k.n ≤ high) && hasB r.k.h r.k.l r.k.n ah al)
/-- What a row has of an address, by length. -/
def depV (N : List Rt) (ah al m : Nat) : Option Int := (N.find? fun r => decide (r.k = cutK ah al m)).map Rt.v
/-- The greatest length below f, within a range, at which there is something. -/
def bestM (D : Nat → Option Int) (low high : Int) : Nat → Option Nat
  | 0 => none
  | f + 1 => if low < (f : Int) ∧ (f : Int) ≤ high ∧ (D f).isSome = true then some f else bestM D low high f
theorem best_none {D : Nat → Option Int} {low high : Int} : ∀ {f : Nat}, bestM D low high f = none ↔ ∀ m, m < f → ¬ (low < (m : Int) ∧ (m : Int) ≤ high ∧ (D m).isSome = true)
  | 0 => ⟨fun _ m h => absurd h (by omega), fun _ => rfl⟩
  | f + 1 => by
    unfold bestM
    split
    · rename_i h
      exact ⟨fun e => by (cases e), fun g => absurd h (g f (by omega))⟩
    · rename_i h
      rw [best_none (f := f)]
      refine ⟨fun g m hm => ?_, fun g m hm => g m (by omega)⟩
      by_cases e : m = f
      · subst e; exact h
      · exact g m (by omega)
theorem best_some {D : Nat → Option Int} {low high : Int} {b : Nat} : ∀ {f : Nat}, bestM D low high f = some b ↔ b < f ∧ (low < (b : Int) ∧ (b : Int) ≤ high ∧ (D b).isSome = true) ∧ ∀ m, b < m → m < f → ¬ (low < (m : Int) ∧ (m : Int) ≤ high ∧ (D m).isSome = true)
  | 0 => ⟨fun e => by (cases e), fun h => absurd h.1 (by omega)⟩
  | f + 1 => by
    unfold bestM
    split
    · rename_i h
      constructor
      · intro e
        injection e with e
        subst e
        exact ⟨by omega, h, fun m h1 h2 => absurd h2 (by omega)⟩
      · rintro ⟨h1, h2, h3⟩
        by_cases e : b = f
        · rw [e]
        · exact absurd h (h3 f (by omega) (by omega))
    · rename_i h
      rw [best_some (f := f)]
      constructor
      · rintro ⟨h1, h2, h3⟩
        refine ⟨by omega, h2, fun m hb hm => ?_⟩
        by_cases e : m = f
        · subst e; exact h
        · exact h3 m hb (by omega)
      · rintro ⟨h1, h2, h3⟩
        have hbf : b ≠ f := fun e => h (e ▸ h2)
        exact ⟨by omega, h2, fun m hb hm => h3 m hb (by omega)⟩
theorem dep_some {N : List Rt} {ah al m : Nat} : (depV N ah al m).isSome = true ↔ ∃ r ∈ N, r.k = cutK ah al m := by
  unfold depV
  rw [Option.isSome_map, List.find?_isSome]
  simp
theorem dep_of {N : List Rt} (hn : (keysR N).Nodup) {ah al m : Nat} {r : Rt} (hr : r ∈ N) (hk : r.k = cutK ah al m) : depV N ah al m = some r.v := by
  unfold depV
  cases e : N.find? (fun r => decide (r.k = cutK ah al m)) with
  | none =>
    rw [List.find?_eq_none] at e
    exact absurd (decide_eq_true hk) (e r hr)
  | some q =>
    have hq := List.mem_of_find?_eq_some e
    have hqk : q.k = cutK ah al m := by simpa using List.find?_some e
    obtain ⟨i, hi, rfl⟩ := List.getElem_of_mem hr
    obtain ⟨j, hj, rfl⟩ := List.getElem_of_mem hq
    have : i = j := by
      unfold keysR at hn
      exact (List.getElem_inj (xs := N.map Rt.k) (h₀ := by simpa using hi) (h₁ := by simpa using hj) hn).1 (by simp [hk, hqk])
    subst this
    rfl
/-- The longest of a row is the greatest length at which the row has something of the address. -/
theorem lng_best {N : List Rt} (ah al : Nat) (low high : Int) :
    (lngI N (candB ah al low high) N.length = none ∧ bestM (depV N ah al) low high 129 = none) ∨
    ∃ b, ∃ hb : b < N.length, ∃ m : Nat, lngI N (candB ah al low high) N.length = some b ∧ bestM (depV N ah al) low high 129 = some m ∧ N[b].k = cutK ah al m := by
  have hl := lng_ok N (candB ah al low high) N.length (Nat.le_refl _)
  have hc : ∀ r : Rt, candB ah al low high r = true ↔ low < r.k.n ∧ r.k.n ≤ high ∧ ∃ m : Nat, m ≤ 128 ∧ r.k = cutK ah al m := fun r => by
    unfold candB
    simp only [Bool.and_eq_true, decide_eq_true_eq, has_cutK]
  cases e : lngI N (candB ah al low high) N.length with
  | none =>
    rw [e] at hl
    have hl : ∀ i (h : i < N.length), i < N.length → candB ah al low high N[i] = false := hl
    refine .inl ⟨rfl, best_none.2 fun m hm h => ?_⟩
    obtain ⟨r, hr, hk⟩ := dep_some.1 h.2.2
    obtain ⟨i, hi, rfl⟩ := List.getElem_of_mem hr
    have h1 := hl i hi hi
    have h2 := (hc N[i]).2 ⟨by rw [hk]; exact h.1, by rw [hk]; exact h.2.1, m, by omega, hk⟩
    rw [h1] at h2
    cases h2
  | some b =>
    rw [e] at hl
    obtain ⟨hb, -, hcb, hmax⟩ := hl
    obtain ⟨h1, h2, m, hm, hk⟩ := (hc N[b]).1 hcb
    have hkn : N[b].k.n = (m : Int) := by rw [hk]; rfl
    refine .inr ⟨b, hb, m, rfl, best_some.2 ⟨by omega, ⟨by omega, by omega, dep_some.2 ⟨_, List.getElem_mem hb, hk⟩⟩, fun m' hm' hm2 h => ?_⟩, hk⟩
    obtain ⟨r, hr, hk'⟩ := dep_some.1 h.2.2
    obtain ⟨i, hi, rfl⟩ := List.getElem_of_mem hr
    have hn' : N[i].k.n = (m' : Int) := by rw [hk']; rfl
    have := hmax i hi hi ((hc N[i]).2 ⟨by rw [hn']; exact h.1, by rw [hn']; exact h.2.1, m', by omega, hk'⟩)
    omega
end Go.Proofs.YtoihkbanmnagkaaGreat
/-
  Routes by their prefixes, as an order for the library's sorts. No condition but those that stand in each.
-/
set_option linter.unusedSimpArgs false
set_option linter.unusedVariables false
namespace Go.Proofs.YtoihkbanmnagkaaGreat
open Go.Sort M

def ltR (a b : Rt) : Bool := lessK a.k b.k
theorem ltR_swo : SWO ltR := by
  refine ⟨fun x => lessK_irr _, fun x y z h g => lessK_trans h g, fun x y z h g => ?_⟩
  unfold ltR at *
  cases hc : lessK x.k z.k with
  | false => rfl
  | true =>
    by_cases e : y.k = z.k
    · rw [e] at h
      rw [h] at hc
      cases hc
    · have h2 := lessK_total e
      rw [g] at h2
      have := lessK_trans hc h2
      rw [h] at this
      cases this
theorem sorted_strict {M : List Rt} (hk : (keysR M).Nodup) (h : M.Pairwise fun a b => ltR b a = false) : Sorted M := by
  unfold keysR List.Nodup at hk
  rw [List.pairwise_map] at hk
  refine (hk.and h).imp ?_
  rintro a b ⟨hne, hl⟩
  have := lessK_total (a := b.k) (b := a.k) (fun e => hne e.symm)
  rw [this]
  unfold ltR at hl
  rw [hl]
  rfl
end Go.Proofs.YtoihkbanmnagkaaGreat
