/-
  Plain mathematics of a put into a table, part by part: where the key is there; kick after kick. No condition but those that stand in each.
-/
import Derived.Test.YtoihkbanmnagkaaGreatM12b
/-
  Plain mathematics of tables of buckets: what always holds of a table, and what a put makes of it. No condition but those that stand in each.
-/
set_option linter.unusedSimpArgs false
set_option linter.unusedVariables false
namespace Go.Proofs.YtoihkbanmnagkaaGreat
open M

theorem hasK_some {k : Ky} {r : Rt} : hasK k (some r) = true ↔ r.k = k := by simp [hasK]
theorem idx_none {C : List Pl} {k : Ky} (h : C.findIdx? (hasK k) = none) : ∀ r, some r ∈ C → r.k ≠ k := by
  intro r hr e
  have := (List.findIdx?_eq_none_iff.1 h) _ hr
  rw [hasK_some.2 e] at this
  cases this
theorem getC_none {C : List Pl} {k : Ky} (h : getC C k = none) : C.findIdx? (hasK k) = none := by
  rcases idx_cases (hasK k) C with ⟨i, hi, h1, -, h3⟩ | ⟨h1, -⟩
  · rw [getC_hit hi h1 h3] at h
    cases h
  · exact h1
theorem hit_at {C : List Pl} {k : Ky} {i : Nat} (hi : i < C.length) (h : hasK k C[i] = true) : ∃ q, C[i] = some q ∧ q.k = k := by
  cases e : C[i] with
  | none => rw [e] at h; cases h
  | some q => exact ⟨q, rfl, hasK_some.1 (e ▸ h)⟩
theorem getC_some {C : List Pl} {k : Ky} (h : (getC C k).isSome = true) : ∃ i, ∃ hi : i < C.length, C.findIdx? (hasK k) = some i ∧ ∃ q, C[i] = some q ∧ q.k = k ∧ getC C k = some q.v := by
  rcases idx_cases (hasK k) C with ⟨i, hi, h1, -, h3⟩ | ⟨h1, -⟩
  · obtain ⟨q, e, hq⟩ := hit_at hi h3
    exact ⟨i, hi, h1, q, e, hq, by rw [getC_hit hi h1 h3, e]; rfl⟩
  · rw [getC_miss h1] at h
    cases h
theorem putC_hit {C : List Pl} {k : Ky} {v : Int} {i : Nat} (h : C.findIdx? (hasK k) = some i) : putC C k v = some (C.set i (some ⟨k, v⟩)) := by
  unfold putC
  rw [h]
theorem putC_some {C C' : List Pl} {k : Ky} {v : Int} (hm : C.findIdx? (hasK k) = none) (h : putC C k v = some C') : ∃ j, ∃ hj : j < C.length, C' = C.set j (some ⟨k, v⟩) ∧ C[j] = none := by
  unfold putC at h
  rw [hm] at h
  rcases idx_cases Option.isNone C with ⟨i, hi, h1, -, h3⟩ | ⟨h1, -⟩
  · simp only [h1, Option.some.injEq] at h
    exact ⟨i, hi, h.symm, by simpa using h3⟩
  · simp only [h1] at h
    cases h
theorem putC_none {C : List Pl} {k : Ky} {v : Int} (h : putC C k v = none) : C.findIdx? (hasK k) = none ∧ ∀ x ∈ C, x.isSome = true := by
  unfold putC at h
  rcases idx_cases (hasK k) C with ⟨i, hi, h1, -, h3⟩ | ⟨h1, -⟩
  · simp only [h1] at h
    cases h
  · refine ⟨h1, ?_⟩
    simp only [h1] at h
    rcases idx_cases Option.isNone C with ⟨i, hi, h2, -, h3⟩ | ⟨h2, -⟩
    · simp only [h2] at h
      cases h
    · intro x hx
      have := (List.findIdx?_eq_none_iff.1 h2) x hx
      cases x with
      | none => cases this
      | some r => rfl
theorem takeC_cases (C : List Pl) (k : Ky) : (takeC C k = none ∧ C.findIdx? (hasK k) = none) ∨ ∃ j, ∃ hj : j < C.length, ∃ q, takeC C k = some (C.set j none) ∧ C[j] = some q ∧ q.k = k := by
  unfold takeC
  rcases idx_cases (hasK k) C with ⟨i, hi, h1, -, h3⟩ | ⟨h1, -⟩
  · obtain ⟨q, e, hq⟩ := hit_at hi h3
    exact .inr ⟨i, hi, q, by rw [h1], e, hq⟩
  · exact .inl ⟨by rw [h1], h1⟩
theorem swapC_full {C : List Pl} {i : Nat} (hi : i < C.length) (hf : ∀ x ∈ C, x.isSome = true) (k : Ky) (v : Int) : ∃ q, C[i] = some q ∧ swapC C (i : Int) k v = some (q, C.set i (some ⟨k, v⟩)) := by
  obtain ⟨q, e⟩ := Option.isSome_iff_exists.1 (hf _ (List.getElem_mem hi))
  refine ⟨q, e, ?_⟩
  unfold swapC
  rw [if_pos (by omega), Int.toNat_natCast, List.getD_eq_getElem?_getD, List.getElem?_eq_getElem hi, e]
  rfl

/-- What always holds of a table. -/
structure Inv (T : Tab) : Prop where
  lo : 1 ≤ T.B.length
  hi : T.B.length ≤ 65536
  four : ∀ i, i < T.B.length → (T.bk i).length = 4
  word : W64 T.s
  good : ∀ r ∈ contT T, r.k.good
  home : ∀ i, i < T.B.length → ∀ r, some r ∈ T.bk i → i = T.x1 r.k ∨ i = T.x2 r.k
  keys : (keysR (contT T)).Nodup
  sort : Sorted T.st
theorem Inv.x1_lt {T : Tab} (H : Inv T) (k : Ky) : T.x1 k < T.B.length := b1_lt H.lo
theorem Inv.x2_lt {T : Tab} (H : Inv T) (k : Ky) : T.x2 k < T.B.length := b2_lt H.lo
theorem bk_set (T : Tab) (i : Nat) (hi : i < T.B.length) (C : List Pl) (k : Nat) : (T.set i C).bk k = if k = i then C else T.bk k := by
  unfold Tab.bk Tab.set
  simp only [List.getD_eq_getElem?_getD, List.getElem?_set]
  by_cases e : i = k
  · subst e
    rw [if_pos rfl, if_pos hi, if_pos rfl]
    rfl
  · rw [if_neg e, if_neg (fun x => e x.symm)]
theorem set_len (T : Tab) (i : Nat) (C : List Pl) : (T.set i C).B.length = T.B.length := List.length_set
theorem set_x1 (T : Tab) (i : Nat) (C : List Pl) (k : Ky) : (T.set i C).x1 k = T.x1 k := by unfold Tab.x1; rw [set_len]; rfl
theorem set_x2 (T : Tab) (i : Nat) (C : List Pl) (k : Ky) : (T.set i C).x2 k = T.x2 k := by unfold Tab.x2; rw [set_len]; rfl
theorem mem_bk {T : Tab} {i : Nat} (hi : i < T.B.length) {r : Rt} (h : some r ∈ T.bk i) : r ∈ contT T := by
  unfold contT
  rw [bk_at T i hi] at h
  refine List.mem_append_left _ (List.mem_flatMap.2 ⟨T.B[i], List.getElem_mem hi, ?_⟩)
  unfold allC
  exact List.mem_filterMap.2 ⟨some r, h, rfl⟩
theorem mem_cont {T : Tab} {r : Rt} (h : r ∈ contT T) : (∃ i, i < T.B.length ∧ some r ∈ T.bk i) ∨ r ∈ T.st := by
  unfold contT at h
  rw [List.mem_append, List.mem_flatMap] at h
  rcases h with ⟨C, hC, h⟩ | h
  · obtain ⟨i, hi, rfl⟩ := List.getElem_of_mem hC
    unfold allC at h
    rw [List.mem_filterMap] at h
    obtain ⟨x, hx, e⟩ := h
    simp only [id] at e
    subst e
    exact .inl ⟨i, hi, by rw [bk_at T i hi]; exact hx⟩
  · exact .inr h
theorem Inv.place {T : Tab} (H : Inv T) {i : Nat} (hi : i < T.B.length) {j : Nat} (hj : j < (T.bk i).length) {x : Pl} (hx : ∀ r, x = some r → r.k.good ∧ (i = T.x1 r.k ∨ i = T.x2 r.k))
    (hk : (keysR (contT (T.set i ((T.bk i).set j x)))).Nodup) : Inv (T.set i ((T.bk i).set j x)) := by
  refine ⟨by rw [set_len]; exact H.lo, by rw [set_len]; exact H.hi, fun k hkl => ?_, H.word, fun r hr => ?_, fun k hkl r hr => ?_, hk, H.sort⟩
  · rw [set_len] at hkl
    rw [bk_set T i hi]
    split
    · rw [List.length_set]; exact H.four i hi
    · exact H.four k hkl
  · have hp := (cont_set T i hi j hj x).mem_iff.1 (List.mem_append_right _ hr)
    rw [List.mem_append] at hp
    rcases hp with hp | hp
    · exact (hx r (by simpa using hp)).1
    · exact H.good r hp
  · rw [set_len] at hkl
    rw [set_x1, set_x2]
    rw [bk_set T i hi] at hr
    split at hr
    · rename_i e
      rcases List.mem_or_eq_of_mem_set hr with h | h
      · exact e ▸ H.home i hi r h
      · exact e ▸ (hx r h.symm).2
    · exact H.home k hkl r hr
/-- What a table has, where one comes instead of another one of its key; where one comes; where one goes; where one comes and another one goes. -/
theorem cont_same {T : Tab} (H : Inv T) {i : Nat} (hi : i < T.B.length) {j : Nat} (hj : j < (T.bk i).length) {q r : Rt} (hq : (T.bk i)[j] = some q) (he : q.k = r.k) :
    (keysR (contT (T.set i ((T.bk i).set j (some r))))).Nodup ∧ (contT (T.set i ((T.bk i).set j (some r)))).Perm (r :: outS (contT T) r.k) := by
  have hp := cont_set T i hi j hj (some r)
  rw [hq] at hp
  have hk := keysR_perm hp
  have hk2 : (keysR (contT (T.set i ((T.bk i).set j (some r))))).Perm (keysR (contT T)) := by
    unfold keysR at *
    simp only [Option.toList_some, List.singleton_append, List.map_cons, he] at hk
    exact (List.perm_cons _).1 hk
  have hn := hk2.nodup_iff.2 H.keys
  refine ⟨hn, ?_⟩
  have hm : r ∈ contT (T.set i ((T.bk i).set j (some r))) := by
    refine mem_bk (i := i) (by rw [set_len]; exact hi) ?_
    rw [bk_set T i hi, if_pos rfl]
    exact List.mem_set hj _
  have ho := outS_perm hp r.k
  have e1 : outS ((some q).toList ++ contT (T.set i ((T.bk i).set j (some r)))) r.k = outS (contT (T.set i ((T.bk i).set j (some r)))) r.k := by simp [outS, he]
  have e2 : outS ((some r).toList ++ contT T) r.k = outS (contT T) r.k := by simp [outS]
  rw [e1, e2] at ho
  exact (split_key hn hm).trans (ho.cons r)
theorem cont_more {T : Tab} (H : Inv T) {i : Nat} (hi : i < T.B.length) {j : Nat} (hj : j < (T.bk i).length) {r : Rt} (hq : (T.bk i)[j] = none) (he : r.k ∉ keysR (contT T)) :
    (keysR (contT (T.set i ((T.bk i).set j (some r))))).Nodup ∧ (contT (T.set i ((T.bk i).set j (some r)))).Perm (r :: contT T) := by
  have hp := cont_set T i hi j hj (some r)
  rw [hq] at hp
  simp only [Option.toList_none, List.nil_append, Option.toList_some, List.singleton_append] at hp
  refine ⟨(keysR_perm hp).nodup_iff.2 ?_, hp⟩
  unfold keysR at *
  rw [List.map_cons, List.nodup_cons]
  exact ⟨he, H.keys⟩
theorem cont_less {T : Tab} (H : Inv T) {i : Nat} (hi : i < T.B.length) {j : Nat} (hj : j < (T.bk i).length) {q : Rt} (hq : (T.bk i)[j] = some q) :
    (keysR (contT (T.set i ((T.bk i).set j none)))).Nodup ∧ (contT (T.set i ((T.bk i).set j none))).Perm (outS (contT T) q.k) := by
  have hp := cont_set T i hi j hj none
  rw [hq] at hp
  simp only [Option.toList_none, List.nil_append, Option.toList_some, List.singleton_append] at hp
  have hn := (keysR_perm hp).nodup_iff.2 H.keys
  unfold keysR at hn
  rw [List.map_cons, List.nodup_cons] at hn
  refine ⟨hn.2, ?_⟩
  have ho := outS_perm hp q.k
  have e1 : outS (q :: contT (T.set i ((T.bk i).set j none))) q.k = contT (T.set i ((T.bk i).set j none)) := by
    rw [show outS (q :: contT (T.set i ((T.bk i).set j none))) q.k = outS (contT (T.set i ((T.bk i).set j none))) q.k by simp [outS]]
    exact outS_self hn.1
  rw [e1] at ho
  exact ho
theorem cont_swap {T : Tab} (H : Inv T) {i : Nat} (hi : i < T.B.length) {j : Nat} (hj : j < (T.bk i).length) {q r : Rt} (hq : (T.bk i)[j] = some q) (he : r.k ∉ keysR (contT T)) :
    (keysR (contT (T.set i ((T.bk i).set j (some r))))).Nodup ∧ (q :: contT (T.set i ((T.bk i).set j (some r)))).Perm (r :: contT T) ∧ q.k ∉ keysR (contT (T.set i ((T.bk i).set j (some r)))) := by
  have hp := cont_set T i hi j hj (some r)
  rw [hq] at hp
  simp only [Option.toList_some, List.singleton_append] at hp
  have hn : (keysR (q :: contT (T.set i ((T.bk i).set j (some r))))).Nodup := by
    refine (keysR_perm hp).nodup_iff.2 ?_
    unfold keysR at *
    rw [List.map_cons, List.nodup_cons]
    exact ⟨he, H.keys⟩
  unfold keysR at *
  rw [List.map_cons, List.nodup_cons] at hn
  exact ⟨hn.2, hp, hn.1⟩
end Go.Proofs.YtoihkbanmnagkaaGreat
/-
  Plain mathematics of tables of buckets: what a put, and a delete, makes of all that a table has; what is found. No condition but those that stand in each.
-/
set_option linter.unusedSimpArgs false
set_option linter.unusedVariables false
namespace Go.Proofs.YtoihkbanmnagkaaGreat
open M

theorem inv_put {T : Tab} (H : Inv T) {i : Nat} (hi : i < T.B.length) {j : Nat} (hj : j < (T.bk i).length) {r : Rt} (hg : r.k.good) (hh : i = T.x1 r.k ∨ i = T.x2 r.k) (hk : (keysR (contT (T.set i ((T.bk i).set j (some r))))).Nodup) : Inv (T.set i ((T.bk i).set j (some r))) :=
  H.place hi hj (fun q e => by injection e with e; subst e; exact ⟨hg, hh⟩) hk
/-- Behind a step: as many buckets, the same seed. -/
structure Like (T T' : Tab) : Prop where
  s : T'.s = T.s
  n : T'.B.length = T.B.length
theorem Like.refl (T : Tab) : Like T T := ⟨rfl, rfl⟩
theorem Like.trans {a b c : Tab} (h : Like a b) (k : Like b c) : Like a c := ⟨k.s.trans h.s, k.n.trans h.n⟩
theorem Like.set (T : Tab) (i : Nat) (C : List Pl) : Like T (T.set i C) := ⟨rfl, set_len T i C⟩
theorem Like.x1 {T T' : Tab} (h : Like T T') (k : Ky) : T'.x1 k = T.x1 k := by unfold Tab.x1; rw [h.s, h.n]
theorem Like.x2 {T T' : Tab} (h : Like T T') (k : Ky) : T'.x2 k = T.x2 k := by unfold Tab.x2; rw [h.s, h.n]
theorem other_home (T : Tab) (k : Ky) (b : Nat) : T.other k b = T.x1 k ∨ T.other k b = T.x2 k := by
  unfold Tab.other
  split
  · exact .inr rfl
  · exact .inl rfl
theorem Inv.other_lt {T : Tab} (H : Inv T) (k : Ky) (b : Nat) : T.other k b < T.B.length := by
  rcases other_home T k b with h | h <;> rw [h]
  · exact H.x1_lt k
  · exact H.x2_lt k
/-- What a step leaves that has a key to bring in: all that there was, and that one, but for who is left. -/
structure Brought (T : Tab) (r : Rt) (p : Tab × Option Rt) : Prop where
  inv : Inv p.1
  like : Like T p.1
  st : p.1.st = T.st
  all : (p.2.toList ++ contT p.1).Perm (r :: contT T)
theorem fresh_keys {T : Tab} (H : Inv T) {r : Rt} (he : r.k ∉ keysR (contT T)) : (keysR (r :: contT T)).Nodup := by
  unfold keysR at *
  rw [List.map_cons, List.nodup_cons]
  exact ⟨he, H.keys⟩
theorem Brought.left {T : Tab} (H : Inv T) {r q : Rt} {p : Tab × Option Rt} (h : Brought T r p) (hg : r.k.good) (he : r.k ∉ keysR (contT T)) (hq : p.2 = some q) : q.k.good ∧ q.k ∉ keysR (contT p.1) ∧ (q :: contT p.1).Perm (r :: contT T) := by
  have ha := h.all
  rw [hq] at ha
  have ha : (q :: contT p.1).Perm (r :: contT T) := ha
  refine ⟨?_, ?_, ha⟩
  · have := ha.mem_iff.1 (List.mem_cons_self ..)
    rw [List.mem_cons] at this
    rcases this with rfl | h1
    · exact hg
    · exact H.good q h1
  · have hn := (keysR_perm ha).nodup_iff.2 (fresh_keys H he)
    unfold keysR at hn ⊢
    rw [List.map_cons, List.nodup_cons] at hn
    exact hn.1
/-- A put at an empty place. -/
theorem brought_put {T : Tab} (H : Inv T) {b : Nat} (hb : b < T.B.length) {r : Rt} (hg : r.k.good) (he : r.k ∉ keysR (contT T)) (hh : b = T.x1 r.k ∨ b = T.x2 r.k) {C : List Pl} (h : putC (T.bk b) r.k r.v = some C) : Brought T r (T.set b C, none) := by
  have hm : (T.bk b).findIdx? (hasK r.k) = none := by
    rcases idx_cases (hasK r.k) (T.bk b) with ⟨i, hi, -, -, h3⟩ | ⟨h1, -⟩
    · obtain ⟨q, e, hq⟩ := hit_at hi h3
      exact absurd (hq ▸ mem_keys (mem_bk hb (e ▸ List.getElem_mem hi))) he
    · exact h1
  obtain ⟨j, hj, rfl, hn⟩ := putC_some hm h
  have := cont_more H hb hj hn he
  exact ⟨inv_put H hb hj hg hh this.1, Like.set _ _ _, rfl, this.2⟩
theorem kicks_ok : ∀ (f i : Nat) (T : Tab) (b : Nat) (r : Rt), Inv T → b < T.B.length → r.k.good → r.k ∉ keysR (contT T) → (b = T.x1 r.k ∨ b = T.x2 r.k) → putC (T.bk b) r.k r.v = none → Brought T r (kicks f i T b r)
  | 0, _, T, _, r, H, _, _, _, _, _ => ⟨H, Like.refl T, rfl, List.Perm.refl _⟩
  | f + 1, i, T, b, r, H, hb, hg, he, hh, hp => by
    have h4 := H.four b hb
    obtain ⟨q, hq, hs⟩ := swapC_full (i := i % 4) (by rw [h4]; exact Nat.mod_lt _ (by decide)) (putC_none hp).2 r.k r.v
    have ho : kOut T b i r = q := by unfold kOut; rw [hs]; rfl
    have ht : kTab T b i r = T.set b ((T.bk b).set (i % 4) (some r)) := by unfold kTab; rw [hs]; rfl
    have hj : i % 4 < (T.bk b).length := by rw [h4]; exact Nat.mod_lt _ (by decide)
    obtain ⟨c1, c2, c3⟩ := cont_swap H hb hj hq he
    have H' := inv_put H hb hj hg hh c1
    rw [← ht] at H' c1 c2 c3
    have hl : Like T (kTab T b i r) := by rw [ht]; exact Like.set _ _ _
    have hst : (kTab T b i r).st = T.st := by rw [ht]; rfl
    have hqg : q.k.good := H.good q (mem_bk hb (hq ▸ List.getElem_mem hj))
    have hnb := H'.other_lt q.k b
    have hnh := other_home (kTab T b i r) q.k b
    have hN : kNew T b i r = (kTab T b i r).other q.k b := by unfold kNew; rw [ho]
    unfold kicks
    rw [ho, hN]
    cases e : putC ((kTab T b i r).bk ((kTab T b i r).other q.k b)) q.k q.v with
    | some C =>
      have := brought_put H' hnb hqg c3 hnh e
      exact ⟨this.inv, hl.trans this.like, hst ▸ this.st, this.all.trans c2⟩
    | none =>
      have := kicks_ok f (i + 1) (kTab T b i r) ((kTab T b i r).other q.k b) q H' hnb hqg c3 hnh e
      exact ⟨this.inv, hl.trans this.like, hst ▸ this.st, this.all.trans c2⟩
theorem findS_none {l : List Rt} {k : Ky} (h : (findS l k).isSome = false) : k ∉ keysR l := by
  intro hm
  unfold keysR at hm
  rw [List.mem_map] at hm
  obtain ⟨q, hq, rfl⟩ := hm
  cases e : findS l q.k with
  | none =>
    unfold findS at e
    have := (List.findIdx?_eq_none_iff.1 e) q hq
    simp at this
  | some i => rw [e] at h; cases h
theorem findS_some {l : List Rt} {k : Ky} (h : (findS l k).isSome = true) : k ∈ keysR l := by
  obtain ⟨i, e⟩ := Option.isSome_iff_exists.1 h
  unfold findS at e
  obtain ⟨hi, h1, -⟩ := List.findIdx?_eq_some_iff_getElem.1 e
  rw [decide_eq_true_eq] at h1
  exact h1 ▸ mem_keys (List.getElem_mem hi)
theorem absent {T : Tab} (H : Inv T) {k : Ky} (h1 : (getC (T.bk (T.x1 k)) k).isSome = false) (h2 : (getC (T.bk (T.x2 k)) k).isSome = false) (h3 : (findS T.st k).isSome = false) : k ∉ keysR (contT T) := by
  intro hm
  unfold keysR at hm
  rw [List.mem_map] at hm
  obtain ⟨q, hq, rfl⟩ := hm
  rcases mem_cont hq with ⟨i, hi, hb⟩ | hs
  · have e1 : getC (T.bk (T.x1 q.k)) q.k = none := by simpa using h1
    have e2 : getC (T.bk (T.x2 q.k)) q.k = none := by simpa using h2
    rcases H.home i hi q hb with e | e
    · exact idx_none (getC_none e1) q (e ▸ hb) rfl
    · exact idx_none (getC_none e2) q (e ▸ hb) rfl
  · exact findS_none h3 (mem_keys hs)
/-- The stash with one more, or with one instead of another one. -/
theorem inv_stash {T : Tab} (H : Inv T) {q : Rt} (hg : q.k.good) (hf : q.k ∉ keysR (T.B.flatMap allC)) : Inv { T with st := intoS T.st q } ∧ (contT { T with st := intoS T.st q }).Perm (q :: outS (contT T) q.k) := by
  have hp := intoS_perm q H.sort
  have hc : (contT { T with st := intoS T.st q }).Perm (q :: outS (contT T) q.k) := by
    unfold contT
    have : outS (T.B.flatMap allC ++ T.st) q.k = T.B.flatMap allC ++ outS T.st q.k := by
      unfold outS
      rw [List.filter_append]
      exact congrArg (· ++ _) (outS_self hf)
    rw [this]
    exact (hp.append_left _).trans List.perm_middle
  refine ⟨⟨H.lo, H.hi, H.four, H.word, fun r hr => ?_, H.home, ?_, intoS_sorted q H.sort⟩, hc⟩
  · have := hc.mem_iff.1 hr
    rw [List.mem_cons] at this
    rcases this with rfl | h
    · exact hg
    · exact H.good r (mem_outS.1 h).1
  · refine (keysR_perm hc).nodup_iff.2 ?_
    unfold keysR
    rw [List.map_cons, List.nodup_cons]
    refine ⟨fun hm => ?_, ?_⟩
    · rw [List.mem_map] at hm
      obtain ⟨r, hr, e⟩ := hm
      exact (mem_outS.1 hr).2 e
    · exact (H.keys.sublist (List.Sublist.map Rt.k List.filter_sublist))
theorem flat_not {T : Tab} (H : Inv T) {k : Ky} (h : k ∈ keysR T.st) : k ∉ keysR (T.B.flatMap allC) := by
  intro hm
  have := H.keys
  unfold contT keysR at this
  rw [List.map_append, List.nodup_append] at this
  exact this.2.2 k hm k h rfl
theorem flat_sub {T : Tab} {k : Ky} (h : k ∉ keysR (contT T)) : k ∉ keysR (T.B.flatMap allC) := by
  intro hm
  refine h ?_
  unfold contT keysR at *
  rw [List.map_append]
  exact List.mem_append_left _ hm
theorem intoS_len {l : List Rt} {q : Rt} (h : Sorted l) (hm : q.k ∈ keysR l) : (intoS l q).length = l.length := by
  have h1 := (intoS_perm q h).length_eq
  unfold keysR at hm
  rw [List.mem_map] at hm
  obtain ⟨r, hr, e⟩ := hm
  have h2 := (split_key h.nodup hr).length_eq
  rw [e] at h2
  simp only [List.length_cons] at h1 h2
  omega
theorem intoS_more {l : List Rt} {q : Rt} (h : Sorted l) (hm : q.k ∉ keysR l) : (intoS l q).length = l.length + 1 := by
  have h1 := (intoS_perm q h).length_eq
  rw [outS_self hm] at h1
  simpa using h1
/-- What a put makes of a table, but for who is left. -/
structure PutOk (T : Tab) (r : Rt) (p : Tab × Option Rt) : Prop where
  inv : Inv p.1
  like : Like T p.1
  st : p.1.st.length = T.st.length
  all : (p.2.toList ++ contT p.1).Perm (r :: outS (contT T) r.k)
  left : ∀ q, p.2 = some q → q.k.good ∧ q.k ∉ keysR (contT p.1) ∧ r.k ∉ keysR (contT T) ∧ (∀ x ∈ T.bk (T.x1 r.k), x.isSome = true)
theorem putIn_ok {T : Tab} (H : Inv T) (r : Rt) (hg : r.k.good) : PutOk T r (putIn T r) := by
  have hx1 := H.x1_lt r.k
  have hx2 := H.x2_lt r.k
  have same : ∀ b, b < T.B.length → (b = T.x1 r.k ∨ b = T.x2 r.k) → (getC (T.bk b) r.k).isSome = true → PutOk T r (T.set b ((putC (T.bk b) r.k r.v).getD (T.bk b)), none) := by
    intro b hb hh h
    obtain ⟨j, hj, hi, q, hq, hqk, -⟩ := getC_some h
    rw [putC_hit hi]
    have := cont_same H hb hj hq hqk
    exact ⟨inv_put H hb hj hg hh this.1, Like.set _ _ _, rfl, this.2, fun q hq => by cases hq⟩
  unfold putIn
  split
  · rename_i h
    exact same _ hx1 (.inl rfl) h
  · rename_i h1
    split
    · rename_i h
      exact same _ hx2 (.inr rfl) h
    · rename_i h2
      split
      · rename_i h3
        have := inv_stash H hg (flat_not H (findS_some h3))
        exact ⟨this.1, ⟨rfl, rfl⟩, intoS_len H.sort (findS_some h3), this.2, fun q hq => by cases hq⟩
      · rename_i h3
        rw [Bool.not_eq_true] at h1 h2 h3
        have he := absent H h1 h2 h3
        have ho := outS_self he
        have conv : ∀ p : Tab × Option Rt, Brought T r p → (p.2 = none ∨ ∀ x ∈ T.bk (T.x1 r.k), x.isSome = true) → PutOk T r p := fun p hb hf =>
          ⟨hb.inv, hb.like, by rw [hb.st], by rw [ho]; exact hb.all, fun q hq => ⟨(hb.left H hg he hq).1, (hb.left H hg he hq).2.1, he, by
            rcases hf with hf | hf
            · rw [hf] at hq; cases hq
            · exact hf⟩⟩
        cases e1 : putC (T.bk (T.x1 r.k)) r.k r.v with
        | some C => exact conv _ (brought_put H hx1 hg he (.inl rfl) e1) (.inl rfl)
        | none =>
          simp only
          cases e2 : putC (T.bk (T.x2 r.k)) r.k r.v with
          | some C => exact conv _ (brought_put H hx2 hg he (.inr rfl) e2) (.inl rfl)
          | none => exact conv _ (kicks_ok 16 0 T (T.x2 r.k) r H hx2 hg he (.inr rfl) e2) (.inr (putC_none e1).2)
/-- .. and with who is left in the stash. -/
structure StayOk (T : Tab) (r : Rt) (p : Tab × Bool) : Prop where
  inv : Inv p.1
  like : Like T p.1
  all : (contT p.1).Perm (r :: outS (contT T) r.k)
  no : p.2 = false → p.1.st.length = T.st.length
  yes : p.2 = true → p.1.st.length = T.st.length + 1 ∧ r.k ∉ keysR (contT T) ∧ (∀ x ∈ T.bk (T.x1 r.k), x.isSome = true)
theorem stay_ok {T : Tab} (H : Inv T) (r : Rt) (hg : r.k.good) : StayOk T r (stay T r) := by
  have h := putIn_ok H r hg
  unfold stay
  cases e : (putIn T r).2 with
  | none =>
    have ha := h.all
    rw [e] at ha
    exact ⟨h.inv, h.like, ha, fun _ => h.st, fun x => by cases x⟩
  | some q =>
    have ha := h.all
    rw [e] at ha
    obtain ⟨l1, l2, l3, l4⟩ := h.left q e
    have hs := inv_stash h.inv l1 (flat_sub l2)
    rw [outS_self l2] at hs
    refine ⟨hs.1, ⟨h.like.s, h.like.n⟩, hs.2.trans ha, fun x => (by simp at x), fun _ => ⟨?_, l3, l4⟩⟩
    have : q.k ∉ keysR (putIn T r).1.st := by
      intro hm
      refine l2 ?_
      unfold contT keysR at *
      rw [List.map_append]
      exact List.mem_append_right _ hm
    show (intoS (putIn T r).1.st q).length = _
    rw [intoS_more h.inv.sort this, h.st]
theorem empty_bk (s n i : Nat) (h : i < n) : (emptyT s n).bk i = [none, none, none, none] := by
  rw [bk_at _ i (by simpa [emptyT] using h)]
  simp [emptyT]
theorem empty_cont (s n : Nat) : contT (emptyT s n) = [] := by
  unfold contT emptyT
  rw [List.append_nil]
  refine List.flatMap_eq_nil_iff.2 fun C hC => ?_
  rw [List.eq_of_mem_replicate hC]
  rfl
theorem empty_inv {s n : Nat} (hs : W64 s) (h1 : 1 ≤ n) (h2 : n ≤ 65536) : Inv (emptyT s n) := by
  have hl : (emptyT s n).B.length = n := by simp [emptyT]
  refine ⟨by omega, by omega, fun i hi => by rw [empty_bk s n i (by omega)]; rfl, hs, fun r hr => ?_, fun i hi r hr => ?_, ?_, List.Pairwise.nil⟩
  · rw [empty_cont] at hr; cases hr
  · rw [empty_bk s n i (by omega)] at hr; simp at hr
  · rw [empty_cont]; exact List.nodup_nil
/-- What a put makes of a table, however often it grows. -/
structure GrowOk (T : Tab) (r : Rt) (T' : Tab) : Prop where
  inv : Inv T'
  all : (contT T').Perm (r :: outS (contT T) r.k)
  len : T.B.length ≤ T'.B.length
theorem fold_ok {f : Tab → Rt → Tab} (hf : ∀ T r, Inv T → r.k.good → GrowOk T r (f T r)) : ∀ (l : List Rt) (T : Tab), Inv T → (∀ r ∈ l, r.k.good) → (keysR (l ++ contT T)).Nodup → Inv (l.foldl f T) ∧ (contT (l.foldl f T)).Perm (l ++ contT T) ∧ T.B.length ≤ (l.foldl f T).B.length
  | [], T, H, _, _ => ⟨H, List.Perm.refl _, Nat.le_refl _⟩
  | a :: l, T, H, hg, hn => by
    have h := hf T a H (hg a (by simp))
    have hk : a.k ∉ keysR (contT T) := by
      unfold keysR at *
      rw [List.cons_append, List.map_cons, List.nodup_cons] at hn
      exact fun hm => hn.1 (by rw [List.map_append]; exact List.mem_append_right _ hm)
    have ha := h.all
    rw [outS_self hk] at ha
    have hpp : (l ++ contT (f T a)).Perm (a :: l ++ contT T) := (ha.append_left l).trans List.perm_middle
    have ih := fold_ok hf l (f T a) h.inv (fun r hr => hg r (by simp [hr])) ((keysR_perm hpp).nodup_iff.2 hn)
    exact ⟨ih.1, ih.2.1.trans hpp, Nat.le_trans h.len ih.2.2⟩
theorem stay_grow {T : Tab} (H : Inv T) (r : Rt) (hg : r.k.good) : GrowOk T r (stay T r).1 := by
  have h := stay_ok H r hg
  exact ⟨h.inv, h.all, by rw [h.like.n]; exact Nat.le_refl _⟩
theorem grown_inv {T : Tab} (H : Inv T) : Inv (grown T) ∧ (grown T).B.length = min (2 * T.B.length) 65536 := by
  have := H.lo
  have := H.hi
  refine ⟨empty_inv (mixN_w _) (by omega) (by omega), ?_⟩
  simp [grown, emptyT]
theorem putF_ok : ∀ (d : Nat) (T : Tab) (r : Rt), Inv T → r.k.good → GrowOk T r (putF d T r)
  | 0, T, r, H, hg => stay_grow H r hg
  | d + 1, T, r, H, hg => by
    have h := stay_ok H r hg
    unfold putF
    split
    · have hG := grown_inv h.inv
      have he : contT (grown (stay T r).1) = [] := empty_cont _ _
      have := fold_ok (f := putF d) (fun T r H hg => putF_ok d T r H hg) (contT (stay T r).1) (grown (stay T r).1) hG.1 (fun q hq => h.inv.good q hq) (by rw [he, List.append_nil]; exact h.inv.keys)
      rw [he, List.append_nil] at this
      refine ⟨this.1, this.2.1.trans h.all, ?_⟩
      have h1 := this.2.2
      rw [hG.2] at h1
      have h2 := h.like.n
      have h3 := H.hi
      omega
    · exact stay_grow H r hg
end Go.Proofs.YtoihkbanmnagkaaGreat
/-
  Plain mathematics of a stash, a row of routes in order: where a key lies in it, what it is with one more, with one turned, with one less. No condition but those that stand in each.
-/
set_option linter.unusedSimpArgs false
set_option linter.unusedVariables false
namespace Go.Proofs.YtoihkbanmnagkaaGreat
open M

/-- How many, from the first on, are ahead of a key. -/
def bh : List Rt → Ky → Nat
  | [], _ => 0
  | a :: l, k => if lessK a.k k then bh l k + 1 else 0
theorem bh_le : ∀ (l : List Rt) (k : Ky), bh l k ≤ l.length
  | [], _ => Nat.le_refl _
  | a :: l, k => by
    unfold bh
    have := bh_le l k
    split <;> simp <;> omega
theorem bh_lt : ∀ (l : List Rt) (k : Ky) (i : Nat) (h : i < l.length), i < bh l k → lessK l[i].k k = true
  | a :: l, k, i, h, hb => by
    unfold bh at hb
    split at hb
    · rename_i ha
      cases i with
      | zero => simpa using ha
      | succ i => simpa using bh_lt l k i (by simpa using h) (by omega)
    · omega
theorem bh_ge : ∀ (l : List Rt) (k : Ky), Sorted l → ∀ (i : Nat) (h : i < l.length), bh l k ≤ i → lessK l[i].k k = false
  | a :: l, k, hs, i, h, hb => by
    have h1 := List.pairwise_cons.1 hs
    unfold bh at hb
    split at hb
    · cases i with
      | zero => omega
      | succ i => simpa using bh_ge l k h1.2 i (by simpa using h) (by omega)
    · rename_i ha
      rw [Bool.not_eq_true] at ha
      cases i with
      | zero => simpa using ha
      | succ i =>
        have hi : i < l.length := by simpa using h
        cases hc : lessK (l[i]'hi).k k with
        | false => simpa using hc
        | true =>
          have := lessK_trans (h1.1 _ (List.getElem_mem hi)) hc
          rw [ha] at this
          cases this
/-- The test of a search, in a row in order: is number i behind? -/
theorem bh_test (l : List Rt) (k : Ky) (hs : Sorted l) (i : Nat) (h : i < l.length) : (!lessK l[i].k k) = decide (bh l k ≤ i) := by
  by_cases hb : bh l k ≤ i
  · rw [bh_ge l k hs i h hb, decide_eq_true hb]; rfl
  · rw [bh_lt l k i h (by omega), decide_eq_false hb]; rfl
theorem findS_cons (a : Rt) (l : List Rt) (k : Ky) : findS (a :: l) k = if a.k = k then some 0 else (findS l k).map (· + 1) := by
  unfold findS
  rw [List.findIdx?_cons]
  by_cases h : a.k = k
  · rw [if_pos h, decide_eq_true h]; rfl
  · rw [if_neg h, decide_eq_false h]; rfl
theorem findS_bh : ∀ (l : List Rt) (k : Ky), Sorted l → (∀ i, findS l k = some i → i = bh l k ∧ ∃ h : i < l.length, l[i].k = k) ∧ (findS l k = none → ∀ (h : bh l k < l.length), l[bh l k].k ≠ k)
  | [], k, _ => ⟨fun i h => by simp [findS] at h, fun _ h => absurd h (by simp)⟩
  | a :: l, k, hs => by
    have h1 := List.pairwise_cons.1 hs
    have ih := findS_bh l k h1.2
    rw [findS_cons]
    by_cases hk : a.k = k
    · rw [if_pos hk]
      have hb : bh (a :: l) k = 0 := by unfold bh; rw [hk, lessK_irr]; rfl
      refine ⟨fun i h => ?_, fun h => by cases h⟩
      injection h with h
      subst h
      exact ⟨hb.symm, by simp, hk⟩
    · rw [if_neg hk]
      cases hl : lessK a.k k with
      | true =>
        have hb : bh (a :: l) k = bh l k + 1 := by
          show (if lessK a.k k = true then bh l k + 1 else 0) = _
          rw [hl]; rfl
        refine ⟨fun i h => ?_, fun h hlt => ?_⟩
        · rw [Option.map_eq_some_iff] at h
          obtain ⟨j, hj, rfl⟩ := h
          obtain ⟨e, hj2, hjk⟩ := ih.1 j hj
          exact ⟨by rw [hb, e], by simpa using hj2, by simpa using hjk⟩
        · rw [Option.map_eq_none_iff] at h
          have := ih.2 h (by rw [hb] at hlt; simpa using hlt)
          simpa [hb] using this
      | false =>
        have hb : bh (a :: l) k = 0 := by
          show (if lessK a.k k = true then bh l k + 1 else 0) = _
          rw [hl]; rfl
        have hr : lessK k a.k = true := by rw [lessK_total hk, hl]; rfl
        refine ⟨fun i h => ?_, fun h hlt => by simpa [hb] using hk⟩
        rw [Option.map_eq_some_iff] at h
        obtain ⟨j, hj, rfl⟩ := h
        obtain ⟨e, hj2, hjk⟩ := ih.1 j hj
        have := lessK_trans hr (h1.1 _ (List.getElem_mem hj2))
        rw [hjk, lessK_irr] at this
        cases this
theorem into_absent : ∀ (l : List Rt) (r : Rt), findS l r.k = none → intoS l r = l.take (bh l r.k) ++ r :: l.drop (bh l r.k)
  | [], r, _ => rfl
  | a :: l, r, h => by
    rw [findS_cons] at h
    have hk : a.k ≠ r.k := fun e => by rw [if_pos e] at h; cases h
    rw [if_neg hk, Option.map_eq_none_iff] at h
    unfold intoS bh
    split
    · rw [into_absent l r h]; rfl
    · rfl
theorem into_present : ∀ (l : List Rt) (r : Rt) (i : Nat), Sorted l → findS l r.k = some i → intoS l r = l.set i r
  | [], r, i, _, h => by simp [findS] at h
  | a :: l, r, i, hs, h => by
    have h1 := List.pairwise_cons.1 hs
    rw [findS_cons] at h
    by_cases hk : a.k = r.k
    · rw [if_pos hk] at h
      injection h with h
      subst h
      unfold intoS
      rw [hk, lessK_irr]
      simp
    · rw [if_neg hk, Option.map_eq_some_iff] at h
      obtain ⟨j, hj, rfl⟩ := h
      obtain ⟨-, hj2, hjk⟩ := (findS_bh l r.k h1.2).1 j hj
      have hl : lessK a.k r.k = true := by
        have := h1.1 _ (List.getElem_mem hj2)
        rwa [hjk] at this
      unfold intoS
      rw [hl, into_present l r j h1.2 hj]
      rfl
theorem outS_none {l : List Rt} {k : Ky} (h : findS l k = none) : outS l k = l := outS_self (findS_none (by rw [h]; rfl))
theorem out_present : ∀ (l : List Rt) (k : Ky) (i : Nat), Sorted l → findS l k = some i → outS l k = l.eraseIdx i
  | [], k, i, _, h => by simp [findS] at h
  | a :: l, k, i, hs, h => by
    have h1 := List.pairwise_cons.1 hs
    rw [findS_cons] at h
    by_cases hk : a.k = k
    · rw [if_pos hk] at h
      injection h with h
      subst h
      have : outS (a :: l) k = outS l k := by simp [outS, hk]
      rw [this, outS_self]
      · rfl
      · intro hm
        unfold keysR at hm
        rw [List.mem_map] at hm
        obtain ⟨q, hq, e⟩ := hm
        have := h1.1 q hq
        rw [hk, e, lessK_irr] at this
        cases this
    · rw [if_neg hk, Option.map_eq_some_iff] at h
      obtain ⟨j, hj, rfl⟩ := h
      have : outS (a :: l) k = a :: outS l k := by simp [outS, hk]
      rw [this, out_present l k j h1.2 hj]
      rfl
def stI (l : List Rt) (k : Ky) : Int :=
  match findS l k with
  | some i => (i : Int)
  | none => -1
theorem stI_some {l : List Rt} {k : Ky} {i : Nat} (h : findS l k = some i) : stI l k = i := by unfold stI; rw [h]
theorem stI_none {l : List Rt} {k : Ky} (h : findS l k = none) : stI l k = -1 := by unfold stI; rw [h]
end Go.Proofs.YtoihkbanmnagkaaGreat
/-
  Plain mathematics of a put into a table, part by part: where the key is there; kick after kick. No condition but those that stand in each.
-/
set_option linter.unusedSimpArgs false
set_option linter.unusedVariables false
namespace Go.Proofs.YtoihkbanmnagkaaGreat
open M

/-- Where the key is there: the table with the new value. -/
def rep12 (T : Tab) (r : Rt) : Option Tab :=
  if (getC (T.bk (T.x1 r.k)) r.k).isSome then some (T.set (T.x1 r.k) ((putC (T.bk (T.x1 r.k)) r.k r.v).getD (T.bk (T.x1 r.k))))
  else if (getC (T.bk (T.x2 r.k)) r.k).isSome then some (T.set (T.x2 r.k) ((putC (T.bk (T.x2 r.k)) r.k r.v).getD (T.bk (T.x2 r.k))))
  else if (findS T.st r.k).isSome then some { T with st := intoS T.st r }
  else none
/-- .. where it is not: the first bucket, the second, kicks. -/
def fresh (T : Tab) (r : Rt) : Tab × Option Rt :=
  match putC (T.bk (T.x1 r.k)) r.k r.v with
  | some C => (T.set (T.x1 r.k) C, none)
  | none =>
    match putC (T.bk (T.x2 r.k)) r.k r.v with
    | some C => (T.set (T.x2 r.k) C, none)
    | none => kicks 16 0 T (T.x2 r.k) r
theorem putIn_eq (T : Tab) (r : Rt) : putIn T r = match rep12 T r with | some T' => (T', none) | none => fresh T r := by
  unfold putIn rep12 fresh
  split
  · rfl
  · split
    · rfl
    · split <;> rfl
/-- All keys of a table's buckets are of words of 64 bits. -/
def GoodT (T : Tab) : Prop := ∀ i, i < T.B.length → ∀ q, some q ∈ T.bk i → q.k.good
theorem Inv.goodT {T : Tab} (H : Inv T) : GoodT T := fun _ hi q hq => H.good q (mem_bk hi hq)
theorem mem_set {C : List Pl} {j : Nat} {x : Pl} {q : Rt} (h : some q ∈ C.set j x) : some q ∈ C ∨ x = some q := (List.mem_or_eq_of_mem_set h).imp id Eq.symm
theorem mem_put {C : List Pl} {k : Ky} {v : Int} {q : Rt} (h : some q ∈ (putC C k v).getD C) : some q ∈ C ∨ q = ⟨k, v⟩ := by
  unfold putC at h
  split at h
  · exact (mem_set h).imp id (fun e => by injection e with e; exact e.symm)
  · split at h
    · exact (mem_set h).imp id (fun e => by injection e with e; exact e.symm)
    · exact .inl h
theorem GoodT.set {T : Tab} (H : GoodT T) {i : Nat} (hi : i < T.B.length) {C : List Pl} (h : ∀ q, some q ∈ C → q.k.good) : GoodT (T.set i C) := by
  intro k hk q hq
  rw [set_len] at hk
  rw [bk_set T i hi] at hq
  split at hq
  · exact h q hq
  · exact H k hk q hq
theorem GoodT.put {T : Tab} (H : GoodT T) {i : Nat} (hi : i < T.B.length) {r : Rt} (hr : r.k.good) : GoodT (T.set i ((putC (T.bk i) r.k r.v).getD (T.bk i))) :=
  H.set hi fun q hq => (mem_put hq).elim (H i hi q) (fun e => e ▸ hr)
theorem zero_good : (⟨0, 0, 0⟩ : Ky).good := ⟨W64.mk (by decide), W64.mk (by decide)⟩
theorem swapC_out {C : List Pl} {j : Nat} {k : Ky} {v : Int} : (∃ q, C.getD j none = some q ∧ swapC C (j : Int) k v = some (q, C.set j (some ⟨k, v⟩))) ∨ swapC C (j : Int) k v = none := by
  unfold swapC
  rw [if_pos (by omega), Int.toNat_natCast]
  cases h : C.getD j none with
  | none => exact .inr rfl
  | some q => exact .inl ⟨q, rfl, rfl⟩
theorem getD_mem {C : List Pl} {j : Nat} {q : Rt} (h : C.getD j none = some q) : some q ∈ C := by
  rw [List.getD_eq_getElem?_getD] at h
  cases e : C[j]? with
  | none => rw [e] at h; cases h
  | some x =>
    rw [e] at h
    simp only [Option.getD_some] at h
    subst h
    exact List.mem_of_getElem? e
theorem GoodT.kick {T : Tab} (H : GoodT T) {b : Nat} (hb : b < T.B.length) (i : Nat) {r : Rt} (hr : r.k.good) : (kOut T b i r).k.good ∧ GoodT (kTab T b i r) := by
  unfold kOut kTab
  rcases swapC_out (C := T.bk b) (j := i % 4) (k := r.k) (v := r.v) with ⟨q, hq, e⟩ | e
  · rw [e]
    exact ⟨H b hb q (getD_mem hq), H.set hb fun p hp => (mem_set hp).elim (H b hb p) (fun e => by injection e with e; exact e ▸ hr)⟩
  · rw [e]
    exact ⟨zero_good, H.set hb fun p hp => H b hb p hp⟩
theorem kTab_len (T : Tab) (b i : Nat) (r : Rt) : (kTab T b i r).B.length = T.B.length := set_len _ _ _
theorem kTab_s (T : Tab) (b i : Nat) (r : Rt) : (kTab T b i r).s = T.s := rfl
theorem kTab_st (T : Tab) (b i : Nat) (r : Rt) : (kTab T b i r).st = T.st := rfl
theorem kicks_zero (i : Nat) (T : Tab) (b : Nat) (r : Rt) : kicks 0 i T b r = (T, some r) := rfl
theorem kicks_in {f i : Nat} {T : Tab} {b : Nat} {r : Rt} {C : List Pl} (h : putC ((kTab T b i r).bk (kNew T b i r)) (kOut T b i r).k (kOut T b i r).v = some C) : kicks (f + 1) i T b r = ((kTab T b i r).set (kNew T b i r) C, none) := by
  show (match putC ((kTab T b i r).bk (kNew T b i r)) (kOut T b i r).k (kOut T b i r).v with | some C => _ | none => _) = _
  rw [h]
theorem kicks_on {f i : Nat} {T : Tab} {b : Nat} {r : Rt} (h : putC ((kTab T b i r).bk (kNew T b i r)) (kOut T b i r).k (kOut T b i r).v = none) : kicks (f + 1) i T b r = kicks f (i + 1) (kTab T b i r) (kNew T b i r) (kOut T b i r) := by
  show (match putC ((kTab T b i r).bk (kNew T b i r)) (kOut T b i r).k (kOut T b i r).v with | some C => _ | none => _) = _
  rw [h]
end Go.Proofs.YtoihkbanmnagkaaGreat
