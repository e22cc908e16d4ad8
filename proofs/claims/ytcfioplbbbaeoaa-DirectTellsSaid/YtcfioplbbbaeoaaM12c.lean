/-
  Plain mathematics of tables of buckets: what always holds of a table, and what a put makes of it. No condition but those that stand in each.
-/
import Derived.Test.YtcfioplbbbaeoaaM12b
set_option linter.unusedSimpArgs false
set_option linter.unusedVariables false
namespace Go.Proofs.Ytcfioplbbbaeoaa
open M

theorem hasK_some {k : Ky} {r : Rt} : hasK k (some r) = true ↔ r.k = k := by simp [hasK]
theorem idx_none {C : List Pl} {k : Ky} (h : C.findIdx? (hasK k) = none) : ∀ r, some r ∈ C → r.k ≠ k := by
  intro r hr e
  have := (List.findIdx?_eq_none_iff.1 h) _ hr
  rw [hasK_some.2 e] at this
  cases this
theorem getC_none {C : List Pl} {k : Ky} (h : getC C k = none) : C.findIdx? (hasK k) = none := by
  rcases idx_cases (hasK k) C with ⟨i, hi, h1, -, h3⟩ | ⟨h1, -⟩
  · rw [getC_hit hi h1 h3] at h
    cases h
  · exact h1
theorem hit_at {C : List Pl} {k : Ky} {i : Nat} (hi : i < C.length) (h : hasK k C[i] = true) : ∃ q, C[i] = some q ∧ q.k = k := by
  cases e : C[i] with
  | none => rw [e] at h; cases h
  | some q => exact ⟨q, rfl, hasK_some.1 (e ▸ h)⟩
theorem getC_some {C : List Pl} {k : Ky} (h : (getC C k).isSome = true) : ∃ i, ∃ hi : i < C.length, C.findIdx? (hasK k) = some i ∧ ∃ q, C[i] = some q ∧ q.k = k ∧ getC C k = some q.v := by
  rcases idx_cases (hasK k) C with ⟨i, hi, h1, -, h3⟩ | ⟨h1, -⟩
  · obtain ⟨q, e, hq⟩ := hit_at hi h3
    exact ⟨i, hi, h1, q, e, hq, by rw [getC_hit hi h1 h3, e]; rfl⟩
  · rw [getC_miss h1] at h
    cases h
theorem putC_hit {C : List Pl} {k : Ky} {v : Int} {i : Nat} (h : C.findIdx? (hasK k) = some i) : putC C k v = some (C.set i (some ⟨k, v⟩)) := by
  unfold putC
  rw [h]
theorem putC_some {C C' : List Pl} {k : Ky} {v : Int} (hm : C.findIdx? (hasK k) = none) (h : putC C k v = some C') : ∃ j, ∃ hj : j < C.length, C' = C.set j (some ⟨k, v⟩) ∧ C[j] = none := by
  unfold putC at h
  rw [hm] at h
  rcases idx_cases Option.isNone C with ⟨i, hi, h1, -, h3⟩ | ⟨h1, -⟩
  · simp only [h1, Option.some.injEq] at h
    exact ⟨i, hi, h.symm, by simpa using h3⟩
  · simp only [h1] at h
    cases h
theorem putC_none {C : List Pl} {k : Ky} {v : Int} (h : putC C k v = none) : C.findIdx? (hasK k) = none ∧ ∀ x ∈ C, x.isSome = true := by
  unfold putC at h
  rcases idx_cases (hasK k) C with ⟨i, hi, h1, -, h3⟩ | ⟨h1, -⟩
  · simp only [h1] at h
    cases h
  · refine ⟨h1, ?_⟩
    simp only [h1] at h
    rcases idx_cases Option.isNone C with ⟨i, hi, h2, -, h3⟩ | ⟨h2, -⟩
    · simp only [h2] at h
      cases h
    · intro x hx
      have := (List.findIdx?_eq_none_iff.1 h2) x hx
      cases x with
      | none => cases this
      | some r => rfl
theorem takeC_cases (C : List Pl) (k : Ky) : (takeC C k = none ∧ C.findIdx? (hasK k) = none) ∨ ∃ j, ∃ hj : j < C.length, ∃ q, takeC C k = some (C.set j none) ∧ C[j] = some q ∧ q.k = k := by
  unfold takeC
  rcases idx_cases (hasK k) C with ⟨i, hi, h1, -, h3⟩ | ⟨h1, -⟩
  · obtain ⟨q, e, hq⟩ := hit_at hi h3
    exact .inr ⟨i, hi, q, by rw [h1], e, hq⟩
  · exact .inl ⟨by rw [h1], h1⟩
theorem swapC_full {C : List Pl} {i : Nat} (hi : i < C.length) (hf : ∀ x ∈ C, x.isSome = true) (k : Ky) (v : Int) : ∃ q, C[i] = some q ∧ swapC C (i : Int) k v = some (q, C.set i (some ⟨k, v⟩)) := by
  obtain ⟨q, e⟩ := Option.isSome_iff_exists.1 (hf _ (List.getElem_mem hi))
  refine ⟨q, e, ?_⟩
  unfold swapC
  rw [if_pos (by omega), Int.toNat_natCast, List.getD_eq_getElem?_getD, List.getElem?_eq_getElem hi, e]
  rfl

/-- What always holds of a table. -/
structure Inv (T : Tab) : Prop where
  lo : 1 ≤ T.B.length
  hi : T.B.length ≤ 65536
  four : ∀ i, i < T.B.length → (T.bk i).length = 4
  word : W64 T.s
  good : ∀ r ∈ contT T, r.k.good
  home : ∀ i, i < T.B.length → ∀ r, some r ∈ T.bk i → i = T.x1 r.k ∨ i = T.x2 r.k
  keys : (keysR (contT T)).Nodup
  sort : Sorted T.st
theorem Inv.x1_lt {T : Tab} (H : Inv T) (k : Ky) : T.x1 k < T.B.length := b1_lt H.lo
theorem Inv.x2_lt {T : Tab} (H : Inv T) (k : Ky) : T.x2 k < T.B.length := b2_lt H.lo
theorem bk_set (T : Tab) (i : Nat) (hi : i < T.B.length) (C : List Pl) (k : Nat) : (T.set i C).bk k = if k = i then C else T.bk k := by
  unfold Tab.bk Tab.set
  simp only [List.getD_eq_getElem?_getD, List.getElem?_set]
  by_cases e : i = k
  · subst e
    rw [if_pos rfl, if_pos hi, if_pos rfl]
    rfl
  · rw [if_neg e, if_neg (fun x => e x.symm)]
theorem set_len (T : Tab) (i : Nat) (C : List Pl) : (T.set i C).B.length = T.B.length := List.length_set
theorem set_x1 (T : Tab) (i : Nat) (C : List Pl) (k : Ky) : (T.set i C).x1 k = T.x1 k := by unfold Tab.x1; rw [set_len]; rfl
theorem set_x2 (T : Tab) (i : Nat) (C : List Pl) (k : Ky) : (T.set i C).x2 k = T.x2 k := by unfold Tab.x2; rw [set_len]; rfl
theorem mem_bk {T : Tab} {i : Nat} (hi : i < T.B.length) {r : Rt} (h : some r ∈ T.bk i) : r ∈ contT T := by
  unfold contT
  rw [bk_at T i hi] at h
  refine List.mem_append_left _ (List.mem_flatMap.2 ⟨T.B[i], List.getElem_mem hi, ?_⟩)
  unfold allC
  exact List.mem_filterMap.2 ⟨some r, h, rfl⟩
theorem mem_cont {T : Tab} {r : Rt} (h : r ∈ contT T) : (∃ i, i < T.B.length ∧ some r ∈ T.bk i) ∨ r ∈ T.st := by
  unfold contT at h
  rw [List.mem_append, List.mem_flatMap] at h
  rcases h with ⟨C, hC, h⟩ | h
  · obtain ⟨i, hi, rfl⟩ := List.getElem_of_mem hC
    unfold allC at h
    rw [List.mem_filterMap] at h
    obtain ⟨x, hx, e⟩ := h
    simp only [id] at e
    subst e
    exact .inl ⟨i, hi, by rw [bk_at T i hi]; exact hx⟩
  · exact .inr h
theorem Inv.place {T : Tab} (H : Inv T) {i : Nat} (hi : i < T.B.length) {j : Nat} (hj : j < (T.bk i).length) {x : Pl} (hx : ∀ r, x = some r → r.k.good ∧ (i = T.x1 r.k ∨ i = T.x2 r.k))
    (hk : (keysR (contT (T.set i ((T.bk i).set j x)))).Nodup) : Inv (T.set i ((T.bk i).set j x)) := by
  refine ⟨by rw [set_len]; exact H.lo, by rw [set_len]; exact H.hi, fun k hkl => ?_, H.word, fun r hr => ?_, fun k hkl r hr => ?_, hk, H.sort⟩
  · rw [set_len] at hkl
    rw [bk_set T i hi]
    split
    · rw [List.length_set]; exact H.four i hi
    · exact H.four k hkl
  · have hp := (cont_set T i hi j hj x).mem_iff.1 (List.mem_append_right _ hr)
    rw [List.mem_append] at hp
    rcases hp with hp | hp
    · exact (hx r (by simpa using hp)).1
    · exact H.good r hp
  · rw [set_len] at hkl
    rw [set_x1, set_x2]
    rw [bk_set T i hi] at hr
    split at hr
    · rename_i e
      rcases List.mem_or_eq_of_mem_set hr with h | h
      · exact e ▸ H.home i hi r h
      · exact e ▸ (hx r h.symm).2
    · exact H.home k hkl r hr
/-- What a table has, where one comes instead of another one of its key; where one comes; where one goes; where one comes and another one goes. -/
theorem cont_same {T : Tab} (H : Inv T) {i : Nat} (hi : i < T.B.length) {j : Nat} (hj : j < (T.bk i).length) {q r : Rt} (hq : (T.bk i)[j] = some q) (he : q.k = r.k) :
    (keysR (contT (T.set i ((T.bk i).set j (some r))))).Nodup ∧ (contT (T.set i ((T.bk i).set j (some r)))).Perm (r :: outS (contT T) r.k) := by
  have hp := cont_set T i hi j hj (some r)
  rw [hq] at hp
  have hk := keysR_perm hp
  have hk2 : (keysR (contT (T.set i ((T.bk i).set j (some r))))).Perm (keysR (contT T)) := by
    unfold keysR at *
    simp only [Option.toList_some, List.singleton_append, List.map_cons, he] at hk
    exact (List.perm_cons _).1 hk
  have hn := hk2.nodup_iff.2 H.keys
  refine ⟨hn, ?_⟩
  have hm : r ∈ contT (T.set i ((T.bk i).set j (some r))) := by
    refine mem_bk (i := i) (by rw [set_len]; exact hi) ?_
    rw [bk_set T i hi, if_pos rfl]
    exact List.mem_set hj _
  have ho := outS_perm hp r.k
  have e1 : outS ((some q).toList ++ contT (T.set i ((T.bk i).set j (some r)))) r.k = outS (contT (T.set i ((T.bk i).set j (some r)))) r.k := by simp [outS, he]
  have e2 : outS ((some r).toList ++ contT T) r.k = outS (contT T) r.k := by simp [outS]
  rw [e1, e2] at ho
  exact (split_key hn hm).trans (ho.cons r)
theorem cont_more {T : Tab} (H : Inv T) {i : Nat} (hi : i < T.B.length) {j : Nat} (hj : j < (T.bk i).length) {r : Rt} (hq : (T.bk i)[j] = none) (he : r.k ∉ keysR (contT T)) :
    (keysR (contT (T.set i ((T.bk i).set j (some r))))).Nodup ∧ (contT (T.set i ((T.bk i).set j (some r)))).Perm (r :: contT T) := by
  have hp := cont_set T i hi j hj (some r)
  rw [hq] at hp
  simp only [Option.toList_none, List.nil_append, Option.toList_some, List.singleton_append] at hp
  refine ⟨(keysR_perm hp).nodup_iff.2 ?_, hp⟩
  unfold keysR at *
  rw [List.map_cons, List.nodup_cons]
  exact ⟨he, H.keys⟩
theorem cont_less {T : Tab} (H : Inv T) {i : Nat} (hi : i < T.B.length) {j : Nat} (hj : j < (T.bk i).length) {q : Rt} (hq : (T.bk i)[j] = some q) :
    (keysR (contT (T.set i ((T.bk i).set j none)))).Nodup ∧ (contT (T.set i ((T.bk i).set j none))).Perm (outS (contT T) q.k) := by
  have hp := cont_set T i hi j hj none
  rw [hq] at hp
  simp only [Option.toList_none, List.nil_append, Option.toList_some, List.singleton_append] at hp
  have hn := (keysR_perm hp).nodup_iff.2 H.keys
  unfold keysR at hn
  rw [List.map_cons, List.nodup_cons] at hn
  refine ⟨hn.2, ?_⟩
  have ho := outS_perm hp q.k
  have e1 : outS (q :: contT (T.set i ((T.bk i).set j none))) q.k = contT (T.set i ((T.bk i).set j none)) := by
    rw [show outS (q :: contT (T.set i ((T.bk i).set j none))) q.k = outS (contT (T.set i ((T.bk i).set j none))) q.k by simp [outS]]
    exact outS_self hn.1
  rw [e1] at ho
  exact ho
theorem cont_swap {T : Tab} (H : Inv T) {i : Nat} (hi : i < T.B.length) {j : Nat} (hj : j < (T.bk i).length) {q r : Rt} (hq : (T.bk i)[j] = some q) (he : r.k ∉ keysR (contT T)) :
    (keysR (contT (T.set i ((T.bk i).set j (some r))))).Nodup ∧ (q :: contT (T.set i ((T.bk i).set j (some r)))).Perm (r :: contT T) ∧ q.k ∉ keysR (contT (T.set i ((T.bk i).set j (some r)))) := by
  have hp := cont_set T i hi j hj (some r)
  rw [hq] at hp
  simp only [Option.toList_some, List.singleton_append] at hp
  have hn : (keysR (q :: contT (T.set i ((T.bk i).set j (some r))))).Nodup := by
    refine (keysR_perm hp).nodup_iff.2 ?_
    unfold keysR at *
    rw [List.map_cons, List.nodup_cons]
    exact ⟨he, H.keys⟩
  unfold keysR at *
  rw [List.map_cons, List.nodup_cons] at hn
  exact ⟨hn.2, hp, hn.1⟩
end Go.Proofs.Ytcfioplbbbaeoaa
