/-
  Plain mathematics of what a level holds, told route by route, in order: a route's keys lie side by side, or come behind all that are; the hop of a key, told in one go. No condition but those that stand in each.
-/
import Derived.Test.YtcfioplbbbaeoaaRef18b
import Derived.Test.YtcfioplbbbaeoaaM18b
import Derived.Test.YtcfioplbbbaeoaaW12b
set_option linter.unusedSimpArgs false
set_option linter.unusedVariables false
namespace Go.Proofs.Ytcfioplbbbaeoaa
open M

def kV (k : Ky) : Nat := val k.h k.l
theorem lessK_val {a b : Ky} (ha : W64 a.l) (hb : W64 b.l) : lessK a b = true ↔ kV a < kV b ∨ (kV a = kV b ∧ a.n < b.n) := lessB_val _ _ _ _ _ _ ha hb
/-- Of two keys of one address the shorter is ahead. -/
theorem cutK_less {ah al m m' : Nat} (hb : W64 al) (h : m < m') (h' : m' ≤ 128) : lessK (cutK ah al m) (cutK ah al m') = true := by
  refine (lessK_val (by exact hb.cut _) (by exact hb.cut _)).2 ?_
  unfold kV cutK
  simp only
  rw [val_cut ah al m hb (by omega), val_cut ah al m' hb h']
  have e : 2 ^ (128 - m) = 2 ^ (128 - m') * 2 ^ (m' - m) := by rw [← Nat.pow_add]; congr 1; omega
  have p1 : 0 < 2 ^ (128 - m') := Nat.two_pow_pos _
  have h1 : val ah al / 2 ^ (128 - m) * 2 ^ (128 - m) ≤ val ah al / 2 ^ (128 - m') * 2 ^ (128 - m') := by
    rw [e, ← Nat.div_div_eq_div_mul, Nat.mul_comm (2 ^ (128 - m')), ← Nat.mul_assoc]
    exact Nat.mul_le_mul_right _ (Nat.div_mul_le_self _ _)
  rcases Nat.lt_or_eq_of_le h1 with h2 | h2
  · exact .inl h2
  · exact .inr ⟨h2, by omega⟩
/-- Of two routes of a sorted row that an address has, the one ahead is the shorter. -/
theorem nested_lt {N : List Rt} (hN : Sorted N) {ah al : Nat} (hb : W64 al) {i j : Nat} (hi : i < N.length) (hj : j < N.length) (hij : i < j) (h1 : hasB N[i].k.h N[i].k.l N[i].k.n ah al = true) (h2 : hasB N[j].k.h N[j].k.l N[j].k.n ah al = true) : N[i].k.n < N[j].k.n := by
  obtain ⟨m, hm, e1⟩ := (has_cutK _ _ _).1 h1
  obtain ⟨m', hm', e2⟩ := (has_cutK _ _ _).1 h2
  have hl := List.pairwise_iff_getElem.1 hN i j hi hj hij
  rw [e1, e2] at hl ⊢
  show (m : Int) < (m' : Int)
  by_cases h : m < m'
  · omega
  · exfalso
    by_cases h3 : m = m'
    · subst h3
      rw [lessK_irr] at hl
      cases hl
    · have := lessK_trans hl (cutK_less hb (by omega) hm)
      rw [lessK_irr] at this
      cases this
/-- The hop of a key, of the first so many routes. -/
def hopJ (N : List Rt) (low : Int) (k : Ky) (j : Nat) : Option Int := (lngI N (candB k.h k.l low k.n) j).map fun i => (N.getD i ⟨⟨0, 0, 0⟩, 0⟩).v
theorem hopJ_all (N : List Rt) (low : Int) (k : Ky) : hopJ N low k N.length = hopK N low k := rfl
theorem hopJ_no {N : List Rt} {low : Int} {k : Ky} {j : Nat} (hj : j < N.length) (h : candB k.h k.l low k.n N[j] = false) : hopJ N low k (j + 1) = hopJ N low k j := by
  unfold hopJ
  rw [lng_none_no hj h]
theorem hopJ_yes {N : List Rt} (hN : Sorted N) {low : Int} {k : Ky} (hk : W64 k.l) {j : Nat} (hj : j < N.length) (h : candB k.h k.l low k.n N[j] = true) : hopJ N low k (j + 1) = some N[j].v := by
  have hc : ∀ r : Rt, candB k.h k.l low k.n r = true → hasB r.k.h r.k.l r.k.n k.h k.l = true := fun r h => by
    unfold candB at h
    simp only [Bool.and_eq_true] at h
    exact h.2.2
  unfold hopJ
  cases e : lngI N (candB k.h k.l low k.n) j with
  | none =>
    rw [lng_none_yes hj h e]
    show some (N.getD j _).v = _
    rw [getD_at hj]
  | some b =>
    have hb := lng_lt e
    have hbl : b < N.length := by omega
    have h0 := lng_ok N (candB k.h k.l low k.n) j (by omega)
    rw [e] at h0
    obtain ⟨_, _, hcb, _⟩ := h0
    rw [lng_some hj hbl h e, if_pos (nested_lt hN hk hbl hj hb (hc _ hcb) (hc _ h))]
    show some (N.getD j _).v = _
    rw [getD_at hj]
/-- What a level holds of the first so many routes. -/
structure InvS (N : List Rt) (low high : Int) (i : Nat) (K : List Rt) : Prop where
  sorted : Sorted K
  mem : ∀ q, q ∈ K ↔ q.k ∈ keysS (N.take i) low high ∧ q.v = (hopJ N low q.k i).getD 0
theorem InvS.start (N : List Rt) (low high : Int) : InvS N low high 0 [] := ⟨List.Pairwise.nil, fun q => by simp [keysS]⟩
theorem mem_keysI {N : List Rt} {low high : Int} {i : Nat} {k : Ky} : k ∈ keysS (N.take i) low high ↔ ∃ j, ∃ hj : j < N.length, j < i ∧ insB low high N[j] = true ∧ k ∈ sprK N[j].k high := by
  unfold keysS
  simp only [List.mem_flatMap, List.mem_filter]
  constructor
  · rintro ⟨r, ⟨hr, h1⟩, h2⟩
    obtain ⟨j, hj, rfl⟩ := List.getElem_of_mem hr
    have hj' := hj
    rw [List.length_take] at hj'
    rw [List.getElem_take] at h1 h2
    exact ⟨j, by omega, by omega, h1, h2⟩
  · rintro ⟨j, hj, hji, h1, h2⟩
    refine ⟨N[j], ⟨?_, h1⟩, h2⟩
    rw [List.mem_take_iff_getElem]
    exact ⟨j, by omega, rfl⟩
theorem InvS.done {N : List Rt} {low high : Int} {K : List Rt} (H : InvS N low high N.length K) : K = setS N low high := by
  have hm := H.mem
  rw [List.take_of_length_le (Nat.le_refl _)] at hm
  by_cases hl : low < high
  · exact set_one H.sorted fun q => by rw [hm]; simp only [hl, true_and]; exact Iff.rfl
  · have h0 : keysS N low high = [] := by
      unfold keysS
      rw [List.filter_eq_nil_iff.2 fun r _ => ?_]
      · rfl
      · unfold insB
        simp only [Bool.and_eq_true, decide_eq_true_eq]
        omega
    unfold setS
    rw [if_neg hl]
    refine List.eq_nil_iff_forall_not_mem.2 fun q hq => ?_
    have := ((hm q).1 hq).1
    rw [h0] at this
    cases this
theorem key_n {N : List Rt} (hg : ∀ r ∈ N, r.k.good) {low high : Int} {i : Nat} {k : Ky} (h : k ∈ keysS (N.take i) low high) : k.n = high ∧ k.good ∧ rightB k.h k.l high = true := by
  obtain ⟨j, hj, -, -, hk⟩ := mem_keysI.1 h
  have := hg _ (List.getElem_mem hj)
  have := (mem_spr this.1 this.2 _ _).1 hk
  exact ⟨this.2.2.2.1, ⟨this.2.2.2.2.1, this.2.2.2.2.2.1⟩, this.2.2.2.2.2.2.1⟩
/-- A route of no such length. -/
theorem InvS.out {N : List Rt} (hg : ∀ r ∈ N, r.k.good) {low high : Int} {i : Nat} {K : List Rt} (H : InvS N low high i K) (hi : i < N.length) (hc : insB low high N[i] = false) : InvS N low high (i + 1) K := by
  refine ⟨H.sorted, fun q => ?_⟩
  rw [H.mem, keysS_out N low high i hi hc]
  refine and_congr_right fun hq => ?_
  rw [hopJ_no hi]
  rw [(key_n hg hq).1]
  unfold insB at hc
  unfold candB
  rw [← Bool.and_assoc, hc]
  rfl
/-- A route that makes no keys. -/
theorem InvS.none {N : List Rt} (hN : Sorted N) (hg : ∀ r ∈ N, r.k.good) {low high : Int} {i : Nat} {K : List Rt} (H : InvS N low high i K) (hi : i < N.length) (hc : insB low high N[i] = true) (hU : sprK N[i].k high = []) : InvS N low high (i + 1) K := by
  refine ⟨H.sorted, fun q => ?_⟩
  rw [H.mem, keysS_in N low high i hi hc, hU, List.append_nil]
  refine and_congr_right fun hq => ?_
  rw [hopJ_no hi]
  obtain ⟨qn, qg, qr⟩ := key_n hg hq
  rw [qn]
  cases hcd : candB q.k.h q.k.l low high N[i] with
  | false => rfl
  | true =>
    exfalso
    unfold candB at hcd
    simp only [Bool.and_eq_true, decide_eq_true_eq] at hcd
    obtain ⟨j, hj, hji, h1, h2⟩ := mem_keysI.1 hq
    have g1 := hg _ (List.getElem_mem hj)
    have g2 := hg _ (List.getElem_mem hi)
    have h3 := (mem_spr g1.1 g1.2 _ _).1 h2
    have h4 := nested_lt hN qg.2 hj hi hji h3.2.2.2.2.2.2.2 hcd.2.2
    have : q.k ∈ sprK N[i].k high := (mem_spr g2.1 g2.2 _ _).2 ⟨hcd.2.1, h3.2.1, by omega, qn, qg.1, qg.2, qr, hcd.2.2⟩
    rw [hU] at this
    cases this
/-- The span of a prefix's addresses. -/
theorem has_span {k : Ky} (hk : W64 k.l) (hr : rightB k.h k.l k.n = true) {a b : Nat} (hb : W64 b) : hasB k.h k.l k.n a b = true ↔ kV k ≤ val a b ∧ val a b < kV k + 2 ^ (128 - k.n.toNat) := by
  rw [hasB_val _ _ _ _ _ hk hb]
  obtain ⟨-, -, v, hv⟩ := (rightB_val _ _ _ hk).1 hr
  have p : 0 < 2 ^ (128 - k.n.toNat) := Nat.two_pow_pos _
  simp only [hr, true_and]
  unfold kV
  rw [hv, Nat.mul_div_cancel_left _ p]
  rw [Nat.div_eq_iff p]
  have e := Nat.mul_comm v (2 ^ (128 - k.n.toNat))
  constructor <;> intro h <;> constructor <;> omega
theorem spr_right {k q : Ky} (g : k.good) {m : Int} (h : q ∈ sprK k m) : rightB k.h k.l k.n = true := has_right _ _ _ _ _ ((mem_spr g.1 g.2 _ _).1 h).2.2.2.2.2.2.2
theorem spr_span {k q : Ky} (g : k.good) {m : Int} (h : q ∈ sprK k m) : kV k ≤ kV q ∧ kV q < kV k + 2 ^ (128 - k.n.toNat) := by
  have h1 := (mem_spr g.1 g.2 _ _).1 h
  exact (has_span g.2 (spr_right g h) h1.2.2.2.2.2.1).1 h1.2.2.2.2.2.2.2
theorem spr_val {k : Ky} (g : k.good) (m : Int) (j : Nat) (h : j < (sprK k m).length) : kV (sprK k m)[j] = kV k + j * 2 ^ (128 - m.toNat) ∧ (sprK k m)[j].n = m := by
  have hs := (mem_spr g.1 g.2 _ _).1 (List.getElem_mem h)
  have hr := spr_right g (List.getElem_mem h)
  have hl : j < (keysV k.h k.l k.n m).length := by unfold sprK at h; rwa [List.length_map] at h
  rw [spr_at k m j hl, keysV_at ⟨hr, hs.1, hs.2.1, hs.2.2.1⟩ g.2 j hl]
  unfold kyP kV
  simp only
  rw [val_hl]
  exact ⟨rfl, by first | rfl | trivial⟩
theorem spr_sorted {k : Ky} (g : k.good) (m v : Int) : Sorted ((sprK k m).map fun q => ⟨q, v⟩) := by
  unfold Sorted
  rw [List.pairwise_map, List.pairwise_iff_getElem]
  intro i j hi hj hij
  have hg1 := spr_good g m (List.getElem_mem hi)
  have hg2 := spr_good g m (List.getElem_mem hj)
  refine (lessK_val hg1.2 hg2.2).2 (.inl ?_)
  rw [(spr_val g m i hi).1, (spr_val g m j hj).1]
  have p : 0 < 2 ^ (128 - m.toNat) := Nat.two_pow_pos _
  have := Nat.mul_lt_mul_of_pos_right hij p
  omega
theorem sorted_map {L : List Rt} (h : Sorted L) (v : Int) : Sorted (L.map fun x => ⟨x.k, v⟩) := by
  unfold Sorted at *
  rw [List.pairwise_map]
  exact h
theorem tw_imp {α : Type} {p : α → Bool} {x : α} : ∀ {l : List α}, x ∈ l.takeWhile p → p x = true
  | [], h => by cases h
  | a :: l, h => by
    rw [List.takeWhile_cons] at h
    split at h
    · rename_i ha
      rcases List.mem_cons.1 h with e | e
      · rw [e]; exact ha
      · exact tw_imp e
    · cases h
/-- A ROUTE'S KEYS LIE SIDE BY SIDE IN WHAT IS THERE, OR COME BEHIND ALL OF IT. -/
theorem InvS.lay {N : List Rt} (hN : Sorted N) (hg : ∀ r ∈ N, r.k.good) {low high : Int} {i : Nat} {K : List Rt} (H : InvS N low high i K) (hi : i < N.length) (hc : insB low high N[i] = true) (h0 : 0 < (sprK N[i].k high).length) :
    ∃ P M S, K = P ++ (M ++ S) ∧ P.length = bh K (sprK N[i].k high)[0] ∧ (M.map Rt.k = sprK N[i].k high ∨ (M = [] ∧ S = [])) ∧ InvS N low high (i + 1) (P ++ ((sprK N[i].k high).map (fun q => (⟨q, N[i].v⟩ : Rt)) ++ S)) := by
  have gi := hg _ (List.getElem_mem hi)
  have hin := keysS_in N low high i hi hc
  have hv0 := spr_val gi high 0 h0
  have hm0 := List.getElem_mem h0
  have hs0 := (mem_spr gi.1 gi.2 _ _).1 hm0
  have hgi := spr_good gi high hm0
  have hri := spr_right gi hm0
  rw [Nat.zero_mul, Nat.add_zero] at hv0
  obtain ⟨u, hu⟩ : ∃ u, u = (sprK N[i].k high)[0] := ⟨_, rfl⟩
  rw [← hu] at hv0 hm0 hs0 hgi ⊢
  have hble := bh_le K u
  -- who is in the row, told by numbers
  have hK : ∀ x ∈ K, x.k.n = high ∧ x.k.good ∧ rightB x.k.h x.k.l high = true := fun x hx => key_n hg ((H.mem x).1 hx).1
  have hin' : ∀ x ∈ K, (x.k ∈ sprK N[i].k high ↔ kV N[i].k ≤ kV x.k ∧ kV x.k < kV N[i].k + 2 ^ (128 - N[i].k.n.toNat)) := fun x hx => by
    obtain ⟨x1, x2, x3⟩ := hK x hx
    constructor
    · exact spr_span gi
    · intro h
      exact (mem_spr gi.1 gi.2 _ _).2 ⟨hs0.1, hs0.2.1, hs0.2.2.1, x1, x2.1, x2.2, x3, (has_span gi.2 hri x2.2).2 h⟩
  have hP : ∀ x ∈ K.take (bh K u), kV x.k < kV N[i].k := fun x hx => by
    obtain ⟨j, hj, rfl⟩ := List.getElem_of_mem hx
    have hj' := hj
    rw [List.length_take] at hj'
    rw [List.getElem_take]
    have h1 := bh_lt K u j (by omega) (by omega)
    have hxk := hK _ (List.getElem_mem (show j < K.length by omega))
    rcases (lessK_val hxk.2.1.2 hgi.2).1 h1 with h2 | ⟨-, h2⟩
    · omega
    · rw [hxk.1, hv0.2] at h2
      omega
  have hR : ∀ x ∈ K.drop (bh K u), kV N[i].k ≤ kV x.k := fun x hx => by
    obtain ⟨j, hj, rfl⟩ := List.getElem_of_mem hx
    have hj' := hj
    rw [List.length_drop] at hj'
    rw [List.getElem_drop]
    have h1 := bh_ge K u H.sorted (bh K u + j) (by omega) (by omega)
    have hxk := hK _ (List.getElem_mem (show bh K u + j < K.length by omega))
    by_cases h2 : kV N[i].k ≤ kV K[bh K u + j].k
    · exact h2
    · have := (lessK_val hxk.2.1.2 hgi.2).2 (.inl (by omega))
      rw [h1] at this
      cases this
  have hRK : ∀ x ∈ K.drop (bh K u), x ∈ K := fun x hx => List.mem_of_mem_drop hx
  have hsR : Sorted (K.drop (bh K u)) := List.Pairwise.drop H.sorted
  obtain ⟨R, hRe⟩ : ∃ R, R = K.drop (bh K u) := ⟨_, rfl⟩
  rw [← hRe] at hR hRK hsR
  obtain ⟨top, htop⟩ : ∃ top, top = kV N[i].k + 2 ^ (128 - N[i].k.n.toNat) := ⟨_, rfl⟩
  rw [← htop] at hin'
  have hlow : ∀ x ∈ R.takeWhile (fun x => decide (kV x.k < top)), kV x.k < top := fun x hx => by
    have h := tw_imp (p := fun x : Rt => decide (kV x.k < top)) hx
    exact of_decide_eq_true h
  have hcat : R.takeWhile (fun x => decide (kV x.k < top)) ++ R.dropWhile (fun x => decide (kV x.k < top)) = R := List.takeWhile_append_dropWhile
  have hhigh : ∀ x ∈ R.dropWhile (fun x => decide (kV x.k < top)), top ≤ kV x.k := by
    intro x hx
    cases hd : R.dropWhile (fun x => decide (kV x.k < top)) with
    | nil => rw [hd] at hx; cases hx
    | cons y D =>
      have hy : ¬ kV y.k < top := by
        have := List.head?_dropWhile_not (fun x : Rt => decide (kV x.k < top)) R
        rw [hd] at this
        simpa using this
      rw [hd] at hx hcat
      have hsD : Sorted (y :: D) := by
        have := hsR
        rw [← hcat] at this
        exact (List.pairwise_append.1 this).2.1
      rcases List.mem_cons.1 hx with rfl | hx
      · omega
      · have h1 := (List.pairwise_cons.1 hsD).1 x hx
        have gy := (hK y (hRK y (by rw [← hcat]; simp))).2.1
        have gx := (hK x (hRK x (by rw [← hcat]; simp [hx]))).2.1
        rcases (lessK_val gy.2 gx.2).1 h1 with h2 | ⟨h2, -⟩ <;> omega
  obtain ⟨Mm, hM⟩ : ∃ Mm, Mm = R.takeWhile (fun x => decide (kV x.k < top)) := ⟨_, rfl⟩
  obtain ⟨S, hS⟩ : ∃ S, S = R.dropWhile (fun x => decide (kV x.k < top)) := ⟨_, rfl⟩
  rw [← hM] at hlow hcat
  rw [← hS] at hhigh hcat
  have hKe : K = K.take (bh K u) ++ (Mm ++ S) := by rw [hcat, hRe, List.take_append_drop]
  obtain ⟨P, hPe⟩ : ∃ P, P = K.take (bh K u) := ⟨_, rfl⟩
  rw [← hPe] at hKe hP
  have hMU : ∀ x ∈ Mm, x.k ∈ sprK N[i].k high := fun x hx => (hin' x (hRK x (by rw [← hcat]; simp [hx]))).2 ⟨hR x (by rw [← hcat]; simp [hx]), hlow x hx⟩
  have hSU : ∀ x ∈ S, x.k ∉ sprK N[i].k high := fun x hx h => by
    have := ((hin' x (hRK x (by rw [← hcat]; simp [hx]))).1 h).2
    have := hhigh x hx
    omega
  have hPU : ∀ x ∈ P, x.k ∉ sprK N[i].k high := fun x hx h => by
    have := (hin' x (by rw [hKe]; simp [hx])).1 h
    have := hP x hx
    omega
  have hsK := H.sorted
  rw [hKe] at hsK
  have hsP := List.pairwise_append.1 hsK
  have hsMS := List.pairwise_append.1 hsP.2.1
  refine ⟨P, Mm, S, hKe, by rw [hPe, List.length_take]; omega, ?_, ?_, ?_⟩
  · by_cases hRn : R = []
    · rw [hRn] at hcat
      exact .inr (List.append_eq_nil_iff.1 hcat)
    · refine .inl ?_
      obtain ⟨x, hx⟩ := List.exists_mem_of_ne_nil R hRn
      have hxK := (H.mem x).1 (hRK x hx)
      obtain ⟨j, hj, hji, h1, h2⟩ := mem_keysI.1 hxK.1
      have gj := hg _ (List.getElem_mem hj)
      have hxs := (mem_spr gj.1 gj.2 _ _).1 h2
      have hsp := spr_span gj h2
      have hrj := spr_right gj h2
      have hax := hR x hx
      have hord : kV N[j].k < kV N[i].k ∨ (kV N[j].k = kV N[i].k ∧ N[j].k.n < N[i].k.n) := (lessK_val gj.2 gi.2).1 (List.pairwise_iff_getElem.1 hN j i hj hi hji)
      obtain ⟨j0, j1, j2⟩ := (rightB_val _ _ _ gj.2).1 hrj
      obtain ⟨i0, i1, i2⟩ := (rightB_val _ _ _ gi.2).1 hri
      have hle : N[j].k.n ≤ N[i].k.n := by
        rcases hord with h3 | ⟨-, h3⟩
        · by_cases h4 : N[j].k.n ≤ N[i].k.n
          · exact h4
          · exfalso
            have e : 2 ^ (128 - N[i].k.n.toNat) = 2 ^ (128 - N[j].k.n.toNat) * 2 ^ (N[j].k.n.toNat - N[i].k.n.toNat) := by rw [← Nat.pow_add]; congr 1; omega
            obtain ⟨vi, hvi⟩ := i2
            obtain ⟨vj, hvj⟩ := j2
            have hvi : kV N[i].k = 2 ^ (128 - N[j].k.n.toNat) * (2 ^ (N[j].k.n.toNat - N[i].k.n.toNat) * vi) := by unfold kV; rw [hvi, e, Nat.mul_assoc]
            have hvj : kV N[j].k = 2 ^ (128 - N[j].k.n.toNat) * vj := hvj
            have p : 0 < 2 ^ (128 - N[j].k.n.toNat) := Nat.two_pow_pos _
            generalize 2 ^ (128 - N[j].k.n.toNat) = w at *
            generalize 2 ^ (N[j].k.n.toNat - N[i].k.n.toNat) * vi = z at *
            rw [hvi, hvj] at h3
            have h5 : vj < z := Nat.lt_of_mul_lt_mul_left h3
            have h6 : w * (vj + 1) ≤ w * z := Nat.mul_le_mul_left w h5
            rw [Nat.mul_add, Nat.mul_one] at h6
            omega
        · omega
      have hend : kV N[i].k + 2 ^ (128 - N[i].k.n.toNat) ≤ kV N[j].k + 2 ^ (128 - N[j].k.n.toNat) := by
        have e : 2 ^ (128 - N[j].k.n.toNat) = 2 ^ (128 - N[i].k.n.toNat) * 2 ^ (N[i].k.n.toNat - N[j].k.n.toNat) := by rw [← Nat.pow_add]; congr 1; omega
        obtain ⟨vi, hvi⟩ := i2
        obtain ⟨vj, hvj⟩ := j2
        have hlt : kV N[i].k < kV N[j].k + 2 ^ (128 - N[j].k.n.toNat) := by omega
        have hvi : kV N[i].k = 2 ^ (128 - N[i].k.n.toNat) * vi := hvi
        have hvj : kV N[j].k = 2 ^ (128 - N[i].k.n.toNat) * (2 ^ (N[i].k.n.toNat - N[j].k.n.toNat) * vj) := by unfold kV; rw [hvj, e, Nat.mul_assoc]
        rw [e] at hlt ⊢
        rw [hvi, hvj] at hlt ⊢
        generalize 2 ^ (128 - N[i].k.n.toNat) = w at *
        generalize 2 ^ (N[i].k.n.toNat - N[j].k.n.toNat) = z at *
        rw [← Nat.mul_add] at hlt ⊢
        have h5 : vi < z * vj + z := Nat.lt_of_mul_lt_mul_left hlt
        have h6 : w * (vi + 1) ≤ w * (z * vj + z) := Nat.mul_le_mul_left w h5
        rw [Nat.mul_add, Nat.mul_one] at h6
        exact h6
      have hUK : ∀ q ∈ sprK N[i].k high, ∃ y ∈ Mm, y.k = q := fun q hq => by
        have hqs := (mem_spr gi.1 gi.2 _ _).1 hq
        have hqp := spr_span gi hq
        have hqj : q ∈ sprK N[j].k high := (mem_spr gj.1 gj.2 _ _).2 ⟨hxs.1, hxs.2.1, hxs.2.2.1, hqs.2.2.2.1, hqs.2.2.2.2.1, hqs.2.2.2.2.2.1, hqs.2.2.2.2.2.2.1, (has_span gj.2 hrj hqs.2.2.2.2.2.1).2 ⟨by show kV N[j].k ≤ kV q; omega, by show kV q < _; omega⟩⟩
        have hyK : (⟨q, (hopJ N low q i).getD 0⟩ : Rt) ∈ K := (H.mem _).2 ⟨mem_keysI.2 ⟨j, hj, hji, h1, hqj⟩, rfl⟩
        rw [hKe] at hyK
        rcases List.mem_append.1 hyK with h3 | h3
        · exact absurd hq (hPU _ h3)
        · rcases List.mem_append.1 h3 with h3 | h3
          · exact ⟨_, h3, rfl⟩
          · exact absurd hq (hSU _ h3)
      have he : Mm.map (fun x => (⟨x.k, 0⟩ : Rt)) = (sprK N[i].k high).map fun q => ⟨q, 0⟩ := by
        refine sorted_ext (sorted_map hsMS.1 0) (spr_sorted gi high 0) fun q => ?_
        simp only [List.mem_map]
        constructor
        · rintro ⟨x, hx, rfl⟩
          exact ⟨x.k, hMU x hx, rfl⟩
        · rintro ⟨k, hk, rfl⟩
          obtain ⟨y, hy, rfl⟩ := hUK k hk
          exact ⟨y, hy, rfl⟩
      have := congrArg (List.map Rt.k) he
      simpa [List.map_map, Function.comp_def] using this
  · -- sorted
    have gP : ∀ x ∈ P, x.k.good := fun x hx => (hK x (by rw [hKe]; simp [hx])).2.1
    have gS : ∀ x ∈ S, x.k.good := fun x hx => (hK x (by rw [hKe]; simp [hx])).2.1
    refine List.pairwise_append.2 ⟨hsP.1, List.pairwise_append.2 ⟨spr_sorted gi high _, hsMS.2.1, ?_⟩, ?_⟩
    · intro a ha b hb
      obtain ⟨q, hq, rfl⟩ := List.mem_map.1 ha
      refine (lessK_val (spr_good gi high hq).2 (gS b hb).2).2 (.inl ?_)
      have := (spr_span gi hq).2
      have := hhigh b hb
      show kV q < kV b.k
      omega
    · intro a ha b hb
      rcases List.mem_append.1 hb with hb | hb
      · obtain ⟨q, hq, rfl⟩ := List.mem_map.1 hb
        refine (lessK_val (gP a ha).2 (spr_good gi high hq).2).2 (.inl ?_)
        have := (spr_span gi hq).1
        have := hP a ha
        show kV a.k < kV q
        omega
      · exact hsP.2.2 a ha b (List.mem_append.2 (.inr hb))
  · -- its members
    intro q
    rw [hin]
    unfold insB at hc
    simp only [Bool.and_eq_true, decide_eq_true_eq] at hc
    have hno : ∀ x ∈ K, x.k ∉ sprK N[i].k high → hopJ N low x.k (i + 1) = hopJ N low x.k i := fun x hx hx2 => by
      refine hopJ_no hi ?_
      obtain ⟨x1, x2, x3⟩ := hK x hx
      cases hcd : candB x.k.h x.k.l low x.k.n N[i] with
      | false => rfl
      | true =>
        unfold candB at hcd
        simp only [Bool.and_eq_true, decide_eq_true_eq] at hcd
        exact absurd ((mem_spr gi.1 gi.2 _ _).2 ⟨hs0.1, hs0.2.1, hs0.2.2.1, x1, x2.1, x2.2, x3, hcd.2.2⟩) hx2
    have hyes : ∀ k ∈ sprK N[i].k high, hopJ N low k (i + 1) = some N[i].v := fun k hk => by
      have hks := (mem_spr gi.1 gi.2 _ _).1 hk
      refine hopJ_yes hN hks.2.2.2.2.2.1 hi ?_
      unfold candB
      rw [hks.2.2.2.1, hks.2.2.2.2.2.2.2, decide_eq_true hc.1, decide_eq_true hc.2]
      rfl
    constructor
    · intro hq
      have hold : q ∈ K → q.k ∉ sprK N[i].k high → q.k ∈ keysS (N.take i) low high ++ sprK N[i].k high ∧ q.v = (hopJ N low q.k (i + 1)).getD 0 := fun h1 h2 => by
        have h3 := (H.mem q).1 h1
        exact ⟨List.mem_append.2 (.inl h3.1), by rw [hno q h1 h2]; exact h3.2⟩
      rcases List.mem_append.1 hq with hq | hq
      · exact hold (by rw [hKe]; simp [hq]) (hPU q hq)
      · rcases List.mem_append.1 hq with hq | hq
        · obtain ⟨k, hk, rfl⟩ := List.mem_map.1 hq
          exact ⟨List.mem_append.2 (.inr hk), by rw [hyes k hk]; rfl⟩
        · exact hold (by rw [hKe]; simp [hq]) (hSU q hq)
    · rintro ⟨h1, h2⟩
      by_cases hqU : q.k ∈ sprK N[i].k high
      · rw [hyes _ hqU] at h2
        refine List.mem_append.2 (.inr (List.mem_append.2 (.inl (List.mem_map.2 ⟨q.k, hqU, ?_⟩))))
        obtain ⟨k, v⟩ := q
        exact congrArg _ h2.symm
      · rcases List.mem_append.1 h1 with h1 | h1
        · have hd : hopJ N low q.k (i + 1) = hopJ N low q.k i := by
            have := hno ⟨q.k, (hopJ N low q.k i).getD 0⟩ ((H.mem _).2 ⟨h1, rfl⟩) hqU
            exact this
          rw [hd] at h2
          have h3 := (H.mem q).2 ⟨h1, h2⟩
          rw [hKe] at h3
          rcases List.mem_append.1 h3 with h3 | h3
          · exact List.mem_append.2 (.inl h3)
          · rcases List.mem_append.1 h3 with h3 | h3
            · exact absurd (hMU q h3) hqU
            · exact List.mem_append.2 (.inr (List.mem_append.2 (.inr h3)))
        · exact absurd h1 hqU
theorem nodup_le18 : ∀ {L M : List Ky}, L.Nodup → (∀ k ∈ L, k ∈ M) → L.length ≤ M.length
  | [], _, _, _ => Nat.zero_le _
  | a :: L, M, hn, h => by
    have ha := h a List.mem_cons_self
    have h2 := List.nodup_cons.1 hn
    have := nodup_le18 (M := M.erase a) h2.2 fun k hk => (List.mem_erase_of_ne (fun e => h2.1 (by rw [← e]; exact hk))).2 (h k (List.mem_cons_of_mem _ hk))
    rw [List.length_erase_of_mem ha] at this
    have hp : 0 < M.length := List.length_pos_of_mem ha
    simp only [List.length_cons]
    omega
theorem InvS.len {N : List Rt} (hg : ∀ r ∈ N, r.k.good) {low high : Int} {i : Nat} {K : List Rt} (H : InvS N low high i K) (hi : i ≤ N.length) : K.length ≤ 256 * i := by
  have h := nodup_le18 (L := keysR K) (M := keysS (N.take i) low high) H.sorted.nodup fun k hk => by
    unfold keysR at hk
    obtain ⟨q, hq, rfl⟩ := List.mem_map.1 hk
    exact ((H.mem q).1 hq).1
  unfold keysR at h
  rw [List.length_map] at h
  have := keysS_len N low high hg i hi
  omega
/-- The hop of a key, told in one go over a row in whatever order: the best so far, and whether there is one. -/
def hopStep (c : Rt → Bool) (b : Rt × Bool) (r : Rt) : Rt × Bool := if b.1.k.n ≤ r.k.n ∧ c r = true then (r, true) else b
def hopF (c : Rt → Bool) (L : List Rt) : Rt × Bool := L.foldl (hopStep c) (⟨⟨0, 0, 0⟩, 0⟩, false)
theorem hopF_snoc (c : Rt → Bool) (L : List Rt) (r : Rt) : hopF c (L ++ [r]) = hopStep c (hopF c L) r := by unfold hopF; rw [List.foldl_append]; rfl
def HopOk (c : Rt → Bool) (L : List Rt) (b : Rt × Bool) : Prop :=
  if b.2 = true then c b.1 = true ∧ lst L b.1.k = some b.1 ∧ ∀ r ∈ L, c r = true → r.k.n ≤ b.1.k.n else b.1 = ⟨⟨0, 0, 0⟩, 0⟩ ∧ ∀ r ∈ L, c r = false
theorem cand_key {a b : Nat} {low high : Int} {r q : Rt} (h : r.k = q.k) : candB a b low high r = candB a b low high q := by unfold candB; rw [h]
theorem cand_n {a b : Nat} {low high : Int} {r : Rt} (h : candB a b low high r = true) : ∃ m : Nat, m ≤ 128 ∧ r.k = cutK a b m := by
  unfold candB at h
  simp only [Bool.and_eq_true] at h
  exact (has_cutK _ _ _).1 h.2.2
theorem hopF_ok (a b : Nat) (low high : Int) (L : List Rt) : ∀ i, i ≤ L.length → HopOk (candB a b low high) (L.take i) (hopF (candB a b low high) (L.take i))
  | 0, _ => by
    unfold HopOk hopF
    simp
  | i + 1, h => by
    have ih := hopF_ok a b low high L i (by omega)
    rw [List.take_succ_eq_append_getElem (by omega), hopF_snoc]
    generalize L[i] = r
    generalize L.take i = l at *
    generalize hopF (candB a b low high) l = s at *
    obtain ⟨q, f⟩ := s
    unfold hopStep
    unfold HopOk at ih
    simp only at ih ⊢
    by_cases hc : q.k.n ≤ r.k.n ∧ candB a b low high r = true
    · rw [if_pos hc]
      unfold HopOk
      simp only [if_true]
      refine ⟨hc.2, by rw [lst_snoc, if_pos rfl], fun x hx hcx => ?_⟩
      rcases List.mem_append.1 hx with hx | hx
      · cases f with
        | true =>
          simp only [if_true] at ih
          have := ih.2.2 x hx hcx
          omega
        | false =>
          have := ih.2 x hx
          rw [hcx] at this
          cases this
      · have : x = r := by simpa using hx
        rw [this]
        exact Int.le_refl _
    · rw [if_neg hc]
      unfold HopOk
      cases f with
      | true =>
        simp only [if_true] at ih ⊢
        obtain ⟨h1, h2, h3⟩ := ih
        have hne : r.k ≠ q.k := fun e => hc ⟨by rw [e]; exact Int.le_refl _, by rw [cand_key e]; exact h1⟩
        refine ⟨h1, by rw [lst_snoc, if_neg hne]; exact h2, fun x hx hcx => ?_⟩
        rcases List.mem_append.1 hx with hx | hx
        · exact h3 x hx hcx
        · have : x = r := by simpa using hx
          subst this
          by_cases h4 : q.k.n ≤ x.k.n
          · exact absurd ⟨h4, hcx⟩ hc
          · omega
      | false =>
        have ih : q = ⟨⟨0, 0, 0⟩, 0⟩ ∧ ∀ r ∈ l, candB a b low high r = false := ih
        refine ⟨ih.1, fun x hx => ?_⟩
        rcases List.mem_append.1 hx with hx | hx
        · exact ih.2 x hx
        · have : x = r := by simpa using hx
          subst this
          cases hcx : candB a b low high x with
          | false => rfl
          | true =>
            obtain ⟨m, -, e⟩ := cand_n hcx
            have e2 : x.k.n = (m : Int) := by rw [e]; rfl
            exact absurd ⟨by rw [ih.1, e2]; show (0 : Int) ≤ _; omega, hcx⟩ hc
/-- .. IS THE HOP OF THE LONGEST. -/
theorem hopF_is (L : List Rt) (low : Int) (k : Ky) : hopV (sortR L) low k = (hopF (candB k.h k.l low k.n) L).1.v ∧ (hopK (sortR L) low k).isSome = (hopF (candB k.h k.l low k.n) L).2 := by
  have h := hopF_ok k.h k.l low k.n L L.length (Nat.le_refl _)
  rw [List.take_of_length_le (Nat.le_refl _)] at h
  generalize hopF (candB k.h k.l low k.n) L = s at *
  obtain ⟨q, f⟩ := s
  have hs := sortR_mem L
  have hl := lng_ok (sortR L) (candB k.h k.l low k.n) (sortR L).length (Nat.le_refl _)
  unfold hopV hopK
  unfold HopOk at h
  simp only at h ⊢
  cases f with
  | true =>
    simp only [if_true] at h
    obtain ⟨h1, h2, h3⟩ := h
    have hq : q ∈ sortR L := (hs.2 q).2 h2
    obtain ⟨j, hj, hjq⟩ := List.getElem_of_mem hq
    cases e : lngI (sortR L) (candB k.h k.l low k.n) (sortR L).length with
    | none =>
      rw [e] at hl
      have := hl j hj hj
      rw [hjq, h1] at this
      cases this
    | some b =>
      rw [e] at hl
      obtain ⟨hb, -, hcb, hmax⟩ := hl
      have h4 := hmax j hj hj (by rw [hjq]; exact h1)
      rw [hjq] at h4
      have h5 := h3 _ (sortR_sub (List.getElem_mem hb)) hcb
      obtain ⟨m, -, e1⟩ := cand_n hcb
      obtain ⟨m', -, e2⟩ := cand_n h1
      have n1 : (sortR L)[b].k.n = (m : Int) := by rw [e1]; rfl
      have n2 : q.k.n = (m' : Int) := by rw [e2]; rfl
      have hmm : m = m' := by omega
      subst hmm
      have hbq : (sortR L)[b] = q := one_key18 hs.1.nodup (List.getElem_mem hb) hq (by rw [e1, e2])
      simp only [Option.map_some, Option.getD_some, Option.isSome_some, and_true]
      rw [getD_at hb, hbq]
  | false =>
    have h : q = ⟨⟨0, 0, 0⟩, 0⟩ ∧ ∀ r ∈ L, candB k.h k.l low k.n r = false := h
    cases e : lngI (sortR L) (candB k.h k.l low k.n) (sortR L).length with
    | none =>
      rw [h.1]
      exact ⟨rfl, rfl⟩
    | some b =>
      rw [e] at hl
      obtain ⟨hb, -, hcb, -⟩ := hl
      rw [h.2 _ (sortR_sub (List.getElem_mem hb))] at hcb
      cases hcb
end Go.Proofs.Ytcfioplbbbaeoaa
