/-
  Plain mathematics of what turns, step by step: the first keys of two sorted rows; and that what turns in a level hangs on nothing but the routes within the one that comes or goes and around it. No condition but those that stand in each.
-/
import Derived.Test.YtlmampklgghngaaW18d
import Derived.Test.YtlmampklgghngaaReg4
/-
  cover.Set and cover.Hop, as chapter 18's laws ask them. No condition but that the routes lie in memory, and their words are words.
-/
set_option linter.unusedSimpArgs false
set_option linter.unusedVariables false
namespace Go.Proofs.Ytlmampklgghngaa
open Go Go.RowKit Go.Sort M

set_option maxRecDepth 100000 in
set_option maxHeartbeats 4000000 in
theorem set_ok : SetC := by
  intro p c L low high w hR hg hcap hc hl
  have hS := wsorted_any p c L w hR hcap (by omega)
  have hlen := sortR_len L
  have hsrt := (sortR_mem L).1
  obtain ⟨N, hN⟩ : ∃ N, N = sortR L := ⟨_, rfl⟩
  have hgN : ∀ x ∈ N, x.k.good := fun x hx => hg x (sortR_sub (by rw [← hN]; exact hx))
  rw [← hN] at hS hlen hsrt ⊢
  have HS := Lib.hid hS
  have HG := Lib.hid hgN
  have HSRT := Lib.hid hsrt
  have HLN : N.length ≤ 4000 := by omega
  have HBT := Lib.hid between_any
  clear hS hgN hsrt hR hg hN hlen hcap
  go_enter Try.func20, Try.ntmps20
  go_wp2_with fail
  refine HS.out.mono ?_
  rintro e w1 ⟨p1, c1, rfl, ho1, hb1⟩
  have HROW := Lib.hid (Row.of_own ho1)
  have hz1 := hb1.size
  clear ho1 HS
  go_wp2
  go_loopg [7, 13] N.length (fun kx s7 s13 wr => ∃ (i n : Nat) (K : List Rt) (q : Option Addr) (cq : Nat), s13 = .int .i64 (i : Int) ∧ N.length - i ≤ kx ∧ i ≤ N.length ∧ s7 = .slice q n cq ∧ Hid (n = K.length) ∧ Hid (InvS N low high i K) ∧
    Hid (wr.ownsRow w1.heap.size 38 4 (.slice q n cq) n (rcs K)) ∧ Below w1.heap.size w1 wr)
  case atStart => exact ⟨0, 0, [], none, 0, rfl, by omega, by omega, rfl, Lib.hid rfl, Lib.hid (InvS.start _ _ _), Lib.hid (World.ownsRow_nil _ _ _ _), Below.refl _ _⟩
  case round =>
    obtain ⟨i, n, K, q, cq, rfl, k1, k2, rfl, HN, HI, HO, hb⟩ := hrel
    by_cases hi : i < N.length
    · obtain ⟨g, o, rfl, hgs, x0, x1, x2, x3⟩ := (HROW.out.below hb).rt hi
      have hgd := HG.out _ (List.getElem_mem hi)
      have hout := HI.out.out HG.out hi
      have hnone := HI.out.none HSRT.out HG.out hi
      have hlay := HI.out.lay HSRT.out HG.out hi
      have hKl := HI.out.len HG.out k2
      have hsK := HI.out.sorted
      generalize N[i] = r at *
      obtain ⟨⟨kh, kl, kn⟩, v⟩ := r
      simp only at x0 x1 x2 x3 hout hnone hlay
      obtain ⟨hg1, hg2⟩ : W64 kh ∧ W64 kl := hgd
      have hbt := HBT.out kh kl kn v low high
      have i1 : (0 : Int) ≤ (i : Int) := by omega
      have i2 : (i : Int) < (N.length : Int) := by omega
      unfold insB at hout hnone hlay
      simp only at hout hnone hlay
      cases hc : (decide (low < kn) && decide (kn ≤ high)) with
      | false =>
        rw [hc] at hbt
        have HB := Lib.hid hbt
        have HI2 := Lib.hid (hout hc)
        clear hout hnone hlay hbt hc hsK
        go_wp2_with fail
        refine (HB.out _).mono ?_
        rintro e w2 ⟨rfl, hb2⟩
        have hbr := hb.trans ((Below.trans (by go_grown) (hb2.mono (by simp)) : Below wr.heap.size wr w2).mono hb.size)
        have HO2 := Lib.hid (own_below HO.out (Below.trans (by go_grown) (hb2.mono (by simp))))
        go_wp2
        go_roundg (N.length - (i + 1))
        case measure => omega
        case rel => exact ⟨i + 1, n, K, q, cq, by go_num, by omega, by omega, rfl, HN, HI2, HO2, hbr⟩
      | true =>
        rw [hc] at hbt
        have HB := Lib.hid hbt
        have hL : ∃ K', InvS N low high (i + 1) K' ∧ ∀ W q cq, w1.heap.size ≤ W.heap.size → W.ownsRow w1.heap.size 38 4 (.slice q K.length cq) K.length (rcs K) →
            Calls Try.prog 29 #[.slice q K.length cq, .agg #[.int .u64 (kh : Int), .int .u64 (kl : Int), .int .i64 kn, .int .i64 v], .int .i64 high] W fun e w' => LayR w1.heap.size W w' e K' := by
          by_cases h0 : 0 < (sprK ⟨kh, kl, kn⟩ high).length
          · obtain ⟨P, Mm, S, e1, e2, e3, e4⟩ := hlay hc h0
            exact ⟨_, e4, fun W q cq hz ho => lay_some _ q cq K P Mm S kh kl kn v high W ho hz hsK (by omega) hg1 hg2 h0 e1 e2 e3⟩
          · have h0 : sprK ⟨kh, kl, kn⟩ high = [] := List.length_eq_zero_iff.1 (by omega)
            exact ⟨K, hnone hc h0, fun W q cq hz ho => lay_none _ q cq K kh kl kn v high W ho hz hg1 hg2 h0⟩
        obtain ⟨K', hI2, hcall⟩ := hL
        rw [← HN.out] at hcall
        have HI2 := Lib.hid hI2
        have HC := Lib.hid hcall
        clear hout hnone hlay hbt hc hsK hI2 hcall hKl
        go_wp2_with fail
        refine (HB.out _).mono ?_
        rintro e w2 ⟨rfl, hb2⟩
        have hw2 : Below wr.heap.size wr w2 := Below.trans (by go_grown) (hb2.mono (by simp))
        obtain ⟨nc, -⟩ := bcell hb2
        have r0 := (nc wr.heap.size 0 (by simp)).trans (show _ = some (Value.int .u64 (kh : Int)) by simp [go_sem])
        have r1 := (nc wr.heap.size 1 (by simp)).trans (show _ = some (Value.int .u64 (kl : Int)) by simp [go_sem])
        have r2 := (nc wr.heap.size 2 (by simp)).trans (show _ = some (Value.int .i64 kn) by simp [go_sem])
        have r3 := (nc wr.heap.size 3 (by simp)).trans (show _ = some (Value.int .i64 v) by simp [go_sem])
        have hz2 : wr.heap.size < w2.heap.size := by have := hb2.size; simp at this; omega
        have HO2 := Lib.hid (own_below HO.out hw2)
        have hb2' := hb.trans (hw2.mono hb.size)
        clear nc hb2 hw2 x0 x1 x2 x3 HO
        go_wp2_with fail
        refine (HC.out w2 q cq hb2'.size HO2.out).mono ?_
        rintro e w3 ⟨q3, c3, rfl, ho3, hb3⟩
        have hb3' := hb2'.trans hb3
        have HO3 := Lib.hid ho3
        clear ho3 hb3 HC
        go_wp2
        go_roundg (N.length - (i + 1))
        case measure => omega
        case rel => exact ⟨i + 1, K'.length, K', q3, c3, by go_num, by omega, by omega, rfl, Lib.hid rfl, HI2, HO3, hb3'⟩
    · have hil : i = N.length := by omega
      have hd : K = setS N low high := by
        have := HI.out
        rw [hil] at this
        exact this.done
      have HD := Lib.hid hd
      have hbw := hb1.trans (hb.mono hz1)
      clear hil hd
      go_wp2
      go_ret
      refine ⟨q, cq, ?_, ?_, hbw⟩
      · rw [← HD.out, HN.out]; rfl
      · have h := own_le HO.out hz1
        rw [HN.out, HD.out] at h
        exact h
end Go.Proofs.Ytlmampklgghngaa
/-
  Plain mathematics of what turns, step by step: the first keys of two sorted rows; and that what turns in a level hangs on nothing but the routes within the one that comes or goes and around it. No condition but those that stand in each.
-/
set_option linter.unusedSimpArgs false
set_option linter.unusedVariables false
namespace Go.Proofs.Ytlmampklgghngaa
open M

theorem getS_cons (a : Rt) (A : List Rt) (k : Ky) : getS (a :: A) k = if a.k = k then some a.v else getS A k := by
  unfold getS
  rw [List.find?_cons]
  by_cases h : a.k = k <;> simp [h]
theorem getS_later {a : Ky} {B : List Rt} (hb : ∀ b ∈ B, lessK a b.k = true) : getS B a = none := by
  rw [getS_none]
  unfold keysR
  rw [List.mem_map]
  rintro ⟨b, hb', e⟩
  have := hb b hb'
  rw [e, lessK_irr] at this
  cases this
theorem of_later {a : Ky} {A B : List Rt} (ha : ∀ b ∈ A, lessK a b.k = true) (hb : ∀ b ∈ B, lessK a b.k = true) : ∀ c ∈ ofS A B, lessK a c.k = true := by
  intro c hc
  have h := turn_keys ((mem_of A B c).1 hc).1
  unfold keysR at h
  obtain ⟨r, hr, e⟩ := List.mem_map.1 h
  rw [← e]
  rcases List.mem_append.1 hr with h1 | h1
  · exact ha r h1
  · exact hb r h1
/-- The first row has a key that the other one lacks. -/
theorem of_left {a : Rt} {A B : List Rt} (hA : Sorted (a :: A)) (hb : ∀ b ∈ B, lessK a.k b.k = true) : ofS (a :: A) B = ⟨a.k, a.v, -1⟩ :: ofS A B := by
  obtain ⟨ha, -⟩ := List.pairwise_cons.1 hA
  have n1 := getS_later ha
  have n2 := getS_later hb
  refine (of_one (List.pairwise_cons.2 ⟨of_later ha hb, of_sorted A B⟩) fun c => ?_).symm
  rw [List.mem_cons, mem_of]
  obtain ⟨k, o, n⟩ := c
  by_cases e : a.k = k
  · subst e
    unfold chS
    simp only [getS_cons, if_true, n1, n2, ne_eq, not_true_eq_false, false_and, or_false]
    constructor
    · intro h
      injection h with _ h2 h3
      rw [h2, h3]
      exact ⟨by simp, rfl⟩
    · rintro ⟨-, h⟩
      exact h
  · unfold chS
    simp only [getS_cons, if_neg e]
    constructor
    · rintro (h | h)
      · injection h with h
        exact absurd h.symm e
      · exact h
    · exact .inr
theorem of_right {b : Rt} {A B : List Rt} (hB : Sorted (b :: B)) (ha : ∀ a ∈ A, lessK b.k a.k = true) : ofS A (b :: B) = ⟨b.k, -1, b.v⟩ :: ofS A B := by
  rw [of_back, of_left hB ha, List.map_cons, ← of_back]
  rfl
/-- Both have the same first key. -/
theorem of_both {a b : Rt} {A B : List Rt} (hA : Sorted (a :: A)) (hB : Sorted (b :: B)) (h : a.k = b.k) : ofS (a :: A) (b :: B) = (if a.v = b.v then [] else [⟨b.k, a.v, b.v⟩]) ++ ofS A B := by
  obtain ⟨ha, -⟩ := List.pairwise_cons.1 hA
  obtain ⟨hb, -⟩ := List.pairwise_cons.1 hB
  rw [← h] at hb
  have n1 := getS_later ha
  have n2 := getS_later hb
  have hl := of_later ha hb
  have hs : SortedC ((if a.v = b.v then [] else [⟨b.k, a.v, b.v⟩]) ++ ofS A B) := by
    by_cases e : a.v = b.v
    · rw [if_pos e]; exact of_sorted A B
    · rw [if_neg e, ← h]; exact List.pairwise_cons.2 ⟨hl, of_sorted A B⟩
  refine (of_one hs fun c => ?_).symm
  rw [List.mem_append, mem_of]
  obtain ⟨k, o, n⟩ := c
  by_cases e : a.k = k
  · subst e
    unfold chS
    simp only [getS_cons, if_true, ← h, n1, n2, ne_eq, not_true_eq_false, false_and, or_false]
    by_cases e2 : a.v = b.v
    · rw [if_pos e2, e2]
      simp
    · rw [if_neg e2]
      simp [e2]
  · unfold chS
    have e2 : ¬ b.k = k := by rw [← h]; exact e
    simp only [getS_cons, if_neg e, if_neg e2]
    constructor
    · rintro (h1 | h1)
      · split at h1
        · cases h1
        · simp at h1
          exact absurd h1.1.symm e2
      · exact h1
    · exact .inr
/-- The first row's first key stands ahead. -/
def aheadB : List Rt → List Rt → Bool
  | [], _ => false
  | _ :: _, [] => true
  | a :: _, b :: _ => lessK a.k b.k
theorem ahead_left {a : Rt} {A B : List Rt} (hA : Sorted (a :: A)) (hB : Sorted B) (h : aheadB (a :: A) B = true) : ofS (a :: A) B = ⟨a.k, a.v, -1⟩ :: ofS A B := by
  refine of_left hA fun q hq => ?_
  rcases B with _ | ⟨b, B⟩
  · cases hq
  · have h : lessK a.k b.k = true := h
    rcases List.mem_cons.1 hq with rfl | hq
    · exact h
    · exact lessK_trans h ((List.pairwise_cons.1 hB).1 q hq)
theorem ahead_right {b : Rt} {A B : List Rt} (hA : Sorted A) (hB : Sorted (b :: B)) (h : aheadB (b :: B) A = true) : ofS A (b :: B) = ⟨b.k, -1, b.v⟩ :: ofS A B := by
  rw [of_back, ahead_left hB hA h, List.map_cons, ← of_back]
  rfl
theorem ahead_none {A B : List Rt} (h1 : aheadB A B = false) (h2 : aheadB B A = false) : (A = [] ∧ B = []) ∨ ∃ a A' b B', A = a :: A' ∧ B = b :: B' ∧ a.k = b.k := by
  rcases A with _ | ⟨a, A⟩ <;> rcases B with _ | ⟨b, B⟩
  · exact .inl ⟨rfl, rfl⟩
  · cases h2
  · cases h1
  · refine .inr ⟨a, A, b, B, rfl, rfl, ?_⟩
    by_cases e : a.k = b.k
    · exact e
    · have := lessK_total e
      have h1 : lessK a.k b.k = false := h1
      have h2 : lessK b.k a.k = false := h2
      rw [h1, h2] at this
      cases this
/-- Within p, or around it. -/
def nearB (p q : Ky) : Bool := decide (min p.n q.n ≤ (commonN p.h p.l q.h q.l : Int))
def nearR (p : Ky) (N : List Rt) : List Rt := N.filter fun r => nearB p r.k
theorem sortR_filter (P : Ky → Bool) (L : List Rt) : sortR (L.filter fun r => P r.k) = (sortR L).filter fun r => P r.k := by
  obtain ⟨h1, h2⟩ := sortR_mem L
  obtain ⟨h3, h4⟩ := sortR_mem (L.filter fun r => P r.k)
  refine sorted_ext h3 (List.Pairwise.filter _ h1) fun q => ?_
  rw [h4, List.mem_filter, h2]
  unfold lst
  rw [List.filter_filter]
  by_cases hp : P q.k = true
  · have : (L.filter fun r => decide (r.k = q.k) && P r.k) = L.filter fun r => decide (r.k = q.k) := List.filter_congr fun r _ => by
      by_cases e : r.k = q.k
      · rw [e, hp]; simp
      · simp [e]
    rw [this]
    simp [hp]
  · have : (L.filter fun r => decide (r.k = q.k) && P r.k) = [] := List.filter_eq_nil_iff.2 fun r _ => by
      by_cases e : r.k = q.k
      · rw [e]; simp [hp]
      · simp [e]
    rw [this]
    simp [hp]
theorem getS_filter (P : Ky → Bool) (N : List Rt) (k : Ky) : getS (N.filter fun r => P r.k) k = if P k = true then getS N k else none := by
  induction N with
  | nil => simp [getS]
  | cons a N ih =>
    rw [List.filter_cons, getS_cons]
    by_cases h : P a.k = true
    · rw [if_pos h, getS_cons, ih]
      by_cases e : a.k = k
      · rw [if_pos e, if_pos e, if_pos (by rw [← e]; exact h)]
      · rw [if_neg e, if_neg e]
    · rw [if_neg h, ih]
      by_cases e : a.k = k
      · rw [if_neg (by rw [← e]; exact h), if_neg (by rw [← e]; exact h)]
      · rw [if_neg e]
theorem cutK_cutK (ah al m x : Nat) (h : x ≤ m) : cutK (cutK ah al m).h (cutK ah al m).l x = cutK ah al x := by
  unfold cutK
  simp only
  rw [cutW_cutW, cutW_cutW, Nat.min_eq_right h, Nat.min_eq_right (by omega)]
/-- Two prefixes that an address begins with are near. -/
theorem near_cut {ah al m m' : Nat} (a : W64 ah) (b : W64 al) (h1 : m ≤ 128) : nearB (cutK ah al m) (cutK ah al m') = true := by
  unfold nearB
  have g := cutK_good (m := m) a b
  have g' := cutK_good (m := m') a b
  have h := (cutK_common (m := min m m') (m' := min m m') g.1 g.2 g'.1 g'.2 (by omega)).1 (by rw [cutK_cutK _ _ _ _ (Nat.min_le_left _ _), cutK_cutK _ _ _ _ (Nat.min_le_right _ _)])
  have hn : (cutK ah al m).n = (m : Int) := rfl
  have hn' : (cutK ah al m').n = (m' : Int) := rfl
  rw [decide_eq_true_eq, hn, hn']
  have := h.2
  omega
theorem near_get {N : List Rt} (hN : Sorted N) (hg : ∀ r ∈ N, W64 r.k.h ∧ W64 r.k.l) {p k : Ky} (hp : W64 p.h ∧ W64 p.l) {low high : Int} (hl : low < high) (hk : k ∈ sprK p high) : getS (setS (nearR p N) low high) k = getS (setS N low high) k := by
  obtain ⟨k1, k2, k3, k4, k5, k6, k7, k8⟩ := (mem_spr hp.1 hp.2 _ _).1 hk
  obtain ⟨m, hm, hpm⟩ := (has_cutK _ _ _).1 k8
  have hNs : Sorted (nearR p N) := List.Pairwise.filter _ hN
  have hnear : ∀ j : Ky, hasB j.h j.l j.n k.h k.l = true → nearB p j = true := fun j hj => by
    obtain ⟨m', hm', hj'⟩ := (has_cutK _ _ _).1 hj
    rw [hpm, hj']
    exact near_cut k5 k6 hm
  have hin : k ∈ keysS (nearR p N) low high ↔ k ∈ keysS N low high := by
    rw [mem_keysS, mem_keysS]
    constructor
    · rintro ⟨j, hj, h2⟩
      refine ⟨j, ?_, h2⟩
      unfold keysR nearR at hj
      obtain ⟨r, hr, e⟩ := List.mem_map.1 hj
      exact List.mem_map.2 ⟨r, (List.mem_filter.1 hr).1, e⟩
    · rintro ⟨j, hj, h2, h3, h4⟩
      refine ⟨j, ?_, h2, h3, h4⟩
      have hg4 := keysR_good hg hj
      have h5 := ((mem_spr hg4.1 hg4.2 _ _).1 h4).2.2.2.2.2.2.2
      unfold keysR at hj
      obtain ⟨r, hr, e⟩ := List.mem_map.1 hj
      exact List.mem_map.2 ⟨r, List.mem_filter.2 ⟨hr, by rw [e]; exact hnear j h5⟩, e⟩
  have hD : ∀ m : Nat, m < 129 → depV (nearR p N) k.h k.l m = depV N k.h k.l m := fun m' hm' => by
    rw [dep_get, dep_get]
    unfold nearR
    rw [getS_filter, if_pos]
    rw [hpm]
    exact near_cut k5 k6 hm
  rw [getS_set hl, getS_set hl]
  have hv : hopV (nearR p N) low k = hopV N low k := by
    unfold hopV
    rw [hop_best hNs, hop_best hN]
    have hb : bestM (depV (nearR p N) k.h k.l) low k.n 129 = bestM (depV N k.h k.l) low k.n 129 := best_congr fun m' hm' => by rw [hD m' hm']
    rw [hb]
    cases hbm : bestM (depV N k.h k.l) low k.n 129 with
    | none => rfl
    | some b =>
      have h2 := (best_some.1 hbm).1
      show (depV (nearR p N) k.h k.l b).getD 0 = (depV N k.h k.l b).getD 0
      rw [hD b h2]
  rw [hv]
  by_cases h : k ∈ keysS N low high
  · rw [if_pos h, if_pos (hin.2 h)]
  · rw [if_neg h, if_neg (fun e => h (hin.1 e))]
theorem nearR_sorted {N : List Rt} (h : Sorted N) (p : Ky) : Sorted (nearR p N) := List.Pairwise.filter _ h
theorem nearR_sub {p : Ky} {N : List Rt} {r : Rt} (h : r ∈ nearR p N) : r ∈ N := (List.mem_filter.1 h).1
theorem near_lvl {N : List Rt} (hN : Sorted N) (p : Ky) (hop : Int) (hp : nearB p p = true) : lvlM (nearR p N) p hop = nearR p (lvlM N p hop) := by
  have hNs := nearR_sorted hN p
  refine getS_ext (lvl_sorted hNs p hop) (nearR_sorted (lvl_sorted hN p hop) p) fun k => ?_
  have e1 : ∀ k, getS (nearR p N) k = if nearB p k = true then getS N k else none := fun k => getS_filter (nearB p) N k
  have e2 : getS (nearR p (lvlM N p hop)) k = if nearB p k = true then getS (lvlM N p hop) k else none := getS_filter (nearB p) _ k
  rw [e2]
  unfold lvlM
  by_cases h : 0 ≤ hop
  · rw [if_pos h, if_pos h, getS_into (outS_sorted _ hNs), getS_into (outS_sorted _ hN), getS_out hNs, getS_out hN, e1]
    by_cases e : k = p
    · subst e
      simp [hp]
    · simp only [if_neg e]
  · rw [if_neg h, if_neg h, getS_out hNs, getS_out hN, e1]
    by_cases e : k = p
    · subst e
      simp
    · simp only [if_neg e]
/-- WHAT TURNS HANGS ON NOTHING BUT WHAT IS NEAR. -/
theorem of_near {N : List Rt} (hN : Sorted N) (hg : ∀ r ∈ N, W64 r.k.h ∧ W64 r.k.l) {p : Ky} (hp : W64 p.h ∧ W64 p.l) (hop : Int) {low high : Int} (hl : low < high) :
    ofS (setS (nearR p N) low high) (setS (lvlM (nearR p N) p hop) low high) = ofS (setS N low high) (setS (lvlM N p hop) low high) := by
  have hNs := nearR_sorted hN p
  have hgs : ∀ r ∈ nearR p N, W64 r.k.h ∧ W64 r.k.l := fun r hr => hg r (nearR_sub hr)
  have hMg := lvl_good hg hp hN hop
  have hM := lvl_sorted hN p hop
  have key : ∀ k, k ∈ sprK p high → getS (setS (nearR p N) low high) k = getS (setS N low high) k ∧ getS (setS (lvlM (nearR p N) p hop) low high) k = getS (setS (lvlM N p hop) low high) k := fun k hk => by
    refine ⟨near_get hN hg hp hl hk, ?_⟩
    have h1 := (mem_spr hp.1 hp.2 _ _).1 hk
    obtain ⟨m, hm, hpm⟩ := (has_cutK _ _ _).1 h1.2.2.2.2.2.2.2
    have hself : nearB p p = true := by
      rw [hpm]
      exact near_cut h1.2.2.2.2.1 h1.2.2.2.2.2.1 hm
    rw [near_lvl hN p hop hself]
    exact near_get hM hMg hp hl hk
  refine of_one (of_sorted _ _) fun c => ?_
  constructor
  · intro hc
    have h1 := (few hNs hgs hp hop hl hc).2.2.2.2
    obtain ⟨h2, h3⟩ := (mem_of _ _ c).1 hc
    obtain ⟨e1, e2⟩ := key _ h1
    rw [e1, e2] at h2
    refine ⟨h2, ?_⟩
    unfold chS at h3 ⊢
    rw [e1, e2] at h3
    exact h3
  · rintro ⟨h2, h3⟩
    have hc : c ∈ ofS (setS N low high) (setS (lvlM N p hop) low high) := (mem_of _ _ c).2 ⟨h2, h3⟩
    have h1 := (few hN hg hp hop hl hc).2.2.2.2
    obtain ⟨e1, e2⟩ := key _ h1
    refine (mem_of _ _ c).2 ⟨by rw [e1, e2]; exact h2, ?_⟩
    unfold chS at h3 ⊢
    rw [e1, e2]
    exact h3
/-- A route that makes no key turns nothing. -/
theorem of_out {N : List Rt} (hN : Sorted N) (hg : ∀ r ∈ N, W64 r.k.h ∧ W64 r.k.l) {p : Ky} (hp : W64 p.h ∧ W64 p.l) (hop : Int) {low high : Int} (h : p.n ≤ low ∨ high < p.n) : ofS (setS N low high) (setS (lvlM N p hop) low high) = [] := by
  by_cases hl : low < high
  · cases hO : ofS (setS N low high) (setS (lvlM N p hop) low high) with
    | nil => rfl
    | cons c L =>
      have := few hN hg hp hop hl (c := c) (by rw [hO]; exact List.mem_cons_self)
      omega
  · unfold setS
    rw [if_neg hl, if_neg hl]
    exact of_self _
/-- The program's two rows: what is near, and that without p, or with p behind it. -/
theorem sort_near (p : Ky) (L : List Rt) : sortR (nearR p L) = nearR p (sortR L) := sortR_filter (nearB p) L
theorem sort_lvl (p : Ky) (hop : Int) (L : List Rt) : sortR (if 0 ≤ hop then outS L p ++ [⟨p, hop⟩] else outS L p) = lvlM (sortR L) p hop := by
  have e : sortR (outS L p) = outS (sortR L) p := by
    have h := sortR_filter (fun k => !decide (k = p)) L
    unfold outS
    simpa using h
  unfold lvlM
  by_cases h : 0 ≤ hop
  · rw [if_pos h, if_pos h, sortR_snoc, e]
  · rw [if_neg h, if_neg h, e]
end Go.Proofs.Ytlmampklgghngaa
