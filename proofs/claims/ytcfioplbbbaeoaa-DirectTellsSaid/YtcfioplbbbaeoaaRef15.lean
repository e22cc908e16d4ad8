/-
  The reference's Sorted: Into, route by route. No condition but that the row lies in memory and is short of 2^20.
-/
import Derived.Test.YtcfioplbbbaeoaaLtR
import Derived.Test.YtcfioplbbbaeoaaStb
import Derived.Deep.LoopGhost
/-
  Of several routes of one prefix the last one counts: rows put one after the other, and sorted rows of which only the last of each prefix is kept. No condition but those that stand in each.
-/
set_option linter.unusedSimpArgs false
set_option linter.unusedVariables false
namespace Go.Proofs.Ytcfioplbbbaeoaa
open Go.Sort M
set_option linter.unusedSimpArgs false

instance : Inhabited Ky := ⟨⟨0, 0, 0⟩⟩
def lastsR : List Rt → List Rt
  | [] => []
  | [r] => [r]
  | r :: q :: l => if q.k = r.k then lastsR (q :: l) else r :: lastsR (q :: l)
/-- The last one of a prefix. -/
def lst (l : List Rt) (k : Ky) : Option Rt := (l.filter fun r => decide (r.k = k)).getLast?
theorem lst_snoc (l : List Rt) (r : Rt) (k : Ky) : lst (l ++ [r]) k = if r.k = k then some r else lst l k := by
  unfold lst
  rw [List.filter_append]
  by_cases h : r.k = k
  · simp [h]
  · simp [h]
theorem mem_into {L : List Rt} {r q : Rt} (h : Sorted L) : q ∈ intoS L r ↔ q = r ∨ (q ∈ L ∧ q.k ≠ r.k) := by
  rw [(intoS_perm r h).mem_iff, List.mem_cons, mem_outS]
theorem sortR_snoc (l : List Rt) (r : Rt) : sortR (l ++ [r]) = intoS (sortR l) r := by
  unfold sortR
  rw [List.foldl_append]
  rfl
theorem sortR_mem (l : List Rt) : Sorted (sortR l) ∧ ∀ q, q ∈ sortR l ↔ lst l q.k = some q := by
  suffices H : ∀ (n : Nat) (l : List Rt), l.length = n → Sorted (sortR l) ∧ ∀ q, q ∈ sortR l ↔ lst l q.k = some q from H l.length l rfl
  intro n
  induction n with
  | zero =>
    intro l hl
    obtain rfl := List.eq_nil_of_length_eq_zero hl
    exact ⟨List.Pairwise.nil, fun q => by simp [sortR, lst]⟩
  | succ n ih =>
    intro l hl
    obtain ⟨l, r, rfl⟩ : ∃ l' r, l = l' ++ [r] := ⟨l.dropLast, l.getLast (by intro e; simp [e] at hl), (List.dropLast_concat_getLast _).symm⟩
    obtain ⟨h1, h2⟩ := ih l (by simpa using hl)
    rw [sortR_snoc]
    refine ⟨intoS_sorted r h1, fun q => ?_⟩
    rw [mem_into h1, lst_snoc]
    by_cases h : r.k = q.k
    · rw [if_pos h]
      constructor
      · rintro (rfl | ⟨-, h3⟩)
        · rfl
        · exact absurd h.symm h3
      · intro e
        exact .inl (Option.some.inj e).symm
    · rw [if_neg h, ← h2 q]
      constructor
      · rintro (rfl | ⟨h3, -⟩)
        · exact absurd rfl h
        · exact h3
      · intro h3
        exact .inr ⟨h3, fun e => h e.symm⟩
theorem lst_cons (r : Rt) (l : List Rt) (k : Ky) (h : r.k ≠ k) : lst (r :: l) k = lst l k := by
  unfold lst
  rw [List.filter_cons_of_neg (by simpa using h)]
theorem lst_skip (r q : Rt) (l : List Rt) (k : Ky) (h : q.k = r.k) : lst (r :: q :: l) k = lst (q :: l) k := by
  by_cases e : r.k = k
  · unfold lst
    rw [List.filter_cons_of_pos (by simpa using e), List.filter_cons_of_pos (l := l) (a := q) (by simpa using h.trans e)]
    rw [List.getLast?_cons_cons]
  · exact lst_cons r _ k e
theorem lst_none {l : List Rt} {k : Ky} (h : ∀ z ∈ l, z.k ≠ k) : lst l k = none := by
  unfold lst
  rw [List.filter_eq_nil_iff.2 (fun z hz => by simpa using h z hz)]
  rfl
theorem asc_less {r q : Rt} {l : List Rt} (h : Asc ltR (r :: q :: l)) (hk : q.k ≠ r.k) : ∀ z ∈ q :: l, lessK r.k z.k = true := by
  obtain ⟨h1, h2⟩ := List.pairwise_cons.1 h
  have hq : lessK r.k q.k = true := by
    have := lessK_total (a := q.k) (b := r.k) hk
    rw [this]
    have := h1 q (by simp)
    unfold ltR at this
    rw [this]
    rfl
  intro z hz
  rcases List.mem_cons.1 hz with rfl | hz
  · exact hq
  · have h3 := (List.pairwise_cons.1 h2).1 z hz
    cases e : lessK r.k z.k with
    | true => rfl
    | false =>
      have := ltR_swo.ntrans r z q e h3
      unfold ltR at this
      rw [hq] at this
      cases this
theorem lastsR_ok : ∀ {M : List Rt}, Asc ltR M → Sorted (lastsR M) ∧ (∀ q ∈ lastsR M, q ∈ M) ∧ ∀ q, q ∈ lastsR M ↔ lst M q.k = some q
  | [], _ => ⟨List.Pairwise.nil, by simp [lastsR], fun q => by simp [lastsR, lst]⟩
  | [r], _ => by
    refine ⟨by simp [lastsR, Sorted], by simp [lastsR], fun q => ?_⟩
    unfold lastsR
    by_cases h : r.k = q.k
    · have : lst [r] q.k = some r := by simp [lst, h]
      rw [this]
      simp
      exact eq_comm
    · rw [lst_cons r [] q.k h]
      simp [lst]
      rintro rfl
      exact h rfl
  | r :: q :: l, h => by
    obtain ⟨h1, h2⟩ := List.pairwise_cons.1 h
    obtain ⟨i1, i2, i3⟩ := lastsR_ok h2
    unfold lastsR
    by_cases hk : q.k = r.k
    · rw [if_pos hk]
      exact ⟨i1, fun z hz => List.mem_cons_of_mem _ (i2 z hz), fun z => by rw [lst_skip r q l _ hk]; exact i3 z⟩
    · rw [if_neg hk]
      have hl := asc_less h hk
      refine ⟨List.pairwise_cons.2 ⟨fun z hz => hl z (i2 z hz), i1⟩, fun z hz => ?_, fun z => ?_⟩
      · rcases List.mem_cons.1 hz with rfl | hz
        · simp
        · exact List.mem_cons_of_mem _ (i2 z hz)
      · have none : lst (q :: l) r.k = none := lst_none fun z hz e => by
          have := hl z hz
          rw [e, lessK_irr] at this
          cases this
        rw [List.mem_cons, i3 z]
        by_cases e : r.k = z.k
        · rw [← e, none]
          have : lst (r :: q :: l) r.k = some r := by
            unfold lst at none ⊢
            rw [List.filter_cons_of_pos (by simp), List.getLast?_eq_none_iff.1 none]
            rfl
          rw [this]
          constructor
          · rintro (rfl | e)
            · rfl
            · cases e
          · intro e
            exact .inl (Option.some.inj e).symm
        · rw [lst_cons r _ _ e]
          constructor
          · rintro (rfl | h)
            · exact absurd rfl e
            · exact h
          · exact .inr
theorem eqv_key (x y : Rt) : eqv ltR x y = decide (y.k = x.k) := by
  unfold eqv ltR
  by_cases h : y.k = x.k
  · rw [h, lessK_irr]
    simp
  · rw [lessK_total h]
    simp [h]
theorem lst_stb {l M : List Rt} (h : Stb ltR l M) (q : Rt) : lst M q.k = lst l q.k := by
  have := h.2 q
  have e : (eqv ltR q) = fun r => decide (r.k = q.k) := funext fun r => eqv_key q r
  rw [e] at this
  unfold lst
  rw [this]
theorem nodup_sorted {L : List Rt} (h : Sorted L) : L.Nodup := List.Pairwise.imp (fun {a b} hab e => by rw [e, lessK_irr] at hab; cases hab) h
theorem lasts_eq {l M : List Rt} (h : Asc ltR M) (hs : Stb ltR l M) : lastsR M = sortR l := by
  obtain ⟨a1, -, a3⟩ := lastsR_ok h
  obtain ⟨b1, b2⟩ := sortR_mem l
  refine sorted_eq a1 b1 ((List.perm_ext_iff_of_nodup (nodup_sorted a1) (nodup_sorted b1)).2 fun q => ?_)
  rw [a3 q, b2 q, lst_stb hs q]
/-- One step of the row that keeps the last of each prefix. -/
theorem lasts_step (M : List Rt) (i : Nat) (hi : i < M.length) : lastsR (M.drop i) = (if h : i + 1 < M.length then (if M[i + 1].k = M[i].k then [] else [M[i]]) else [M[i]]) ++ lastsR (M.drop (i + 1)) := by
  rw [List.drop_eq_getElem_cons hi]
  by_cases h : i + 1 < M.length
  · rw [dif_pos h, List.drop_eq_getElem_cons h]
    have hs : ∀ (r q : Rt) (l : List Rt), lastsR (r :: q :: l) = if q.k = r.k then lastsR (q :: l) else r :: lastsR (q :: l) := fun _ _ _ => rfl
    rw [hs]
    by_cases e : M[i + 1].k = M[i].k
    · rw [if_pos e, if_pos e, List.nil_append]
    · rw [if_neg e, if_neg e]
      rfl
  · rw [dif_neg h, List.drop_eq_nil_of_le (by omega)]
    rfl
theorem lasts_len : ∀ M : List Rt, (lastsR M).length ≤ M.length
  | [] => by simp [lastsR]
  | [r] => by simp [lastsR]
  | r :: q :: l => by
    have := lasts_len (q :: l)
    unfold lastsR
    split <;> simp at * <;> omega
end Go.Proofs.Ytcfioplbbbaeoaa
/-
  The reference's Sorted: Into, route by route. No condition but that the row lies in memory and is short of 2^20.
-/
set_option linter.unusedSimpArgs false
set_option linter.unusedVariables false
namespace Go.Proofs.Ytcfioplbbbaeoaa
open Go Go.RowKit Go.Sort M

theorem sortR_len : ∀ (l : List Rt), (sortR l).length ≤ l.length := by
  intro l
  suffices H : ∀ (n : Nat) (l : List Rt), l.length = n → (sortR l).length ≤ l.length from H l.length l rfl
  intro n
  induction n with
  | zero =>
    intro l hl
    obtain rfl := List.eq_nil_of_length_eq_zero hl
    simp [sortR]
  | succ n ih =>
    intro l hl
    obtain ⟨l, r, rfl⟩ : ∃ l' r, l = l' ++ [r] := ⟨l.dropLast, l.getLast (by intro e; simp [e] at hl), (List.dropLast_concat_getLast _).symm⟩
    have := ih l (by simpa using hl)
    rw [sortR_snoc]
    have h1 := (intoS_perm r (sortR_mem l).1).length_eq
    have h2 : (outS (sortR l) r.k).length ≤ (sortR l).length := List.length_filter_le _ _
    simp only [List.length_cons] at h1
    simp
    omega
theorem sortR_take (L : List Rt) (j : Nat) (h : j < L.length) : intoS (sortR (L.take j)) L[j] = sortR (L.take (j + 1)) := by
  rw [← sortR_snoc, List.take_succ_eq_append_getElem h]
set_option maxHeartbeats 1000000 in
set_option maxRecDepth 100000 in
theorem rsorted_any (p : Option Addr) (c : Nat) (L : List Rt) (w : World) (hR : Row w p (rcs L)) (hl : L.length < 1048576) :
    Calls Try.prog 21 #[.slice p L.length c] w fun e w' => NewRts w w' e (sortR L) := by
  have HR := Lib.hid hR
  clear hR
  go_enter Try.func21, Try.ntmps21
  go_wp2
  go_loopg [3, 4] L.length (fun kx s3 s4 wr => ∃ (j : Nat) (N : List Rt) (p3 : Option Addr) (c3 : Nat), s4 = .int .i64 (j : Int) ∧ L.length - j ≤ kx ∧ j ≤ L.length ∧ s3 = .slice p3 N.length c3 ∧ Hid (N = sortR (L.take j)) ∧ Hid (wr.ownsRow w.heap.size 43 4 (.slice p3 N.length c3) N.length (rcs N)) ∧ Below w.heap.size w wr)
  case atStart => exact ⟨0, [], none, 0, rfl, by omega, by omega, rfl, Lib.hid rfl, Lib.hid (World.ownsRow_nil _ _ _ _), by go_grown⟩
  case round =>
    obtain ⟨j, N, p3, c3, rfl, h1, h2, rfl, HN, HO, hb⟩ := hrel
    by_cases hi : j < L.length
    · obtain ⟨g, o, rfl, hg, x0, x1, x2, x3⟩ := HR.out.rt hi
      have x0 := (hb.cell (p := ⟨g, o + j * 4, none⟩) hg).trans x0
      have x1 := (hb.cell (p := ⟨g, o + j * 4 + 1, none⟩) hg).trans x1
      have x2 := (hb.cell (p := ⟨g, o + j * 4 + 2, none⟩) hg).trans x2
      have x3 := (hb.cell (p := ⟨g, o + j * 4 + 3, none⟩) hg).trans x3
      have hg2 := Nat.lt_of_lt_of_le hg hb.size
      have hz0 := hb.size
      have i1 : (0 : Int) ≤ (j : Int) := by omega
      have i2 : (j : Int) < (L.length : Int) := by omega
      have HI := Lib.hid (into_any w.heap.size p3 c3 N L[j] wr HO.out (by have := sortR_len (L.take j); rw [← HN.out, List.length_take] at this; omega))
      have HN2 : Hid (intoS N L[j] = sortR (L.take (j + 1))) := Lib.hid (by rw [HN.out]; exact sortR_take L j hi)
      unfold rtA at HI
      generalize L[j] = r at *
      go_wp2_with fail
      refine HI.out.mono ?_
      rintro e w2 ⟨p5, c5, rfl, hown, hb2⟩
      have hw2 := hb.trans (hb2.mono hb.size)
      have HO2 := Lib.hid (own_le hown hb.size)
      clear hown hb2
      go_wp2
      go_roundg (L.length - (j + 1))
      case measure => omega
      case rel => exact ⟨j + 1, _, p5, c5, by go_num, by omega, by omega, rfl, HN2, HO2, hw2⟩
    · go_wp2
      go_ret
      have := HN.out
      rw [List.take_of_length_le (by omega)] at this
      rw [← this]
      exact ⟨p3, c3, rfl, HO.out, hb⟩
end Go.Proofs.Ytcfioplbbbaeoaa
