/-
  The reference's plain rows of routes: Find, Without; SameRoutes. No condition but that the rows lie in memory, and are short of 2^20.
-/
import Derived.Test.YtcbmeollffkekaaLtR
import Derived.Test.YtcbmeollffkekaaSort
import Derived.Test.YtcbmeollffkekaaW12a
import Derived.Test.YtcbmeollffkekaaCopy
/-
  Plain mathematics of a stash, a row of routes in order: where a key lies in it, what it is with one more, with one turned, with one less. No condition but those that stand in each.
-/
set_option linter.unusedSimpArgs false
set_option linter.unusedVariables false
namespace Go.Proofs.Ytcbmeollffkekaa
open M

/-- How many, from the first on, are ahead of a key. -/
def bh : List Rt → Ky → Nat
  | [], _ => 0
  | a :: l, k => if lessK a.k k then bh l k + 1 else 0
theorem bh_le : ∀ (l : List Rt) (k : Ky), bh l k ≤ l.length
  | [], _ => Nat.le_refl _
  | a :: l, k => by
    unfold bh
    have := bh_le l k
    split <;> simp <;> omega
theorem bh_lt : ∀ (l : List Rt) (k : Ky) (i : Nat) (h : i < l.length), i < bh l k → lessK l[i].k k = true
  | a :: l, k, i, h, hb => by
    unfold bh at hb
    split at hb
    · rename_i ha
      cases i with
      | zero => simpa using ha
      | succ i => simpa using bh_lt l k i (by simpa using h) (by omega)
    · omega
theorem bh_ge : ∀ (l : List Rt) (k : Ky), Sorted l → ∀ (i : Nat) (h : i < l.length), bh l k ≤ i → lessK l[i].k k = false
  | a :: l, k, hs, i, h, hb => by
    have h1 := List.pairwise_cons.1 hs
    unfold bh at hb
    split at hb
    · cases i with
      | zero => omega
      | succ i => simpa using bh_ge l k h1.2 i (by simpa using h) (by omega)
    · rename_i ha
      rw [Bool.not_eq_true] at ha
      cases i with
      | zero => simpa using ha
      | succ i =>
        have hi : i < l.length := by simpa using h
        cases hc : lessK (l[i]'hi).k k with
        | false => simpa using hc
        | true =>
          have := lessK_trans (h1.1 _ (List.getElem_mem hi)) hc
          rw [ha] at this
          cases this
/-- The test of a search, in a row in order: is number i behind? -/
theorem bh_test (l : List Rt) (k : Ky) (hs : Sorted l) (i : Nat) (h : i < l.length) : (!lessK l[i].k k) = decide (bh l k ≤ i) := by
  by_cases hb : bh l k ≤ i
  · rw [bh_ge l k hs i h hb, decide_eq_true hb]; rfl
  · rw [bh_lt l k i h (by omega), decide_eq_false hb]; rfl
theorem findS_cons (a : Rt) (l : List Rt) (k : Ky) : findS (a :: l) k = if a.k = k then some 0 else (findS l k).map (· + 1) := by
  unfold findS
  rw [List.findIdx?_cons]
  by_cases h : a.k = k
  · rw [if_pos h, decide_eq_true h]; rfl
  · rw [if_neg h, decide_eq_false h]; rfl
theorem findS_bh : ∀ (l : List Rt) (k : Ky), Sorted l → (∀ i, findS l k = some i → i = bh l k ∧ ∃ h : i < l.length, l[i].k = k) ∧ (findS l k = none → ∀ (h : bh l k < l.length), l[bh l k].k ≠ k)
  | [], k, _ => ⟨fun i h => by simp [findS] at h, fun _ h => absurd h (by simp)⟩
  | a :: l, k, hs => by
    have h1 := List.pairwise_cons.1 hs
    have ih := findS_bh l k h1.2
    rw [findS_cons]
    by_cases hk : a.k = k
    · rw [if_pos hk]
      have hb : bh (a :: l) k = 0 := by unfold bh; rw [hk, lessK_irr]; rfl
      refine ⟨fun i h => ?_, fun h => by cases h⟩
      injection h with h
      subst h
      exact ⟨hb.symm, by simp, hk⟩
    · rw [if_neg hk]
      cases hl : lessK a.k k with
      | true =>
        have hb : bh (a :: l) k = bh l k + 1 := by
          show (if lessK a.k k = true then bh l k + 1 else 0) = _
          rw [hl]; rfl
        refine ⟨fun i h => ?_, fun h hlt => ?_⟩
        · rw [Option.map_eq_some_iff] at h
          obtain ⟨j, hj, rfl⟩ := h
          obtain ⟨e, hj2, hjk⟩ := ih.1 j hj
          exact ⟨by rw [hb, e], by simpa using hj2, by simpa using hjk⟩
        · rw [Option.map_eq_none_iff] at h
          have := ih.2 h (by rw [hb] at hlt; simpa using hlt)
          simpa [hb] using this
      | false =>
        have hb : bh (a :: l) k = 0 := by
          show (if lessK a.k k = true then bh l k + 1 else 0) = _
          rw [hl]; rfl
        have hr : lessK k a.k = true := by rw [lessK_total hk, hl]; rfl
        refine ⟨fun i h => ?_, fun h hlt => by simpa [hb] using hk⟩
        rw [Option.map_eq_some_iff] at h
        obtain ⟨j, hj, rfl⟩ := h
        obtain ⟨e, hj2, hjk⟩ := ih.1 j hj
        have := lessK_trans hr (h1.1 _ (List.getElem_mem hj2))
        rw [hjk, lessK_irr] at this
        cases this
theorem into_absent : ∀ (l : List Rt) (r : Rt), findS l r.k = none → intoS l r = l.take (bh l r.k) ++ r :: l.drop (bh l r.k)
  | [], r, _ => rfl
  | a :: l, r, h => by
    rw [findS_cons] at h
    have hk : a.k ≠ r.k := fun e => by rw [if_pos e] at h; cases h
    rw [if_neg hk, Option.map_eq_none_iff] at h
    unfold intoS bh
    split
    · rw [into_absent l r h]; rfl
    · rfl
theorem into_present : ∀ (l : List Rt) (r : Rt) (i : Nat), Sorted l → findS l r.k = some i → intoS l r = l.set i r
  | [], r, i, _, h => by simp [findS] at h
  | a :: l, r, i, hs, h => by
    have h1 := List.pairwise_cons.1 hs
    rw [findS_cons] at h
    by_cases hk : a.k = r.k
    · rw [if_pos hk] at h
      injection h with h
      subst h
      unfold intoS
      rw [hk, lessK_irr]
      simp
    · rw [if_neg hk, Option.map_eq_some_iff] at h
      obtain ⟨j, hj, rfl⟩ := h
      obtain ⟨-, hj2, hjk⟩ := (findS_bh l r.k h1.2).1 j hj
      have hl : lessK a.k r.k = true := by
        have := h1.1 _ (List.getElem_mem hj2)
        rwa [hjk] at this
      unfold intoS
      rw [hl, into_present l r j h1.2 hj]
      rfl
theorem outS_none {l : List Rt} {k : Ky} (h : findS l k = none) : outS l k = l := outS_self (findS_none (by rw [h]; rfl))
theorem out_present : ∀ (l : List Rt) (k : Ky) (i : Nat), Sorted l → findS l k = some i → outS l k = l.eraseIdx i
  | [], k, i, _, h => by simp [findS] at h
  | a :: l, k, i, hs, h => by
    have h1 := List.pairwise_cons.1 hs
    rw [findS_cons] at h
    by_cases hk : a.k = k
    · rw [if_pos hk] at h
      injection h with h
      subst h
      have : outS (a :: l) k = outS l k := by simp [outS, hk]
      rw [this, outS_self]
      · rfl
      · intro hm
        unfold keysR at hm
        rw [List.mem_map] at hm
        obtain ⟨q, hq, e⟩ := hm
        have := h1.1 q hq
        rw [hk, e, lessK_irr] at this
        cases this
    · rw [if_neg hk, Option.map_eq_some_iff] at h
      obtain ⟨j, hj, rfl⟩ := h
      have : outS (a :: l) k = a :: outS l k := by simp [outS, hk]
      rw [this, out_present l k j h1.2 hj]
      rfl
def stI (l : List Rt) (k : Ky) : Int :=
  match findS l k with
  | some i => (i : Int)
  | none => -1
theorem stI_some {l : List Rt} {k : Ky} {i : Nat} (h : findS l k = some i) : stI l k = i := by unfold stI; rw [h]
theorem stI_none {l : List Rt} {k : Ky} (h : findS l k = none) : stI l k = -1 := by unfold stI; rw [h]
end Go.Proofs.Ytcbmeollffkekaa
/-
  What addr.Right, Has, Common and Less hand back, for every prefix and address. No condition but that the words are words of 64 bits.
-/
set_option linter.unusedSimpArgs false
set_option linter.unusedVariables false
namespace Go.Proofs.Ytcbmeollffkekaa
open Go.RowKit Go.Sort M

/-- Two addresses are held against each other word by word. -/
theorem eql_addr (a b c d : Nat) (w : World) : (binOp .eql 35 (.agg #[.int .u64 a, .int .u64 b]) (.agg #[.int .u64 c, .int .u64 d])).run Try.prog w = .ok (.bool (decide (a = c) && decide (b = d))) w := by
  have e1 : decide (a = c) = decide ((a : Int) = c) := by rw [decide_eq_decide]; omega
  have e2 : decide (b = d) = decide ((b : Int) = d) := by rw [decide_eq_decide]; omega
  rw [e1, e2]
  by_cases h1 : (a : Int) = c <;> by_cases h2 : (b : Int) = d <;> simp [go_sem, h1, h2]

set_option maxHeartbeats 400000 in
theorem less_any (h1 l1 : Nat) (n1 : Int) (h2 l2 : Nat) (n2 : Int) :
    Gives Try.prog 16 #[.agg #[.int .u64 h1, .int .u64 l1, .int .i64 n1], .agg #[.int .u64 h2, .int .u64 l2, .int .i64 n2]] (.bool (lessB h1 l1 n1 h2 l2 n2)) := by
  intro w
  by_cases e1 : h1 = h2
  · by_cases e2 : l1 = l2
    · subst e1 e2
      go_enter Try.func16, Try.ntmps16
      go_wp2
      go_ret
      refine ⟨ret_bool ?_, by go_grown⟩
      simp [lessB]
    · subst e1
      go_enter Try.func16, Try.ntmps16
      go_wp2
      go_ret
      refine ⟨ret_bool ?_, by go_grown⟩
      simp [lessB, e2]
  · go_enter Try.func16, Try.ntmps16
    go_wp2
    go_ret
    refine ⟨ret_bool ?_, by go_grown⟩
    simp [lessB, e1]

end Go.Proofs.Ytcbmeollffkekaa
/-
  What a search by halves hands back; where a key lies in a table's stash. No condition but that the table's cells lie in memory, and that its stash is in order and has fewer than 2^20 keys.
-/
set_option linter.unusedSimpArgs false
set_option linter.unusedVariables false
namespace Go.Proofs.Ytcbmeollffkekaa
open Go.RowKit Go.Sort M

theorem neqK (a b : Nat) (n : Int) (c d : Nat) (m : Int) (w : World) : (binOp .neq 37 (.agg #[.int .u64 a, .int .u64 b, .int .i64 n]) (.agg #[.int .u64 c, .int .u64 d, .int .i64 m])).run Try.prog w =
    .ok (.bool (!decide (a = c ∧ b = d ∧ n = m))) w := by
  have e1 : decide (a = c ∧ b = d ∧ n = m) = (decide ((a : Int) = c) && (decide ((b : Int) = d) && decide (n = m))) := by
    rw [← Bool.decide_and, ← Bool.decide_and, decide_eq_decide]; omega
  rw [e1]
  by_cases h1 : (a : Int) = c <;> by_cases h2 : (b : Int) = d <;> by_cases h3 : n = m <;> simp [go_sem, h1, h2, h3]
theorem ky_eq (a b : Ky) : (a.h = b.h ∧ a.l = b.l ∧ a.n = b.n) ↔ a = b := by
  cases a; cases b; simp
end Go.Proofs.Ytcbmeollffkekaa
/-
  The reference's plain rows of routes: Find, Without; SameRoutes. No condition but that the rows lie in memory, and are short of 2^20.
-/
set_option linter.unusedSimpArgs false
set_option linter.unusedVariables false
namespace Go.Proofs.Ytcbmeollffkekaa
open Go.RowKit Go.Sort M

theorem find_at {L : List Rt} {k : Ky} {j : Nat} (hj : j < L.length) (h1 : ∀ i, ∀ h : i < L.length, i < j → L[i].k ≠ k) (h2 : L[j].k = k) : findS L k = some j := by
  unfold findS
  rw [List.findIdx?_eq_some_iff_getElem]
  exact ⟨hj, decide_eq_true h2, fun i hi => by simp [h1 i (by omega) hi]⟩
theorem find_no {L : List Rt} {k : Ky} (h : ∀ i, ∀ h : i < L.length, L[i].k ≠ k) : findS L k = none := by
  unfold findS
  rw [List.findIdx?_eq_none_iff]
  intro x hx
  obtain ⟨i, hi, rfl⟩ := List.getElem_of_mem hx
  exact decide_eq_false (h i hi)
theorem outS_snoc (L : List Rt) (k : Ky) (j : Nat) (h : j < L.length) : outS (L.take (j + 1)) k = outS (L.take j) k ++ if L[j].k = k then [] else [L[j]] := by
  unfold outS
  rw [List.take_succ_eq_append_getElem h, List.filter_append]
  by_cases e : L[j].k = k <;> simp [e]
theorem neqR (a b : Nat) (n x : Int) (c d : Nat) (m y : Int) (w : World) : (binOp .neq 39 (.agg #[.int .u64 a, .int .u64 b, .int .i64 n, .int .i64 x]) (.agg #[.int .u64 c, .int .u64 d, .int .i64 m, .int .i64 y])).run Try.prog w =
    .ok (.bool (!decide (a = c ∧ b = d ∧ n = m ∧ x = y))) w := by
  have e1 : decide (a = c ∧ b = d ∧ n = m ∧ x = y) = (decide ((a : Int) = c) && (decide ((b : Int) = d) && (decide (n = m) && decide (x = y)))) := by
    rw [← Bool.decide_and, ← Bool.decide_and, ← Bool.decide_and, decide_eq_decide]; omega
  rw [e1]
  by_cases h1 : (a : Int) = c <;> by_cases h2 : (b : Int) = d <;> by_cases h3 : n = m <;> by_cases h4 : x = y <;> simp [go_sem, h1, h2, h3, h4]
theorem rt_eq (a b : Rt) : (a.k.h = b.k.h ∧ a.k.l = b.k.l ∧ a.k.n = b.k.n ∧ a.v = b.v) ↔ a = b := by
  obtain ⟨⟨h, l, n⟩, v⟩ := a
  obtain ⟨⟨h', l', n'⟩, v'⟩ := b
  constructor
  · rintro ⟨e1, e2, e3, e4⟩
    simp only at e1 e2 e3 e4
    subst e1 e2 e3 e4
    rfl
  · intro e
    injection e with e1 e2
    injection e1 with e3 e4 e5
    exact ⟨e3, e4, e5, e2⟩
set_option maxRecDepth 100000 in
set_option maxHeartbeats 2000000 in
theorem sameR_any (p q : Option Addr) (c d : Nat) (X Y : List Rt) (w : World) (hX : Row w p (rcs X)) (hY : Row w q (rcs Y)) (hl : X.length < 1048576) (hm : Y.length < 1048576) :
    Calls Try.prog 6 #[.slice p X.length c, .slice q Y.length d] w fun e w' => e = .returned (.bool (decide (X = Y))) ∧ Below w.heap.size w w' := by
  by_cases hlen : X.length = Y.length
  · have HX := Lib.hid hX
    have HY := Lib.hid hY
    have HL := Lib.hid hlen
    clear hX hY hlen
    have hn : ¬ ((X.length : Int) ≠ (Y.length : Int)) := by rw [HL.out]; simp
    obtain ⟨F, hF⟩ : ∃ F, F = decide (X = Y) := ⟨_, rfl⟩
    rw [← hF]
    have HF := Lib.hid hF
    clear hF
    rw [← HL.out]
    clear hn
    go_enter Try.func6, Try.ntmps6
    go_wp2
    go_loopw [5] (fun i wr => ∃ (j : Nat), j ≤ X.length ∧ i = .int .i64 (j : Int) ∧ Hid (∀ i, ∀ (h : i < X.length) (h2 : i < Y.length), i < j → X[i] = Y[i]) ∧ Below w.heap.size w wr) (fun i _ => X.length - (intOf i).toNat)
    case atStart => exact ⟨0, Nat.zero_le _, rfl, fun i _ _ h => absurd h (by omega), by go_grown⟩
    case round =>
      obtain ⟨j, hj, rfl, HE, hb⟩ := hrel
      by_cases hlt : j < X.length
      · have hlt2 : j < Y.length := by rw [← HL.out]; exact hlt
        obtain ⟨ga, oa, rfl, hga, a0, a1, a2, a3⟩ := HX.out.rt hlt
        obtain ⟨gb, ob, rfl, hgb, b0, b1, b2, b3⟩ := HY.out.rt hlt2
        have a0 := (hb.cell (p := ⟨ga, oa + j * 4, none⟩) hga).trans a0
        have a1 := (hb.cell (p := ⟨ga, oa + j * 4 + 1, none⟩) hga).trans a1
        have a2 := (hb.cell (p := ⟨ga, oa + j * 4 + 2, none⟩) hga).trans a2
        have a3 := (hb.cell (p := ⟨ga, oa + j * 4 + 3, none⟩) hga).trans a3
        have b0 := (hb.cell (p := ⟨gb, ob + j * 4, none⟩) hgb).trans b0
        have b1 := (hb.cell (p := ⟨gb, ob + j * 4 + 1, none⟩) hgb).trans b1
        have b2 := (hb.cell (p := ⟨gb, ob + j * 4 + 2, none⟩) hgb).trans b2
        have b3 := (hb.cell (p := ⟨gb, ob + j * 4 + 3, none⟩) hgb).trans b3
        have hga2 := Nat.lt_of_lt_of_le hga hb.size
        have hgb2 := Nat.lt_of_lt_of_le hgb hb.size
        have hz0 := hb.size
        have i1 : (0 : Int) ≤ (j : Int) := by omega
        have i2 : (j : Int) < (X.length : Int) := by omega
        have hE := neqR X[j].k.h X[j].k.l X[j].k.n X[j].v Y[j].k.h Y[j].k.l Y[j].k.n Y[j].v
        by_cases hq : X[j] = Y[j]
        · rw [decide_eq_true ((rt_eq _ _).2 hq)] at hE
          have HE2 : Hid (∀ i, ∀ (h : i < X.length) (h2 : i < Y.length), i < j + 1 → X[i] = Y[i]) := by
            intro i h h2 hij
            by_cases e : i = j
            · subst e; exact hq
            · exact HE.out i h h2 (by omega)
          clear hq
          generalize X[j] = x at hE a0 a1 a2 a3
          generalize Y[j] = y at hE b0 b1 b2 b3
          go_wp2_with fail
          have kg := cell_grow
          refine region_whole (by kernel_rfl) (by kernel_rfl) ?_
          repeat (any_goals (first | go_big_quiet_step (fail) | quiet_step (fail)))
          refine wpQuiet_nil ?_
          clear kg
          intro w2 hb2
          obtain ⟨hc2, hf2⟩ := bcell hb2
          have hw2 : Below w.heap.size w w2 := by
            refine Below.trans ?_ (hb2.mono ?_)
            · go_grown
            · first | omega | go_size
          have hw2 := hb.trans (hb2.mono hb.size)
          clear hc2 hf2 hb2
          go_wp2
          go_roundw
          all_goals first
            | exact ⟨j + 1, by omega, by go_num, HE2, hw2⟩
            | (simp [intOf]; omega)
        · rw [decide_eq_false (fun h => hq ((rt_eq _ _).1 h))] at hE
          have HJ : Hid (F = false) := by
            show F = _
            rw [HF.out]
            exact decide_eq_false fun e => hq (by subst e; rfl)
          clear hq
          generalize X[j] = x at hE a0 a1 a2 a3
          generalize Y[j] = y at hE b0 b1 b2 b3
          go_wp2_with fail
          have kg := cell_grow
          refine region_whole (by kernel_rfl) (by kernel_rfl) ?_
          repeat (any_goals (first | go_big_quiet_step (fail) | quiet_step (fail)))
          refine wpQuiet_nil ?_
          clear kg
          intro w2 hb2
          obtain ⟨hc2, hf2⟩ := bcell hb2
          have hw2 : Below w.heap.size w w2 := by
            refine Below.trans ?_ (hb2.mono ?_)
            · go_grown
            · first | omega | go_size
          go_wp2
          go_ret
          exact ⟨by rw [HJ.out]; rfl, hb.trans (hb2.mono hb.size)⟩
      · have HJ : Hid (F = true) := by
          show F = _
          rw [HF.out]
          exact decide_eq_true (List.ext_getElem HL.out fun i h1 h2 => HE.out i h1 h2 (by omega))
        go_wp2
        go_ret
        exact ⟨by rw [HJ.out]; rfl, hb⟩
  · rw [decide_eq_false (fun e => hlen (by rw [e]))]
    have hn : ¬ ((X.length : Int) = (Y.length : Int)) := by omega
    clear hlen
    go_enter Try.func6, Try.ntmps6
    go_wp2
    go_ret
    exact ⟨rfl, by go_grown⟩
end Go.Proofs.Ytcbmeollffkekaa
