/-
  What a search by halves hands back; where a key lies in a table's stash. No condition but that the table's cells lie in memory, and that its stash is in order and has fewer than 2^20 keys.
-/
import Derived.Test.YtcfioplbbbaeoaaM12d
import Derived.Test.YtcfioplbbbaeoaaW11
import Derived.Test.YtcfioplbbbaeoaaW12a
/-
  Plain mathematics of a stash, a row of routes in order: where a key lies in it, what it is with one more, with one turned, with one less. No condition but those that stand in each.
-/
set_option linter.unusedSimpArgs false
set_option linter.unusedVariables false
namespace Go.Proofs.Ytcfioplbbbaeoaa
open M

/-- How many, from the first on, are ahead of a key. -/
def bh : List Rt → Ky → Nat
  | [], _ => 0
  | a :: l, k => if lessK a.k k then bh l k + 1 else 0
theorem bh_le : ∀ (l : List Rt) (k : Ky), bh l k ≤ l.length
  | [], _ => Nat.le_refl _
  | a :: l, k => by
    unfold bh
    have := bh_le l k
    split <;> simp <;> omega
theorem bh_lt : ∀ (l : List Rt) (k : Ky) (i : Nat) (h : i < l.length), i < bh l k → lessK l[i].k k = true
  | a :: l, k, i, h, hb => by
    unfold bh at hb
    split at hb
    · rename_i ha
      cases i with
      | zero => simpa using ha
      | succ i => simpa using bh_lt l k i (by simpa using h) (by omega)
    · omega
theorem bh_ge : ∀ (l : List Rt) (k : Ky), Sorted l → ∀ (i : Nat) (h : i < l.length), bh l k ≤ i → lessK l[i].k k = false
  | a :: l, k, hs, i, h, hb => by
    have h1 := List.pairwise_cons.1 hs
    unfold bh at hb
    split at hb
    · cases i with
      | zero => omega
      | succ i => simpa using bh_ge l k h1.2 i (by simpa using h) (by omega)
    · rename_i ha
      rw [Bool.not_eq_true] at ha
      cases i with
      | zero => simpa using ha
      | succ i =>
        have hi : i < l.length := by simpa using h
        cases hc : lessK (l[i]'hi).k k with
        | false => simpa using hc
        | true =>
          have := lessK_trans (h1.1 _ (List.getElem_mem hi)) hc
          rw [ha] at this
          cases this
/-- The test of a search, in a row in order: is number i behind? -/
theorem bh_test (l : List Rt) (k : Ky) (hs : Sorted l) (i : Nat) (h : i < l.length) : (!lessK l[i].k k) = decide (bh l k ≤ i) := by
  by_cases hb : bh l k ≤ i
  · rw [bh_ge l k hs i h hb, decide_eq_true hb]; rfl
  · rw [bh_lt l k i h (by omega), decide_eq_false hb]; rfl
theorem findS_cons (a : Rt) (l : List Rt) (k : Ky) : findS (a :: l) k = if a.k = k then some 0 else (findS l k).map (· + 1) := by
  unfold findS
  rw [List.findIdx?_cons]
  by_cases h : a.k = k
  · rw [if_pos h, decide_eq_true h]; rfl
  · rw [if_neg h, decide_eq_false h]; rfl
theorem findS_bh : ∀ (l : List Rt) (k : Ky), Sorted l → (∀ i, findS l k = some i → i = bh l k ∧ ∃ h : i < l.length, l[i].k = k) ∧ (findS l k = none → ∀ (h : bh l k < l.length), l[bh l k].k ≠ k)
  | [], k, _ => ⟨fun i h => by simp [findS] at h, fun _ h => absurd h (by simp)⟩
  | a :: l, k, hs => by
    have h1 := List.pairwise_cons.1 hs
    have ih := findS_bh l k h1.2
    rw [findS_cons]
    by_cases hk : a.k = k
    · rw [if_pos hk]
      have hb : bh (a :: l) k = 0 := by unfold bh; rw [hk, lessK_irr]; rfl
      refine ⟨fun i h => ?_, fun h => by cases h⟩
      injection h with h
      subst h
      exact ⟨hb.symm, by simp, hk⟩
    · rw [if_neg hk]
      cases hl : lessK a.k k with
      | true =>
        have hb : bh (a :: l) k = bh l k + 1 := by
          show (if lessK a.k k = true then bh l k + 1 else 0) = _
          rw [hl]; rfl
        refine ⟨fun i h => ?_, fun h hlt => ?_⟩
        · rw [Option.map_eq_some_iff] at h
          obtain ⟨j, hj, rfl⟩ := h
          obtain ⟨e, hj2, hjk⟩ := ih.1 j hj
          exact ⟨by rw [hb, e], by simpa using hj2, by simpa using hjk⟩
        · rw [Option.map_eq_none_iff] at h
          have := ih.2 h (by rw [hb] at hlt; simpa using hlt)
          simpa [hb] using this
      | false =>
        have hb : bh (a :: l) k = 0 := by
          show (if lessK a.k k = true then bh l k + 1 else 0) = _
          rw [hl]; rfl
        have hr : lessK k a.k = true := by rw [lessK_total hk, hl]; rfl
        refine ⟨fun i h => ?_, fun h hlt => by simpa [hb] using hk⟩
        rw [Option.map_eq_some_iff] at h
        obtain ⟨j, hj, rfl⟩ := h
        obtain ⟨e, hj2, hjk⟩ := ih.1 j hj
        have := lessK_trans hr (h1.1 _ (List.getElem_mem hj2))
        rw [hjk, lessK_irr] at this
        cases this
theorem into_absent : ∀ (l : List Rt) (r : Rt), findS l r.k = none → intoS l r = l.take (bh l r.k) ++ r :: l.drop (bh l r.k)
  | [], r, _ => rfl
  | a :: l, r, h => by
    rw [findS_cons] at h
    have hk : a.k ≠ r.k := fun e => by rw [if_pos e] at h; cases h
    rw [if_neg hk, Option.map_eq_none_iff] at h
    unfold intoS bh
    split
    · rw [into_absent l r h]; rfl
    · rfl
theorem into_present : ∀ (l : List Rt) (r : Rt) (i : Nat), Sorted l → findS l r.k = some i → intoS l r = l.set i r
  | [], r, i, _, h => by simp [findS] at h
  | a :: l, r, i, hs, h => by
    have h1 := List.pairwise_cons.1 hs
    rw [findS_cons] at h
    by_cases hk : a.k = r.k
    · rw [if_pos hk] at h
      injection h with h
      subst h
      unfold intoS
      rw [hk, lessK_irr]
      simp
    · rw [if_neg hk, Option.map_eq_some_iff] at h
      obtain ⟨j, hj, rfl⟩ := h
      obtain ⟨-, hj2, hjk⟩ := (findS_bh l r.k h1.2).1 j hj
      have hl : lessK a.k r.k = true := by
        have := h1.1 _ (List.getElem_mem hj2)
        rwa [hjk] at this
      unfold intoS
      rw [hl, into_present l r j h1.2 hj]
      rfl
theorem outS_none {l : List Rt} {k : Ky} (h : findS l k = none) : outS l k = l := outS_self (findS_none (by rw [h]; rfl))
theorem out_present : ∀ (l : List Rt) (k : Ky) (i : Nat), Sorted l → findS l k = some i → outS l k = l.eraseIdx i
  | [], k, i, _, h => by simp [findS] at h
  | a :: l, k, i, hs, h => by
    have h1 := List.pairwise_cons.1 hs
    rw [findS_cons] at h
    by_cases hk : a.k = k
    · rw [if_pos hk] at h
      injection h with h
      subst h
      have : outS (a :: l) k = outS l k := by simp [outS, hk]
      rw [this, outS_self]
      · rfl
      · intro hm
        unfold keysR at hm
        rw [List.mem_map] at hm
        obtain ⟨q, hq, e⟩ := hm
        have := h1.1 q hq
        rw [hk, e, lessK_irr] at this
        cases this
    · rw [if_neg hk, Option.map_eq_some_iff] at h
      obtain ⟨j, hj, rfl⟩ := h
      have : outS (a :: l) k = a :: outS l k := by simp [outS, hk]
      rw [this, out_present l k j h1.2 hj]
      rfl
def stI (l : List Rt) (k : Ky) : Int :=
  match findS l k with
  | some i => (i : Int)
  | none => -1
theorem stI_some {l : List Rt} {k : Ky} {i : Nat} (h : findS l k = some i) : stI l k = i := by unfold stI; rw [h]
theorem stI_none {l : List Rt} {k : Ky} (h : findS l k = none) : stI l k = -1 := by unfold stI; rw [h]
end Go.Proofs.Ytcfioplbbbaeoaa
/-
  What addr.Right, Has, Common and Less hand back, for every prefix and address. No condition but that the words are words of 64 bits.
-/
set_option linter.unusedSimpArgs false
set_option linter.unusedVariables false
namespace Go.Proofs.Ytcfioplbbbaeoaa
open Go.RowKit Go.Sort M

/-- Two addresses are held against each other word by word. -/
theorem eql_addr (a b c d : Nat) (w : World) : (binOp .eql 25 (.agg #[.int .u64 a, .int .u64 b]) (.agg #[.int .u64 c, .int .u64 d])).run Try.prog w = .ok (.bool (decide (a = c) && decide (b = d))) w := by
  have e1 : decide (a = c) = decide ((a : Int) = c) := by rw [decide_eq_decide]; omega
  have e2 : decide (b = d) = decide ((b : Int) = d) := by rw [decide_eq_decide]; omega
  rw [e1, e2]
  by_cases h1 : (a : Int) = c <;> by_cases h2 : (b : Int) = d <;> simp [go_sem, h1, h2]

set_option maxHeartbeats 400000 in
theorem right_any (hi lo : Nat) (n : Int) (ha : W64 hi) (hb : W64 lo) :
    Gives Try.prog 51 #[.agg #[.int .u64 hi, .int .u64 lo, .int .i64 n]] (.bool (rightB hi lo n)) := by
  intro w
  have ea := eql_addr
  by_cases h0 : 0 ≤ n
  · have d0 : decide (0 ≤ n) = true := by simpa using h0
    by_cases h1 : n ≤ 128
    · have d1 : decide (n ≤ 128) = true := by simpa using h1
      go_enter Try.func51, Try.ntmps51
      go_wp2_with fail
      have kg := cell_grow
      refine region_whole (by kernel_rfl) (by kernel_rfl) ?_
      repeat (any_goals (first | go_big_quiet_step ((go_at_call 53; exact Gives.at (cut_any hi lo n ha hb) _ _ _)) | quiet_step ((go_at_call 53; exact Gives.at (cut_any hi lo n ha hb) _ _ _))))
      refine wpQuiet_nil ?_
      clear kg
      intro w1 hb1
      obtain ⟨hc1, hf1⟩ := bcell hb1
      have hw1 : Below w.heap.size w w1 := by
        refine Below.trans ?_ (hb1.mono ?_)
        · go_grown
        · first | omega | go_size
      go_wp2
      go_ret
      refine ⟨ret_bool ?_, by go_grown⟩
      simp [rightB, h0, h1]
    · have d1 : decide (n ≤ 128) = false := by simpa using h1
      go_enter Try.func51, Try.ntmps51
      go_wp2_with fail
      have kg := cell_grow
      refine region_whole (by kernel_rfl) (by kernel_rfl) ?_
      repeat (any_goals (first | go_big_quiet_step (fail) | quiet_step (fail)))
      refine wpQuiet_nil ?_
      clear kg
      intro w1 hb1
      obtain ⟨hc1, hf1⟩ := bcell hb1
      have hw1 : Below w.heap.size w w1 := by
        refine Below.trans ?_ (hb1.mono ?_)
        · go_grown
        · first | omega | go_size
      go_wp2
      go_ret
      refine ⟨ret_bool ?_, by go_grown⟩
      unfold rightB
      rw [eq_comm, decide_eq_false_iff_not]
      omega
  · have d0 : decide (0 ≤ n) = false := by simpa using h0
    go_enter Try.func51, Try.ntmps51
    go_wp2_with fail
    have kg := cell_grow
    refine region_whole (by kernel_rfl) (by kernel_rfl) ?_
    repeat (any_goals (first | go_big_quiet_step (fail) | quiet_step (fail)))
    refine wpQuiet_nil ?_
    clear kg
    intro w1 hb1
    obtain ⟨hc1, hf1⟩ := bcell hb1
    have hw1 : Below w.heap.size w w1 := by
      refine Below.trans ?_ (hb1.mono ?_)
      · go_grown
      · first | omega | go_size
    go_wp2
    go_ret
    refine ⟨ret_bool ?_, by go_grown⟩
    unfold rightB
    rw [eq_comm, decide_eq_false_iff_not]
    omega

set_option maxHeartbeats 400000 in
theorem less_any (h1 l1 : Nat) (n1 : Int) (h2 l2 : Nat) (n2 : Int) :
    Gives Try.prog 26 #[.agg #[.int .u64 h1, .int .u64 l1, .int .i64 n1], .agg #[.int .u64 h2, .int .u64 l2, .int .i64 n2]] (.bool (lessB h1 l1 n1 h2 l2 n2)) := by
  intro w
  by_cases e1 : h1 = h2
  · by_cases e2 : l1 = l2
    · subst e1 e2
      go_enter Try.func26, Try.ntmps26
      go_wp2
      go_ret
      refine ⟨ret_bool ?_, by go_grown⟩
      simp [lessB]
    · subst e1
      go_enter Try.func26, Try.ntmps26
      go_wp2
      go_ret
      refine ⟨ret_bool ?_, by go_grown⟩
      simp [lessB, e2]
  · go_enter Try.func26, Try.ntmps26
    go_wp2
    go_ret
    refine ⟨ret_bool ?_, by go_grown⟩
    simp [lessB, e1]

end Go.Proofs.Ytcfioplbbbaeoaa
/-
  What a search by halves hands back; where a key lies in a table's stash. No condition but that the table's cells lie in memory, and that its stash is in order and has fewer than 2^20 keys.
-/
set_option linter.unusedSimpArgs false
set_option linter.unusedVariables false
namespace Go.Proofs.Ytcfioplbbbaeoaa
open Go.RowKit Go.Sort M

set_option maxRecDepth 100000 in
set_option maxHeartbeats 1000000 in
/-- sort.Search, of a test that says 'from number b on'. -/
theorem search_any (F : Nat) (p q : Value) (n b : Nat) (hb : b ≤ n) (hn : n < 4611686018427387904) (w : World) (eg : ∀ args w, (callFunc F args).run Try.prog w = .ok (.enter F args) w)
    (hf : ∀ wx (i : Nat), Below w.heap.size w wx → i < n → Calls Try.prog F #[.int .i64 (i : Int), p, q] wx fun e w' => e = .returned (.bool (decide (b ≤ i))) ∧ Below wx.heap.size wx w') :
    Calls Try.prog 28 #[.int .i64 (n : Int), .func (.func F) #[] #[p, q]] w fun e w' => e = .returned (.int .i64 (b : Int)) ∧ Below w.heap.size w w' := by
  have HF := Lib.hid hf
  clear hf
  go_enter Try.func28, Try.ntmps28
  go_wp2
  go_loopw [5, 6] (fun s5 s6 wr => ∃ (lo hi : Nat), s5 = .int .i64 (lo : Int) ∧ s6 = .int .i64 (hi : Int) ∧ lo ≤ b ∧ b ≤ hi ∧ hi ≤ n ∧ Below w.heap.size w wr) (fun s5 s6 _ => (intOf s6).toNat - (intOf s5).toNat)
  case atStart => exact ⟨0, n, rfl, rfl, Nat.zero_le _, hb, Nat.le_refl _, by go_grown⟩
  case round =>
    obtain ⟨lo, hi, rfl, rfl, h1, h2, h3, hw⟩ := hrel
    by_cases hlt : lo < hi
    · have hc := HF.out wr ((lo + hi) / 2) hw (by omega)
      rw [show (((lo + hi) / 2 : Nat) : Int) = ((lo : Int) + (hi : Int)) / 2 by omega] at hc
      by_cases ht : b ≤ (lo + hi) / 2
      · rw [decide_eq_true ht] at hc
        go_wp2_with (go_at_fn F; refine hc.mono ?_; rintro e w1 ⟨rfl, hb1⟩)
        go_roundw
        case rel => exact ⟨lo, (lo + hi) / 2, rfl, by rw [show ((lo : Int) + (hi : Int)) / 2 = (((lo + hi) / 2 : Nat) : Int) by omega], h1, ht, by omega, hw.trans (hb1.mono hw.size)⟩
        case measure => simp [intOf]; omega
      · rw [decide_eq_false ht] at hc
        go_wp2_with (go_at_fn F; refine hc.mono ?_; rintro e w1 ⟨rfl, hb1⟩)
        go_roundw
        case rel => exact ⟨(lo + hi) / 2 + 1, hi, by rw [show ((lo : Int) + (hi : Int)) / 2 + 1 = (((lo + hi) / 2 + 1 : Nat) : Int) by omega], rfl, by omega, h2, h3, hw.trans (hb1.mono hw.size)⟩
        case measure => simp [intOf]; omega
    · obtain rfl : lo = b := by omega
      go_wp2
      go_ret
      exact ⟨rfl, hw⟩
theorem neqK (a b : Nat) (n : Int) (c d : Nat) (m : Int) (w : World) : (binOp .neq 41 (.agg #[.int .u64 a, .int .u64 b, .int .i64 n]) (.agg #[.int .u64 c, .int .u64 d, .int .i64 m])).run Try.prog w =
    .ok (.bool (!decide (a = c ∧ b = d ∧ n = m))) w := by
  have e1 : decide (a = c ∧ b = d ∧ n = m) = (decide ((a : Int) = c) && (decide ((b : Int) = d) && decide (n = m))) := by
    rw [← Bool.decide_and, ← Bool.decide_and, decide_eq_decide]; omega
  rw [e1]
  by_cases h1 : (a : Int) = c <;> by_cases h2 : (b : Int) = d <;> by_cases h3 : n = m <;> simp [go_sem, h1, h2, h3]
theorem ky_eq (a b : Ky) : (a.h = b.h ∧ a.l = b.l ∧ a.n = b.n) ↔ a = b := by
  cases a; cases b; simp
end Go.Proofs.Ytcfioplbbbaeoaa
