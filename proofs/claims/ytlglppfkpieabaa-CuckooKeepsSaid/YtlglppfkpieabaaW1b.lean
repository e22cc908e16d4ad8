/-
  What addr.Right, Has, Common and Less hand back, for every prefix and address. No condition but that the words are words of 64 bits.
-/
import Derived.Test.YtlglppfkpieabaaW6b
import Derived.Test.YtlglppfkpieabaaM12d
import Derived.Test.YtlglppfkpieabaaSort
/-
  What the small calls of a table hand back: none, two, other, Len, Size. No condition but that its cells lie in memory, that it has from one to 65536 buckets, and that words are words of 64 bits.
-/
set_option linter.unusedSimpArgs false
set_option linter.unusedVariables false
namespace Go.Proofs.Ytlglppfkpieabaa
open Go.RowKit Go.Sort M

/-- What a walk asks of a table's numbers. -/
structure Num (T : Tab) : Prop where
  lo : 1 ≤ T.B.length
  hi : T.B.length ≤ 65536
  word : W64 T.s
theorem Inv.num {T : Tab} (H : Inv T) : Num T := ⟨H.lo, H.hi, H.word⟩
theorem Num.x1_lt {T : Tab} (H : Num T) (k : Ky) : T.x1 k < T.B.length := b1_lt H.lo
theorem Num.x2_lt {T : Tab} (H : Num T) (k : Ky) : T.x2 k < T.B.length := b2_lt H.lo
theorem Num.set {T : Tab} (H : Num T) (i : Nat) (C : List Pl) : Num (T.set i C) := ⟨by rw [set_len]; exact H.lo, by rw [set_len]; exact H.hi, H.word⟩
set_option maxRecDepth 100000 in
set_option maxHeartbeats 1000000 in
theorem none_any (t g : Nat) (v : Value) (T : Tab) (m : Int) (w : World) (H : CT w t g v T m) (h : Num T) :
    Calls Try.prog 27 #[.pointer (some ⟨t, 0, none⟩)] w fun e w' => e = .returned (.bool false) ∧ Below w.heap.size w w' := by
  have c1 := H.tb.c1
  have hl := H.tb.tlt
  have h1 := h.lo
  generalize T.B.length = n at *
  have hn : ((n : Int) == 0) = false := by simp; omega
  clear H h
  go_enter Try.func27, Try.ntmps27
  go_wp2
  go_ret
  exact ⟨rfl, by go_grown⟩
set_option maxRecDepth 100000 in
set_option maxHeartbeats 1000000 in
theorem two_any (t g : Nat) (v : Value) (T : Tab) (m : Int) (k : Ky) (w : World) (H : CT w t g v T m) (h : Num T) (hk : k.good) :
    Calls Try.prog 28 #[.pointer (some ⟨t, 0, none⟩), kyV k] w fun e w' => e = .returned (.tuple #[.int .i64 (T.x1 k : Int), .int .i64 (T.x2 k : Int)]) ∧ Below w.heap.size w w' := by
  have c0 := H.tb.c0
  have c1 := H.tb.c1
  have hl := H.tb.tlt
  have hB := buck_any T.s k.h k.l k.n (T.B.length : Int) h.word hk.1 hk.2 (by have := h.hi; omega)
  rw [b1_int h.lo, b2_int h.lo] at hB
  change Gives _ _ _ (.tuple #[.int .i64 (T.x1 k : Int), .int .i64 (T.x2 k : Int)]) at hB
  have HB := Lib.hid hB
  generalize T.x1 k = x1 at *
  generalize T.x2 k = x2 at *
  clear H h hB
  unfold kyV
  go_enter Try.func28, Try.ntmps28
  go_wp2_with fail
  have kg := cell_grow
  refine region_whole (by kernel_rfl) (by kernel_rfl) ?_
  repeat (any_goals (first | go_big_quiet_step ((exact HB.out.at _ _ _)) | quiet_step ((exact HB.out.at _ _ _))))
  refine wpQuiet_nil ?_
  clear kg
  intro w1 hb1
  obtain ⟨hc1, hf1⟩ := bcell hb1
  have hw1 : Below w.heap.size w w1 := by
    refine Below.trans ?_ (hb1.mono ?_)
    · go_grown
    · first | omega | go_size
  go_wp2
  go_ret2
  exact ⟨rfl, hw1⟩
set_option maxRecDepth 100000 in
set_option maxHeartbeats 1000000 in
theorem other_any (t g : Nat) (v : Value) (T : Tab) (m : Int) (k : Ky) (b : Nat) (w : World) (H : CT w t g v T m) (h : Num T) (hk : k.good) :
    Calls Try.prog 60 #[.pointer (some ⟨t, 0, none⟩), kyV k, .int .i64 (b : Int)] w fun e w' => e = .returned (.int .i64 (T.other k b : Int)) ∧ Below w.heap.size w w' := by
  have HT := Lib.hid (fun w H => two_any t g v T m k w H h hk)
  have HH := Lib.hid H
  have HE : Hid (T.other k b = if b = T.x1 k then T.x2 k else T.x1 k) := rfl
  generalize T.x1 k = x1 at *
  generalize T.x2 k = x2 at *
  generalize T.other k b = o at *
  clear H h
  unfold kyV at *
  by_cases hb : b = x1
  · subst hb
    have hE := HE.out
    rw [if_pos rfl] at hE
    subst hE
    clear HE
    go_enter Try.func60, Try.ntmps60
    go_wp2_with fail
    refine (HT.out _ (HH.out.below (by go_grown))).mono ?_
    rintro e w1 ⟨rfl, hb1⟩
    have hw1 : Below w.heap.size w w1 := Below.trans (by go_grown) (hb1.mono (by go_size))
    clear hb1
    go_wp2
    go_ret
    exact ⟨rfl, hw1⟩
  · have hE := HE.out
    rw [if_neg hb] at hE
    subst hE
    have hbi : ((b : Int) == (o : Int)) = false := by simp; omega
    clear HE hb
    go_enter Try.func60, Try.ntmps60
    go_wp2_with fail
    refine (HT.out _ (HH.out.below (by go_grown))).mono ?_
    rintro e w1 ⟨rfl, hb1⟩
    have hw1 : Below w.heap.size w w1 := Below.trans (by go_grown) (hb1.mono (by go_size))
    clear hb1
    go_wp2
    go_ret
    exact ⟨rfl, hw1⟩
set_option maxRecDepth 100000 in
set_option maxHeartbeats 1000000 in
theorem len12_any (t g : Nat) (v : Value) (T : Tab) (m : Int) (w : World) (H : CT w t g v T m) :
    Calls Try.prog 20 #[.pointer (some ⟨t, 0, none⟩)] w fun e w' => e = .returned (.int .i64 m) ∧ Below w.heap.size w w' := by
  have c3 := H.c3
  have hl := H.tb.tlt
  clear H
  go_enter Try.func20, Try.ntmps20
  go_wp2
  go_ret
  exact ⟨rfl, by go_grown⟩
set_option maxRecDepth 100000 in
set_option maxHeartbeats 1000000 in
theorem size12_any (t g : Nat) (v : Value) (T : Tab) (m : Int) (w : World) (H : CT w t g v T m) :
    Calls Try.prog 15 #[.pointer (some ⟨t, 0, none⟩)] w fun e w' => e = .returned (.tuple #[.int .u64 (T.s : Int), .int .i64 (T.B.length : Int), .int .i64 (T.st.length : Int)]) ∧ Below w.heap.size w w' := by
  have c0 := H.tb.c0
  have c1 := H.tb.c1
  obtain ⟨p, c, rfl⟩ := own_slice H.tb.own
  have c2 := H.tb.c2
  have hl := H.tb.tlt
  clear H
  go_enter Try.func15, Try.ntmps15
  go_wp2_with fail
  have kg := cell_grow
  refine region_whole (by kernel_rfl) (by kernel_rfl) ?_
  repeat (any_goals (first | go_big_quiet_step (fail) | quiet_step (fail)))
  refine wpQuiet_nil ?_
  clear kg
  intro w1 hb1
  obtain ⟨hc1, hf1⟩ := bcell hb1
  have hw1 : Below w.heap.size w w1 := by
    refine Below.trans ?_ (hb1.mono ?_)
    · go_grown
    · first | omega | go_size
  go_wp2
  go_ret3
  exact ⟨rfl, hw1⟩
end Go.Proofs.Ytlglppfkpieabaa
/-
  Plain mathematics of a stash, a row of routes in order: where a key lies in it, what it is with one more, with one turned, with one less. No condition but those that stand in each.
-/
set_option linter.unusedSimpArgs false
set_option linter.unusedVariables false
namespace Go.Proofs.Ytlglppfkpieabaa
open M

/-- How many, from the first on, are ahead of a key. -/
def bh : List Rt → Ky → Nat
  | [], _ => 0
  | a :: l, k => if lessK a.k k then bh l k + 1 else 0
theorem bh_le : ∀ (l : List Rt) (k : Ky), bh l k ≤ l.length
  | [], _ => Nat.le_refl _
  | a :: l, k => by
    unfold bh
    have := bh_le l k
    split <;> simp <;> omega
theorem bh_lt : ∀ (l : List Rt) (k : Ky) (i : Nat) (h : i < l.length), i < bh l k → lessK l[i].k k = true
  | a :: l, k, i, h, hb => by
    unfold bh at hb
    split at hb
    · rename_i ha
      cases i with
      | zero => simpa using ha
      | succ i => simpa using bh_lt l k i (by simpa using h) (by omega)
    · omega
theorem bh_ge : ∀ (l : List Rt) (k : Ky), Sorted l → ∀ (i : Nat) (h : i < l.length), bh l k ≤ i → lessK l[i].k k = false
  | a :: l, k, hs, i, h, hb => by
    have h1 := List.pairwise_cons.1 hs
    unfold bh at hb
    split at hb
    · cases i with
      | zero => omega
      | succ i => simpa using bh_ge l k h1.2 i (by simpa using h) (by omega)
    · rename_i ha
      rw [Bool.not_eq_true] at ha
      cases i with
      | zero => simpa using ha
      | succ i =>
        have hi : i < l.length := by simpa using h
        cases hc : lessK (l[i]'hi).k k with
        | false => simpa using hc
        | true =>
          have := lessK_trans (h1.1 _ (List.getElem_mem hi)) hc
          rw [ha] at this
          cases this
/-- The test of a search, in a row in order: is number i behind? -/
theorem bh_test (l : List Rt) (k : Ky) (hs : Sorted l) (i : Nat) (h : i < l.length) : (!lessK l[i].k k) = decide (bh l k ≤ i) := by
  by_cases hb : bh l k ≤ i
  · rw [bh_ge l k hs i h hb, decide_eq_true hb]; rfl
  · rw [bh_lt l k i h (by omega), decide_eq_false hb]; rfl
theorem findS_cons (a : Rt) (l : List Rt) (k : Ky) : findS (a :: l) k = if a.k = k then some 0 else (findS l k).map (· + 1) := by
  unfold findS
  rw [List.findIdx?_cons]
  by_cases h : a.k = k
  · rw [if_pos h, decide_eq_true h]; rfl
  · rw [if_neg h, decide_eq_false h]; rfl
theorem findS_bh : ∀ (l : List Rt) (k : Ky), Sorted l → (∀ i, findS l k = some i → i = bh l k ∧ ∃ h : i < l.length, l[i].k = k) ∧ (findS l k = none → ∀ (h : bh l k < l.length), l[bh l k].k ≠ k)
  | [], k, _ => ⟨fun i h => by simp [findS] at h, fun _ h => absurd h (by simp)⟩
  | a :: l, k, hs => by
    have h1 := List.pairwise_cons.1 hs
    have ih := findS_bh l k h1.2
    rw [findS_cons]
    by_cases hk : a.k = k
    · rw [if_pos hk]
      have hb : bh (a :: l) k = 0 := by unfold bh; rw [hk, lessK_irr]; rfl
      refine ⟨fun i h => ?_, fun h => by cases h⟩
      injection h with h
      subst h
      exact ⟨hb.symm, by simp, hk⟩
    · rw [if_neg hk]
      cases hl : lessK a.k k with
      | true =>
        have hb : bh (a :: l) k = bh l k + 1 := by
          show (if lessK a.k k = true then bh l k + 1 else 0) = _
          rw [hl]; rfl
        refine ⟨fun i h => ?_, fun h hlt => ?_⟩
        · rw [Option.map_eq_some_iff] at h
          obtain ⟨j, hj, rfl⟩ := h
          obtain ⟨e, hj2, hjk⟩ := ih.1 j hj
          exact ⟨by rw [hb, e], by simpa using hj2, by simpa using hjk⟩
        · rw [Option.map_eq_none_iff] at h
          have := ih.2 h (by rw [hb] at hlt; simpa using hlt)
          simpa [hb] using this
      | false =>
        have hb : bh (a :: l) k = 0 := by
          show (if lessK a.k k = true then bh l k + 1 else 0) = _
          rw [hl]; rfl
        have hr : lessK k a.k = true := by rw [lessK_total hk, hl]; rfl
        refine ⟨fun i h => ?_, fun h hlt => by simpa [hb] using hk⟩
        rw [Option.map_eq_some_iff] at h
        obtain ⟨j, hj, rfl⟩ := h
        obtain ⟨e, hj2, hjk⟩ := ih.1 j hj
        have := lessK_trans hr (h1.1 _ (List.getElem_mem hj2))
        rw [hjk, lessK_irr] at this
        cases this
theorem into_absent : ∀ (l : List Rt) (r : Rt), findS l r.k = none → intoS l r = l.take (bh l r.k) ++ r :: l.drop (bh l r.k)
  | [], r, _ => rfl
  | a :: l, r, h => by
    rw [findS_cons] at h
    have hk : a.k ≠ r.k := fun e => by rw [if_pos e] at h; cases h
    rw [if_neg hk, Option.map_eq_none_iff] at h
    unfold intoS bh
    split
    · rw [into_absent l r h]; rfl
    · rfl
theorem into_present : ∀ (l : List Rt) (r : Rt) (i : Nat), Sorted l → findS l r.k = some i → intoS l r = l.set i r
  | [], r, i, _, h => by simp [findS] at h
  | a :: l, r, i, hs, h => by
    have h1 := List.pairwise_cons.1 hs
    rw [findS_cons] at h
    by_cases hk : a.k = r.k
    · rw [if_pos hk] at h
      injection h with h
      subst h
      unfold intoS
      rw [hk, lessK_irr]
      simp
    · rw [if_neg hk, Option.map_eq_some_iff] at h
      obtain ⟨j, hj, rfl⟩ := h
      obtain ⟨-, hj2, hjk⟩ := (findS_bh l r.k h1.2).1 j hj
      have hl : lessK a.k r.k = true := by
        have := h1.1 _ (List.getElem_mem hj2)
        rwa [hjk] at this
      unfold intoS
      rw [hl, into_present l r j h1.2 hj]
      rfl
theorem outS_none {l : List Rt} {k : Ky} (h : findS l k = none) : outS l k = l := outS_self (findS_none (by rw [h]; rfl))
theorem out_present : ∀ (l : List Rt) (k : Ky) (i : Nat), Sorted l → findS l k = some i → outS l k = l.eraseIdx i
  | [], k, i, _, h => by simp [findS] at h
  | a :: l, k, i, hs, h => by
    have h1 := List.pairwise_cons.1 hs
    rw [findS_cons] at h
    by_cases hk : a.k = k
    · rw [if_pos hk] at h
      injection h with h
      subst h
      have : outS (a :: l) k = outS l k := by simp [outS, hk]
      rw [this, outS_self]
      · rfl
      · intro hm
        unfold keysR at hm
        rw [List.mem_map] at hm
        obtain ⟨q, hq, e⟩ := hm
        have := h1.1 q hq
        rw [hk, e, lessK_irr] at this
        cases this
    · rw [if_neg hk, Option.map_eq_some_iff] at h
      obtain ⟨j, hj, rfl⟩ := h
      have : outS (a :: l) k = a :: outS l k := by simp [outS, hk]
      rw [this, out_present l k j h1.2 hj]
      rfl
def stI (l : List Rt) (k : Ky) : Int :=
  match findS l k with
  | some i => (i : Int)
  | none => -1
theorem stI_some {l : List Rt} {k : Ky} {i : Nat} (h : findS l k = some i) : stI l k = i := by unfold stI; rw [h]
theorem stI_none {l : List Rt} {k : Ky} (h : findS l k = none) : stI l k = -1 := by unfold stI; rw [h]
end Go.Proofs.Ytlglppfkpieabaa
/-
  What addr.Right, Has, Common and Less hand back, for every prefix and address. No condition but that the words are words of 64 bits.
-/
set_option linter.unusedSimpArgs false
set_option linter.unusedVariables false
namespace Go.Proofs.Ytlglppfkpieabaa
open Go.RowKit Go.Sort M

/-- Two addresses are held against each other word by word. -/
theorem eql_addr (a b c d : Nat) (w : World) : (binOp .eql 25 (.agg #[.int .u64 a, .int .u64 b]) (.agg #[.int .u64 c, .int .u64 d])).run Try.prog w = .ok (.bool (decide (a = c) && decide (b = d))) w := by
  have e1 : decide (a = c) = decide ((a : Int) = c) := by rw [decide_eq_decide]; omega
  have e2 : decide (b = d) = decide ((b : Int) = d) := by rw [decide_eq_decide]; omega
  rw [e1, e2]
  by_cases h1 : (a : Int) = c <;> by_cases h2 : (b : Int) = d <;> simp [go_sem, h1, h2]

set_option maxHeartbeats 400000 in
theorem less_any (h1 l1 : Nat) (n1 : Int) (h2 l2 : Nat) (n2 : Int) :
    Gives Try.prog 48 #[.agg #[.int .u64 h1, .int .u64 l1, .int .i64 n1], .agg #[.int .u64 h2, .int .u64 l2, .int .i64 n2]] (.bool (lessB h1 l1 n1 h2 l2 n2)) := by
  intro w
  by_cases e1 : h1 = h2
  · by_cases e2 : l1 = l2
    · subst e1 e2
      go_enter Try.func48, Try.ntmps48
      go_wp2
      go_ret
      refine ⟨ret_bool ?_, by go_grown⟩
      simp [lessB]
    · subst e1
      go_enter Try.func48, Try.ntmps48
      go_wp2
      go_ret
      refine ⟨ret_bool ?_, by go_grown⟩
      simp [lessB, e2]
  · go_enter Try.func48, Try.ntmps48
    go_wp2
    go_ret
    refine ⟨ret_bool ?_, by go_grown⟩
    simp [lessB, e1]

end Go.Proofs.Ytlglppfkpieabaa
