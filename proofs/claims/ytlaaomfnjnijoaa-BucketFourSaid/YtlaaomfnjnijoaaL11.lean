/-
  The given law of chapter 11 as a walk: the example; four places, and which is taken. No condition.
-/
import Derived.Test.YtlaaomfnjnijoaaW11b
import Derived.Test.YtlaaomfnjnijoaaW11c
set_option linter.unusedSimpArgs false
set_option linter.unusedVariables false
namespace Go.Proofs.Ytlaaomfnjnijoaa
open Go.RowKit Go.Sort M

/-- A new bucket. -/
theorem new_bkt (w : World) (Z : Array Value) (t : TypeId) (hZ : Z.toList = bcs [none, none, none, none]) : Bkt (w.alloc (.cells Z t)) w.heap.size 0 [none, none, none, none] := by
  have hl : (bcs [none, none, none, none]).length = 20 := by rw [bcs_len]; rfl
  refine ⟨rfl, by simp, fun i hi j u hu => ?_, fun j hj => by simp [go_sem]⟩
  have hj : j < 5 := (List.getElem?_eq_some_iff.1 hu).1
  have e := bcs_at [none, none, none, none] i hi j hj
  rw [hu, ← hZ] at e
  have := new_cells w Z t (i * 5 + j) u e
  rw [show (⟨w.heap.size, 0, none⟩ : Addr).add (i * 5 + j) = ⟨w.heap.size, i * 5 + j, none⟩ by unfold Addr.add; split <;> simp_all] at this
  rwa [Nat.zero_add]
theorem Turn.low {w w' : World} {B g o n : Nat} (h : Turn w w' g o n) {a : World} (hw : Below B a w) (hB : B ≤ w.heap.size) (hg : B ≤ g) : Below B a w' :=
  hw.grown h.grown hB (fun k e => by cases e; exact hg)
set_option maxHeartbeats 1000000 in
theorem alive11_any : Gives Try.prog 4 #[] (.bool true) := by
  intro w
  go_enter Try.func4, Try.ntmps4
  go_wp2_with fail
  have H0 := new_bkt w _ 33 (show (#[.int .u64 0, .int .u64 0, .int .i64 0, .int .i64 0, .bool false, .int .u64 0, .int .u64 0, .int .i64 0, .int .i64 0, .bool false, .int .u64 0, .int .u64 0, .int .i64 0, .int .i64 0, .bool false, .int .u64 0, .int .u64 0, .int .i64 0, .int .i64 0, .bool false] : Array Value).toList = _ from rfl)
  refine (all11_any _ 0 _ _ H0).mono ?_
  rintro e w1 ⟨p1, c1, rfl, -, hb1⟩
  have H1 := H0.below hb1
  have hw1 : Below w.heap.size w w1 := Below.trans (by go_grown) (hb1.mono (by go_size))
  clear H0 hb1
  rw [show (allC [none, none, none, none]).length = 0 from rfl]
  go_wp2_with fail
  refine (put11_any _ 0 _ ⟨0, 0, 4⟩ 7 _ H1).mono ?_
  rintro e w2 ⟨rfl, H2, ht2⟩
  have hw2 := ht2.low hw1 hw1.size (Nat.le_refl _)
  clear H1 ht2 hw1
  go_wp2_with fail
  refine (get11_any _ 0 _ ⟨0, 0, 4⟩ _ H2).mono ?_
  rintro e w3 ⟨rfl, hb3⟩
  have hw3 := hw2.trans (hb3.mono hw2.size)
  clear H2 hw2 hb3
  rw [show (putC [none, none, none, none] ⟨0, 0, 4⟩ 7).isSome = true from by decide +kernel, show getC ((putC [none, none, none, none] ⟨0, 0, 4⟩ 7).getD [none, none, none, none]) ⟨0, 0, 4⟩ = some 7 from by decide +kernel]
  go_wp2
  go_ret
  exact ⟨rfl, hw3⟩
/-- A bucket behind so many puts of the law's keys. -/
def full11 (k : Nat) : List Pl := (List.range 4).map fun j => if j < k then some ⟨⟨0, 0, (j : Nat)⟩, (j : Nat)⟩ else none
def left11 (n g : Nat) : List Pl := (takeC (full11 n) ⟨0, 0, (g : Nat)⟩).getD (full11 n)
def last11 (n g : Nat) : List Pl := (putC (left11 n g) ⟨0, 0, 99⟩ 99).getD (left11 n g)
theorem full11_put : ∀ k, k < 8 → (putC (full11 k) ⟨0, 0, (k : Nat)⟩ (k : Nat)).isSome = decide (k < 4) ∧ (putC (full11 k) ⟨0, 0, (k : Nat)⟩ (k : Nat)).getD (full11 k) = full11 (k + 1) := by decide +kernel
theorem full11_take : ∀ n, n < 9 → ∀ g, g < 4 → (takeC (full11 n) ⟨0, 0, (g : Nat)⟩).isSome = decide (g < n) := by decide +kernel
theorem last11_at : ∀ n, n < 9 → ∀ g, g < 4 → ∀ a, a < 9 → (a = if n ≤ g then n else g) → a < (allC (last11 n g)).length ∧ ((allC (last11 n g))[a]?).map Rt.v = some 99 := by decide +kernel
set_option maxHeartbeats 1000000 in
theorem four_law (n0 n1 : Int) : Gives Try.prog 3 #[.int .i64 n0, .int .i64 n1] (.bool true) := by
  intro w
  have HA := Lib.hid alive11_any
  by_cases hc : 0 ≤ n0 ∧ n0 ≤ 8 ∧ 0 ≤ n1 ∧ n1 ≤ 3
  · obtain ⟨h0, h1, h2, h3⟩ := hc
    obtain ⟨n, rfl⟩ := Int.eq_ofNat_of_zero_le h0
    obtain ⟨m, rfl⟩ := Int.eq_ofNat_of_zero_le h2
    clear h0 h2
    have HP := Lib.hid full11_put
    have HT := full11_take n (by omega) m (by omega)
    go_enter Try.func3, Try.ntmps3
    go_wp2_with fail
    refine (HA.out _).mono ?_
    rintro e0 w0 ⟨rfl, hb0⟩
    have hw0 : Below w.heap.size w w0 := by
      refine Below.trans ?_ (hb0.mono ?_)
      · go_grown
      · go_size
    clear hb0
    have hz0 := hw0.size
    go_wp2_with fail
    have H0 := new_bkt w0 _ 33 (show (#[.int .u64 0, .int .u64 0, .int .i64 0, .int .i64 0, .bool false, .int .u64 0, .int .u64 0, .int .i64 0, .int .i64 0, .bool false, .int .u64 0, .int .u64 0, .int .i64 0, .int .i64 0, .bool false, .int .u64 0, .int .u64 0, .int .i64 0, .int .i64 0, .bool false] : Array Value).toList = _ from rfl)
    go_loopw [7] (fun i wr => ∃ k : Nat, k ≤ n ∧ i = .int .i64 (k : Int) ∧ Bkt wr w0.heap.size 0 (full11 k) ∧ Below w.heap.size w wr) (fun i _ => n - (intOf i).toNat)
    case atStart => exact ⟨0, Nat.zero_le _, rfl, H0, by go_grown⟩
    case round =>
      clear H0
      obtain ⟨k, hk, rfl, H1, hb⟩ := hrel
      by_cases hlt : k < n
      · obtain ⟨q1, q2⟩ := HP.out k (by omega)
        have hzb := hb.size
        by_cases h4 : k < 4
        · rw [decide_eq_true h4] at q1
          have d4 : decide ((k : Int) < 4) = true := by simp; omega
          go_wp2_with fail
          refine (put11_any _ 0 _ ⟨0, 0, (k : Int)⟩ (k : Int) _ H1).mono ?_
          rintro e w1 ⟨rfl, H2, ht2⟩
          rw [q2] at H2
          rw [q1]
          have hb2 := ht2.low hb hzb hz0
          clear ht2 H1 hb q1 q2
          go_wp2
          go_roundw
          case rel => exact ⟨k + 1, by omega, by go_num, H2, hb2⟩
          case measure => simp [intOf]; omega
        · rw [decide_eq_false h4] at q1
          have d4 : decide ((k : Int) < 4) = false := by simp; omega
          go_wp2_with fail
          refine (put11_any _ 0 _ ⟨0, 0, (k : Int)⟩ (k : Int) _ H1).mono ?_
          rintro e w1 ⟨rfl, H2, ht2⟩
          rw [q2] at H2
          rw [q1]
          have hb2 := ht2.low hb hzb hz0
          clear ht2 H1 hb q1 q2
          go_wp2
          go_roundw
          case rel => exact ⟨k + 1, by omega, by go_num, H2, hb2⟩
          case measure => simp [intOf]; omega
      · obtain rfl : n = k := by omega
        by_cases hg : n ≤ m
        · rw [decide_eq_false (by omega)] at HT
          have d4 : decide ((m : Int) < (n : Int)) = false := by simp; omega
          have hzb := hb.size
          go_wp2_with fail
          refine (take11_any _ 0 _ ⟨0, 0, (m : Int)⟩ _ H1).mono ?_
          rintro e w3 ⟨rfl, H3, ht3⟩
          rw [HT]
          have hw3 := ht3.low hb hzb hz0
          clear ht3 H1 hb HT
          go_wp2_with fail
          refine (put11_any _ 0 _ ⟨0, 0, 99⟩ 99 _ H3).mono ?_
          rintro e w5 ⟨rfl, H5, ht5⟩
          have hw5 := ht5.low hw3 hw3.size hz0
          clear ht5 H3 hw3
          have H5 : Bkt w5 w0.heap.size 0 (last11 n m) := H5
          go_wp2_with fail
          refine (all11_any _ 0 _ _ H5).mono ?_
          rintro e w6 ⟨p6, c6, rfl, hown6, hb6⟩
          have hw6 := hw5.trans (hb6.mono hw5.size)
          have hR := Row.of_own hown6
          have hat := last11_at n (by omega) m (by omega) n (by omega) (by rw [if_pos hg])
          have hat2 := hat.2
          rw [List.getElem?_eq_getElem hat.1, Option.map_some, Option.some.injEq] at hat2
          obtain ⟨g6, o6, rfl, hg6, -, -, -, d3⟩ := hR.rt hat.1
          rw [hat2] at d3
          have hlen := hat.1
          generalize (allC (last11 n m)).length = z at hlen ⊢
          clear hown6 hb6 hw5 H5 hR hat hat2
          have i1 : (n : Int) < (z : Int) := by omega
          go_wp2_with fail
          go_ret
          exact ⟨ret_bool (by simp), by go_grown⟩
        · rw [decide_eq_true (by omega)] at HT
          have hg2 : m < n := by omega
          have hzb := hb.size
          go_wp2_with fail
          refine (take11_any _ 0 _ ⟨0, 0, (m : Int)⟩ _ H1).mono ?_
          rintro e w3 ⟨rfl, H3, ht3⟩
          rw [HT]
          have hw3 := ht3.low hb hzb hz0
          clear ht3 H1 hb HT
          go_wp2_with fail
          refine (put11_any _ 0 _ ⟨0, 0, 99⟩ 99 _ H3).mono ?_
          rintro e w5 ⟨rfl, H5, ht5⟩
          have hw5 := ht5.low hw3 hw3.size hz0
          clear ht5 H3 hw3
          have H5 : Bkt w5 w0.heap.size 0 (last11 n m) := H5
          go_wp2_with fail
          refine (all11_any _ 0 _ _ H5).mono ?_
          rintro e w6 ⟨p6, c6, rfl, hown6, hb6⟩
          have hw6 := hw5.trans (hb6.mono hw5.size)
          have hR := Row.of_own hown6
          have hat := last11_at n (by omega) m (by omega) m (by omega) (by rw [if_neg hg])
          have hat2 := hat.2
          rw [List.getElem?_eq_getElem hat.1, Option.map_some, Option.some.injEq] at hat2
          obtain ⟨g6, o6, rfl, hg6, -, -, -, d3⟩ := hR.rt hat.1
          rw [hat2] at d3
          have hlen := hat.1
          generalize (allC (last11 n m)).length = z at hlen ⊢
          clear hown6 hb6 hw5 H5 hR hat hat2
          have i1 : (m : Int) < (z : Int) := by omega
          go_wp2_with fail
          go_ret
          exact ⟨ret_bool (by simp), by go_grown⟩
  · by_cases c0 : n0 < 0
    · skip
      clear hc
      go_enter Try.func3, Try.ntmps3
      go_wp2_with fail
      refine (HA.out _).mono ?_
      rintro e0 w0 ⟨rfl, hb0⟩
      have hw0 : Below w.heap.size w w0 := by
        refine Below.trans ?_ (hb0.mono ?_)
        · go_grown
        · go_size
      clear hb0
      go_wp2
      go_ret
      exact ⟨rfl, hw0⟩
    · by_cases c1 : 8 < n0
      · skip
        clear hc
        go_enter Try.func3, Try.ntmps3
        go_wp2_with fail
        refine (HA.out _).mono ?_
        rintro e0 w0 ⟨rfl, hb0⟩
        have hw0 : Below w.heap.size w w0 := by
          refine Below.trans ?_ (hb0.mono ?_)
          · go_grown
          · go_size
        clear hb0
        go_wp2
        go_ret
        exact ⟨rfl, hw0⟩
      · by_cases c2 : n1 < 0
        · skip
          clear hc
          go_enter Try.func3, Try.ntmps3
          go_wp2_with fail
          refine (HA.out _).mono ?_
          rintro e0 w0 ⟨rfl, hb0⟩
          have hw0 : Below w.heap.size w w0 := by
            refine Below.trans ?_ (hb0.mono ?_)
            · go_grown
            · go_size
          clear hb0
          go_wp2
          go_ret
          exact ⟨rfl, hw0⟩
        · have c3 : 3 < n1 := by omega
          clear hc
          go_enter Try.func3, Try.ntmps3
          go_wp2_with fail
          refine (HA.out _).mono ?_
          rintro e0 w0 ⟨rfl, hb0⟩
          have hw0 : Below w.heap.size w w0 := by
            refine Below.trans ?_ (hb0.mono ?_)
            · go_grown
            · go_size
          clear hb0
          go_wp2
          go_ret
          exact ⟨rfl, hw0⟩
end Go.Proofs.Ytlaaomfnjnijoaa
