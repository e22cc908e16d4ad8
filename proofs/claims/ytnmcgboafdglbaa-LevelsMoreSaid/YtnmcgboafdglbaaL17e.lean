/-
  LevelsMore as a walk: it hands back true, for every input. No condition but that the row's length is at most its capacity.
-/
import Derived.Test.YtnmcgboafdglbaaL17c
set_option linter.unusedSimpArgs false
set_option linter.unusedVariables false
namespace Go.Proofs.Ytnmcgboafdglbaa
open Go Go.RowKit Go.Sort M

/-- Where some levels may be there is a choice, and it costs no more. -/
theorem chosen_more {C : List Int} {wd lo mo st : Int} {L : List Nat} (hr : rightI wd lo mo st (toI L) = true) : ∃ M, chosen C wd lo mo st = some M ∧ coC C lo.toNat M ≤ coC C lo.toNat L := by
  cases h : chosen C wd lo mo st with
  | none => rw [none_right h] at hr; cases hr
  | some M => exact ⟨M, rfl, (chosen_least h hr).1⟩
theorem rgB_more {st st' wd : Int} (h : st ≤ st') : ∀ (X : List Int) (a : Int), rgB st wd a X = true → rgB st' wd a X = true
  | [], _, hx => hx
  | b :: X, a, hx => by
    simp only [rgB, Bool.and_eq_true, decide_eq_true_eq] at hx ⊢
    exact ⟨⟨hx.1.1, by omega⟩, rgB_more h X b hx.2⟩
theorem right_more {wd lo mo st mo' st' : Int} {X : List Int} (h : rightI wd lo mo st X = true) (hm : mo ≤ mo') (hs : st ≤ st') (hm2 : mo' ≤ 128) (hs2 : st' ≤ 20) : rightI wd lo mo' st' X = true := by
  unfold rightI at *
  simp only [Bool.and_eq_true, decide_eq_true_eq] at h ⊢
  obtain ⟨⟨hab, hl⟩, hr⟩ := h
  unfold ablB at *
  have := of_decide_eq_true hab
  exact ⟨⟨decide_eq_true (by omega), by omega⟩, rgB_more hs X lo hr⟩
/-- Whatever a choice comes to. -/
theorem choose_gen {p : Option Addr} {c : Nat} {C : List Int} {wd lo mo st : Int} {W : World} (hC : IRow W p C) (h1 : C.length ≤ 1000000) (h2 : C.length ≤ c) :
    Calls Try.prog 8 #[.int .i64 wd, .int .i64 lo, .int .i64 mo, .int .i64 st, .slice p C.length c] W fun e w' => (∃ q n d x, e = .returned (.tuple #[.slice q n d, .int .i64 x])) ∧ Below W.heap.size W w' := by
  cases h : chosen C wd lo mo st with
  | none => exact (choose_none h hC h1 h2).mono fun e w' ⟨h3, h4⟩ => ⟨⟨none, 0, 0, 1, h3⟩, h4⟩
  | some L => exact (choose_some h hC h1 h2).mono fun e w' ⟨⟨q, d, h3, _⟩, h4⟩ => ⟨⟨q, L.length, d, 0, h3⟩, h4⟩
set_option maxHeartbeats 4000000 in
set_option maxRecDepth 100000 in
theorem lmore_walk (p : Option Addr) (c : Nat) (wd lo mo st : Int) (C : List Int) (w : World) (hC : IRow w p C) (hcap : C.length ≤ c) (m1 : C.length ≤ maxLen) :
    Calls Try.prog 6 #[.int .i64 wd, .int .i64 lo, .int .i64 mo, .int .i64 st, .slice p C.length c] w fun e w' => e = .returned (.bool true) ∧ Below w.heap.size w w' := by
  have HA := Lib.hid (alive17_any w)
  unfold maxLen at m1
  by_cases g1 : wd < 1
  · clear hC
    go_enter Try.func6, Try.ntmps6
    go_wp2_with fail
    refine HA.out.mono ?_
    rintro e w0 ⟨rfl, hb0⟩
    go_wp2
    go_ret
    exact ⟨rfl, hb0⟩
  by_cases g2 : 40 < wd
  · clear hC
    go_enter Try.func6, Try.ntmps6
    go_wp2_with fail
    refine HA.out.mono ?_
    rintro e w0 ⟨rfl, hb0⟩
    go_wp2
    go_ret
    exact ⟨rfl, hb0⟩
  by_cases g3 : lo < 0
  · clear hC
    go_enter Try.func6, Try.ntmps6
    go_wp2_with fail
    refine HA.out.mono ?_
    rintro e w0 ⟨rfl, hb0⟩
    go_wp2
    go_ret
    exact ⟨rfl, hb0⟩
  by_cases g4 : wd < lo
  · clear hC
    go_enter Try.func6, Try.ntmps6
    go_wp2_with fail
    refine HA.out.mono ?_
    rintro e w0 ⟨rfl, hb0⟩
    go_wp2
    go_ret
    exact ⟨rfl, hb0⟩
  by_cases g5 : mo < 0
  · clear hC
    go_enter Try.func6, Try.ntmps6
    go_wp2_with fail
    refine HA.out.mono ?_
    rintro e w0 ⟨rfl, hb0⟩
    go_wp2
    go_ret
    exact ⟨rfl, hb0⟩
  by_cases g6 : 40 < mo
  · clear hC
    go_enter Try.func6, Try.ntmps6
    go_wp2_with fail
    refine HA.out.mono ?_
    rintro e w0 ⟨rfl, hb0⟩
    go_wp2
    go_ret
    exact ⟨rfl, hb0⟩
  by_cases g7 : st < 1
  · clear hC
    go_enter Try.func6, Try.ntmps6
    go_wp2_with fail
    refine HA.out.mono ?_
    rintro e w0 ⟨rfl, hb0⟩
    go_wp2
    go_ret
    exact ⟨rfl, hb0⟩
  by_cases g8 : 19 < st
  · clear hC
    go_enter Try.func6, Try.ntmps6
    go_wp2_with fail
    refine HA.out.mono ?_
    rintro e w0 ⟨rfl, hb0⟩
    go_wp2
    go_ret
    exact ⟨rfl, hb0⟩
  by_cases g9 : C.length ≤ 200
  · have hC0 : Hid (∀ W, Below w.heap.size w W → IRow W p C) := Lib.hid fun W h => hC.below h
    obtain ⟨D, hD⟩ : ∃ D, D = C.take (wd.toNat + 1) := ⟨_, rfl⟩
    have hDl : D.length = min (wd.toNat + 1) C.length := by rw [hD, List.length_take]
    have hDr : ∀ W, Below w.heap.size w W → IRow W p D := fun W h => by rw [hD]; exact (hC0.out W h).take _
    obtain ⟨k, hk⟩ : ∃ k, k = D.length := ⟨_, rfl⟩
    have hpre : wd + 1 < (C.length : Int) → ∀ w, (Instr.slice 22 (.slice p C.length c) none (some (.int .i64 (wd + 1))) none).run Try.prog w = .ok (.slice p k c) w := fun hcl w => by
      have := pre_any p C.length c k (by omega) w
      rwa [show (k : Int) = wd + 1 by omega] at this
    have hk3 : ¬ wd + 1 < (C.length : Int) → k = C.length := fun h => by omega
    cases hcs : chosen C wd lo mo st with
    | none =>
      have HC1 : Hid (∀ W, Below w.heap.size w W → Calls Try.prog 8 #[.int .i64 wd, .int .i64 lo, .int .i64 mo, .int .i64 st, .slice p C.length c] W fun e w' => e = .returned (.tuple #[.slice none 0 0, .int .i64 1]) ∧ Below W.heap.size W w') := Lib.hid fun W h => choose_none hcs (hC0.out W h) (by omega) hcap
      have HC2 : Hid (∀ W, Below w.heap.size w W → Calls Try.prog 8 #[.int .i64 wd, .int .i64 lo, .int .i64 (mo + 1), .int .i64 st, .slice p C.length c] W fun e w' => (∃ q n d x, e = .returned (.tuple #[.slice q n d, .int .i64 x])) ∧ Below W.heap.size W w') := Lib.hid fun W h => choose_gen (hC0.out W h) (by omega) hcap
      have HC3 : Hid (∀ W, Below w.heap.size w W → Calls Try.prog 8 #[.int .i64 wd, .int .i64 lo, .int .i64 mo, .int .i64 (st + 1), .slice p C.length c] W fun e w' => (∃ q n d x, e = .returned (.tuple #[.slice q n d, .int .i64 x])) ∧ Below W.heap.size W w') := Lib.hid fun W h => choose_gen (hC0.out W h) (by omega) hcap
      have HNUM := Lib.hid (num17_any 1)
      by_cases hcl : wd + 1 < (C.length : Int)
      · have hpre := hpre hcl
        clear hcs hC hD hDl hDr hk hk3
        go_enter Try.func6, Try.ntmps6
        go_wp2_with fail
        refine HA.out.mono ?_
        rintro e w0 ⟨rfl, hb0⟩
        go_wp2_with fail
        refine (HC1.out _ hb0).mono ?_
        rintro e w1 ⟨rfl, hb1⟩
        have hw1 := hb0.trans (hb1.mono hb0.size)
        go_wp2_with fail
        refine (HC2.out _ hw1).mono ?_
        rintro e w2 ⟨⟨q2, n2, d2, x2, rfl⟩, hb2⟩
        have hw2 := hw1.trans (hb2.mono hw1.size)
        go_wp2_with fail
        refine (HC3.out _ hw2).mono ?_
        rintro e w3 ⟨⟨q3, n3, d3, x3, rfl⟩, hb3⟩
        have hw3 := hw2.trans (hb3.mono hw2.size)
        go_wp2_with fail
        refine (HNUM.out _).mono ?_
        rintro e w4 ⟨rfl, hb4⟩
        have hw4 := hw3.trans (hb4.mono hw3.size)
        go_wp2_with fail
        refine (HNUM.out _).mono ?_
        rintro e w5 ⟨rfl, hb5⟩
        have hw5 := hw4.trans (hb5.mono hw4.size)
        go_wp2
        go_ret
        exact ⟨rfl, hw5⟩
      · have hk4 := hk3 hcl
        clear hcs hC hD hDl hDr hk hk3 hk4 hpre
        go_enter Try.func6, Try.ntmps6
        go_wp2_with fail
        refine HA.out.mono ?_
        rintro e w0 ⟨rfl, hb0⟩
        go_wp2_with fail
        refine (HC1.out _ hb0).mono ?_
        rintro e w1 ⟨rfl, hb1⟩
        have hw1 := hb0.trans (hb1.mono hb0.size)
        go_wp2_with fail
        refine (HC2.out _ hw1).mono ?_
        rintro e w2 ⟨⟨q2, n2, d2, x2, rfl⟩, hb2⟩
        have hw2 := hw1.trans (hb2.mono hw1.size)
        go_wp2_with fail
        refine (HC3.out _ hw2).mono ?_
        rintro e w3 ⟨⟨q3, n3, d3, x3, rfl⟩, hb3⟩
        have hw3 := hw2.trans (hb3.mono hw2.size)
        go_wp2_with fail
        refine (HNUM.out _).mono ?_
        rintro e w4 ⟨rfl, hb4⟩
        have hw4 := hw3.trans (hb4.mono hw3.size)
        go_wp2_with fail
        refine (HNUM.out _).mono ?_
        rintro e w5 ⟨rfl, hb5⟩
        have hw5 := hw4.trans (hb5.mono hw4.size)
        go_wp2
        go_ret
        exact ⟨rfl, hw5⟩
    | some L =>
      have hr1 := chosen_right hcs
      obtain ⟨M, hcM, hleM⟩ := chosen_more (C := C) (right_more (mo' := mo + 1) (st' := st) hr1 (by omega) (by omega) (by omega) (by omega))
      obtain ⟨N, hcN, hleN⟩ := chosen_more (C := C) (right_more (mo' := mo) (st' := st + 1) hr1 (by omega) (by omega) (by omega) (by omega))
      have e1 := right_cost (C := C) hr1
      have e2 := right_cost (C := C) (chosen_right hcM)
      have e3 := right_cost (C := C) (chosen_right hcN)
      rw [← hD] at e1 e2 e3
      have l1 := chosen_len hcs
      have l2 := chosen_len hcM
      have l3 := chosen_len hcN
      obtain ⟨x, hx⟩ : ∃ x, x = coC C lo.toNat L := ⟨_, rfl⟩
      obtain ⟨y, hy⟩ : ∃ y, y = coC C lo.toNat M := ⟨_, rfl⟩
      obtain ⟨z, hz⟩ : ∃ z, z = coC C lo.toNat N := ⟨_, rfl⟩
      rw [← hx] at e1 hleM hleN
      rw [← hy] at e2 hleM
      rw [← hz] at e3 hleN
      have hyx : (y : Int) ≤ (x : Int) := by omega
      have hzx : (z : Int) ≤ (x : Int) := by omega
      have HC1 : Hid (∀ W, Below w.heap.size w W → Calls Try.prog 8 #[.int .i64 wd, .int .i64 lo, .int .i64 mo, .int .i64 st, .slice p C.length c] W fun e w' => (∃ q d, e = .returned (.tuple #[.slice q L.length d, .int .i64 0]) ∧ IRow w' q (toI L) ∧ L.length ≤ d) ∧ Below W.heap.size W w') := Lib.hid fun W h => choose_some hcs (hC0.out W h) (by omega) hcap
      have HC2 : Hid (∀ W, Below w.heap.size w W → Calls Try.prog 8 #[.int .i64 wd, .int .i64 lo, .int .i64 (mo + 1), .int .i64 st, .slice p C.length c] W fun e w' => (∃ q d, e = .returned (.tuple #[.slice q M.length d, .int .i64 0]) ∧ IRow w' q (toI M) ∧ M.length ≤ d) ∧ Below W.heap.size W w') := Lib.hid fun W h => choose_some hcM (hC0.out W h) (by omega) hcap
      have HC3 : Hid (∀ W, Below w.heap.size w W → Calls Try.prog 8 #[.int .i64 wd, .int .i64 lo, .int .i64 mo, .int .i64 (st + 1), .slice p C.length c] W fun e w' => (∃ q d, e = .returned (.tuple #[.slice q N.length d, .int .i64 0]) ∧ IRow w' q (toI N) ∧ N.length ≤ d) ∧ Below W.heap.size W w') := Lib.hid fun W h => choose_some hcN (hC0.out W h) (by omega) hcap
      have HNUM := Lib.hid (num17_any 0)
      have hco : ∀ (X : List Nat) (r : Nat), costK D (toI X) lo = some r → X.length ≤ 128 → ∀ W, Below w.heap.size w W → ∀ (q1 : Option Addr) d1, IRow W q1 (toI X) → Calls Try.prog 14 #[.slice p k c, .slice q1 X.length d1, .int .i64 lo] W fun e w' => e = .returned (.tuple #[.int .i64 (r : Int), .bool true]) ∧ Below W.heap.size W w' := fun X r hX hl W h q1 d1 h1 => by
        have := rcost_any p q1 c d1 D (toI X) lo W (hDr W h) h1 (by omega) (by rw [toI_len]; omega)
        rw [hX, toI_len, ← hk] at this
        exact this
      have HK1 := Lib.hid (hco L x e1 l1)
      have HK2 := Lib.hid (hco M y e2 l2)
      have HK3 := Lib.hid (hco N z e3 l3)
      by_cases hcl : wd + 1 < (C.length : Int)
      · have hpre := hpre hcl
        clear hcs hC hD hDl hDr hk hk3 hr1 hcM hleM hcN hleN e1 e2 e3 l1 l2 l3 hx hy hz hco
        go_enter Try.func6, Try.ntmps6
        go_wp2_with fail
        refine HA.out.mono ?_
        rintro e w0 ⟨rfl, hb0⟩
        go_wp2_with fail
        refine (HC1.out _ hb0).mono ?_
        rintro e w1 ⟨⟨q1, d1, rfl, hl1, -⟩, hb1⟩
        have hw1 := hb0.trans (hb1.mono hb0.size)
        go_wp2_with fail
        refine (HC2.out _ hw1).mono ?_
        rintro e w2 ⟨⟨q2, d2, rfl, hl2, -⟩, hb2⟩
        have hw2 := hw1.trans (hb2.mono hw1.size)
        go_wp2_with fail
        refine (HC3.out _ hw2).mono ?_
        rintro e w3 ⟨⟨q3, d3, rfl, hl3, -⟩, hb3⟩
        have hw3 := hw2.trans (hb3.mono hw2.size)
        have HB1 := Lib.hid ((hl1.below hb2).below hb3)
        have HB2 := Lib.hid (hl2.below hb3)
        have HB3 := Lib.hid hl3
        clear hl1 hl2 hl3
        go_wp2_with fail
        refine (HNUM.out _).mono ?_
        rintro e w4 ⟨rfl, hb4⟩
        have hw4 := hw3.trans (hb4.mono hw3.size)
        go_wp2_with fail
        refine (HNUM.out _).mono ?_
        rintro e w5 ⟨rfl, hb5⟩
        have hw5 := hw4.trans (hb5.mono hw4.size)
        go_wp2_with fail
        refine (HNUM.out _).mono ?_
        rintro e w6 ⟨rfl, hb6⟩
        have hw6 := hw5.trans (hb6.mono hw5.size)
        have hx6 : Below w3.heap.size w3 w6 := hb4.trans ((hb5.mono hb4.size).trans (hb6.mono (Nat.le_trans hb4.size hb5.size)))
        have HB1 := Lib.hid (HB1.out.below hx6)
        have HB2 := Lib.hid (HB2.out.below hx6)
        have HB3 := Lib.hid (HB3.out.below hx6)
        clear hb4 hb5 hb6 hx6 hw3 hw4 hw5
        go_wp2_with fail
        refine (HK1.out w6 hw6 q1 d1 HB1.out).mono ?_
        rintro e w7 ⟨rfl, hb7⟩
        have hw7 := hw6.trans (hb7.mono hw6.size)
        have HB2 := Lib.hid (HB2.out.below hb7)
        have HB3 := Lib.hid (HB3.out.below hb7)
        go_wp2_with fail
        refine (HK2.out w7 hw7 q2 d2 HB2.out).mono ?_
        rintro e w8 ⟨rfl, hb8⟩
        have hw8 := hw7.trans (hb8.mono hw7.size)
        have HB3 := Lib.hid (HB3.out.below hb8)
        go_wp2_with fail
        refine (HK3.out w8 hw8 q3 d3 HB3.out).mono ?_
        rintro e w9 ⟨rfl, hb9⟩
        have hw9 := hw8.trans (hb9.mono hw8.size)
        go_wp2
        go_ret
        exact ⟨rfl, hw9⟩
      · have hk4 := hk3 hcl
        subst hk4
        clear hcs hC hD hDl hDr hk hk3 hr1 hcM hleM hcN hleN e1 e2 e3 l1 l2 l3 hx hy hz hco hpre
        go_enter Try.func6, Try.ntmps6
        go_wp2_with fail
        refine HA.out.mono ?_
        rintro e w0 ⟨rfl, hb0⟩
        go_wp2_with fail
        refine (HC1.out _ hb0).mono ?_
        rintro e w1 ⟨⟨q1, d1, rfl, hl1, -⟩, hb1⟩
        have hw1 := hb0.trans (hb1.mono hb0.size)
        go_wp2_with fail
        refine (HC2.out _ hw1).mono ?_
        rintro e w2 ⟨⟨q2, d2, rfl, hl2, -⟩, hb2⟩
        have hw2 := hw1.trans (hb2.mono hw1.size)
        go_wp2_with fail
        refine (HC3.out _ hw2).mono ?_
        rintro e w3 ⟨⟨q3, d3, rfl, hl3, -⟩, hb3⟩
        have hw3 := hw2.trans (hb3.mono hw2.size)
        have HB1 := Lib.hid ((hl1.below hb2).below hb3)
        have HB2 := Lib.hid (hl2.below hb3)
        have HB3 := Lib.hid hl3
        clear hl1 hl2 hl3
        go_wp2_with fail
        refine (HNUM.out _).mono ?_
        rintro e w4 ⟨rfl, hb4⟩
        have hw4 := hw3.trans (hb4.mono hw3.size)
        go_wp2_with fail
        refine (HNUM.out _).mono ?_
        rintro e w5 ⟨rfl, hb5⟩
        have hw5 := hw4.trans (hb5.mono hw4.size)
        go_wp2_with fail
        refine (HNUM.out _).mono ?_
        rintro e w6 ⟨rfl, hb6⟩
        have hw6 := hw5.trans (hb6.mono hw5.size)
        have hx6 : Below w3.heap.size w3 w6 := hb4.trans ((hb5.mono hb4.size).trans (hb6.mono (Nat.le_trans hb4.size hb5.size)))
        have HB1 := Lib.hid (HB1.out.below hx6)
        have HB2 := Lib.hid (HB2.out.below hx6)
        have HB3 := Lib.hid (HB3.out.below hx6)
        clear hb4 hb5 hb6 hx6 hw3 hw4 hw5
        go_wp2_with fail
        refine (HK1.out w6 hw6 q1 d1 HB1.out).mono ?_
        rintro e w7 ⟨rfl, hb7⟩
        have hw7 := hw6.trans (hb7.mono hw6.size)
        have HB2 := Lib.hid (HB2.out.below hb7)
        have HB3 := Lib.hid (HB3.out.below hb7)
        go_wp2_with fail
        refine (HK2.out w7 hw7 q2 d2 HB2.out).mono ?_
        rintro e w8 ⟨rfl, hb8⟩
        have hw8 := hw7.trans (hb8.mono hw7.size)
        have HB3 := Lib.hid (HB3.out.below hb8)
        go_wp2_with fail
        refine (HK3.out w8 hw8 q3 d3 HB3.out).mono ?_
        rintro e w9 ⟨rfl, hb9⟩
        have hw9 := hw8.trans (hb9.mono hw8.size)
        go_wp2
        go_ret
        exact ⟨rfl, hw9⟩
  · clear hC
    go_enter Try.func6, Try.ntmps6
    go_wp2_with fail
    refine HA.out.mono ?_
    rintro e w0 ⟨rfl, hb0⟩
    go_wp2
    go_ret
    exact ⟨rfl, hb0⟩
end Go.Proofs.Ytnmcgboafdglbaa
