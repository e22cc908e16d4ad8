/-
  LevelsLeast as a walk: it hands back true, for every input. No condition but that each row's length is at most its capacity.
-/
import Derived.Test.YtnmcgboafdglbaaL17
set_option linter.unusedSimpArgs false
set_option linter.unusedVariables false
namespace Go.Proofs.Ytnmcgboafdglbaa
open Go Go.RowKit Go.Sort M

/-- What may be is levels, in plain numbers. -/
theorem right_nat {wd lo mo st : Int} {X : List Int} (h : rightI wd lo mo st X = true) : ablB wd lo mo st = true ∧ ∃ M : List Nat, X = toI M ∧ okC st.toNat wd.toNat lo.toNat M = true ∧ M.length ≤ min mo.toNat wd.toNat := by
  unfold rightI at h
  simp only [Bool.and_eq_true, decide_eq_true_eq] at h
  obtain ⟨⟨hab, hl⟩, hr⟩ := h
  have hab2 := hab
  unfold ablB at hab2
  obtain ⟨a1, a2, a3, a4, a5, a6, a7, a8⟩ := of_decide_eq_true hab2
  obtain ⟨wn, rfl⟩ := Int.eq_ofNat_of_zero_le (show 0 ≤ wd by omega)
  obtain ⟨ln, rfl⟩ := Int.eq_ofNat_of_zero_le a3
  obtain ⟨mn, rfl⟩ := Int.eq_ofNat_of_zero_le a5
  obtain ⟨sn, rfl⟩ := Int.eq_ofNat_of_zero_le (show 0 ≤ st by omega)
  obtain ⟨M, rfl, hM⟩ := rgB_nat X ln hr
  have hle := okC_le _ _ hM
  rw [toI_len] at hl
  exact ⟨hab, M, rfl, hM, by simp only [Int.toNat_natCast]; omega⟩
theorem nat_right {wd lo mo st : Int} {L : List Nat} (hab : ablB wd lo mo st = true) (h : okC st.toNat wd.toNat lo.toNat L = true) (hl : L.length ≤ min mo.toNat wd.toNat) : rightI wd lo mo st (toI L) = true := by
  have hab2 := hab
  unfold ablB at hab2
  obtain ⟨a1, a2, a3, a4, a5, a6, a7, a8⟩ := of_decide_eq_true hab2
  obtain ⟨wn, rfl⟩ := Int.eq_ofNat_of_zero_le (show 0 ≤ wd by omega)
  obtain ⟨ln, rfl⟩ := Int.eq_ofNat_of_zero_le a3
  obtain ⟨mn, rfl⟩ := Int.eq_ofNat_of_zero_le a5
  obtain ⟨sn, rfl⟩ := Int.eq_ofNat_of_zero_le (show 0 ≤ st by omega)
  unfold rightI
  simp only [Int.toNat_natCast] at h hl
  rw [hab, nat_rgB L ln h, toI_len, decide_eq_true (by omega)]
  rfl
theorem chosen_right {C : List Int} {wd lo mo st : Int} {L : List Nat} (h : chosen C wd lo mo st = some L) : rightI wd lo mo st (toI L) = true := by
  obtain ⟨hab, c, hb⟩ := chosen_spec h
  obtain ⟨k1, k2, -⟩ := (bst_min C st.toNat wd.toNat (min mo.toNat wd.toNat) lo.toNat).1 _ hb
  exact nat_right hab k1 k2
theorem none_right {C : List Int} {wd lo mo st : Int} (h : chosen C wd lo mo st = none) (X : List Int) : rightI wd lo mo st X = false := by
  cases hr : rightI wd lo mo st X with
  | false => rfl
  | true =>
    exfalso
    obtain ⟨hab, M, rfl, hM, hl⟩ := right_nat hr
    obtain ⟨x, hx, -⟩ := (bst_min C st.toNat wd.toNat (min mo.toNat wd.toNat) lo.toNat).2 M hM hl
    unfold chosen at h
    rw [if_pos hab, hx] at h
    cases h
/-- What is chosen is the least. -/
theorem chosen_least {C : List Int} {wd lo mo st : Int} {L : List Nat} (h : chosen C wd lo mo st = some L) {M : List Nat} (hr : rightI wd lo mo st (toI M) = true) :
    coC C lo.toNat L ≤ coC C lo.toNat M ∧ (coC C lo.toNat M = coC C lo.toNat L → L.length ≤ M.length) := by
  obtain ⟨hab, c, hb⟩ := chosen_spec h
  obtain ⟨-, M', hM', hM, hl⟩ := right_nat hr
  have hinj : ∀ A B : List Nat, toI A = toI B → A = B := by
    intro A
    induction A with
    | nil => intro B h; cases B with | nil => rfl | cons b B => cases h
    | cons a A ih =>
      intro B h
      cases B with
      | nil => cases h
      | cons b B =>
        simp only [toI, List.map_cons, List.cons.injEq] at h
        rw [ih B h.2, Int.ofNat_inj.1 h.1]
  obtain rfl := hinj _ _ hM'
  obtain ⟨k1, k2, k3⟩ := (bst_min C st.toNat wd.toNat (min mo.toNat wd.toNat) lo.toNat).1 _ hb
  obtain ⟨x, hx, hbt⟩ := (bst_min C st.toNat wd.toNat (min mo.toNat wd.toNat) lo.toNat).2 M hM hl
  rw [hb] at hx
  injection hx with hx
  subst hx
  have := bt_le hbt
  simp only at k3 this
  rw [← k3]
  exact this
/-- What levels that may be cost, of the counts cut at the width. -/
theorem right_cost {C : List Int} {wd lo mo st : Int} {M : List Nat} (hr : rightI wd lo mo st (toI M) = true) : costK (C.take (wd.toNat + 1)) (toI M) lo = some (coC C lo.toNat M) := by
  obtain ⟨hab, M', hM', hM, -⟩ := right_nat hr
  have hab2 := hab
  unfold ablB at hab2
  obtain ⟨a1, a2, a3, a4, a5, a6, a7, a8⟩ := of_decide_eq_true hab2
  obtain ⟨wn, rfl⟩ := Int.eq_ofNat_of_zero_le (show 0 ≤ wd by omega)
  obtain ⟨ln, rfl⟩ := Int.eq_ofNat_of_zero_le a3
  obtain ⟨sn, rfl⟩ := Int.eq_ofNat_of_zero_le (show 0 ≤ st by omega)
  simp only [Int.toNat_natCast] at hM ⊢
  have h := cost_is C (C.take (wn + 1)) (st := sn) (wd := wn) (by omega) (by omega) (fun j hj => by unfold atC; rw [List.getD_eq_getElem?_getD, List.getD_eq_getElem?_getD, List.getElem?_take, if_pos (by omega)]) (fun j hj => atC_past _ _ (by rw [List.length_take]; omega)) M' ln hM
  rw [← hM'] at h
  have hinj : M' = M := by
    have : ∀ A B : List Nat, toI A = toI B → A = B := by
      intro A
      induction A with
      | nil => intro B h; cases B with | nil => rfl | cons b B => cases h
      | cons a A ih =>
        intro B h
        cases B with
        | nil => cases h
        | cons b B =>
          simp only [toI, List.map_cons, List.cons.injEq] at h
          rw [ih B h.2, Int.ofNat_inj.1 h.1]
    exact this _ _ hM'.symm
  rw [hinj] at h
  exact h
set_option maxHeartbeats 4000000 in
set_option maxRecDepth 100000 in
theorem lleast_walk (p q : Option Addr) (c d : Nat) (wd lo mo st : Int) (C X : List Int) (w : World) (hC : IRow w p C) (hX : IRow w q X) (hcap : C.length ≤ c) (m1 : C.length ≤ maxLen) (m2 : X.length ≤ maxLen) (hwf : ∀ x ∈ X, (Lit.int .i64 x).wf = true) :
    Calls Try.prog 4 #[.int .i64 wd, .int .i64 lo, .int .i64 mo, .int .i64 st, .slice p C.length c, .slice q X.length d] w fun e w' => e = .returned (.bool true) ∧ Below w.heap.size w w' := by
  have HA := Lib.hid (alive17_any w)
  unfold maxLen at m1 m2
  by_cases g0 : (40 : Int) < wd ∧ wd ≤ 128
  · obtain ⟨g1, g2⟩ := g0
    clear hC hX
    go_enter Try.func4, Try.ntmps4
    go_wp2_with fail
    refine HA.out.mono ?_
    rintro e w0 ⟨rfl, hb0⟩
    go_wp2
    go_ret
    exact ⟨rfl, hb0⟩
  · have g0' : ¬ (40 : Int) < wd ∨ ((40 : Int) < wd ∧ ¬ wd ≤ 128) := by omega
    clear g0
    by_cases g3 : C.length ≤ 200
    · by_cases g4 : X.length ≤ 200
      · have hC0 : Hid (∀ W, Below w.heap.size w W → IRow W p C) := Lib.hid fun W h => hC.below h
        have hX0 : Hid (∀ W, Below w.heap.size w W → IRow W q X) := Lib.hid fun W h => hX.below h
        have hrr := fun W (h : Below w.heap.size w W) => rright_any q d X wd lo mo st W (hX.below h) (by omega) (fun x hx => (bounds_i64 (hwf x hx)).2)
        cases hcs : chosen C wd lo mo st with
        | none =>
          rw [none_right hcs X] at hrr
          have HRR := Lib.hid hrr
          have HCH : Hid (∀ W, Below w.heap.size w W → Calls Try.prog 8 #[.int .i64 wd, .int .i64 lo, .int .i64 mo, .int .i64 st, .slice p C.length c] W fun e w' => e = .returned (.tuple #[.slice none 0 0, .int .i64 1]) ∧ Below W.heap.size W w') := Lib.hid fun W h => choose_none hcs (hC0.out W h) (by omega) hcap
          have HNUM := Lib.hid (num17_any 1)
          clear hcs hrr hC hX
          rcases g0' with g1 | ⟨g1, g2⟩
          · skip
            go_enter Try.func4, Try.ntmps4
            go_wp2_with fail
            refine HA.out.mono ?_
            rintro e w0 ⟨rfl, hb0⟩
            go_wp2_with fail
            refine (HCH.out _ hb0).mono ?_
            rintro e w1 ⟨rfl, hb1⟩
            have hw1 := hb0.trans (hb1.mono hb0.size)
            go_wp2_with fail
            refine (HRR.out w1 hw1).mono ?_
            rintro e w2 ⟨rfl, hb2⟩
            have hw2 := hw1.trans (hb2.mono hw1.size)
            go_wp2_with fail
            refine (HNUM.out _).mono ?_
            rintro e w3 ⟨rfl, hb3⟩
            have hw3 := hw2.trans (hb3.mono hw2.size)
            go_wp2_with fail
            refine (HNUM.out _).mono ?_
            rintro e w4 ⟨rfl, hb4⟩
            have hw4 := hw3.trans (hb4.mono hw3.size)
            go_wp2
            go_ret
            exact ⟨rfl, hw4⟩
          · skip
            go_enter Try.func4, Try.ntmps4
            go_wp2_with fail
            refine HA.out.mono ?_
            rintro e w0 ⟨rfl, hb0⟩
            go_wp2_with fail
            refine (HCH.out _ hb0).mono ?_
            rintro e w1 ⟨rfl, hb1⟩
            have hw1 := hb0.trans (hb1.mono hb0.size)
            go_wp2_with fail
            refine (HRR.out w1 hw1).mono ?_
            rintro e w2 ⟨rfl, hb2⟩
            have hw2 := hw1.trans (hb2.mono hw1.size)
            go_wp2_with fail
            refine (HNUM.out _).mono ?_
            rintro e w3 ⟨rfl, hb3⟩
            have hw3 := hw2.trans (hb3.mono hw2.size)
            go_wp2_with fail
            refine (HNUM.out _).mono ?_
            rintro e w4 ⟨rfl, hb4⟩
            have hw4 := hw3.trans (hb4.mono hw3.size)
            go_wp2
            go_ret
            exact ⟨rfl, hw4⟩
        | some L =>
          have hll := chosen_len hcs
          have hrl := chosen_right hcs
          have HCH : Hid (∀ W, Below w.heap.size w W → Calls Try.prog 8 #[.int .i64 wd, .int .i64 lo, .int .i64 mo, .int .i64 st, .slice p C.length c] W fun e w' => (∃ q d, e = .returned (.tuple #[.slice q L.length d, .int .i64 0]) ∧ IRow w' q (toI L) ∧ L.length ≤ d) ∧ Below W.heap.size W w') := Lib.hid fun W h => choose_some hcs (hC0.out W h) (by omega) hcap
          have hbd : ∀ x ∈ toI L, x ≤ 9223372036854775807 := by
            obtain ⟨hab, M, hM, hok, -⟩ := right_nat hrl
            have hab2 := hab
            unfold ablB at hab2
            have := of_decide_eq_true hab2
            intro x hx
            have h3 : ∀ (M : List Nat) (a : Nat), okC st.toNat wd.toNat a M = true → ∀ y ∈ M, y ≤ wd.toNat := by
              intro M
              induction M with
              | nil => intro a _ y hy; cases hy
              | cons b M ih =>
                intro a h y hy
                rw [okC_cons] at h
                have h4 := okC_le M b h.2.2
                rcases List.mem_cons.1 hy with e | hy
                · omega
                · exact ih b h.2.2 y hy
            rw [hM] at hx
            unfold toI at hx
            obtain ⟨y, hy, rfl⟩ := List.mem_map.1 hx
            have := h3 M lo.toNat hok y hy
            omega
          have HRL : Hid (∀ W (q1 : Option Addr) d1, IRow W q1 (toI L) → Calls Try.prog 13 #[.int .i64 wd, .int .i64 lo, .int .i64 mo, .int .i64 st, .slice q1 L.length d1] W fun e w' => e = .returned (.bool true) ∧ Below W.heap.size W w') := Lib.hid fun W q1 d1 h => by
            have := rright_any q1 d1 (toI L) wd lo mo st W h (by rw [toI_len]; omega) hbd
            rw [toI_len, hrl] at this
            exact this
          have HNUM := Lib.hid (num17_any 0)
          cases hr : rightI wd lo mo st X with
          | false =>
            rw [hr] at hrr
            have HRR := Lib.hid hrr
            clear hcs hrr hC hX hrl hbd hr
            rcases g0' with g1 | ⟨g1, g2⟩
            · skip
              go_enter Try.func4, Try.ntmps4
              go_wp2_with fail
              refine HA.out.mono ?_
              rintro e w0 ⟨rfl, hb0⟩
              go_wp2_with fail
              refine (HCH.out _ hb0).mono ?_
              rintro e w1 ⟨⟨q1, d1, rfl, hl1, -⟩, hb1⟩
              have hw1 := hb0.trans (hb1.mono hb0.size)
              go_wp2_with fail
              refine (HRR.out w1 hw1).mono ?_
              rintro e w2 ⟨rfl, hb2⟩
              have hw2 := hw1.trans (hb2.mono hw1.size)
              have hl2 := hl1.below hb2
              go_wp2_with fail
              refine (HNUM.out _).mono ?_
              rintro e w3 ⟨rfl, hb3⟩
              have hw3 := hw2.trans (hb3.mono hw2.size)
              have hl3 := hl2.below hb3
              clear hl1 hl2
              go_wp2_with fail
              refine (HRL.out w3 q1 d1 hl3).mono ?_
              rintro e w4 ⟨rfl, hb4⟩
              have hw4 := hw3.trans (hb4.mono hw3.size)
              have hl4 := hl3.below hb4
              clear hl3
              go_wp2
              go_ret
              exact ⟨rfl, hw4⟩
            · skip
              go_enter Try.func4, Try.ntmps4
              go_wp2_with fail
              refine HA.out.mono ?_
              rintro e w0 ⟨rfl, hb0⟩
              go_wp2_with fail
              refine (HCH.out _ hb0).mono ?_
              rintro e w1 ⟨⟨q1, d1, rfl, hl1, -⟩, hb1⟩
              have hw1 := hb0.trans (hb1.mono hb0.size)
              go_wp2_with fail
              refine (HRR.out w1 hw1).mono ?_
              rintro e w2 ⟨rfl, hb2⟩
              have hw2 := hw1.trans (hb2.mono hw1.size)
              have hl2 := hl1.below hb2
              go_wp2_with fail
              refine (HNUM.out _).mono ?_
              rintro e w3 ⟨rfl, hb3⟩
              have hw3 := hw2.trans (hb3.mono hw2.size)
              have hl3 := hl2.below hb3
              clear hl1 hl2
              go_wp2_with fail
              refine (HRL.out w3 q1 d1 hl3).mono ?_
              rintro e w4 ⟨rfl, hb4⟩
              have hw4 := hw3.trans (hb4.mono hw3.size)
              have hl4 := hl3.below hb4
              clear hl3
              go_wp2
              go_ret
              exact ⟨rfl, hw4⟩
          | true =>
            rw [hr] at hrr
            have HRR := Lib.hid hrr
            obtain ⟨hab, M, rfl, -, -⟩ := right_nat hr
            have hab2 := hab
            unfold ablB at hab2
            obtain ⟨a1, a2, a3, a4, a5, a6, a7, a8⟩ := of_decide_eq_true hab2
            have g1 : ¬ (40 : Int) < wd := by omega
            have hle := chosen_least hcs hr
            have hc1 := right_cost (C := C) hrl
            have hc2 := right_cost (C := C) hr
            obtain ⟨A, hA⟩ : ∃ A, A = coC C lo.toNat L := ⟨_, rfl⟩
            obtain ⟨B, hB⟩ : ∃ B, B = coC C lo.toNat M := ⟨_, rfl⟩
            rw [← hA] at hle hc1
            rw [← hB] at hle hc2
            obtain ⟨D, hD⟩ : ∃ D, D = C.take (wd.toNat + 1) := ⟨_, rfl⟩
            rw [← hD] at hc1 hc2
            have hDl : D.length = min (wd.toNat + 1) C.length := by rw [hD, List.length_take]
            have hDr : ∀ W, Below w.heap.size w W → IRow W p D := fun W h => by rw [hD]; exact (hC0.out W h).take _
            obtain ⟨k, hk⟩ : ∃ k, k = D.length := ⟨_, rfl⟩
            have HK1 : Hid (∀ W, Below w.heap.size w W → ∀ (q1 : Option Addr) d1, IRow W q1 (toI L) → Calls Try.prog 14 #[.slice p k c, .slice q1 L.length d1, .int .i64 lo] W fun e w' => e = .returned (.tuple #[.int .i64 (A : Int), .bool true]) ∧ Below W.heap.size W w') := Lib.hid fun W h q1 d1 h1 => by
              have := rcost_any p q1 c d1 D (toI L) lo W (hDr W h) h1 (by omega) (by rw [toI_len]; omega)
              rw [hc1, toI_len, ← hk] at this
              exact this
            have HK2 : Hid (∀ W, Below w.heap.size w W → Calls Try.prog 14 #[.slice p k c, .slice q (toI M).length d, .int .i64 lo] W fun e w' => e = .returned (.tuple #[.int .i64 (B : Int), .bool true]) ∧ Below W.heap.size W w') := Lib.hid fun W h => by
              have := rcost_any p q c d D (toI M) lo W (hDr W h) (hX0.out W h) (by omega) (by omega)
              rw [hc2, ← hk] at this
              exact this
            have hab3 : (A : Int) < (B : Int) ∨ ((A : Int) = (B : Int) ∧ (L.length : Int) ≤ ((toI M).length : Int)) := by
              rw [toI_len]
              rcases Nat.lt_or_ge A B with h | h
              · exact .inl (by omega)
              · have h2 : A = B := by omega
                have := hle.2 h2.symm
                exact .inr ⟨by omega, by omega⟩
            have hll2 : (toI M).length ≤ 200 := g4
            obtain ⟨Y, hY⟩ : ∃ Y, Y = toI M := ⟨_, rfl⟩
            rw [← hY] at HK2 hab3 HRR hll2
            have hYr : ∀ W, Below w.heap.size w W → True := fun _ _ => trivial
            rw [← hY]
            by_cases hcl : wd + 1 < (C.length : Int)
            · have hk2 : (k : Int) = wd + 1 := by omega
              have hpre : ∀ w, (Instr.slice 22 (.slice p C.length c) none (some (.int .i64 (wd + 1))) none).run Try.prog w = .ok (.slice p k c) w := fun w => by
                have := pre_any p C.length c k (by omega) w
                rwa [hk2] at this
              rcases hab3 with h | ⟨h, h2⟩
              · clear hcs hrr hC hX hrl hbd hr hab hle hc1 hc2 hA hB hD hDl hDr hk hk2 hX0 hY hYr a2 a3 a4 a5 a6 a7 a8
                go_enter Try.func4, Try.ntmps4
                go_wp2_with fail
                refine HA.out.mono ?_
                rintro e w0 ⟨rfl, hb0⟩
                go_wp2_with fail
                refine (HCH.out _ hb0).mono ?_
                rintro e w1 ⟨⟨q1, d1, rfl, hl1, -⟩, hb1⟩
                have hw1 := hb0.trans (hb1.mono hb0.size)
                go_wp2_with fail
                refine (HRR.out w1 hw1).mono ?_
                rintro e w2 ⟨rfl, hb2⟩
                have hw2 := hw1.trans (hb2.mono hw1.size)
                have hl2 := hl1.below hb2
                go_wp2_with fail
                refine (HNUM.out _).mono ?_
                rintro e w3 ⟨rfl, hb3⟩
                have hw3 := hw2.trans (hb3.mono hw2.size)
                have hl3 := hl2.below hb3
                clear hl1 hl2
                go_wp2_with fail
                refine (HRL.out w3 q1 d1 hl3).mono ?_
                rintro e w4 ⟨rfl, hb4⟩
                have hw4 := hw3.trans (hb4.mono hw3.size)
                have hl4 := hl3.below hb4
                clear hl3
                go_wp2_with fail
                refine (HK1.out w4 hw4 q1 d1 hl4).mono ?_
                rintro e w5 ⟨rfl, hb5⟩
                have hw5 := hw4.trans (hb5.mono hw4.size)
                clear hl4
                go_wp2_with fail
                refine (HK2.out w5 hw5).mono ?_
                rintro e w6 ⟨rfl, hb6⟩
                have hw6 := hw5.trans (hb6.mono hw5.size)
                go_wp2
                go_ret
                exact ⟨rfl, hw6⟩
              · obtain rfl : A = B := by omega
                clear hcs hrr hC hX hrl hbd hr hab hle hc1 hc2 hA hB hD hDl hDr hk hk2 hX0 hY hYr a2 a3 a4 a5 a6 a7 a8 h
                go_enter Try.func4, Try.ntmps4
                go_wp2_with fail
                refine HA.out.mono ?_
                rintro e w0 ⟨rfl, hb0⟩
                go_wp2_with fail
                refine (HCH.out _ hb0).mono ?_
                rintro e w1 ⟨⟨q1, d1, rfl, hl1, -⟩, hb1⟩
                have hw1 := hb0.trans (hb1.mono hb0.size)
                go_wp2_with fail
                refine (HRR.out w1 hw1).mono ?_
                rintro e w2 ⟨rfl, hb2⟩
                have hw2 := hw1.trans (hb2.mono hw1.size)
                have hl2 := hl1.below hb2
                go_wp2_with fail
                refine (HNUM.out _).mono ?_
                rintro e w3 ⟨rfl, hb3⟩
                have hw3 := hw2.trans (hb3.mono hw2.size)
                have hl3 := hl2.below hb3
                clear hl1 hl2
                go_wp2_with fail
                refine (HRL.out w3 q1 d1 hl3).mono ?_
                rintro e w4 ⟨rfl, hb4⟩
                have hw4 := hw3.trans (hb4.mono hw3.size)
                have hl4 := hl3.below hb4
                clear hl3
                go_wp2_with fail
                refine (HK1.out w4 hw4 q1 d1 hl4).mono ?_
                rintro e w5 ⟨rfl, hb5⟩
                have hw5 := hw4.trans (hb5.mono hw4.size)
                clear hl4
                go_wp2_with fail
                refine (HK2.out w5 hw5).mono ?_
                rintro e w6 ⟨rfl, hb6⟩
                have hw6 := hw5.trans (hb6.mono hw5.size)
                go_wp2
                go_ret
                exact ⟨rfl, hw6⟩
            · obtain rfl : k = C.length := by omega
              rcases hab3 with h | ⟨h, h2⟩
              · clear hcs hrr hC hX hrl hbd hr hab hle hc1 hc2 hA hB hD hDl hDr hk hX0 hY hYr a2 a3 a4 a5 a6 a7 a8
                go_enter Try.func4, Try.ntmps4
                go_wp2_with fail
                refine HA.out.mono ?_
                rintro e w0 ⟨rfl, hb0⟩
                go_wp2_with fail
                refine (HCH.out _ hb0).mono ?_
                rintro e w1 ⟨⟨q1, d1, rfl, hl1, -⟩, hb1⟩
                have hw1 := hb0.trans (hb1.mono hb0.size)
                go_wp2_with fail
                refine (HRR.out w1 hw1).mono ?_
                rintro e w2 ⟨rfl, hb2⟩
                have hw2 := hw1.trans (hb2.mono hw1.size)
                have hl2 := hl1.below hb2
                go_wp2_with fail
                refine (HNUM.out _).mono ?_
                rintro e w3 ⟨rfl, hb3⟩
                have hw3 := hw2.trans (hb3.mono hw2.size)
                have hl3 := hl2.below hb3
                clear hl1 hl2
                go_wp2_with fail
                refine (HRL.out w3 q1 d1 hl3).mono ?_
                rintro e w4 ⟨rfl, hb4⟩
                have hw4 := hw3.trans (hb4.mono hw3.size)
                have hl4 := hl3.below hb4
                clear hl3
                go_wp2_with fail
                refine (HK1.out w4 hw4 q1 d1 hl4).mono ?_
                rintro e w5 ⟨rfl, hb5⟩
                have hw5 := hw4.trans (hb5.mono hw4.size)
                clear hl4
                go_wp2_with fail
                refine (HK2.out w5 hw5).mono ?_
                rintro e w6 ⟨rfl, hb6⟩
                have hw6 := hw5.trans (hb6.mono hw5.size)
                go_wp2
                go_ret
                exact ⟨rfl, hw6⟩
              · obtain rfl : A = B := by omega
                clear hcs hrr hC hX hrl hbd hr hab hle hc1 hc2 hA hB hD hDl hDr hk hX0 hY hYr a2 a3 a4 a5 a6 a7 a8 h
                go_enter Try.func4, Try.ntmps4
                go_wp2_with fail
                refine HA.out.mono ?_
                rintro e w0 ⟨rfl, hb0⟩
                go_wp2_with fail
                refine (HCH.out _ hb0).mono ?_
                rintro e w1 ⟨⟨q1, d1, rfl, hl1, -⟩, hb1⟩
                have hw1 := hb0.trans (hb1.mono hb0.size)
                go_wp2_with fail
                refine (HRR.out w1 hw1).mono ?_
                rintro e w2 ⟨rfl, hb2⟩
                have hw2 := hw1.trans (hb2.mono hw1.size)
                have hl2 := hl1.below hb2
                go_wp2_with fail
                refine (HNUM.out _).mono ?_
                rintro e w3 ⟨rfl, hb3⟩
                have hw3 := hw2.trans (hb3.mono hw2.size)
                have hl3 := hl2.below hb3
                clear hl1 hl2
                go_wp2_with fail
                refine (HRL.out w3 q1 d1 hl3).mono ?_
                rintro e w4 ⟨rfl, hb4⟩
                have hw4 := hw3.trans (hb4.mono hw3.size)
                have hl4 := hl3.below hb4
                clear hl3
                go_wp2_with fail
                refine (HK1.out w4 hw4 q1 d1 hl4).mono ?_
                rintro e w5 ⟨rfl, hb5⟩
                have hw5 := hw4.trans (hb5.mono hw4.size)
                clear hl4
                go_wp2_with fail
                refine (HK2.out w5 hw5).mono ?_
                rintro e w6 ⟨rfl, hb6⟩
                have hw6 := hw5.trans (hb6.mono hw5.size)
                go_wp2
                go_ret
                exact ⟨rfl, hw6⟩
      · clear hC hX
        rcases g0' with g1 | ⟨g1, g2⟩
        · skip
          go_enter Try.func4, Try.ntmps4
          go_wp2_with fail
          refine HA.out.mono ?_
          rintro e w0 ⟨rfl, hb0⟩
          go_wp2
          go_ret
          exact ⟨rfl, hb0⟩
        · skip
          go_enter Try.func4, Try.ntmps4
          go_wp2_with fail
          refine HA.out.mono ?_
          rintro e w0 ⟨rfl, hb0⟩
          go_wp2
          go_ret
          exact ⟨rfl, hb0⟩
    · clear hC hX
      rcases g0' with g1 | ⟨g1, g2⟩
      · skip
        go_enter Try.func4, Try.ntmps4
        go_wp2_with fail
        refine HA.out.mono ?_
        rintro e w0 ⟨rfl, hb0⟩
        go_wp2
        go_ret
        exact ⟨rfl, hb0⟩
      · skip
        go_enter Try.func4, Try.ntmps4
        go_wp2_with fail
        refine HA.out.mono ?_
        rintro e w0 ⟨rfl, hb0⟩
        go_wp2
        go_ret
        exact ⟨rfl, hb0⟩
end Go.Proofs.Ytnmcgboafdglbaa
