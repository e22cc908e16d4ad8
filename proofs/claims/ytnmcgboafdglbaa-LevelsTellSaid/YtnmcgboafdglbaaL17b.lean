/-
  LevelsTell as a walk: it hands back true, for every input. No condition but that each row's length is at most its capacity.
-/
import Derived.Test.YtnmcgboafdglbaaL17
set_option linter.unusedSimpArgs false
set_option linter.unusedVariables false
namespace Go.Proofs.Ytnmcgboafdglbaa
open Go Go.RowKit Go.Sort M

set_option maxHeartbeats 2000000 in
set_option maxRecDepth 100000 in
theorem ltell_walk (p q : Option Addr) (c d : Nat) (wd lo mo st : Int) (C X : List Int) (w : World) (hC : IRow w p C) (hX : IRow w q X) (m1 : C.length ≤ maxLen) (m2 : X.length ≤ maxLen) (hwf : ∀ x ∈ X, (Lit.int .i64 x).wf = true) :
    Calls Try.prog 3 #[.int .i64 wd, .int .i64 lo, .int .i64 mo, .int .i64 st, .slice p C.length c, .slice q X.length d] w fun e w' => e = .returned (.bool true) ∧ Below w.heap.size w w' := by
  have HA := Lib.hid (alive17_any w)
  unfold maxLen at m1 m2
  by_cases g0 : (40 : Int) < wd ∧ wd ≤ 128
  · obtain ⟨g1, g2⟩ := g0
    clear hC hX
    go_enter Try.func3, Try.ntmps3
    go_wp2_with fail
    refine HA.out.mono ?_
    rintro e w0 ⟨rfl, hb0⟩
    go_wp2
    go_ret
    exact ⟨rfl, hb0⟩
  · have g0' : ¬ (40 : Int) < wd ∨ ((40 : Int) < wd ∧ ¬ wd ≤ 128) := by omega
    clear g0
    by_cases g3 : C.length ≤ 200
    · by_cases g4 : X.length ≤ 200
      · have hC0 : Hid (∀ W, Below w.heap.size w W → IRow W p C) := Lib.hid fun W h => hC.below h
        have hri := fun W (h : Below w.heap.size w W) => right_any q d X wd lo mo st W (hX.below h) (by omega) (fun x hx => (bounds_i64 (hwf x hx)).2)
        have hrr := fun W (h : Below w.heap.size w W) => rright_any q d X wd lo mo st W (hX.below h) (by omega) (fun x hx => (bounds_i64 (hwf x hx)).2)
        obtain ⟨r, hr⟩ : ∃ r, r = rightI wd lo mo st X := ⟨_, rfl⟩
        rw [← hr] at hri hrr
        have HRI := Lib.hid hri
        have HRR := Lib.hid hrr
        clear hri hrr hr hX hC
        cases hcs : chosen C wd lo mo st with
        | none =>
          have HCH : Hid (∀ W (p' : Option Addr) c', IRow W p' C → C.length ≤ c' → Calls Try.prog 8 #[.int .i64 wd, .int .i64 lo, .int .i64 mo, .int .i64 st, .slice p' C.length c'] W fun e w' => e = .returned (.tuple #[.slice none 0 0, .int .i64 1]) ∧ Below W.heap.size W w') := Lib.hid fun W p' c' h h2 => choose_none hcs h (by omega) h2
          have HRC : Hid (∀ W, Below w.heap.size w W → Calls Try.prog 9 #[.int .i64 wd, .int .i64 lo, .int .i64 mo, .int .i64 st, .slice p C.length c] W fun e w' => e = .returned (.tuple #[.slice none 0 0, .int .i64 1]) ∧ Below W.heap.size W w') := Lib.hid fun W h => rchoose_none hcs (hC0.out W h) (by omega)
          have HSAME : Hid (∀ W, IRow W none [] → IRow W none [] → Calls Try.prog 10 #[.slice none 0 0, .slice none 0 0] W fun e w' => e = .returned (.bool true) ∧ Below W.heap.size W w') := Lib.hid fun W h1 h2 => samei_any none none 0 0 [] [] W (by simp) (by simp) h1 h2
          have HNUM := Lib.hid (num17_any 1)
          clear hcs
          rcases g0' with g1 | ⟨g1, g2⟩
          · skip
            go_enter Try.func3, Try.ntmps3
            go_wp2_with fail
            refine HA.out.mono ?_
            rintro e w0 ⟨rfl, hb0⟩
            go_wp2_with (at_builtin; go_loud (refine wpList_append_ints17 rfl (.tmp 45) rfl w.heap.size C p c rfl (hC0.out w0 hb0) (by omega) hb0.size ?_))
            intro p1 c1 w1 hown1 hg1
            have hw1 : Below w.heap.size w w1 := hb0.trans (((Below.refl w0.heap.size w0).grown hg1 (Nat.le_refl _) (fun k e => by cases e)).mono hb0.size)
            have hcap1 := own_cap17 hown1
            have hr1 := IRow.of_own hown1
            clear hown1 hg1
            go_wp2_with fail
            refine (HCH.out _ p1 c1 hr1 hcap1).mono ?_
            rintro e w2 ⟨rfl, hb2⟩
            have hw2 := hw1.trans (hb2.mono hw1.size)
            clear hr1
            go_wp2_with fail
            refine (HRC.out _ hw2).mono ?_
            rintro e w3 ⟨rfl, hb3⟩
            have hw3 := hw2.trans (hb3.mono hw2.size)
            have hq2 : IRow w3 none [] := .inl rfl
            have hr2 : IRow w3 none [] := .inl rfl
            go_wp2_with fail
            refine (HSAME.out w3 hq2 hr2).mono ?_
            rintro e w4 ⟨rfl, hb4⟩
            have hw4 := hw3.trans (hb4.mono hw3.size)
            clear hq2 hr2
            go_wp2_with fail
            refine (HNUM.out _).mono ?_
            rintro e w5 ⟨rfl, hb5⟩
            have hw5 := hw4.trans (hb5.mono hw4.size)
            go_wp2_with fail
            refine (HRI.out w5 hw5).mono ?_
            rintro e w6 ⟨rfl, hb6⟩
            have hw6 := hw5.trans (hb6.mono hw5.size)
            go_wp2_with fail
            refine (HRR.out w6 hw6).mono ?_
            rintro e w7 ⟨rfl, hb7⟩
            have hw7 := hw6.trans (hb7.mono hw6.size)
            go_wp2
            go_ret
            exact ⟨ret_bool (by simp), hw7⟩
          · skip
            go_enter Try.func3, Try.ntmps3
            go_wp2_with fail
            refine HA.out.mono ?_
            rintro e w0 ⟨rfl, hb0⟩
            go_wp2_with (at_builtin; go_loud (refine wpList_append_ints17 rfl (.tmp 45) rfl w.heap.size C p c rfl (hC0.out w0 hb0) (by omega) hb0.size ?_))
            intro p1 c1 w1 hown1 hg1
            have hw1 : Below w.heap.size w w1 := hb0.trans (((Below.refl w0.heap.size w0).grown hg1 (Nat.le_refl _) (fun k e => by cases e)).mono hb0.size)
            have hcap1 := own_cap17 hown1
            have hr1 := IRow.of_own hown1
            clear hown1 hg1
            go_wp2_with fail
            refine (HCH.out _ p1 c1 hr1 hcap1).mono ?_
            rintro e w2 ⟨rfl, hb2⟩
            have hw2 := hw1.trans (hb2.mono hw1.size)
            clear hr1
            go_wp2_with fail
            refine (HRC.out _ hw2).mono ?_
            rintro e w3 ⟨rfl, hb3⟩
            have hw3 := hw2.trans (hb3.mono hw2.size)
            have hq2 : IRow w3 none [] := .inl rfl
            have hr2 : IRow w3 none [] := .inl rfl
            go_wp2_with fail
            refine (HSAME.out w3 hq2 hr2).mono ?_
            rintro e w4 ⟨rfl, hb4⟩
            have hw4 := hw3.trans (hb4.mono hw3.size)
            clear hq2 hr2
            go_wp2_with fail
            refine (HNUM.out _).mono ?_
            rintro e w5 ⟨rfl, hb5⟩
            have hw5 := hw4.trans (hb5.mono hw4.size)
            go_wp2_with fail
            refine (HRI.out w5 hw5).mono ?_
            rintro e w6 ⟨rfl, hb6⟩
            have hw6 := hw5.trans (hb6.mono hw5.size)
            go_wp2_with fail
            refine (HRR.out w6 hw6).mono ?_
            rintro e w7 ⟨rfl, hb7⟩
            have hw7 := hw6.trans (hb7.mono hw6.size)
            go_wp2
            go_ret
            exact ⟨ret_bool (by simp), hw7⟩
        | some L =>
          have hll := chosen_len hcs
          have HCH : Hid (∀ W (p' : Option Addr) c', IRow W p' C → C.length ≤ c' → Calls Try.prog 8 #[.int .i64 wd, .int .i64 lo, .int .i64 mo, .int .i64 st, .slice p' C.length c'] W fun e w' => (∃ q d, e = .returned (.tuple #[.slice q L.length d, .int .i64 0]) ∧ IRow w' q (toI L) ∧ L.length ≤ d) ∧ Below W.heap.size W w') := Lib.hid fun W p' c' h h2 => choose_some hcs h (by omega) h2
          have HRC : Hid (∀ W, Below w.heap.size w W → Calls Try.prog 9 #[.int .i64 wd, .int .i64 lo, .int .i64 mo, .int .i64 st, .slice p C.length c] W fun e w' => (∃ q d, e = .returned (.tuple #[.slice q L.length d, .int .i64 0]) ∧ IRow w' q (toI L)) ∧ Below W.heap.size W w') := Lib.hid fun W h => rchoose_some hcs (hC0.out W h) (by omega)
          have HSAME : Hid (∀ W (q1 q2 : Option Addr) d1 d2, IRow W q1 (toI L) → IRow W q2 (toI L) → Calls Try.prog 10 #[.slice q1 L.length d1, .slice q2 L.length d2] W fun e w' => e = .returned (.bool true) ∧ Below W.heap.size W w') := Lib.hid fun W q1 q2 d1 d2 h1 h2 => by
            have := samei_any q1 q2 d1 d2 (toI L) (toI L) W (by rw [toI_len]; omega) (by rw [toI_len]; omega) h1 h2
            rw [toI_len, decide_eq_true rfl] at this
            exact this
          have HNUM := Lib.hid (num17_any 0)
          clear hcs
          rcases g0' with g1 | ⟨g1, g2⟩
          · skip
            go_enter Try.func3, Try.ntmps3
            go_wp2_with fail
            refine HA.out.mono ?_
            rintro e w0 ⟨rfl, hb0⟩
            go_wp2_with (at_builtin; go_loud (refine wpList_append_ints17 rfl (.tmp 45) rfl w.heap.size C p c rfl (hC0.out w0 hb0) (by omega) hb0.size ?_))
            intro p1 c1 w1 hown1 hg1
            have hw1 : Below w.heap.size w w1 := hb0.trans (((Below.refl w0.heap.size w0).grown hg1 (Nat.le_refl _) (fun k e => by cases e)).mono hb0.size)
            have hcap1 := own_cap17 hown1
            have hr1 := IRow.of_own hown1
            clear hown1 hg1
            go_wp2_with fail
            refine (HCH.out _ p1 c1 hr1 hcap1).mono ?_
            rintro e w2 ⟨⟨q2, d2, rfl, hq2, -⟩, hb2⟩
            have hw2 := hw1.trans (hb2.mono hw1.size)
            clear hr1
            go_wp2_with fail
            refine (HRC.out _ hw2).mono ?_
            rintro e w3 ⟨⟨q3, d3, rfl, hr2⟩, hb3⟩
            have hw3 := hw2.trans (hb3.mono hw2.size)
            have hq2 := hq2.below hb3
            go_wp2_with fail
            refine (HSAME.out w3 q2 q3 d2 d3 hq2 hr2).mono ?_
            rintro e w4 ⟨rfl, hb4⟩
            have hw4 := hw3.trans (hb4.mono hw3.size)
            clear hq2 hr2
            go_wp2_with fail
            refine (HNUM.out _).mono ?_
            rintro e w5 ⟨rfl, hb5⟩
            have hw5 := hw4.trans (hb5.mono hw4.size)
            go_wp2_with fail
            refine (HRI.out w5 hw5).mono ?_
            rintro e w6 ⟨rfl, hb6⟩
            have hw6 := hw5.trans (hb6.mono hw5.size)
            go_wp2_with fail
            refine (HRR.out w6 hw6).mono ?_
            rintro e w7 ⟨rfl, hb7⟩
            have hw7 := hw6.trans (hb7.mono hw6.size)
            go_wp2
            go_ret
            exact ⟨ret_bool (by simp), hw7⟩
          · skip
            go_enter Try.func3, Try.ntmps3
            go_wp2_with fail
            refine HA.out.mono ?_
            rintro e w0 ⟨rfl, hb0⟩
            go_wp2_with (at_builtin; go_loud (refine wpList_append_ints17 rfl (.tmp 45) rfl w.heap.size C p c rfl (hC0.out w0 hb0) (by omega) hb0.size ?_))
            intro p1 c1 w1 hown1 hg1
            have hw1 : Below w.heap.size w w1 := hb0.trans (((Below.refl w0.heap.size w0).grown hg1 (Nat.le_refl _) (fun k e => by cases e)).mono hb0.size)
            have hcap1 := own_cap17 hown1
            have hr1 := IRow.of_own hown1
            clear hown1 hg1
            go_wp2_with fail
            refine (HCH.out _ p1 c1 hr1 hcap1).mono ?_
            rintro e w2 ⟨⟨q2, d2, rfl, hq2, -⟩, hb2⟩
            have hw2 := hw1.trans (hb2.mono hw1.size)
            clear hr1
            go_wp2_with fail
            refine (HRC.out _ hw2).mono ?_
            rintro e w3 ⟨⟨q3, d3, rfl, hr2⟩, hb3⟩
            have hw3 := hw2.trans (hb3.mono hw2.size)
            have hq2 := hq2.below hb3
            go_wp2_with fail
            refine (HSAME.out w3 q2 q3 d2 d3 hq2 hr2).mono ?_
            rintro e w4 ⟨rfl, hb4⟩
            have hw4 := hw3.trans (hb4.mono hw3.size)
            clear hq2 hr2
            go_wp2_with fail
            refine (HNUM.out _).mono ?_
            rintro e w5 ⟨rfl, hb5⟩
            have hw5 := hw4.trans (hb5.mono hw4.size)
            go_wp2_with fail
            refine (HRI.out w5 hw5).mono ?_
            rintro e w6 ⟨rfl, hb6⟩
            have hw6 := hw5.trans (hb6.mono hw5.size)
            go_wp2_with fail
            refine (HRR.out w6 hw6).mono ?_
            rintro e w7 ⟨rfl, hb7⟩
            have hw7 := hw6.trans (hb7.mono hw6.size)
            go_wp2
            go_ret
            exact ⟨ret_bool (by simp), hw7⟩
      · clear hC hX
        rcases g0' with g1 | ⟨g1, g2⟩
        · skip
          go_enter Try.func3, Try.ntmps3
          go_wp2_with fail
          refine HA.out.mono ?_
          rintro e w0 ⟨rfl, hb0⟩
          go_wp2
          go_ret
          exact ⟨rfl, hb0⟩
        · skip
          go_enter Try.func3, Try.ntmps3
          go_wp2_with fail
          refine HA.out.mono ?_
          rintro e w0 ⟨rfl, hb0⟩
          go_wp2
          go_ret
          exact ⟨rfl, hb0⟩
    · clear hC hX
      rcases g0' with g1 | ⟨g1, g2⟩
      · skip
        go_enter Try.func3, Try.ntmps3
        go_wp2_with fail
        refine HA.out.mono ?_
        rintro e w0 ⟨rfl, hb0⟩
        go_wp2
        go_ret
        exact ⟨rfl, hb0⟩
      · skip
        go_enter Try.func3, Try.ntmps3
        go_wp2_with fail
        refine HA.out.mono ?_
        rintro e w0 ⟨rfl, hb0⟩
        go_wp2
        go_ret
        exact ⟨rfl, hb0⟩
end Go.Proofs.Ytnmcgboafdglbaa
