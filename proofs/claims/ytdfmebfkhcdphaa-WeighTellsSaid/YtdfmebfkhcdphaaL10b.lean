/-
  WeighTells as a walk: it hands back true, for every input. No condition but that the row's length is one.
-/
import Derived.Test.YtdfmebfkhcdphaaL10
set_option linter.unusedSimpArgs false
set_option linter.unusedVariables false
namespace Go.Proofs.Ytdfmebfkhcdphaa
open Go.RowKit Go.Sort M

set_option maxHeartbeats 2000000 in
theorem weighTells_walk (total least : Int) (p : Option Addr) (c : Nat) (X : List Nat) (x : Nat) (w : World) (hX : Row w p (fcs X)) (hl : X.length ≤ maxLen) :
    Calls Try.prog 3 #[.int .i64 total, .int .i64 least, .slice p X.length c, .float .f64 x] w fun e w' => e = .returned (.bool true) ∧ Below w.heap.size w w' := by
  have HA := Lib.hid alive10_any
  unfold maxLen at hl
  by_cases h250 : 250 < X.length
  · generalize X.length = n at *
    clear hX
    go_enter Try.func3, Try.ntmps3
    go_wp2_with fail
    refine (HA.out _).mono ?_
    rintro e0 w0 ⟨rfl, hb0⟩
    have hw0 : Below w.heap.size w w0 := by
      refine Below.trans ?_ (hb0.mono ?_)
      · go_grown
      · go_size
    go_wp2
    go_ret
    exact ⟨rfl, by go_grown⟩
  · have hn : X.length ≤ 1000000000 := by omega
    have hs := fun q d wx h => shares_both total least q d X wx h hn
    have ht := fun wx hb => rshares_both total least p c X wx (hX.below (w' := wx) hb) hn
    have hxl := shX_len total least X
    have hi := fun q q' d d' wx h h' => samei_any q q' d d' (shX total least X) (shX total least X) wx (by omega) (by omega) h h'
    have hN := num10_any (shE total least X.length)
    obtain ⟨L, hL⟩ : ∃ L, L = shX total least X := ⟨_, rfl⟩
    rw [← hL] at hs ht hi hxl
    clear hL
    obtain ⟨er, her⟩ : ∃ er, er = shE total least X.length := ⟨_, rfl⟩
    rw [← her] at hs ht hN
    clear her
    rw [show decide (L = L) = true by simp] at hi
    have hW := weight_any x
    have hR := rweight_any x
    have hu := wtN_le x
    generalize wtN x = u at hW hR hu
    obtain ⟨r, hr, hg⟩ := one_over (u + 1) (by omega) (by omega)
    have hadd : ∀ t w, (binOp .add t (.float .f64 (fl u)) (.float .f64 4607182418800017408)).run Try.prog w = .ok (.float .f64 (fl (u + 1))) w := fun t w => run_float_arith w .add t .f64 _ _ _ (by rw [← fl_one]; exact add_fl u 1 (by omega))
    have hdiv : ∀ t w, (binOp .quo t (.float .f64 4607182418800017408) (.float .f64 (fl (u + 1)))).run Try.prog w = .ok (.float .f64 r) w := fun t w => run_float_arith w .quo t .f64 _ _ _ hr
    have hgt : (FloatKind.f64.format.order r 0 == some .gt) = true := hg
    have heq : (FloatKind.f64.format.order (fl u) (floatOfInt .f64 (u : Int)) == some .eq) = true := by
      rw [floatOfInt_nat]
      exact (eql_fl u u (by omega) (by omega)).trans (by simp)
    clear hr hg
    generalize fl (u + 1) = v1 at hadd hdiv
    generalize fl u = v at hW hadd heq
    obtain ⟨i0, hi0, iz0, iz1, iz2⟩ := info_parts infoF
    have HS := Lib.hid hs
    have HT := Lib.hid ht
    have HI := Lib.hid hi
    have HN := Lib.hid hN
    have HW := Lib.hid hW
    have HR := Lib.hid hR
    have HADD := Lib.hid hadd
    have HDIV := Lib.hid hdiv
    have HX := Lib.hid hX
    have hfl := fcs_len X
    have hf1 := fcs_one' X
    generalize hD : fcs X = D at *
    generalize X.length = n at *
    clear hs ht hi hN hW hR hadd hdiv hX hD
    cases p with
    | none =>
      have hn0 : n = 0 ∧ D = [] := by
        rcases HX.out with h | ⟨g, o, e, -⟩
        · rw [h] at hfl; exact ⟨by simpa using hfl.symm, h⟩
        · cases e
      obtain ⟨rfl, rfl⟩ := hn0
      go_enter Try.func3, Try.ntmps3
      go_wp2_with fail
      refine (HA.out _).mono ?_
      rintro e0 w0 ⟨rfl, hb0⟩
      have hw0 : Below w.heap.size w w0 := by
        refine Below.trans ?_ (hb0.mono ?_)
        · go_grown
        · go_size
      have hrow : Row w0 none [] := .inl rfl
      go_wp2_with fail
      refine (HS.out none 0 w0 hrow).mono ?_
      rintro e w4 ⟨q4, d4, rfl, h4, hb4⟩
      have hw4 := hw0.trans (hb4.mono hw0.size)
      have hz4 := hw4.size
      clear hb4 hrow hw0
      go_wp2_with fail
      refine (HT.out w4 hw4).mono ?_
      rintro e w5 ⟨q5, d5, rfl, h5, hb5⟩
      have h45 := h4.below hb5
      have hw5 := hw4.trans (hb5.mono hz4)
      have hz5 := hw5.size
      clear hb5 h4 hw4
      go_wp2_with fail
      refine (HW.out _).mono ?_
      rintro e w6 ⟨rfl, hb6⟩
      have h46 := h45.below hb6
      have h56 := h5.below hb6
      have hw6 := hw5.trans (hb6.mono hz5)
      have hz6 := hw6.size
      clear hb6 h45 h5 hw5
      go_wp2_with fail
      refine (HI.out q4 q5 d4 d5 _ h46 h56).mono ?_
      rintro e w7 ⟨rfl, hb7⟩
      have hw7 := hw6.trans (hb7.mono hz6)
      have hz7 := hw7.size
      clear hb7 h46 h56 hw6
      go_wp2_with fail
      refine (HN.out _).mono ?_
      rintro e w8 ⟨rfl, hb8⟩
      have hw8 := hw7.trans (hb8.mono hz7)
      have hz8 := hw8.size
      clear hb8 hw7
      go_wp2_with fail
      refine (HR.out _).mono ?_
      rintro e w9 ⟨rfl, hb9⟩
      have hw9 := hw8.trans (hb9.mono hz8)
      clear hb9 hw8
      go_wp2_with (first | rw [HADD.out] | rw [HDIV.out] | fail)
      go_ret
      exact ⟨rfl, hw9⟩
    | some ad =>
      have hcell : ∀ wx, Below w.heap.size w wx → ∀ j u, D[j]? = some u → wx.cell? (ad.add j) = some u := by
        intro wx hb j u hu
        rcases HX.out.below hb with h | ⟨g, o, e, hg, hc⟩
        · rw [h] at hu; simp at hu
        · injection e with e
          subst e
          have := hc j u hu
          rwa [show (⟨g, o, none⟩ : Addr).add j = ⟨g, o + j, none⟩ by unfold Addr.add; split <;> simp_all] at *
      have HC := Lib.hid hcell
      clear hcell
      go_enter Try.func3, Try.ntmps3
      go_wp2_with fail
      refine (HA.out _).mono ?_
      rintro e0 w0 ⟨rfl, hb0⟩
      have hw0 : Below w.heap.size w w0 := by
        refine Below.trans ?_ (hb0.mono ?_)
        · go_grown
        · go_size
      have hz0 := hw0.size
      go_wp2_with (at_builtin; go_loud (refine wpList_append_own _ rfl (.const (.slice none 0 0)) (.tmp 27) 22 rfl w.heap.size 23 i0 _ 1 8 Try.underlying22 hi0 iz0 iz1 iz2 rfl (by decide) _ _ _ rfl (World.ownsRow_nil _ _ _ _) ad n c D rfl (by rw [hfl, Nat.mul_one]) (HC.out _ hw0) hf1 (by unfold maxLen; omega) (by omega) (by omega) ?_))
      intro v3 w3 hown3 hg3 _
      try simp only [Nat.zero_add, List.nil_append] at hown3
      obtain ⟨q, d, rfl⟩ := own_slice hown3
      have hrow := Row.of_own hown3
      have hw3 : Below w.heap.size w w3 := hw0.grown hg3 (by omega) (fun j hj => by cases hj)
      clear hown3 hg3
      go_wp2_with fail
      refine (HS.out q d w3 hrow).mono ?_
      rintro e w4 ⟨q4, d4, rfl, h4, hb4⟩
      have hw4 := hw3.trans (hb4.mono hw3.size)
      have hz4 := hw4.size
      clear hb4 hrow hw3
      go_wp2_with fail
      refine (HT.out w4 hw4).mono ?_
      rintro e w5 ⟨q5, d5, rfl, h5, hb5⟩
      have h45 := h4.below hb5
      have hw5 := hw4.trans (hb5.mono hz4)
      have hz5 := hw5.size
      clear hb5 h4 hw4
      go_wp2_with fail
      refine (HW.out _).mono ?_
      rintro e w6 ⟨rfl, hb6⟩
      have h46 := h45.below hb6
      have h56 := h5.below hb6
      have hw6 := hw5.trans (hb6.mono hz5)
      have hz6 := hw6.size
      clear hb6 h45 h5 hw5
      go_wp2_with fail
      refine (HI.out q4 q5 d4 d5 _ h46 h56).mono ?_
      rintro e w7 ⟨rfl, hb7⟩
      have hw7 := hw6.trans (hb7.mono hz6)
      have hz7 := hw7.size
      clear hb7 h46 h56 hw6
      go_wp2_with fail
      refine (HN.out _).mono ?_
      rintro e w8 ⟨rfl, hb8⟩
      have hw8 := hw7.trans (hb8.mono hz7)
      have hz8 := hw8.size
      clear hb8 hw7
      go_wp2_with fail
      refine (HR.out _).mono ?_
      rintro e w9 ⟨rfl, hb9⟩
      have hw9 := hw8.trans (hb9.mono hz8)
      clear hb9 hw8
      go_wp2_with (first | rw [HADD.out] | rw [HDIV.out] | fail)
      go_ret
      exact ⟨rfl, hw9⟩
end Go.Proofs.Ytdfmebfkhcdphaa
