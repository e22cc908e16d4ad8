/-
  DeltaBack as a walk: it hands back true, for every input, if the program's Of hands back what it should. No condition besides.
-/
import Derived.Test.YtlmampklgghngaaL19c
set_option linter.unusedSimpArgs false
set_option linter.unusedVariables false
namespace Go.Proofs.Ytlmampklgghngaa
open Go Go.RowKit Go.Sort M

theorem neqP19 (a b : Nat) (n : Int) (w : World) : (binOp .neq 27 (.agg #[.int .u64 a, .int .u64 b, .int .i64 n]) (.agg #[.int .u64 a, .int .u64 b, .int .i64 n])).run Try.prog w = .ok (.bool false) w := by
  simp [go_sem]
set_option maxHeartbeats 4000000 in
set_option maxRecDepth 100000 in
theorem dback_walk (HO : OfC) (p q : Option Addr) (c d : Nat) (A B : List Rt) (w : World) (hR : Row w p (rcs A)) (hR2 : Row w q (rcs B)) (hg : ∀ x ∈ A, x.k.good) (hg2 : ∀ x ∈ B, x.k.good) (hL : A.length ≤ maxLen) (hL2 : B.length ≤ maxLen)
    (hcp : A.length ≤ c) (hcq : B.length ≤ d) (hpn : p = none → c = 0) (hqn : q = none → d = 0) :
    Calls Try.prog 6 #[.slice p A.length c, .slice q B.length d] w fun e w' => e = .returned (.bool true) ∧ Below w.heap.size w w' := by
  have HA := Lib.hid (fun w => alive19_any HO w)
  unfold maxLen at hL hL2
  by_cases g1 : A.length ≤ 40
  · by_cases g2 : B.length ≤ 40
    · have h1 := fun W (e2 : Below w.heap.size w W) => HO p q c d A B W (hR.below e2) (hR2.below e2) hg hg2 hpn hqn hcp hcq (by omega) (by omega)
      have h2 := fun W (e2 : Below w.heap.size w W) => HO q p d c B A W (hR2.below e2) (hR.below e2) hg2 hg hqn hpn hcq hcp (by omega) (by omega)
      have h3 := fun W (e2 : Below w.heap.size w W) => HO p p c c A A W (hR.below e2) (hR.below e2) hg hg hpn hpn hcp hcp (by omega) (by omega)
      have hxl := ofS_len (sortR A) (sortR B)
      have e1 := sortR_len A
      have e2 := sortR_len B
      have hsrt := of_sorted (sortR A) (sortR B)
      rw [of_back] at h2
      rw [of_self] at h3
      obtain ⟨X, hX⟩ : ∃ X, X = ofS (sortR A) (sortR B) := ⟨_, rfl⟩
      rw [← hX] at h1 h2 hxl hsrt
      have HLESS : Hid (∀ j (h : j < X.length) (h0 : 0 < j), lessB (X[j - 1]'(Nat.lt_of_le_of_lt (Nat.sub_le _ _) h)).k.h (X[j - 1]'(Nat.lt_of_le_of_lt (Nat.sub_le _ _) h)).k.l (X[j - 1]'(Nat.lt_of_le_of_lt (Nat.sub_le _ _) h)).k.n X[j].k.h X[j].k.l X[j].k.n = true) := Lib.hid fun j h h0 => List.pairwise_iff_getElem.1 hsrt (j - 1) j (by omega) h (by omega)
      have hbl : (X.map backC).length = X.length := List.length_map _
      have h2' : Hid (∀ W, Below w.heap.size w W → Calls Try.prog 9 #[.slice q B.length d, .slice p A.length c] W fun e w' => ∃ p' c', e = .returned (.slice p' X.length c') ∧ w'.ownsRow W.heap.size 42 5 (.slice p' X.length c') X.length (ccs (X.map backC)) ∧ Below W.heap.size W w') := Lib.hid fun W hW => by
        have := h2 W hW
        unfold NewChs at this
        rw [hbl] at this
        exact this
      have h3' : Hid (∀ W, Below w.heap.size w W → Calls Try.prog 9 #[.slice p A.length c, .slice p A.length c] W fun e w' => ∃ p' c', e = .returned (.slice p' 0 c') ∧ Below W.heap.size W w') := Lib.hid fun W hW => (h3 W hW).mono fun e w' ⟨p', c', e1, _, e3⟩ => ⟨p', c', e1, e3⟩
      have HBACK : Hid (∀ j (h : j < X.length) (h' : j < (X.map backC).length), (X.map backC)[j] = backC X[j]) := Lib.hid fun j h h' => by simp
      have HBL := Lib.hid hbl
      have H1 := Lib.hid h1
      have hXl : X.length ≤ 80 := by omega
      clear hR hR2 hg hg2 h1 h2 h3 hxl e1 e2 hsrt hX hbl hcp hcq hpn hqn
      go_enter Try.func6, Try.ntmps6
      go_wp2_with fail
      refine (HA.out _).mono ?_
      rintro e w1 ⟨rfl, hb1⟩
      have hw1 : Below w.heap.size w w1 := Below.trans (by go_grown) (hb1.mono (by simp))
      clear hb1
      go_wp2_with fail
      refine (H1.out _ hw1).mono ?_
      rintro e w2 ⟨p2, c2, rfl, ho2, hb2⟩
      have hw2 := hw1.trans (hb2.mono hw1.size)
      have hx2 := Row.of_own ho2
      clear ho2 hb2
      go_wp2_with fail
      refine (h2'.out _ hw2).mono ?_
      rintro e w3 ⟨p3, c3, rfl, ho3, hb3⟩
      have hw3 := hw2.trans (hb3.mono hw2.size)
      have hx3 := hx2.below hb3
      have hy3 := Row.of_own ho3
      clear ho3 hb3 hx2
      go_wp2_with fail
      refine (h3'.out _ hw3).mono ?_
      rintro e w4 ⟨p4, c4, rfl, hb4⟩
      have hw4 := hw3.trans (hb4.mono hw3.size)
      have HX := Lib.hid (hx3.below hb4)
      have HY := Lib.hid (hy3.below hb4)
      clear hx3 hy3 hb4
      go_wp2_with fail
      go_loopg [8] X.length (fun kx s8 wr => ∃ j : Nat, s8 = .int .i64 (j : Int) ∧ X.length - j ≤ kx ∧ j ≤ X.length ∧ Below w4.heap.size w4 wr)
      case atStart => exact ⟨0, rfl, by omega, by omega, Below.refl _ _⟩
      case round =>
        obtain ⟨j, rfl, k1, k2, hb⟩ := hrel
        by_cases hj : j < X.length
        · have hj2 : j < (X.map backC).length := by rw [HBL.out]; exact hj
          obtain ⟨g, o, rfl, hgr, x0, x1, x2, x3, x4⟩ := (HX.out.below hb).ch hj
          obtain ⟨g', o', rfl, hgr', y0, y1, y2, y3, y4⟩ := (HY.out.below hb).ch hj2
          rw [HBACK.out j hj hj2] at y0 y1 y2 y3 y4
          unfold backC at y0 y1 y2 y3 y4
          simp only at y0 y1 y2 y3 y4
          have hne := neqP19 X[j].k.h X[j].k.l X[j].k.n
          have i1 : (0 : Int) ≤ (j : Int) := by omega
          have i2 : (j : Int) < (X.length : Int) := by omega
          by_cases h0 : 0 < j
          · have hj1 : j - 1 < X.length := by omega
            obtain ⟨g2, o2, hgo, -, z0, z1, z2, -, -⟩ := (HX.out.below hb).ch hj1
            injection hgo with hgo
            injection hgo with e1 e2
            subst e1
            subst e2
            have hls := rless_any (X[j - 1]).k.h (X[j - 1]).k.l (X[j - 1]).k.n X[j].k.h X[j].k.l X[j].k.n
            rw [HLESS.out j hj h0] at hls
            have HLS := Lib.hid hls
            obtain ⟨i, rfl⟩ : ∃ i, j = i + 1 := ⟨j - 1, by omega⟩
            simp only [Nat.add_sub_cancel] at z0 z1 z2 HLS
            have i3 : (0 : Int) < ((i + 1 : Nat) : Int) := by omega
            generalize X[i + 1] = x at *
            generalize X[i] = z at *
            clear hls
            go_wp2_with fail
            have kg := cell_grow
            refine region_whole (by kernel_rfl) (by kernel_rfl) ?_
            repeat (any_goals (first | go_big_quiet_step ((exact HLS.out.at _ _ _)) | quiet_step ((exact HLS.out.at _ _ _))))
            refine wpQuiet_nil ?_
            clear kg
            intro w11 hb11
            obtain ⟨hc11, hf11⟩ := bcell hb11
            have hb11x := hb.trans (hb11.mono hb.size)
            clear hc11 hf11 hb11
            go_wp2
            go_roundg (X.length - (i + 1 + 1))
            case measure => omega
            case rel => exact ⟨i + 1 + 1, by go_num, by omega, by omega, hb11x⟩
          · have h00 : ¬ (0 : Int) < (j : Int) := by omega
            have d0 : decide ((0 : Int) < (j : Int)) = false := decide_eq_false h00
            have d1 : decide (0 < j) = false := decide_eq_false h0
            generalize X[j] = x at *
            go_wp2_with fail
            have kg := cell_grow
            refine region_whole (by kernel_rfl) (by kernel_rfl) ?_
            repeat (any_goals (first | go_big_quiet_step (fail) | quiet_step (fail)))
            refine wpQuiet_nil ?_
            clear kg
            intro w11 hb11
            obtain ⟨hc11, hf11⟩ := bcell hb11
            have hb11x := hb.trans (hb11.mono hb.size)
            clear hc11 hf11 hb11
            go_wp2
            go_roundg (X.length - (j + 1))
            case measure => omega
            case rel => exact ⟨j + 1, by go_num, by omega, by omega, hb11x⟩
        · have hw5 := hw4.trans (hb.mono hw4.size)
          go_wp2
          go_ret
          exact ⟨rfl, hw5⟩
    · skip
      clear hR hR2 hg hg2
      go_enter Try.func6, Try.ntmps6
      go_wp2_with fail
      refine (HA.out _).mono ?_
      rintro e w1 ⟨rfl, hb1⟩
      have hw1 : Below w.heap.size w w1 := Below.trans (by go_grown) (hb1.mono (by simp))
      go_wp2
      go_ret
      exact ⟨rfl, hw1⟩
  · skip
    clear hR hR2 hg hg2
    go_enter Try.func6, Try.ntmps6
    go_wp2_with fail
    refine (HA.out _).mono ?_
    rintro e w1 ⟨rfl, hb1⟩
    have hw1 : Below w.heap.size w w1 := Below.trans (by go_grown) (hb1.mono (by simp))
    go_wp2
    go_ret
    exact ⟨rfl, hw1⟩
end Go.Proofs.Ytlmampklgghngaa
