/-
  DeltaTurns as a walk: it hands back true, for every input, if the program's Of hands back what it should. No condition besides.
-/
import Derived.Test.YtlmampklgghngaaL19c
import Derived.Test.YtlmampklgghngaaReg9
set_option linter.unusedSimpArgs false
set_option linter.unusedVariables false
namespace Go.Proofs.Ytlmampklgghngaa
open Go Go.RowKit Go.Sort M

theorem step_len {N : List Rt} (h : Sorted N) (c : Ch) : (stepC N c).length ≤ N.length + 1 := by
  unfold stepC
  split
  · have h1 := (intoS_perm ⟨c.k, c.n⟩ h).length_eq
    have h2 : (outS N c.k).length ≤ N.length := List.length_filter_le _ _
    simp only [List.length_cons] at h1
    omega
  · have h2 : (outS N c.k).length ≤ N.length := List.length_filter_le _ _
    omega
theorem nn_next {L : List Rt} {i : Nat} (P : ∀ k (h : k < L.length), k < i → 0 ≤ L[k].v) (h0 : ∀ h : i < L.length, 0 ≤ L[i].v) : ∀ k (h : k < L.length), k < i + 1 → 0 ≤ L[k].v := by
  intro k h hk
  by_cases e : k = i
  · subst e; exact h0 h
  · exact P k h (by omega)
/-- What each operation of the statement that puts hands back. -/
def duD (B m : Nat) (M : List Rt) (i : Nat) (v : Value) (W : World) : Prop :=
  match i with
  | 12 => ∃ p c, v = .slice p m c ∧ W.ownsRow B 38 4 (.slice p m c) m (rcs M)
  | 13 => ∃ p c, v = .slice p m c ∧ W.ownsRow B 38 4 (.slice p m c) m (rcs M)
  | _ => True
theorem duD_stable (B m : Nat) (M : List Rt) : ∀ i v W W', Below W.heap.size W W' → duD B m M i v W → duD B m M i v W' := by
  intro i v W W' hb h
  unfold duD at h ⊢
  split at h
  all_goals first
    | (obtain ⟨p, c, e, h1⟩ := h; exact ⟨p, c, e, own_below h1 hb⟩)
    | trivial
set_option maxHeartbeats 4000000 in
set_option maxRecDepth 100000 in
theorem dturns_walk (HO : OfC) (p q : Option Addr) (c d : Nat) (A B : List Rt) (w : World) (hR : Row w p (rcs A)) (hR2 : Row w q (rcs B)) (hg : ∀ x ∈ A, x.k.good) (hg2 : ∀ x ∈ B, x.k.good) (hL : A.length ≤ maxLen) (hL2 : B.length ≤ maxLen)
    (hcp : A.length ≤ c) (hcq : B.length ≤ d) (hpn : p = none → c = 0) (hqn : q = none → d = 0) :
    Calls Try.prog 4 #[.slice p A.length c, .slice q B.length d] w fun e w' => e = .returned (.bool true) ∧ Below w.heap.size w w' := by
  have HA := Lib.hid (fun w => alive19_any HO w)
  unfold maxLen at hL hL2
  by_cases g1 : A.length ≤ 40
  · by_cases g2 : B.length ≤ 40
    · have hRA : Hid (∀ W, Below w.heap.size w W → Row W p (rcs A)) := Lib.hid fun W h => hR.below h
      have hRB : Hid (∀ W, Below w.heap.size w W → Row W q (rcs B)) := Lib.hid fun W h => hR2.below h
      have H1 := Lib.hid (fun W (e2 : Below w.heap.size w W) => HO p q c d A B W (hR.below e2) (hR2.below e2) hg hg2 hpn hqn hcp hcq (by omega) (by omega))
      have H2 := Lib.hid (fun W (e2 : Below w.heap.size w W) => rsorted_any p c A W (hR.below e2) (by omega))
      have H3 := Lib.hid (fun W (e2 : Below w.heap.size w W) => rsorted_any q d B W (hR2.below e2) (by omega))
      have hxl := ofS_len (sortR A) (sortR B)
      have e1 := sortR_len A
      have e2 := sortR_len B
      have HXL : (ofS (sortR A) (sortR B)).length ≤ 80 := by omega
      clear hR hR2 hg hg2 hcp hcq hpn hqn hxl
      go_enter Try.func4, Try.ntmps4
      go_wp2_with fail
      refine (HA.out _).mono ?_
      rintro e w1 ⟨rfl, hb1⟩
      have hw1 : Below w.heap.size w w1 := Below.trans (by go_grown) (hb1.mono (by simp))
      clear hb1
      go_wp2
      go_loopg [6] 40 (fun kx s6 wr => ∃ i : Nat, s6 = .int .i64 (i : Int) ∧ 40 - i ≤ kx ∧ i ≤ 40 ∧ Hid (∀ k (h : k < A.length), k < i → 0 ≤ A[k].v) ∧ Hid (∀ k (h : k < B.length), k < i → 0 ≤ B[k].v) ∧ Below w.heap.size w wr)
      case atStart => exact ⟨0, rfl, by omega, by omega, Lib.hid (fun k _ h => by omega), Lib.hid (fun k _ h => by omega), hw1⟩
      case round =>
        clear hw1
        obtain ⟨i, rfl, k1, k2, PA, PB, hb⟩ := hrel
        have i1 : (0 : Int) ≤ (i : Int) := by omega
        by_cases hja : i < A.length
        · have ja : (i : Int) < (A.length : Int) := by omega
          obtain ⟨g, o, rfl, hgr, -, -, -, x3⟩ := (hRA.out _ hb).rt hja
          by_cases ha0 : A[i].v < 0
          · generalize A[i].v = va at *
            go_wp2
            go_ret
            exact ⟨rfl, hb⟩
          · have PA2 := Lib.hid (nn_next PA.out fun _ => by omega)
            generalize A[i].v = va at *
            by_cases hjb : i < B.length
            · skip
              have jb : (i : Int) < (B.length : Int) := by omega
              obtain ⟨g', o', rfl, hgr', -, -, -, y3⟩ := (hRB.out _ hb).rt hjb
              by_cases hb0 : B[i].v < 0
              · generalize B[i].v = vb at *
                go_wp2
                go_ret
                exact ⟨rfl, hb⟩
              · have PB2 := Lib.hid (nn_next PB.out fun _ => by omega)
                generalize B[i].v = vb at *
                go_wp2
                go_roundg (40 - (i + 1))
                case measure => omega
                case rel => exact ⟨i + 1, by go_num, by omega, by omega, PA2, PB2, hb⟩
            · have jb : ¬ (i : Int) < (B.length : Int) := by omega
              have PB2 := Lib.hid (nn_next PB.out fun h => absurd h hjb)
              go_wp2
              go_roundg (40 - (i + 1))
              case measure => omega
              case rel => exact ⟨i + 1, by go_num, by omega, by omega, PA2, PB2, hb⟩
        · have ja : ¬ (i : Int) < (A.length : Int) := by omega
          have PA2 := Lib.hid (nn_next PA.out fun h => absurd h hja)
          by_cases hjb : i < B.length
          · skip
            have jb : (i : Int) < (B.length : Int) := by omega
            obtain ⟨g', o', rfl, hgr', -, -, -, y3⟩ := (hRB.out _ hb).rt hjb
            by_cases hb0 : B[i].v < 0
            · generalize B[i].v = vb at *
              go_wp2
              go_ret
              exact ⟨rfl, hb⟩
            · have PB2 := Lib.hid (nn_next PB.out fun _ => by omega)
              generalize B[i].v = vb at *
              go_wp2
              go_roundg (40 - (i + 1))
              case measure => omega
              case rel => exact ⟨i + 1, by go_num, by omega, by omega, PA2, PB2, hb⟩
          · have jb : ¬ (i : Int) < (B.length : Int) := by omega
            have pA : ∀ r ∈ sortR A, 0 ≤ r.v := fun r hr => by
              obtain ⟨k, hk, rfl⟩ := List.getElem_of_mem (sortR_sub hr)
              exact PA.out k hk (by omega)
            have pB : ∀ r ∈ sortR B, 0 ≤ r.v := fun r hr => by
              obtain ⟨k, hk, rfl⟩ := List.getElem_of_mem (sortR_sub hr)
              exact PB.out k hk (by omega)
            have HPP := Lib.hid (And.intro pA pB)
            have HSS : Hid (Sorted (sortR A) ∧ Sorted (sortR B)) := Lib.hid ⟨(sortR_mem A).1, (sortR_mem B).1⟩
            have HIJ := Lib.hid (And.intro hja hjb)
            clear pA pB PA PB PA2 hja hjb
            obtain ⟨SA, hSA⟩ : ∃ SA, SA = sortR A := ⟨_, rfl⟩
            obtain ⟨SB, hSB⟩ : ∃ SB, SB = sortR B := ⟨_, rfl⟩
            rw [← hSA] at H2 e1 HPP HSS
            rw [← hSB] at H3 e2 HPP HSS
            rw [← hSA, ← hSB] at H1 HXL
            clear hSA hSB
            have hmid := MidC.start (B := SB) HSS.out.1
            have HMID := Lib.hid hmid
            obtain ⟨X, hX⟩ : ∃ X, X = ofS SA SB := ⟨_, rfl⟩
            rw [← hX] at H1 HXL
            have HXE := Lib.hid hX
            clear hX hmid
            go_wp2_with fail
            refine (H1.out _ hb).mono ?_
            rintro e w2 ⟨p2, c2, rfl, ho2, hb2⟩
            have hw2 := hb.trans (hb2.mono hb.size)
            have hx2 := Row.of_own ho2
            clear ho2 hb2
            go_wp2_with fail
            refine (H2.out _ hw2).mono ?_
            rintro e w3 ⟨p3, c3, rfl, ho3, hb3⟩
            have hw3 := hw2.trans (hb3.mono hw2.size)
            have HX := Lib.hid (hx2.below hb3)
            have HO3 := Lib.hid ho3
            have hz2 := hw2.size
            have hz3 : w2.heap.size ≤ w3.heap.size := hb3.size
            clear hx2 ho3 hb3
            go_wp2_with fail
            go_loopg [8, 9, 10] X.length (fun kx s8 s9 s10 wr => ∃ (j n : Nat) (N : List Rt) (q' : Option Addr) (cq : Nat), s9 = .int .i64 (j : Int) ∧ s8 = .slice q' n cq ∧ X.length - j ≤ kx ∧ j ≤ X.length ∧ Hid (n = N.length) ∧ n ≤ 40 + j ∧ Hid (MidC SA SB j N) ∧
              Hid (wr.ownsRow w2.heap.size 38 4 (.slice q' n cq) n (rcs N)) ∧ Below w3.heap.size w3 wr)
            case atStart => exact ⟨0, SA.length, SA, p3, c3, rfl, rfl, by omega, by omega, Lib.hid rfl, by omega, HMID, HO3, Below.refl _ _⟩
            case round =>
              clear HO3 HMID
              obtain ⟨j, n, N, q', cq, rfl, rfl, m1, m2, HN, hn, HM, HON, hbj⟩ := hrel
              by_cases hj : j < X.length
              · obtain ⟨gx, ox, rfl, hgx, x0, x1, x2, x3, x4⟩ := (HX.out.below hbj).ch hj
                have hnow : (((getS N X[j].k).isSome = decide (0 ≤ X[j].o)) ∧ (∀ v, getS N X[j].k = some v → v = X[j].o) ∧ X[j].o ≠ X[j].n) ∧ MidC SA SB (j + 1) (stepC N X[j]) := by
                  have hx := HXE.out
                  subst hx
                  exact HM.out.now HSS.out.1 HSS.out.2 HPP.out.1 HPP.out.2 hj
                obtain ⟨⟨n1, n2, n3⟩, n4⟩ := hnow
                have hsl := step_len HM.out.sorted X[j]
                have hnl : N.length < 1048576 := by rw [← HN.out]; omega
                have hfn : ∀ W, Row W q' (rcs N) → Calls Try.prog 14 #[.slice q' n cq, kyV X[j].k] W fun e w' => e = .returned (.int .i64 (stI N X[j].k)) ∧ Below W.heap.size W w' := fun W h => by
                  have := find12_any q' cq N X[j].k W h hnl
                  rw [← HN.out] at this
                  exact this
                have hwo : ∀ W, Row W q' (rcs N) → Calls Try.prog 16 #[.slice q' n cq, kyV X[j].k] W fun e w' => NewRts W w' e (outS N X[j].k) := fun W h => by
                  have := without12_any q' cq N X[j].k W h hnl
                  rw [← HN.out] at this
                  exact this
                have hin : ∀ W, W.ownsRow w2.heap.size 38 4 (.slice q' n cq) n (rcs N) → Calls Try.prog 15 #[.slice q' n cq, rtA ⟨X[j].k, X[j].n⟩] W fun e w' => NewRts W w' e (intoS N ⟨X[j].k, X[j].n⟩) := fun W h => by
                  rw [HN.out] at h ⊢
                  exact into_any _ q' cq N _ W h hnl
                have hrow := Row.of_own HON.out
                have i3 : (0 : Int) ≤ (j : Int) := by omega
                have i4 : (j : Int) < (X.length : Int) := by omega
                generalize X[j] = x at *
                obtain ⟨⟨xh, xl, xn⟩, xo, xw⟩ := x
                unfold kyV at hfn hwo
                unfold rtA at hin
                simp only at x0 x1 x2 x3 x4 n1 n2 n3 hfn hwo hin
                have HST : Hid ((0 ≤ xw → stepC N ⟨⟨xh, xl, xn⟩, xo, xw⟩ = intoS N ⟨⟨xh, xl, xn⟩, xw⟩) ∧ (¬ 0 ≤ xw → stepC N ⟨⟨xh, xl, xn⟩, xo, xw⟩ = outS N ⟨xh, xl, xn⟩)) := Lib.hid ⟨fun h => if_pos h, fun h => if_neg h⟩
                obtain ⟨M, hM⟩ : ∃ M, M = stepC N ⟨⟨xh, xl, xn⟩, xo, xw⟩ := ⟨_, rfl⟩
                rw [← hM] at n4 hsl HST
                have HM4 := Lib.hid n4
                have hMl : M.length ≤ 40 + (j + 1) := by have := HN.out; omega
                have HML := Lib.hid hMl
                have HFN := Lib.hid hfn
                have HWO := Lib.hid hwo
                have HIN := Lib.hid hin
                clear hM n4 hsl hMl hfn hwo hin hnl
                cases hf : findS N ⟨xh, xl, xn⟩ with
                | some k =>
                  obtain ⟨hk, hgs⟩ := getS_find hf
                  have hv := n2 _ hgs
                  have hxo : 0 ≤ xo := by
                    rw [hgs] at n1
                    exact of_decide_eq_true n1.symm
                  obtain ⟨gn, on, hgo, hgn, -, -, -, y3⟩ := hrow.rt hk
                  rw [hv] at y3
                  have HST2 : Hid (stI N ⟨xh, xl, xn⟩ = (k : Int)) := Lib.hid (stI_some hf)
                  have hkn : (k : Int) < (n : Int) := by rw [HN.out]; omega
                  have hk0 : (0 : Int) ≤ (k : Int) := by omega
                  subst hgo
                  clear hf hgs hv n1 n2 hk
                  go_wp2_with fail
                  refine (HFN.out _ hrow).mono ?_
                  rintro e w5 ⟨rfl, hb5⟩
                  rw [HST2.out]
                  have x0 := (hb5.cell (p := ⟨gx, ox + j * 5, none⟩) hgx).trans x0
                  have x1 := (hb5.cell (p := ⟨gx, ox + j * 5 + 1, none⟩) hgx).trans x1
                  have x2 := (hb5.cell (p := ⟨gx, ox + j * 5 + 2, none⟩) hgx).trans x2
                  have x3 := (hb5.cell (p := ⟨gx, ox + j * 5 + 3, none⟩) hgx).trans x3
                  have x4 := (hb5.cell (p := ⟨gx, ox + j * 5 + 4, none⟩) hgx).trans x4
                  have hgx5 := Nat.lt_of_lt_of_le hgx hb5.size
                  have hb5j := hbj.trans (hb5.mono hbj.size)
                  have HON5 := Lib.hid (own_below HON.out hb5)
                  clear HON
                  have y3 := (hb5.cell (p := ⟨gn, on + k * 4 + 3, none⟩) hgn).trans y3
                  have hgn5 := Nat.lt_of_lt_of_le hgn hb5.size
                  clear hb5
                  go_wp2_with fail
                  have kg := cell_grow
                  refine region_whole (by kernel_rfl) (by kernel_rfl) ?_
                  repeat (any_goals (first | go_big_quiet_step (fail) | quiet_step (fail)))
                  refine wpQuiet_nil ?_
                  clear kg
                  intro w15 hb15
                  obtain ⟨hc15, hf15⟩ := bcell hb15
                  have x0 := (hb15.cell (p := ⟨gx, ox + j * 5, none⟩) hgx5).trans x0
                  have x1 := (hb15.cell (p := ⟨gx, ox + j * 5 + 1, none⟩) hgx5).trans x1
                  have x2 := (hb15.cell (p := ⟨gx, ox + j * 5 + 2, none⟩) hgx5).trans x2
                  have x4 := (hb15.cell (p := ⟨gx, ox + j * 5 + 4, none⟩) hgx5).trans x4
                  have hgx6 := Nat.lt_of_lt_of_le hgx5 hb15.size
                  have hb6j := hb5j.trans (hb15.mono hb5j.size)
                  have HON6 := Lib.hid (own_below HON5.out hb15)
                  have hz6 : w2.heap.size ≤ w15.heap.size := Nat.le_trans (by have := hb5j.size; omega) hb15.size
                  clear hc15 hf15 hb15 x3 HON5
                  by_cases hxw : 0 ≤ xw
                  · have hst := HST.out.1 hxw
                    rw [← hst] at HIN
                    have HIN2 := Lib.hid HIN.out
                    clear HIN hst HST HWO
                    go_wp2_with fail
                    clear n3 hxo
                    have kg := cell_grow
                    refine wp_region_noPanic ?_
                    generalize hNQ : NoPanic _ = NQ
                    refine region_eff9 [0, 1, 2, 3, 4, 6, 7, 8, 9] [5, 10, 11] [(12, 138, []), (13, 8, [(12, 138)])] [] (duD w2.heap.size M.length M) (duD_stable _ _ _) (by kernel_rfl) (by rw [← hNQ]; exact fun _ _ _ h => h) (by kernel_rfl) (by kernel_rfl) (by kernel_rfl) ?_
                    simp only [pickL, List.filterMap_cons, List.filterMap_nil, List.getElem?_toArray, List.getElem?_cons_succ, List.getElem?_cons_zero]
                    repeat (any_goals (quiet_step (fail)))
                    refine wpQuiet_nil ?_
                    clear kg
                    refine ⟨by rfl, ⟨?_, ?_, trivial⟩, ?_⟩
                    · intro W hW K hK o ho
                      injection ho with ho
                      subst ho
                      go_simp
                      go_at_call 15
                      refine (HIN2.out _ (own_below HON6.out hW)).mono ?_
                      rintro e w17 ⟨p7, c7, rfl, ho7, hb7⟩
                      exact hK _ _ hb7 ⟨p7, c7, rfl, own_le ho7 (Nat.le_trans hz6 hW.size)⟩
                    · intro W hW v12 h12 K hK o ho
                      injection ho with ho
                      subst ho
                      obtain ⟨p7, c7, rfl, ho7⟩ := h12
                      go_simp
                      exact hK _ _ (Below.refl _ _) ⟨p7, c7, rfl, ho7⟩
                    · intro W hW v12 h12 v13 h13
                      obtain ⟨p7, c7, rfl, -⟩ := h12
                      obtain ⟨p8, c8, rfl, ho8⟩ := h13
                      have HO8 := Lib.hid ho8
                      have hb7j := hb6j.trans (hW.mono hb6j.size)
                      clear hW ho8 x0 x1 x2 x4
                      show wpList _ _ _ _ _ _
                      simp only [pickL, List.filterMap_nil]
                      subst hNQ
                      go_wp2_with fail
                      refine NoPanic.normal ?_
                      go_wp2
                      go_roundg (X.length - (j + 1))
                      case measure => omega
                      case rel => exact ⟨j + 1, M.length, M, p8, c8, by go_num, rfl, by omega, by omega, Lib.hid rfl, HML.out, HM4, HO8, hb7j⟩
                  · have hst := HST.out.2 (by omega)
                    rw [← hst] at HWO
                    have HWO2 := Lib.hid HWO.out
                    clear HIN hst HST HWO
                    go_wp2_with fail
                    clear n3 hxo
                    refine (HWO2.out _ (Row.of_own HON6.out)).mono ?_
                    rintro e w17 ⟨p8, c8, rfl, ho8, hb7⟩
                    have HO8 := Lib.hid (own_le ho8 hz6)
                    have hb7j := hb6j.trans (hb7.mono hb6j.size)
                    clear ho8 hb7 x0 x1 x2 x4
                    go_wp2
                    go_roundg (X.length - (j + 1))
                    case measure => omega
                    case rel => exact ⟨j + 1, M.length, M, p8, c8, by go_num, rfl, by omega, by omega, Lib.hid rfl, HML.out, HM4, HO8, hb7j⟩
                | none =>
                  have hgs := getS_nofind hf
                  have hxo : ¬ 0 ≤ xo := by
                    rw [hgs] at n1
                    exact of_decide_eq_false n1.symm
                  have dxo : decide (0 ≤ xo) = false := decide_eq_false hxo
                  have hxo1 : xo < 0 := by omega
                  have HST2 : Hid (stI N ⟨xh, xl, xn⟩ = -1) := Lib.hid (stI_none hf)
                  clear hf hgs n1 n2
                  go_wp2_with fail
                  refine (HFN.out _ hrow).mono ?_
                  rintro e w5 ⟨rfl, hb5⟩
                  rw [HST2.out]
                  have x0 := (hb5.cell (p := ⟨gx, ox + j * 5, none⟩) hgx).trans x0
                  have x1 := (hb5.cell (p := ⟨gx, ox + j * 5 + 1, none⟩) hgx).trans x1
                  have x2 := (hb5.cell (p := ⟨gx, ox + j * 5 + 2, none⟩) hgx).trans x2
                  have x3 := (hb5.cell (p := ⟨gx, ox + j * 5 + 3, none⟩) hgx).trans x3
                  have x4 := (hb5.cell (p := ⟨gx, ox + j * 5 + 4, none⟩) hgx).trans x4
                  have hgx5 := Nat.lt_of_lt_of_le hgx hb5.size
                  have hb5j := hbj.trans (hb5.mono hbj.size)
                  have HON5 := Lib.hid (own_below HON.out hb5)
                  clear HON
                  clear hb5
                  go_wp2_with fail
                  have kg := cell_grow
                  refine region_whole (by kernel_rfl) (by kernel_rfl) ?_
                  repeat (any_goals (first | go_big_quiet_step (fail) | quiet_step (fail)))
                  refine wpQuiet_nil ?_
                  clear kg
                  intro w15 hb15
                  obtain ⟨hc15, hf15⟩ := bcell hb15
                  have x0 := (hb15.cell (p := ⟨gx, ox + j * 5, none⟩) hgx5).trans x0
                  have x1 := (hb15.cell (p := ⟨gx, ox + j * 5 + 1, none⟩) hgx5).trans x1
                  have x2 := (hb15.cell (p := ⟨gx, ox + j * 5 + 2, none⟩) hgx5).trans x2
                  have x4 := (hb15.cell (p := ⟨gx, ox + j * 5 + 4, none⟩) hgx5).trans x4
                  have hgx6 := Nat.lt_of_lt_of_le hgx5 hb15.size
                  have hb6j := hb5j.trans (hb15.mono hb5j.size)
                  have HON6 := Lib.hid (own_below HON5.out hb15)
                  have hz6 : w2.heap.size ≤ w15.heap.size := Nat.le_trans (by have := hb5j.size; omega) hb15.size
                  clear hc15 hf15 hb15 x3 HON5
                  by_cases hxw : 0 ≤ xw
                  · have hst := HST.out.1 hxw
                    rw [← hst] at HIN
                    have HIN2 := Lib.hid HIN.out
                    clear HIN hst HST HWO
                    go_wp2_with fail
                    clear n3 hxo
                    have kg := cell_grow
                    refine wp_region_noPanic ?_
                    generalize hNQ : NoPanic _ = NQ
                    refine region_eff9 [0, 1, 2, 3, 4, 6, 7, 8, 9] [5, 10, 11] [(12, 138, []), (13, 8, [(12, 138)])] [] (duD w2.heap.size M.length M) (duD_stable _ _ _) (by kernel_rfl) (by rw [← hNQ]; exact fun _ _ _ h => h) (by kernel_rfl) (by kernel_rfl) (by kernel_rfl) ?_
                    simp only [pickL, List.filterMap_cons, List.filterMap_nil, List.getElem?_toArray, List.getElem?_cons_succ, List.getElem?_cons_zero]
                    repeat (any_goals (quiet_step (fail)))
                    refine wpQuiet_nil ?_
                    clear kg
                    refine ⟨by rfl, ⟨?_, ?_, trivial⟩, ?_⟩
                    · intro W hW K hK o ho
                      injection ho with ho
                      subst ho
                      go_simp
                      go_at_call 15
                      refine (HIN2.out _ (own_below HON6.out hW)).mono ?_
                      rintro e w17 ⟨p7, c7, rfl, ho7, hb7⟩
                      exact hK _ _ hb7 ⟨p7, c7, rfl, own_le ho7 (Nat.le_trans hz6 hW.size)⟩
                    · intro W hW v12 h12 K hK o ho
                      injection ho with ho
                      subst ho
                      obtain ⟨p7, c7, rfl, ho7⟩ := h12
                      go_simp
                      exact hK _ _ (Below.refl _ _) ⟨p7, c7, rfl, ho7⟩
                    · intro W hW v12 h12 v13 h13
                      obtain ⟨p7, c7, rfl, -⟩ := h12
                      obtain ⟨p8, c8, rfl, ho8⟩ := h13
                      have HO8 := Lib.hid ho8
                      have hb7j := hb6j.trans (hW.mono hb6j.size)
                      clear hW ho8 x0 x1 x2 x4
                      show wpList _ _ _ _ _ _
                      simp only [pickL, List.filterMap_nil]
                      subst hNQ
                      go_wp2_with fail
                      refine NoPanic.normal ?_
                      go_wp2
                      go_roundg (X.length - (j + 1))
                      case measure => omega
                      case rel => exact ⟨j + 1, M.length, M, p8, c8, by go_num, rfl, by omega, by omega, Lib.hid rfl, HML.out, HM4, HO8, hb7j⟩
                  · have hst := HST.out.2 (by omega)
                    rw [← hst] at HWO
                    have HWO2 := Lib.hid HWO.out
                    clear HIN hst HST HWO
                    go_wp2_with fail
                    clear n3 hxo
                    refine (HWO2.out _ (Row.of_own HON6.out)).mono ?_
                    rintro e w17 ⟨p8, c8, rfl, ho8, hb7⟩
                    have HO8 := Lib.hid (own_le ho8 hz6)
                    have hb7j := hb6j.trans (hb7.mono hb6j.size)
                    clear ho8 hb7 x0 x1 x2 x4
                    go_wp2
                    go_roundg (X.length - (j + 1))
                    case measure => omega
                    case rel => exact ⟨j + 1, M.length, M, p8, c8, by go_num, rfl, by omega, by omega, Lib.hid rfl, HML.out, HM4, HO8, hb7j⟩
              · have hjx : j = X.length := by omega
                have hNB : N = SB := by
                  have hx := HXE.out
                  have hm := HM.out
                  rw [hjx, hx] at hm
                  exact hm.done HSS.out.2
                have HNB := Lib.hid hNB
                have hwj := hw3.trans (hbj.mono hw3.size)
                have hrow := Row.of_own HON.out
                have hsm : ∀ W s d', Row W q' (rcs N) → Row W s (rcs SB) → Calls Try.prog 17 #[.slice q' n cq, .slice s SB.length d'] W fun e w' => e = .returned (.bool true) ∧ Below W.heap.size W w' := fun W s d' h1 h2 => by
                  have := sameR_any q' s cq d' N SB W h1 h2 (by rw [← HN.out]; omega) (by omega)
                  rw [decide_eq_true HNB.out, ← HN.out] at this
                  exact this
                have HSM := Lib.hid hsm
                clear hNB hsm hjx
                go_wp2_with fail
                refine (H3.out _ hwj).mono ?_
                rintro e w5 ⟨p5, c5, rfl, ho5, hb5⟩
                have hw5 := hwj.trans (hb5.mono hwj.size)
                have hrow5 := hrow.below hb5
                have hs5 := Row.of_own ho5
                clear ho5 hb5 hrow
                go_wp2_with fail
                refine (HSM.out _ _ _ hrow5 hs5).mono ?_
                rintro e w6 ⟨rfl, hb6⟩
                have hw6 := hw5.trans (hb6.mono hw5.size)
                go_wp2
                go_ret
                exact ⟨rfl, hw6⟩
    · skip
      clear hR hR2 hg hg2
      go_enter Try.func4, Try.ntmps4
      go_wp2_with fail
      refine (HA.out _).mono ?_
      rintro e w1 ⟨rfl, hb1⟩
      have hw1 : Below w.heap.size w w1 := Below.trans (by go_grown) (hb1.mono (by simp))
      go_wp2
      go_ret
      exact ⟨rfl, hw1⟩
  · skip
    clear hR hR2 hg hg2
    go_enter Try.func4, Try.ntmps4
    go_wp2_with fail
    refine (HA.out _).mono ?_
    rintro e w1 ⟨rfl, hb1⟩
    have hw1 : Below w.heap.size w w1 := Below.trans (by go_grown) (hb1.mono (by simp))
    go_wp2
    go_ret
    exact ⟨rfl, hw1⟩
end Go.Proofs.Ytlmampklgghngaa
