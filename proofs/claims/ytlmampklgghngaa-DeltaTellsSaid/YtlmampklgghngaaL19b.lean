/-
  DeltaTells as a walk: it hands back true, for every input, if the program's Of and Level hand back what they should. No condition besides.
-/
import Derived.Test.YtlmampklgghngaaL18
import Derived.Test.YtlmampklgghngaaReg9
set_option linter.unusedSimpArgs false
set_option linter.unusedVariables false
namespace Go.Proofs.Ytlmampklgghngaa
open Go Go.RowKit Go.Sort M

/-- What each operation of the statement that compares hands back. -/
def dtD (A B : List Rt) (X Y : List Ch) (va vb vk vh vl vg : Value) (i : Nat) (v : Value) (W : World) : Prop :=
  match i with
  | 1 => ∃ p' c', v = .slice p' A.length c' ∧ Row W p' (rcs A) ∧ (p' = none → c' = 0) ∧ A.length ≤ c'
  | 3 => ∃ p' c', v = .slice p' X.length c' ∧ Row W p' (ccs X)
  | 6 => ∃ p' c', v = .slice p' X.length c' ∧ Row W p' (ccs X)
  | 7 => v = .bool true
  | 8 => v = .bool true
  | 9 => v = va
  | 10 => v = vk
  | 11 => v = vh
  | 12 => v = vl
  | 13 => v = vg
  | 14 => ∃ p' c', v = .slice p' Y.length c' ∧ Row W p' (ccs Y)
  | 15 => v = va
  | 16 => v = vk
  | 17 => v = vh
  | 18 => v = vl
  | 19 => v = vg
  | 20 => ∃ p' c', v = .slice p' Y.length c' ∧ Row W p' (ccs Y)
  | 21 => v = .bool true
  | 22 => v = .bool true
  | 23 => v = .bool true
  | _ => True
theorem dtD_stable (A B : List Rt) (X Y : List Ch) (va vb vk vh vl vg : Value) : ∀ i v W W', Below W.heap.size W W' → dtD A B X Y va vb vk vh vl vg i v W → dtD A B X Y va vb vk vh vl vg i v W' := by
  intro i v W W' hb h
  unfold dtD at h ⊢
  split at h
  all_goals first
    | (obtain ⟨p, c, e, h1, h2⟩ := h; exact ⟨p, c, e, h1.below hb, h2⟩)
    | (obtain ⟨p, c, e, h1⟩ := h; exact ⟨p, c, e, h1.below hb⟩)
    | exact h
    | trivial
set_option maxHeartbeats 4000000 in
set_option maxRecDepth 100000 in
theorem dtell_walk (HO : OfC) (HL : LevelC) (p q : Option Addr) (c d : Nat) (A B : List Rt) (kh kl : Nat) (kn hop low high : Int) (w : World) (hR : Row w p (rcs A)) (hR2 : Row w q (rcs B)) (hg : ∀ x ∈ A, x.k.good) (hg2 : ∀ x ∈ B, x.k.good) (ha : W64 kh) (hb : W64 kl) (hL : A.length ≤ maxLen) (hL2 : B.length ≤ maxLen)
    (hcp : A.length ≤ c) (hcq : B.length ≤ d) (hpn : p = none → c = 0) (hqn : q = none → d = 0) :
    Calls Try.prog 3 #[.slice p A.length c, .slice q B.length d, .agg #[.int .u64 (kh : Int), .int .u64 (kl : Int), .int .i64 kn], .int .i64 hop, .int .i64 low, .int .i64 high] w fun e w' => e = .returned (.bool true) ∧ Below w.heap.size w w' := by
  have HA := Lib.hid (fun w => alive19_any HO w)
  unfold maxLen at hL hL2
  by_cases g1 : A.length ≤ 30
  · by_cases g2 : B.length ≤ 30
    · have hkg : (⟨kh, kl, kn⟩ : Ky).good := ⟨ha, hb⟩
      have hA0 : Hid (∀ W, Below w.heap.size w W → Row W p (rcs A)) := Lib.hid fun W h => hR.below h
      have hB0 : Hid (∀ W, Below w.heap.size w W → Row W q (rcs B)) := Lib.hid fun W h => hR2.below h
      have h1 := fun W p' c' (e1 : Row W p' (rcs A)) (e2 : Below w.heap.size w W) (e3 : p' = none → c' = 0) (e4 : A.length ≤ c') => HO p' q c' d A B W e1 (hR2.below e2) hg hg2 e3 hqn e4 hcq (by omega) (by omega)
      have h2 := fun W (e2 : Below w.heap.size w W) => rof19_any p q c d A B W (hR.below e2) (hR2.below e2) (by omega) (by omega)
      have h3 := fun W (e2 : Below w.heap.size w W) => HL p c A ⟨kh, kl, kn⟩ hop low high W (hR.below e2) hg hkg hpn hcp (by omega)
      have h4 := fun W (e2 : Below w.heap.size w W) => rlevel19_any p c A ⟨kh, kl, kn⟩ hop low high W (hR.below e2) hg hkg (by omega)
      have hx : (ofS (sortR A) (sortR B)).length < 1048576 := by
        have e1 := sortR_len A
        have e2 := sortR_len B
        have e3 := nodup_le (M := keysR (sortR A ++ sortR B)) (of_nodup (sortR A) (sortR B)) fun k hk => by
          obtain ⟨x, hx, rfl⟩ := List.mem_map.1 hk
          exact turn_keys ((mem_of _ _ _).1 hx).1
        unfold keysR at e3
        simp only [List.length_map, List.length_append] at e3
        omega
      have hgs : ∀ x ∈ sortR A, x.k.good := fun x hx => hg x (sortR_sub hx)
      have hy : (ofS (setS (sortR A) low high) (setS (lvlM (sortR A) ⟨kh, kl, kn⟩ hop) low high)).length < 1048576 := by
        have e0 := sortR_len A
        have hsrt := (sortR_mem A).1
        have e1 := setS_len (sortR A) low high hgs
        have e2 := setS_len (lvlM (sortR A) ⟨kh, kl, kn⟩ hop) low high (lvl_good hgs hkg hsrt hop)
        have hol : (outS (sortR A) ⟨kh, kl, kn⟩).length ≤ (sortR A).length := List.length_filter_le _ _
        have hMl : (lvlM (sortR A) ⟨kh, kl, kn⟩ hop).length ≤ 31 := by
          unfold lvlM
          split
          · have h1 := (intoS_perm ⟨⟨kh, kl, kn⟩, hop⟩ (outS_sorted ⟨kh, kl, kn⟩ hsrt)).length_eq
            have h2 : (outS (outS (sortR A) ⟨kh, kl, kn⟩) ⟨kh, kl, kn⟩).length ≤ (outS (sortR A) ⟨kh, kl, kn⟩).length := List.length_filter_le _ _
            simp only [List.length_cons] at h1
            omega
          · omega
        have e3 := nodup_le (M := keysR (setS (sortR A) low high ++ setS (lvlM (sortR A) ⟨kh, kl, kn⟩ hop) low high)) (of_nodup _ _) fun k hk => by
          obtain ⟨x, hx, rfl⟩ := List.mem_map.1 hk
          exact turn_keys ((mem_of _ _ _).1 hx).1
        unfold keysR at e3
        simp only [List.length_map, List.length_append] at e3
        omega
      obtain ⟨X, hX⟩ : ∃ X, X = ofS (sortR A) (sortR B) := ⟨_, rfl⟩
      obtain ⟨Y, hY⟩ : ∃ Y, Y = ofS (setS (sortR A) low high) (setS (lvlM (sortR A) ⟨kh, kl, kn⟩ hop) low high) := ⟨_, rfl⟩
      rw [← hX] at h1 h2 hx
      rw [← hY] at h3 h4 hy
      unfold kyA at h3 h4
      simp only at h3 h4
      have h5 := fun W p d q d' (h1 : Row W p (ccs X)) (h2 : Row W q (ccs X)) => same19_any p q d d' X W h1 h2 hx
      have h6 := fun W p d q d' (h1 : Row W p (ccs Y)) (h2 : Row W q (ccs Y)) => same19_any p q d d' Y W h1 h2 hy
      have H1 := Lib.hid h1
      have H2 := Lib.hid h2
      have H3 := Lib.hid h3
      have H4 := Lib.hid h4
      have H5 := Lib.hid h5
      have H6 := Lib.hid h6
      clear h1 h2 h3 h4 h5 h6 hX hY hx hy hR hR2 hg hg2 ha hb hkg hgs hcp hcq hpn hqn
      go_enter Try.func3, Try.ntmps3
      go_wp2_with fail
      refine (HA.out _).mono ?_
      rintro e w0 ⟨rfl, hb0⟩
      have b0 : w0.cell? ⟨w.heap.size, 0, none⟩ = some (.int .u64 (kh : Int)) := by
        rw [hb0.cell (by simp <;> omega)]
        first | assumption | (simp [go_sem]; done) | (simp [go_sem, *]; done)
      have b1 : w0.cell? ⟨w.heap.size, 1, none⟩ = some (.int .u64 (kl : Int)) := by
        rw [hb0.cell (by simp <;> omega)]
        first | assumption | (simp [go_sem]; done) | (simp [go_sem, *]; done)
      have b2 : w0.cell? ⟨w.heap.size, 2, none⟩ = some (.int .i64 kn) := by
        rw [hb0.cell (by simp <;> omega)]
        first | assumption | (simp [go_sem]; done) | (simp [go_sem, *]; done)
      have hw0 : Below w.heap.size w w0 := Below.trans (by go_grown) (hb0.mono (by simp))
      have hz0 : w.heap.size < w0.heap.size := by have := hb0.size; simp at this; omega
      clear hb0
      go_wp2_with fail
      have kg := cell_grow
      refine wp_region_noPanic ?_
      generalize hNQ : NoPanic _ = NQ
      refine region_eff9 [0, 2, 4, 5] [] [(1, 29, []), (3, 31, [(1, 29)]), (6, 34, []), (7, 35, [(3, 31), (6, 34)]), (8, 36, [(7, 35)]), (9, 37, [(8, 36)]), (10, 38, [(8, 36)]), (11, 39, [(8, 36)]), (12, 40, [(8, 36)]), (13, 41, [(8, 36)]), (14, 42, [(8, 36), (9, 37), (10, 38), (11, 39), (12, 40), (13, 41)]), (15, 43, [(8, 36)]), (16, 44, [(8, 36)]), (17, 45, [(8, 36)]), (18, 46, [(8, 36)]), (19, 47, [(8, 36)]), (20, 48, [(8, 36), (15, 43), (16, 44), (17, 45), (18, 46), (19, 47)]), (21, 49, [(8, 36), (14, 42), (20, 48)]), (22, 50, [(8, 36), (21, 49)]), (23, 12, [(22, 50)])] []
        (dtD A B X Y (.slice p A.length c) (.slice q B.length d) (.agg #[.int .u64 (kh : Int), .int .u64 (kl : Int), .int .i64 kn]) (.int .i64 hop) (.int .i64 low) (.int .i64 high)) (dtD_stable _ _ _ _ _ _ _ _ _ _) (by kernel_rfl) (by rw [← hNQ]; exact fun _ _ _ h => h) (by kernel_rfl) (by kernel_rfl) (by kernel_rfl) ?_
      simp only [pickL, List.filterMap_cons, List.filterMap_nil, List.getElem?_toArray, List.getElem?_cons_succ, List.getElem?_cons_zero]
      repeat (any_goals (quiet_step (fail)))
      refine wpQuiet_nil ?_
      refine wpQuiet_nil ?_
      clear kg
      refine ⟨by rfl, ⟨?_, ?_, ?_, ?_, ?_, ?_, ?_, ?_, ?_, ?_, ?_, ?_, ?_, ?_, ?_, ?_, ?_, ?_, ?_, ?_, trivial⟩, ?_⟩
      · skip
        intro W hW K hK o ho
        injection ho with ho
        subst ho
        refine eff_on rfl ?_
        refine wp_append_arg18 _ rfl A p c rfl (hA0.out W (hw0.trans (hW.mono hw0.size))) (by omega) ?_
        intro p' c' w' hb' hr hn hc
        exact hK _ _ hb' ⟨p', c', rfl, hr, hn, hc⟩
      · skip
        intro W hW v1 h1 K
        obtain ⟨p', c', rfl, hr, hn, hc⟩ := h1
        go_simp
        intro hK o ho
        injection ho with ho
        subst ho
        go_simp
        go_at_call 9
        refine (H1.out _ _ _ hr (hw0.trans (hW.mono hw0.size)) hn hc).mono ?_
        rintro e w3 ⟨p3, c3, rfl, ho3, hb3⟩
        exact hK _ _ hb3 ⟨p3, c3, rfl, Row.of_own ho3⟩
      · skip
        intro W hW K
        go_simp
        intro hK o ho
        injection ho with ho
        subst ho
        go_simp
        go_at_call 10
        refine (H2.out _ (hw0.trans (hW.mono hw0.size))).mono ?_
        rintro e w3 ⟨p3, c3, rfl, ho3, hb3⟩
        exact hK _ _ hb3 ⟨p3, c3, rfl, Row.of_own ho3⟩
      · skip
        intro W hW v3 h3 v6 h6 K
        obtain ⟨p3, c3, rfl, hr3⟩ := h3
        obtain ⟨p6, c6, rfl, hr6⟩ := h6
        go_simp
        intro hK o ho
        injection ho with ho
        subst ho
        go_simp
        go_at_call 8
        refine (H5.out _ _ _ _ _ hr3 hr6).mono ?_
        rintro e w3 ⟨rfl, hb3⟩
        exact hK _ _ hb3 rfl
      · skip
        intro W hW v7 h7 K
        obtain rfl : v7 = _ := h7
        go_simp
        intro hK o ho
        injection ho with ho
        subst ho
        go_simp
        exact hK _ _ (Below.refl _ _) rfl
      · skip
        intro W hW v8 h8 K
        obtain rfl : v8 = _ := h8
        go_simp
        intro hK o ho
        injection ho with ho
        subst ho
        go_simp
        exact hK _ _ (Below.refl _ _) rfl
      · skip
        intro W hW v8 h8 K
        obtain rfl : v8 = _ := h8
        have b0 := (hW.cell (p := ⟨w.heap.size, 0, none⟩) hz0).trans b0
        have b1 := (hW.cell (p := ⟨w.heap.size, 1, none⟩) hz0).trans b1
        have b2 := (hW.cell (p := ⟨w.heap.size, 2, none⟩) hz0).trans b2
        go_simp
        intro hK o ho
        injection ho with ho
        subst ho
        go_simp
        exact hK _ _ (Below.refl _ _) rfl
      · skip
        intro W hW v8 h8 K
        obtain rfl : v8 = _ := h8
        go_simp
        intro hK o ho
        injection ho with ho
        subst ho
        go_simp
        exact hK _ _ (Below.refl _ _) rfl
      · skip
        intro W hW v8 h8 K
        obtain rfl : v8 = _ := h8
        go_simp
        intro hK o ho
        injection ho with ho
        subst ho
        go_simp
        exact hK _ _ (Below.refl _ _) rfl
      · skip
        intro W hW v8 h8 K
        obtain rfl : v8 = _ := h8
        go_simp
        intro hK o ho
        injection ho with ho
        subst ho
        go_simp
        exact hK _ _ (Below.refl _ _) rfl
      · skip
        intro W hW v8 h8 v9 h9 v10 h10 v11 h11 v12 h12 v13 h13 K
        obtain rfl : v8 = _ := h8
        obtain rfl : v9 = _ := h9
        obtain rfl : v10 = _ := h10
        obtain rfl : v11 = _ := h11
        obtain rfl : v12 = _ := h12
        obtain rfl : v13 = _ := h13
        go_simp
        intro hK o ho
        injection ho with ho
        subst ho
        go_simp
        go_at_call 11
        refine (H3.out _ (hw0.trans (hW.mono hw0.size))).mono ?_
        rintro e w3 ⟨p3, c3, rfl, ho3, hb3⟩
        exact hK _ _ hb3 ⟨p3, c3, rfl, Row.of_own ho3⟩
      · skip
        intro W hW v8 h8 K
        obtain rfl : v8 = _ := h8
        go_simp
        intro hK o ho
        injection ho with ho
        subst ho
        go_simp
        exact hK _ _ (Below.refl _ _) rfl
      · skip
        intro W hW v8 h8 K
        obtain rfl : v8 = _ := h8
        have b0 := (hW.cell (p := ⟨w.heap.size, 0, none⟩) hz0).trans b0
        have b1 := (hW.cell (p := ⟨w.heap.size, 1, none⟩) hz0).trans b1
        have b2 := (hW.cell (p := ⟨w.heap.size, 2, none⟩) hz0).trans b2
        go_simp
        intro hK o ho
        injection ho with ho
        subst ho
        go_simp
        exact hK _ _ (Below.refl _ _) rfl
      · skip
        intro W hW v8 h8 K
        obtain rfl : v8 = _ := h8
        go_simp
        intro hK o ho
        injection ho with ho
        subst ho
        go_simp
        exact hK _ _ (Below.refl _ _) rfl
      · skip
        intro W hW v8 h8 K
        obtain rfl : v8 = _ := h8
        go_simp
        intro hK o ho
        injection ho with ho
        subst ho
        go_simp
        exact hK _ _ (Below.refl _ _) rfl
      · skip
        intro W hW v8 h8 K
        obtain rfl : v8 = _ := h8
        go_simp
        intro hK o ho
        injection ho with ho
        subst ho
        go_simp
        exact hK _ _ (Below.refl _ _) rfl
      · skip
        intro W hW v8 h8 v15 h15 v16 h16 v17 h17 v18 h18 v19 h19 K
        obtain rfl : v8 = _ := h8
        obtain rfl : v15 = _ := h15
        obtain rfl : v16 = _ := h16
        obtain rfl : v17 = _ := h17
        obtain rfl : v18 = _ := h18
        obtain rfl : v19 = _ := h19
        go_simp
        intro hK o ho
        injection ho with ho
        subst ho
        go_simp
        go_at_call 12
        refine (H4.out _ (hw0.trans (hW.mono hw0.size))).mono ?_
        rintro e w3 ⟨p3, c3, rfl, ho3, hb3⟩
        exact hK _ _ hb3 ⟨p3, c3, rfl, Row.of_own ho3⟩
      · skip
        intro W hW v8 h8 v14 h14 v20 h20 K
        obtain rfl : v8 = _ := h8
        obtain ⟨p3, c3, rfl, hr3⟩ := h14
        obtain ⟨p6, c6, rfl, hr6⟩ := h20
        go_simp
        intro hK o ho
        injection ho with ho
        subst ho
        go_simp
        go_at_call 8
        refine (H6.out _ _ _ _ _ hr3 hr6).mono ?_
        rintro e w3 ⟨rfl, hb3⟩
        exact hK _ _ hb3 rfl
      · skip
        intro W hW v8 h8 v21 h21 K
        obtain rfl : v8 = _ := h8
        obtain rfl : v21 = _ := h21
        go_simp
        intro hK o ho
        injection ho with ho
        subst ho
        go_simp
        exact hK _ _ (Below.refl _ _) rfl
      · skip
        intro W hW v22 h22 K
        obtain rfl : v22 = _ := h22
        go_simp
        intro hK o ho
        injection ho with ho
        subst ho
        go_simp
        exact hK _ _ (Below.refl _ _) rfl
      · intro W hW v1 h1 v3 h3 v6 h6 v7 h7 v8 h8 v9 h9 v10 h10 v11 h11 v12 h12 v13 h13 v14 h14 v15 h15 v16 h16 v17 h17 v18 h18 v19 h19 v20 h20 v21 h21 v22 h22 v23 h23
        obtain rfl : v23 = _ := h23
        have hwW := hw0.trans (hW.mono hw0.size)
        generalize hB : Act.put _ (some 50) v22 = b
        have hz : b.tmps.size = 51 := by rw [← hB]; simp only [put_size]; rfl
        have hd : b.defers = [] := by rw [← hB]; rfl
        clear hW h1 h3 h6 h7 h8 h9 h10 h11 h12 h13 h14 h15 h16 h17 h18 h19 h20 h21 h22 hB
        show wpList _ _ _ _ _ _
        simp only [pickL, List.filterMap_nil]
        subst hNQ
        go_wp2_with fail
        refine NoPanic.normal ?_
        go_wp2
        refine bodyPost_ret (results_tmp rfl _ _ _) hd ?_
        exact ⟨by simp [Act.put, hz], hwW⟩
    · clear hR hR2 hg hg2
      go_enter Try.func3, Try.ntmps3
      go_wp2_with fail
      refine (HA.out _).mono ?_
      rintro e w0 ⟨rfl, hb0⟩
      have hw0 : Below w.heap.size w w0 := Below.trans (by go_grown) (hb0.mono (by simp))
      go_wp2
      go_ret
      exact ⟨rfl, hw0⟩
  · clear hR hR2 hg hg2
    go_enter Try.func3, Try.ntmps3
    go_wp2_with fail
    refine (HA.out _).mono ?_
    rintro e w0 ⟨rfl, hb0⟩
    have hw0 : Below w.heap.size w w0 := Below.trans (by go_grown) (hb0.mono (by simp))
    go_wp2
    go_ret
    exact ⟨rfl, hw0⟩
end Go.Proofs.Ytlmampklgghngaa
