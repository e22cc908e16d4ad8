/-
  HistoMore as a walk: it hands back true, for every input. No condition but that each row's length is at most its capacity.
-/
import Derived.Test.YtpmldedombiadaaL16
set_option linter.unusedSimpArgs false
set_option linter.unusedVariables false
namespace Go.Proofs.Ytpmldedombiadaa
open Go Go.RowKit Go.Sort M

set_option maxHeartbeats 2000000 in
set_option maxRecDepth 100000 in
theorem hmore_walk (p q : Option Addr) (c d : Nat) (C L : List Int) (low more : Int) (w : World) (hC : IRow w p C) (hL : IRow w q L) (hd : L.length ≤ d) (m1 : C.length ≤ maxLen) (m2 : L.length ≤ maxLen) :
    Calls Try.prog 4 #[.slice p C.length c, .slice q L.length d, .int .i64 low, .int .i64 more] w fun e w' => e = .returned (.bool true) ∧ Below w.heap.size w w' := by
  have HA := Lib.hid (alive16_any w)
  unfold maxLen at m1 m2
  by_cases g1 : C.length ≤ 200
  · by_cases g2 : L.length ≤ 60
    · have hc1 := fun w' (hb : Below w.heap.size w w') => cost_any p q c d C L low w' (hC.below hb) (hL.below hb) hd (by omega) (by omega)
      have hCC := fun w' (hb : Below w.heap.size w w') => hC.below hb
      have HL := Lib.hid hL
      obtain ⟨i0, hi0, iz0, iz1, iz2⟩ := info_parts infoI
      cases hR : costK C L low with
      | none =>
        rw [hR] at hc1
        have HC1 : Hid (∀ w', Below w.heap.size w w' → Calls Try.prog 7 #[.slice p C.length c, .slice q L.length d, .int .i64 low] w' fun e w'' => e = .returned (.tuple #[.int .i64 0, .bool false]) ∧ Below w'.heap.size w' w'') := Lib.hid hc1
        clear hR hc1 hCC hC hL
        go_enter Try.func4, Try.ntmps4
        go_wp2_with fail
        refine HA.out.mono ?_
        rintro e w0 ⟨rfl, hb0⟩
        go_wp2_with fail
        refine (HC1.out _ hb0).mono ?_
        rintro e w1 ⟨rfl, hb1⟩
        have hw1 := hb0.trans (hb1.mono hb0.size)
        clear HC1 hb1 hb0 HA
        go_wp2
        go_ret
        exact ⟨rfl, hw1⟩
      | some r =>
        rw [hR] at hc1
        have HC1 : Hid (∀ w', Below w.heap.size w w' → Calls Try.prog 7 #[.slice p C.length c, .slice q L.length d, .int .i64 low] w' fun e w'' => e = .returned (.tuple #[.int .i64 (r : Int), .bool true]) ∧ Below w'.heap.size w' w'') := Lib.hid hc1
        by_cases g3 : more ≤ low
        · clear hR hc1 hCC hC hL
          go_enter Try.func4, Try.ntmps4
          go_wp2_with fail
          refine HA.out.mono ?_
          rintro e w0 ⟨rfl, hb0⟩
          go_wp2_with fail
          refine (HC1.out _ hb0).mono ?_
          rintro e w1 ⟨rfl, hb1⟩
          have hw1 := hb0.trans (hb1.mono hb0.size)
          clear HC1 hb1 hb0 HA
          go_wp2
          go_ret
          exact ⟨rfl, hw1⟩
        · by_cases g4 : 128 < more
          · clear hR hc1 hCC hC hL
            go_enter Try.func4, Try.ntmps4
            go_wp2_with fail
            refine HA.out.mono ?_
            rintro e w0 ⟨rfl, hb0⟩
            go_wp2_with fail
            refine (HC1.out _ hb0).mono ?_
            rintro e w1 ⟨rfl, hb1⟩
            have hw1 := hb0.trans (hb1.mono hb0.size)
            clear HC1 hb1 hb0 HA
            go_wp2
            go_ret
            exact ⟨rfl, hw1⟩
          · have HINS := Lib.hid (fun h => ins_cost C more L low r (by omega) (by omega) h hR)
            clear hR hc1 hC hL
            go_enter Try.func4, Try.ntmps4
            go_wp2_with fail
            refine HA.out.mono ?_
            rintro e w0 ⟨rfl, hb0⟩
            go_wp2_with fail
            refine (HC1.out _ hb0).mono ?_
            rintro e w1 ⟨rfl, hb1⟩
            have hw1 := hb0.trans (hb1.mono hb0.size)
            clear HC1 hb1 hb0 HA
            go_wp2
            go_loopg [12, 13, 14] L.length (fun kx s12 s13 s14 wr => ∃ (i : Nat) (b : Bool) (N : List Int) (p4 : Option Addr) (c4 : Nat), s14 = .int .i64 (i : Int) ∧ L.length - i ≤ kx ∧ i ≤ L.length ∧ s13 = .bool b ∧ s12 = .slice p4 N.length c4 ∧ Hid (insR more L i b N) ∧ Hid (wr.ownsRow w.heap.size 3 1 (.slice p4 N.length c4) N.length (ics N)) ∧ Below w.heap.size w wr)
            case atStart => exact ⟨0, false, [], none, 0, rfl, by omega, by omega, rfl, rfl, Lib.hid (insR_start _ _), Lib.hid (World.ownsRow_nil _ _ _ _), hw1⟩
            case round =>
              clear hw1
              obtain ⟨i, b, N, p4, c4, rfl, h1, h2, rfl, rfl, HI, HO, hb⟩ := hrel
              have hNl := insR_len HI.out h2
              by_cases hi : i < L.length
              · obtain ⟨g, o, rfl, hg, z0⟩ := HL.out.at hi
                have x0 := (hb.cell (p := ⟨g, o + i, none⟩) hg).trans z0
                have hg2 := Nat.lt_of_lt_of_le hg hb.size
                have HIN := Lib.hid (fun (h : b = true) => insR_in (h ▸ HI.out) hi)
                have HNOW := Lib.hid (fun (h : b = false) => insR_now (h ▸ HI.out) hi)
                have HNOT := Lib.hid (fun (h : b = false) => insR_not (h ▸ HI.out) hi)
                obtain ⟨a, ha⟩ : ∃ a, a = L[i] := ⟨_, rfl⟩
                rw [← ha] at x0 z0 HIN HNOW HNOT
                have i1 : (0 : Int) ≤ (i : Int) := by omega
                have i2 : (i : Int) < (L.length : Int) := by omega
                clear ha
                by_cases e1 : a = more
                · have e2 : (a == more) = true := by simp [e1]
                  clear HIN HNOW HNOT e1
                  go_wp2
                  go_ret
                  exact ⟨rfl, hb⟩
                · have e2 : (a == more) = false := by simp [e1]
                  cases b with
                  | true =>
                    have HN := Lib.hid (HIN.out rfl e1)
                    clear HIN HNOW HNOT e1
                    have hz3 := hb.size
                    go_wp2_with (at_builtin; go_loud (refine wpList_append_own _ rfl (.tmp 75) (.tmp 80) 22 rfl w.heap.size 3 i0 _ 1 8 Try.underlying22 hi0 iz0 iz1 iz2 rfl (by decide) _ _ _ rfl (HO.out.alloc _) ⟨wr.heap.size, 0, none⟩ 1 1 [.int .i64 a] rfl rfl (one_new (by simp [go_sem])) (by simp [Value.oneCell']) (by unfold maxLen; omega) (by omega) (by simp; omega) ?_))
                    intro v3 w3 hown3 hg3 _
                    have hb3 : Below w.heap.size w w3 := (hb.alloc hb.size _).grown hg3 (by simp; omega) (fun j hj => (HO.out.lt j hj).1)
                    obtain ⟨N3, hN3⟩ : ∃ M, M = N ++ [a] := ⟨_, rfl⟩
                    have ho3 : w3.ownsRow w.heap.size 3 1 v3 N3.length (ics N3) := by
                      rw [hN3, ics_append, ics_one, List.length_append]
                      exact hown3
                    obtain ⟨p3, c3, rfl⟩ := own_slice ho3
                    have HO3 := Lib.hid ho3
                    have hl3 : N3.length = N.length + 1 := by rw [hN3, List.length_append]; rfl
                    have ll3 : N3.length ≤ 60 + 3 := by omega
                    have HNN3 := Lib.hid hN3
                    clear ho3 hown3 hg3 hN3 hl3
                    go_wp2
                    go_roundg (L.length - (i + 1))
                    case measure => omega
                    case rel => exact ⟨i + 1, true, N3, p3, c3, by go_num, by omega, by omega, rfl, rfl, by rw [HNN3.out]; exact HN, HO3, hb3⟩
                  | false =>
                    by_cases e3 : more < a
                    · have HN := Lib.hid (HNOW.out rfl e1 e3)
                      clear HIN HNOW HNOT e1
                      have hz3 := hb.size
                      go_wp2_with (at_builtin; go_loud (refine wpList_append_own _ rfl (.tmp 71) (.tmp 73) 22 rfl w.heap.size 3 i0 _ 1 8 Try.underlying22 hi0 iz0 iz1 iz2 rfl (by decide) _ _ _ rfl (HO.out.alloc _) ⟨wr.heap.size, 0, none⟩ 1 1 [.int .i64 more] rfl rfl (one_new (by simp [go_sem])) (by simp [Value.oneCell']) (by unfold maxLen; omega) (by omega) (by simp; omega) ?_))
                      intro v3 w3 hown3 hg3 _
                      have hb3 : Below w.heap.size w w3 := (hb.alloc hb.size _).grown hg3 (by simp; omega) (fun j hj => (HO.out.lt j hj).1)
                      obtain ⟨N3, hN3⟩ : ∃ M, M = N ++ [more] := ⟨_, rfl⟩
                      have ho3 : w3.ownsRow w.heap.size 3 1 v3 N3.length (ics N3) := by
                        rw [hN3, ics_append, ics_one, List.length_append]
                        exact hown3
                      obtain ⟨p3, c3, rfl⟩ := own_slice ho3
                      have HO3 := Lib.hid ho3
                      have hl3 : N3.length = N.length + 1 := by rw [hN3, List.length_append]; rfl
                      have ll3 : N3.length ≤ 60 + 3 := by omega
                      have HNN3 := Lib.hid hN3
                      clear ho3 hown3 hg3 hN3 hl3
                      have x0 := (hb3.cell (p := ⟨g, o + i, none⟩) hg).trans z0
                      have hg2 := Nat.lt_of_lt_of_le hg hb3.size
                      clear HO hb z0
                      have hz5 := hb3.size
                      go_wp2_with (at_builtin; go_loud (refine wpList_append_own _ rfl (.tmp 75) (.tmp 80) 22 rfl w.heap.size 3 i0 _ 1 8 Try.underlying22 hi0 iz0 iz1 iz2 rfl (by decide) _ _ _ rfl (HO3.out.alloc _) ⟨w3.heap.size, 0, none⟩ 1 1 [.int .i64 a] rfl rfl (one_new (by simp [go_sem])) (by simp [Value.oneCell']) (by unfold maxLen; omega) (by omega) (by simp; omega) ?_))
                      intro v5 w5 hown5 hg5 _
                      have hb5 : Below w.heap.size w w5 := (hb3.alloc hb3.size _).grown hg5 (by simp; omega) (fun j hj => (HO3.out.lt j hj).1)
                      obtain ⟨N5, hN5⟩ : ∃ M, M = N3 ++ [a] := ⟨_, rfl⟩
                      have ho5 : w5.ownsRow w.heap.size 3 1 v5 N5.length (ics N5) := by
                        rw [hN5, ics_append, ics_one, List.length_append]
                        exact hown5
                      obtain ⟨p5, c5, rfl⟩ := own_slice ho5
                      have HO5 := Lib.hid ho5
                      have hl5 : N5.length = N3.length + 1 := by rw [hN5, List.length_append]; rfl
                      have ll5 : N5.length ≤ 60 + 5 := by omega
                      have HNN5 := Lib.hid hN5
                      clear ho5 hown5 hg5 hN5 hl5
                      go_wp2
                      go_roundg (L.length - (i + 1))
                      case measure => omega
                      case rel => exact ⟨i + 1, true, N5, p5, c5, by go_num, by omega, by omega, rfl, rfl, by rw [HNN5.out, HNN3.out]; exact HN, HO5, hb5⟩
                    · have HN := Lib.hid (HNOT.out rfl e1 e3)
                      clear HIN HNOW HNOT e1
                      have hz3 := hb.size
                      go_wp2_with (at_builtin; go_loud (refine wpList_append_own _ rfl (.tmp 75) (.tmp 80) 22 rfl w.heap.size 3 i0 _ 1 8 Try.underlying22 hi0 iz0 iz1 iz2 rfl (by decide) _ _ _ rfl (HO.out.alloc _) ⟨wr.heap.size, 0, none⟩ 1 1 [.int .i64 a] rfl rfl (one_new (by simp [go_sem])) (by simp [Value.oneCell']) (by unfold maxLen; omega) (by omega) (by simp; omega) ?_))
                      intro v3 w3 hown3 hg3 _
                      have hb3 : Below w.heap.size w w3 := (hb.alloc hb.size _).grown hg3 (by simp; omega) (fun j hj => (HO.out.lt j hj).1)
                      obtain ⟨N3, hN3⟩ : ∃ M, M = N ++ [a] := ⟨_, rfl⟩
                      have ho3 : w3.ownsRow w.heap.size 3 1 v3 N3.length (ics N3) := by
                        rw [hN3, ics_append, ics_one, List.length_append]
                        exact hown3
                      obtain ⟨p3, c3, rfl⟩ := own_slice ho3
                      have HO3 := Lib.hid ho3
                      have hl3 : N3.length = N.length + 1 := by rw [hN3, List.length_append]; rfl
                      have ll3 : N3.length ≤ 60 + 3 := by omega
                      have HNN3 := Lib.hid hN3
                      clear ho3 hown3 hg3 hN3 hl3
                      go_wp2
                      go_roundg (L.length - (i + 1))
                      case measure => omega
                      case rel => exact ⟨i + 1, false, N3, p3, c3, by go_num, by omega, by omega, rfl, rfl, by rw [HNN3.out]; exact HN, HO3, hb3⟩
              · have hE := insR_end HI.out (by omega)
                obtain ⟨r2, hr2, hle⟩ := HINS.out hE.2
                have HE := Lib.hid hE.1
                cases b with
                | true =>
                  have HEND : Hid (costK C N low = some r2) := by
                    have := HE.out
                    rw [if_pos rfl] at this
                    rw [this]
                    exact Lib.hid hr2
                  clear hE hr2
                  have HCC := Lib.hid (cost_any p p4 c c4 C N low wr (hCC wr hb) (.of_own HO.out) (own_cap HO.out) (by omega) (by omega))
                  rw [HEND.out] at HCC
                  have HCC3 : Hid (Calls Try.prog 7 #[.slice p C.length c, .slice p4 N.length c4, .int .i64 low] wr fun e w' => e = .returned (.tuple #[.int .i64 (r2 : Int), .bool true]) ∧ Below wr.heap.size wr w') := Lib.hid HCC.out
                  clear HCC
                  go_wp2_with fail
                  refine HCC3.out.mono ?_
                  rintro e w9 ⟨rfl, hb9⟩
                  have hw9 := hb.trans (hb9.mono hb.size)
                  go_wp2
                  go_ret
                  exact ⟨rfl, hw9⟩
                | false =>
                  have HE2 : Hid (N ++ [more] = insL more L) := Lib.hid (by simpa using HE.out)
                  have HR2 := Lib.hid hr2
                  clear hE hr2
                  have hz3 := hb.size
                  go_wp2_with (at_builtin; go_loud (refine wpList_append_own _ rfl (.tmp 84) (.tmp 86) 22 rfl w.heap.size 3 i0 _ 1 8 Try.underlying22 hi0 iz0 iz1 iz2 rfl (by decide) _ _ _ rfl (HO.out.alloc _) ⟨wr.heap.size, 0, none⟩ 1 1 [.int .i64 more] rfl rfl (one_new (by simp [go_sem])) (by simp [Value.oneCell']) (by unfold maxLen; omega) (by omega) (by simp; omega) ?_))
                  intro v3 w3 hown3 hg3 _
                  have hb3 : Below w.heap.size w w3 := (hb.alloc hb.size _).grown hg3 (by simp; omega) (fun j hj => (HO.out.lt j hj).1)
                  obtain ⟨N3, hN3⟩ : ∃ M, M = N ++ [more] := ⟨_, rfl⟩
                  have ho3 : w3.ownsRow w.heap.size 3 1 v3 N3.length (ics N3) := by
                    rw [hN3, ics_append, ics_one, List.length_append]
                    exact hown3
                  obtain ⟨p3, c3, rfl⟩ := own_slice ho3
                  have HO3 := Lib.hid ho3
                  have hl3 : N3.length = N.length + 1 := by rw [hN3, List.length_append]; rfl
                  have ll3 : N3.length ≤ 60 + 3 := by omega
                  have HNN3 := Lib.hid hN3
                  clear ho3 hown3 hg3 hN3 hl3
                  have HEND : Hid (costK C N3 low = some r2) := by
                    rw [HNN3.out, HE2.out]
                    exact HR2
                  have HCC := Lib.hid (cost_any p p3 c c3 C N3 low w3 (hCC w3 hb3) (.of_own HO3.out) (own_cap HO3.out) (by omega) (by omega))
                  rw [HEND.out] at HCC
                  have HCC3 : Hid (Calls Try.prog 7 #[.slice p C.length c, .slice p3 N3.length c3, .int .i64 low] w3 fun e w' => e = .returned (.tuple #[.int .i64 (r2 : Int), .bool true]) ∧ Below w3.heap.size w3 w') := Lib.hid HCC.out
                  clear HCC
                  go_wp2_with fail
                  refine HCC3.out.mono ?_
                  rintro e w9 ⟨rfl, hb9⟩
                  have hw9 := hb3.trans (hb9.mono hb3.size)
                  go_wp2
                  go_ret
                  exact ⟨rfl, hw9⟩
    · have HA := HA
      clear hC hL
      go_enter Try.func4, Try.ntmps4
      go_wp2_with fail
      refine HA.out.mono ?_
      rintro e w0 ⟨rfl, hb0⟩
      go_wp2
      go_ret
      exact ⟨rfl, by go_grown⟩
  · clear hC hL
    go_enter Try.func4, Try.ntmps4
    go_wp2_with fail
    refine HA.out.mono ?_
    rintro e w0 ⟨rfl, hb0⟩
    go_wp2
    go_ret
    exact ⟨rfl, by go_grown⟩
end Go.Proofs.Ytpmldedombiadaa
