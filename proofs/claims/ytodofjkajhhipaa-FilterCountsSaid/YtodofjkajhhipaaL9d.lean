/-
  The given laws of chapter 9 as walks: FilterCounts hands back true, for every input. No condition but that the numbers are whole numbers of 64 bits and that the rows of keys lie in old memory.
-/
import Derived.Test.YtodofjkajhhipaaL9
set_option linter.unusedSimpArgs false
set_option linter.unusedVariables false
namespace Go.Proofs.Ytodofjkajhhipaa
open Go.RowKit Go.Sort M

/-- How often each place lies in the row A. -/
def cntR (m : Nat) (A : List Int) : List Int := (List.range m).map fun (j : Nat) => ((A.count (j : Int) : Nat) : Int)
theorem cntR_len (m : Nat) (A : List Int) : (cntR m A).length = m := by simp [cntR]
theorem cntR_at (m : Nat) (A : List Int) (j : Nat) (h : j < m) : (ics (cntR m A))[j]? = some (.int .i64 (A.count (j : Int) : Nat)) := by simp [ics, cntR, h]
theorem cntR_nil (m : Nat) : ics (cntR m []) = (madeCells #[.int .i64 0] m).toList := by
  apply List.ext_getElem?
  intro j
  by_cases h : j < m
  · rw [cntR_at m [] j h]
    simp [madeCells, h, Nat.mod_one]
  · rw [List.getElem?_eq_none (by rw [ics_len, cntR_len]; omega), List.getElem?_eq_none (by simp [madeCells]; omega)]
theorem cntR_set (m : Nat) (A : List Int) (j : Nat) (h : j < m) (x : Int) (hx : x = ((A.count (j : Int) + 1 : Nat) : Int)) : (ics (cntR m A)).set j (.int .i64 x) = ics (cntR m (A ++ [(j : Int)])) := by
  subst hx
  apply List.ext_getElem?
  intro i
  rw [List.getElem?_set, ics_len, cntR_len]
  by_cases hi : i < m
  · rw [cntR_at m A i hi, cntR_at m (A ++ [(j : Int)]) i hi, List.count_append, List.count_singleton]
    by_cases e : j = i
    · subst e
      rw [if_pos rfl, if_pos h, if_pos (by simp)]
    · rw [if_neg e, if_neg (by simp; omega)]
      rfl
  · rw [List.getElem?_eq_none (l := ics (cntR m (A ++ [(j : Int)]))) (by rw [ics_len, cntR_len]; omega)]
    by_cases e : j = i
    · rw [if_pos e, if_neg (by omega)]
    · rw [if_neg e, List.getElem?_eq_none (by rw [ics_len, cntR_len]; omega)]
theorem flat_len (s : Nat) (k : Int) (m : Nat) : ∀ T : List Key, (flat s k m T).length ≤ 16 * T.length
  | [] => by simp [flat]
  | a :: T => by
    have h1 := flat_len s k m T
    have h2 := plc_len s a.1 a.2.1 a.2.2 k m
    show (plk s k m a ++ flat s k m T).length ≤ _
    rw [List.length_append, List.length_cons]
    have : (plk s k m a).length ≤ 16 := h2
    omega
set_option maxRecDepth 100000 in
set_option maxHeartbeats 8000000 in
theorem filterCounts_walk (s : Nat) (k m : Int) (p1 p2 : Option Addr) (q1 q2 : Nat) (S G : List Key) (ws : W64 s) (wk : (Lit.int .i64 k).wf = true) (wm : (Lit.int .i64 m).wf = true) (gS : ∀ a ∈ S, Good9 a) (gG : ∀ a ∈ G, Good9 a)
    (hS : S.length ≤ maxLen) (hG : G.length ≤ maxLen) (w : World) (R1 : RowA 3 key9 w p1 S) (R2 : RowA 3 key9 w p2 G) :
    Calls Try.prog 5 #[.int .u64 s, .int .i64 k, .int .i64 m, .slice p1 S.length q1, .slice p2 G.length q2] w fun e w' => e = .returned (.bool true) ∧ Below w.heap.size w w' := by
  have HA := Lib.hid alive9_any
  obtain ⟨k0, k1⟩ := bounds_i64 wk
  obtain ⟨m0, m1⟩ := bounds_i64 wm
  have HS := Lib.hid gS
  have HG := Lib.hid gG
  have HR1 := Lib.hid R1
  have HR2 := Lib.hid R2
  clear gS gG R1 R2 wk wm
  unfold maxLen at hS hG
  by_cases k2 : 1 ≤ k
  · by_cases k3 : k ≤ 16
    · by_cases m2 : 1 ≤ m
      · by_cases m3 : m ≤ 500
        · by_cases l1 : S.length ≤ 40
          · by_cases l2 : G.length ≤ 40
            · obtain ⟨M, rfl⟩ := Int.eq_ofNat_of_zero_le (show 0 ≤ m by omega)
              have HN := Lib.hid (num_any 0)
              have hM5 : M ≤ 500 := by omega
              have hmk := make_row (P := Try.prog) (t := 42) Try.underlying42 infoI M (by omega) (by unfold maxLen; omega)
              go_enter Try.func5, Try.ntmps5
              go_wp2_with fail
              refine (HA.out _).mono ?_
              rintro e0 w0 ⟨rfl, hb0⟩
              have hw0 : Below w.heap.size w w0 := by
                refine Below.trans ?_ (hb0.mono ?_)
                · go_grown
                · go_size
              have hz0 := hw0.size
              go_wp2_with fail
              refine (fnew_any s k M ws k2 k3 m2 (by omega) _).mono ?_
              rintro e w1 ⟨f, rfl, H1, hb1⟩
              have hw1 := hw0.trans (hb1.mono hz0)
              rw [Int.toNat_natCast, tally_nil] at H1
              clear hb1 hw0
              go_wp2_with fail
              refine (HN.out _).mono ?_
              rintro e w2 ⟨rfl, hb2⟩
              have hw2 := hw1.trans (hb2.mono hw1.size)
              have H2 := H1.below hb2
              obtain ⟨hi, hhi⟩ : ∃ hi, hi = w1.heap.size := ⟨_, rfl⟩
              obtain ⟨lo, hlo⟩ : ∃ lo, lo = w0.heap.size := ⟨_, rfl⟩
              obtain ⟨gc, hgc⟩ : ∃ gc, gc = w2.heap.size := ⟨_, rfl⟩
              have hzz : w.heap.size ≤ lo := by omega
              have hzc : hi ≤ gc := by have := hb2.size; omega
              rw [← hhi, ← hlo] at H2
              have hown0 : (w2.alloc (.cells (madeCells #[.int .i64 0] M) 3)).ownsRow w.heap.size 3 1 (.slice (some ⟨gc, 0, none⟩) M M) M (ics (cntR M [])) := by
                rw [cntR_nil, hgc]
                exact World.ownsRow_lit _ _ M hw2.size (by unfold maxLen; omega) (by simp [madeCells])
              have H2a := H2.touched (S := fun _ => False) (Touch.of_grown (World.grownBy_alloc w2 (.cells (madeCells #[.int .i64 0] M) 3) none) (fun k e => by cases e)) (fun _ _ _ h => h)
              have hw2a : Below w.heap.size w (w2.alloc (.cells (madeCells #[.int .i64 0] M) 3)) := hw2.alloc hw2.size _
              have HGC := Lib.hid hgc
              clear hb2 H1 hw1 hhi hlo hz0 H2 hw2 hgc
              go_wp2
              rw [← HGC.out]
              go_loopw [15] (fun i15 wr => ∃ i : Nat, i ≤ S.length ∧ i15 = .int .i64 i ∧ Fil wr lo hi f s k (tally M (flat s k M (S.take i))) ∧ wr.ownsRow w.heap.size 3 1 (.slice (some ⟨gc, 0, none⟩) M M) M (ics (cntR M (flat s k M (S.take i)))) ∧ Below w.heap.size w wr) (fun i15 _ => S.length - (intOf i15).toNat)
              case atStart => exact ⟨0, Nat.zero_le _, rfl, H2a, hown0, hw2a⟩
              case round =>
                clear H2a hown0 hw2a
                obtain ⟨i, hi2, rfl, H, hown, hw⟩ := hrel
                by_cases lS : i < S.length
                · have hst := flat_snoc s k M S i lS
                  have hfl := flat_len s k M (S.take i)
                  rw [List.length_take] at hfl
                  obtain ⟨g1, o1, rfl, hg1, a1, b1, c1⟩ := HR1.out.key lS
                  have ga1 := HS.out _ (List.getElem_mem lS)
                  generalize S[i] = x1 at *
                  obtain ⟨xh1, xl1, xn1⟩ := x1
                  simp only at a1 b1 c1
                  have ka1 := Lib.hid a1
                  have kb1 := Lib.hid b1
                  have kc1 := Lib.hid c1
                  have HGA1 := Lib.hid ga1
                  clear a1 b1 c1 ga1
                  have HST := Lib.hid hst.symm
                  have HH := Lib.hid H
                  have HO := Lib.hid hown
                  obtain ⟨A, hA⟩ : ∃ A, A = flat s k M (S.take i) := ⟨_, rfl⟩
                  rw [← hA] at HST HH HO hfl
                  have hal : A.length ≤ 640 := by omega
                  clear hst H hown hA hfl
                  have a1 := (hw.cell (p := ⟨g1, _, none⟩) hg1).trans ka1.out
                  have b1 := (hw.cell (p := ⟨g1, _, none⟩) hg1).trans kb1.out
                  have c1 := (hw.cell (p := ⟨g1, _, none⟩) hg1).trans kc1.out
                  have z1 := Nat.lt_of_lt_of_le hg1 hw.size
                  go_wp2_with fail
                  refine (tadd_any _ _ _ _ _ _ _ xh1 xl1 xn1 _ HH.out HGA1.out).mono ?_
                  rintro e w3 ⟨rfl, H3, ht3⟩
                  have hw3 := hw.trans (ht3.below hw.size (fun j hj => Nat.le_trans hzz hj.1))
                  have HO3 := Lib.hid (Touch.own HO.out ht3 (fun j e hj => by cases e; exact absurd (show gc < hi from hj.2) (by omega)))
                  rw [HST.out] at H3
                  have HH3 := Lib.hid H3
                  clear ht3 a1 b1 c1 z1 H3 HH HO hw
                  have a1 := (hw3.cell (p := ⟨g1, _, none⟩) hg1).trans ka1.out
                  have b1 := (hw3.cell (p := ⟨g1, _, none⟩) hg1).trans kb1.out
                  have c1 := (hw3.cell (p := ⟨g1, _, none⟩) hg1).trans kc1.out
                  have z1 := Nat.lt_of_lt_of_le hg1 hw3.size
                  have hrp := rplaces_any s xh1 xl1 xn1 k M ws HGA1.out.1 HGA1.out.2 (by omega)
                  change GivesInts _ _ (plc s xh1 xl1 xn1 k M) at hrp
                  have hpin := plc_in s xh1 xl1 xn1 k M
                  have hpl := plc_len s xh1 xl1 xn1 k M
                  change A ++ plc s xh1 xl1 xn1 k M = _ at HST
                  generalize plc s xh1 xl1 xn1 k M = Y at *
                  replace HST := Lib.hid HST
                  have HRP := Lib.hid hrp
                  have HPIN := Lib.hid hpin
                  clear hrp hpin
                  go_wp2_with fail
                  refine (HRP.out _).mono ?_
                  rintro e w4 ⟨py, qy, rfl, hown4, hb4⟩
                  have hw4 := hw3.trans (hb4.mono hw3.size)
                  have HH4 := Lib.hid (HH3.out.below hb4)
                  have hownY := own_le hown4 hw3.size
                  have HROW : Hid (IRow w4 py Y) := Lib.hid (IRow.of_own hownY)
                  have hgl := (HO3.out.lt gc rfl)
                  have hyb : ∀ gy oy, py = some ⟨gy, oy, none⟩ → w3.heap.size ≤ gy := fun gy oy e => by
                    subst e
                    exact (hown4.lt gy rfl).1
                  have HYB := Lib.hid hyb
                  have HO4 := Lib.hid (own_below HO3.out hb4)
                  have hz4 := hb4.size
                  clear hown4 hb4 hownY a1 b1 c1 z1 hw3 HH3 HO3 hyb
                  go_wp2
                  go_loopw [17] (fun i17 wr2 => ∃ j : Nat, j ≤ Y.length ∧ i17 = .int .i64 j ∧ Fil wr2 lo hi f s k (tally M (flat s k M (S.take (i + 1)))) ∧ wr2.ownsRow w.heap.size 3 1 (.slice (some ⟨gc, 0, none⟩) M M) M (ics (cntR M (A ++ Y.take j))) ∧ Touch (In gc (gc + 1)) w4 wr2) (fun i17 _ => Y.length - (intOf i17).toNat)
                  case atStart => exact ⟨0, Nat.zero_le _, rfl, HH4.out, by rw [List.take_zero, List.append_nil]; exact HO4.out, Touch.refl _ _⟩
                  case round =>
                    clear HH4 HO4
                    obtain ⟨j, hj, rfl, H, hown, ht⟩ := hrel
                    have hz5 := ht.size
                    by_cases lY : j < Y.length
                    · obtain ⟨gy, oy, rfl, hgy, d0⟩ := HROW.out.at lY
                      obtain ⟨hx0, hx1⟩ := HPIN.out j lY
                      have hsn : Y.take (j + 1) = Y.take j ++ [Y[j]] := List.take_succ_eq_append_getElem lY
                      have hyw := HYB.out gy oy rfl
                      have e0 := ht.cell d0 (fun h => absurd (show gy < gc + 1 from h.2) (by omega))
                      have hgy2 : gy < wr.heap.size := by omega
                      generalize Y[j] = y at *
                      obtain ⟨t, rfl⟩ := Int.eq_ofNat_of_zero_le hx0
                      have htm : t < M := by omega
                      have hat := cntR_at M (A ++ Y.take j) t htm
                      have hcs := cntR_set M (A ++ Y.take j) t htm
                      rw [List.append_assoc, ← hsn] at hcs
                      have hcl : (A ++ Y.take j).count (t : Int) ≤ 656 := by
                        refine Nat.le_trans List.count_le_length ?_
                        rw [List.length_append, List.length_take]
                        omega
                      have q0 : wr.cell? ⟨gc, t, none⟩ = some (.int .i64 (((A ++ Y.take j).count (t : Int) : Nat) : Int)) := (hown.cellAt t (by omega)).trans hat
                      have f0 := hown.frozenAt t
                      have hgw := (hown.lt gc rfl).2
                      generalize (A ++ Y.take j).count (t : Int) = u at *
                      obtain ⟨hs1, hs2⟩ := hown.stored t (.int .i64 ((u : Int) + 1))
                      rw [hcs ((u : Int) + 1) (by omega)] at hs1
                      have HS1 := Lib.hid hs1
                      have HS2 := Lib.hid (H.touched (S := In gc (gc + 1)) (Touch.of_grown hs2 (fun j e => by cases e; exact ⟨Nat.le_refl _, by omega⟩)) (fun j h1 h2 h3 => absurd h3.1 (by omega)))
                      have HS3 := Lib.hid (ht.trans (Touch.of_grown (S := In gc (gc + 1)) hs2 (fun j e => by cases e; exact ⟨Nat.le_refl _, by omega⟩)))
                      have s0 : wrap64 ((u : Int) + 1) = (u : Int) + 1 := IntWalk.wrap64_in _ (by omega)
                      clear hs1 hs2 hcs hat hsn H hown ht d0 hyw
                      go_wp2_with fail
                      go_wp2
                      go_roundw
                      case rel => exact ⟨j + 1, by omega, by go_num, HS2.out.below (by go_grown), own_below HS1.out (by go_grown), HS3.out.trans (Touch.quiet (by go_grown))⟩
                      case measure => simp [intOf]; omega
                    · rw [List.take_of_length_le (by omega), HST.out] at hown
                      have HH := Lib.hid H
                      have HO := Lib.hid hown
                      have hw5 := hw4.trans (ht.below (by omega) (fun j hj => Nat.le_trans hgl.1 hj.1))
                      clear H hown ht
                      go_wp2
                      go_roundw
                      case rel => exact ⟨i + 1, by omega, by go_num, HH.out, HO.out, hw5⟩
                      case measure => simp [intOf]; omega
                · have nS : ¬ (i : Int) < (S.length : Int) := by omega
                  rw [flat_all s k M S i (by omega)] at H hown
                  clear lS hi2
                  generalize flat s k M S = A at *
                  go_wp2
                  go_loopw [18] (fun i18 wr2 => ∃ i : Nat, i ≤ G.length ∧ i18 = .int .i64 i ∧ Fil wr2 lo hi f s k (tally M (A ++ flat s k M (G.take i))) ∧ wr2.ownsRow w.heap.size 3 1 (.slice (some ⟨gc, 0, none⟩) M M) M (ics (cntR M A)) ∧ Below w.heap.size w wr2) (fun i18 _ => G.length - (intOf i18).toNat)
                  case atStart => exact ⟨0, Nat.zero_le _, rfl, by rw [List.take_zero, flat_nil, List.append_nil]; exact H, hown, hw⟩
                  case round =>
                    clear H hown hw nS
                    obtain ⟨i, hi2, rfl, H, hown, hw⟩ := hrel
                    by_cases lG : i < G.length
                    · have hst : tally M (A ++ flat s k M (G.take (i + 1))) = tally M (A ++ flat s k M (G.take i) ++ plk s k M G[i]) := by rw [flat_snoc s k M G i lG, List.append_assoc]
                      obtain ⟨g2, o2, rfl, hg2, a2, b2, c2⟩ := HR2.out.key lG
                      have ga2 := HG.out _ (List.getElem_mem lG)
                      generalize G[i] = x2 at *
                      obtain ⟨xh2, xl2, xn2⟩ := x2
                      simp only at a2 b2 c2
                      have ka2 := Lib.hid a2
                      have kb2 := Lib.hid b2
                      have kc2 := Lib.hid c2
                      have HGA2 := Lib.hid ga2
                      clear a2 b2 c2 ga2
                      have HST := Lib.hid hst.symm
                      have HH := Lib.hid H
                      have HO := Lib.hid hown
                      clear hst H hown
                      have a2 := (hw.cell (p := ⟨g2, _, none⟩) hg2).trans ka2.out
                      have b2 := (hw.cell (p := ⟨g2, _, none⟩) hg2).trans kb2.out
                      have c2 := (hw.cell (p := ⟨g2, _, none⟩) hg2).trans kc2.out
                      have z2 := Nat.lt_of_lt_of_le hg2 hw.size
                      go_wp2_with fail
                      refine (tadd_any _ _ _ _ _ _ _ xh2 xl2 xn2 _ HH.out HGA2.out).mono ?_
                      rintro e w3 ⟨rfl, H3, ht3⟩
                      have hw3 := hw.trans (ht3.below hw.size (fun j hj => Nat.le_trans hzz hj.1))
                      have HO3 := Lib.hid (Touch.own HO.out ht3 (fun j e hj => by cases e; exact absurd (show gc < hi from hj.2) (by omega)))
                      rw [HST.out] at H3
                      have HH3 := Lib.hid H3
                      clear ht3 a2 b2 c2 z2 H3
                      go_wp2
                      go_roundw
                      case rel => exact ⟨i + 1, by omega, by go_num, HH3.out, HO3.out, hw3⟩
                      case measure => simp [intOf]; omega
                    · have nG : ¬ (i : Int) < (G.length : Int) := by omega
                      rw [flat_all s k M G i (by omega)] at H
                      have HH := Lib.hid H
                      have HO := Lib.hid hown
                      obtain ⟨C, hC⟩ : ∃ C, C = tally M (A ++ flat s k M G) := ⟨_, rfl⟩
                      rw [← hC] at HH
                      have hCl : C.length = M := by rw [hC, tally_len]
                      have hcl := counts_left M A (flat s k M G)
                      rw [← hC] at hcl
                      have hfu := fullN_le C
                      have HCL := Lib.hid hCl
                      have HLF := Lib.hid hcl
                      clear lG hi2 H hown hC hcl
                      by_cases hfull : fullN C = 0
                      · rw [hfull] at hfu
                        have HF := Lib.hid hfull
                        clear hfull hfu hCl
                        go_wp2_with fail
                        refine (ffull_any _ _ _ _ _ _ _ HH.out).mono ?_
                        rintro e w3 ⟨rfl, hb3⟩
                        rw [HF.out]
                        have H := HH.out.below hb3
                        have hown := own_below HO.out hb3
                        have hw3 := hw.trans (hb3.mono hw.size)
                        clear hb3 HH HO hw
                        go_wp2
                        go_loopw [19] (fun i19 wr3 => ∃ i : Nat, i ≤ G.length ∧ i19 = .int .i64 i ∧ Fil wr3 lo hi f s k (remL C (flat s k M (G.take i))) ∧ wr3.ownsRow w.heap.size 3 1 (.slice (some ⟨gc, 0, none⟩) M M) M (ics (cntR M A)) ∧ Below w.heap.size w wr3) (fun i19 _ => G.length - (intOf i19).toNat)
                        case atStart => exact ⟨0, Nat.zero_le _, rfl, H, hown, hw3⟩
                        case round =>
                          clear H hown hw3 nG
                          obtain ⟨i, hi2, rfl, H, hown, hw⟩ := hrel
                          by_cases lG : i < G.length
                          · have hst := congrArg (remL C) (flat_snoc s k M G i lG)
                            obtain ⟨g2, o2, rfl, hg2, a2, b2, c2⟩ := HR2.out.key lG
                            have ga2 := HG.out _ (List.getElem_mem lG)
                            generalize G[i] = x2 at *
                            obtain ⟨xh2, xl2, xn2⟩ := x2
                            simp only at a2 b2 c2
                            have ka2 := Lib.hid a2
                            have kb2 := Lib.hid b2
                            have kc2 := Lib.hid c2
                            have HGA2 := Lib.hid ga2
                            clear a2 b2 c2 ga2
                            have HST := Lib.hid hst.symm
                            have HH := Lib.hid H
                            have HO := Lib.hid hown
                            clear hst H hown
                            have a2 := (hw.cell (p := ⟨g2, _, none⟩) hg2).trans ka2.out
                            have b2 := (hw.cell (p := ⟨g2, _, none⟩) hg2).trans kb2.out
                            have c2 := (hw.cell (p := ⟨g2, _, none⟩) hg2).trans kc2.out
                            have z2 := Nat.lt_of_lt_of_le hg2 hw.size
                            go_wp2_with fail
                            refine (trem_any _ _ _ _ _ _ _ HCL.out _ xh2 xl2 xn2 _ HH.out HGA2.out).mono ?_
                            rintro e w4 ⟨rfl, H3, ht3⟩
                            have hw4 := hw.trans (ht3.below hw.size (fun j hj => Nat.le_trans hzz hj.1))
                            have HO3 := Lib.hid (Touch.own HO.out ht3 (fun j e hj => by cases e; exact absurd (show gc < hi from hj.2) (by omega)))
                            rw [HST.out] at H3
                            have HH3 := Lib.hid H3
                            clear ht3 a2 b2 c2 z2 H3
                            go_wp2
                            go_roundw
                            case rel => exact ⟨i + 1, by omega, by go_num, HH3.out, HO3.out, hw4⟩
                            case measure => simp [intOf]; omega
                          · have nG : ¬ (i : Int) < (G.length : Int) := by omega
                            rw [flat_all s k M G i (by omega)] at H
                            have hcnt := HLF.out HF.out
                            generalize remL C (flat s k M G) = D at *
                            have HCNT := Lib.hid hcnt
                            clear lG hi2 hcnt
                            go_wp2
                            go_loopw [20] (fun i20 wr4 => ∃ j : Nat, j ≤ M ∧ i20 = .int .i64 j ∧ Fil wr4 lo hi f s k D ∧ wr4.ownsRow w.heap.size 3 1 (.slice (some ⟨gc, 0, none⟩) M M) M (ics (cntR M A)) ∧ Below w.heap.size w wr4) (fun i20 _ => M - (intOf i20).toNat)
                            case atStart => exact ⟨0, Nat.zero_le _, rfl, H, hown, hw⟩
                            case round =>
                              clear H hown hw nG
                              obtain ⟨j, hj, rfl, H, hown, hw⟩ := hrel
                              by_cases lM : j < M
                              · have hgj := HCNT.out j lM
                                have hz := hw.size
                                have q0 : wr.cell? ⟨gc, j, none⟩ = some (.int .i64 ((A.count (j : Int) : Nat) : Int)) := (hown.cellAt j (by omega)).trans (cntR_at M A j lM)
                                have hgw := (hown.lt gc rfl).2
                                have hC1 : ∀ wx, Below wr.heap.size wr wx → Calls Try.prog 17 #[.pointer (some ⟨f, 0, none⟩), .int .i64 (j : Int)] wx fun e w' => e = .returned (.int .i64 ((A.count (j : Int) : Nat) : Int)) ∧ Below wx.heap.size wx w' := fun wx hb => by
                                  have := fcounter_any lo hi f s k D j wx (H.below hb)
                                  rwa [hgj] at this
                                have hC2 : ∀ wx, Below wr.heap.size wr wx → Calls Try.prog 18 #[.pointer (some ⟨f, 0, none⟩), .int .i64 (j : Int)] wx fun e w' => e = .returned (.bool (decide (A.count (j : Int) ≠ 0))) ∧ Below wx.heap.size wx w' := fun wx hb => by
                                  have := fon_any lo hi f s k D j wx (H.below hb)
                                  rwa [hgj] at this
                                generalize A.count (j : Int) = u at *
                                have HH := Lib.hid H
                                have HO := Lib.hid hown
                                have HC1 := Lib.hid hC1
                                have hb0 : decide (u ≠ 0) = decide (0 < u) := by rw [Bool.eq_iff_iff]; simp; omega
                                rw [hb0] at hC2
                                have HC2 := Lib.hid hC2
                                clear hC1 hC2 H hown hgj hb0
                                by_cases hu : 0 < u
                                · rw [decide_eq_true hu] at HC2
                                  go_wp2_with fail
                                  have kg := cell_grow
                                  refine region_whole (by kernel_rfl) (by kernel_rfl) ?_
                                  repeat (any_goals (first | go_big_quiet_step ((first | exact Calls.regrown_of (HC1.out _ (below_regrown _ _ _)) | exact Calls.regrown_of (HC2.out _ (below_regrown _ _ _)))) | quiet_step ((first | exact Calls.regrown_of (HC1.out _ (below_regrown _ _ _)) | exact Calls.regrown_of (HC2.out _ (below_regrown _ _ _))))))
                                  refine wpQuiet_nil ?_
                                  clear kg
                                  intro w6 hb6
                                  obtain ⟨hc6, hf6⟩ := bcell hb6
                                  have hw6 : Below w.heap.size w w6 := by
                                    refine Below.trans ?_ (hb6.mono ?_)
                                    · go_grown
                                    · first | omega | go_size
                                  go_wp2
                                  go_roundw
                                  case rel => exact ⟨j + 1, by omega, by go_num, HH.out.below hb6, own_below HO.out hb6, hw6⟩
                                  case measure => simp [intOf]; omega
                                · rw [decide_eq_false hu] at HC2
                                  go_wp2_with fail
                                  have kg := cell_grow
                                  refine region_whole (by kernel_rfl) (by kernel_rfl) ?_
                                  repeat (any_goals (first | go_big_quiet_step ((first | exact Calls.regrown_of (HC1.out _ (below_regrown _ _ _)) | exact Calls.regrown_of (HC2.out _ (below_regrown _ _ _)))) | quiet_step ((first | exact Calls.regrown_of (HC1.out _ (below_regrown _ _ _)) | exact Calls.regrown_of (HC2.out _ (below_regrown _ _ _))))))
                                  refine wpQuiet_nil ?_
                                  clear kg
                                  intro w6 hb6
                                  obtain ⟨hc6, hf6⟩ := bcell hb6
                                  have hw6 : Below w.heap.size w w6 := by
                                    refine Below.trans ?_ (hb6.mono ?_)
                                    · go_grown
                                    · first | omega | go_size
                                  go_wp2
                                  go_roundw
                                  case rel => exact ⟨j + 1, by omega, by go_num, HH.out.below hb6, own_below HO.out hb6, hw6⟩
                                  case measure => simp [intOf]; omega
                              · have nM : ¬ (j : Int) < (M : Int) := by omega
                                go_wp2
                                go_ret
                                exact ⟨rfl, hw⟩
                      · obtain ⟨u, hu⟩ : ∃ u, u = fullN C := ⟨_, rfl⟩
                        have hup : 0 < u := by omega
                        rw [← hu] at hfu
                        have HU := Lib.hid hu
                        clear hfull hu hCl
                        go_wp2_with fail
                        refine (ffull_any _ _ _ _ _ _ _ HH.out).mono ?_
                        rintro e w3 ⟨rfl, hb3⟩
                        rw [← HU.out]
                        have hw3 := hw.trans (hb3.mono hw.size)
                        go_wp2
                        go_ret
                        exact ⟨rfl, hw3⟩
            · skip
              go_enter Try.func5, Try.ntmps5
              go_wp2_with fail
              refine (HA.out _).mono ?_
              rintro e0 w0 ⟨rfl, hb0⟩
              have hw0 : Below w.heap.size w w0 := by
                refine Below.trans ?_ (hb0.mono ?_)
                · go_grown
                · go_size
              go_wp2
              all_goals
                go_ret
                exact ⟨rfl, by go_grown⟩
          · skip
            go_enter Try.func5, Try.ntmps5
            go_wp2_with fail
            refine (HA.out _).mono ?_
            rintro e0 w0 ⟨rfl, hb0⟩
            have hw0 : Below w.heap.size w w0 := by
              refine Below.trans ?_ (hb0.mono ?_)
              · go_grown
              · go_size
            go_wp2
            all_goals
              go_ret
              exact ⟨rfl, by go_grown⟩
        · skip
          go_enter Try.func5, Try.ntmps5
          go_wp2_with fail
          refine (HA.out _).mono ?_
          rintro e0 w0 ⟨rfl, hb0⟩
          have hw0 : Below w.heap.size w w0 := by
            refine Below.trans ?_ (hb0.mono ?_)
            · go_grown
            · go_size
          go_wp2
          all_goals
            go_ret
            exact ⟨rfl, by go_grown⟩
      · skip
        go_enter Try.func5, Try.ntmps5
        go_wp2_with fail
        refine (HA.out _).mono ?_
        rintro e0 w0 ⟨rfl, hb0⟩
        have hw0 : Below w.heap.size w w0 := by
          refine Below.trans ?_ (hb0.mono ?_)
          · go_grown
          · go_size
        go_wp2
        all_goals
          go_ret
          exact ⟨rfl, by go_grown⟩
    · skip
      go_enter Try.func5, Try.ntmps5
      go_wp2_with fail
      refine (HA.out _).mono ?_
      rintro e0 w0 ⟨rfl, hb0⟩
      have hw0 : Below w.heap.size w w0 := by
        refine Below.trans ?_ (hb0.mono ?_)
        · go_grown
        · go_size
      go_wp2
      all_goals
        go_ret
        exact ⟨rfl, by go_grown⟩
  · skip
    go_enter Try.func5, Try.ntmps5
    go_wp2_with fail
    refine (HA.out _).mono ?_
    rintro e0 w0 ⟨rfl, hb0⟩
    have hw0 : Below w.heap.size w w0 := by
      refine Below.trans ?_ (hb0.mono ?_)
      · go_grown
      · go_size
    go_wp2
    all_goals
      go_ret
      exact ⟨rfl, by go_grown⟩
end Go.Proofs.Ytodofjkajhhipaa
