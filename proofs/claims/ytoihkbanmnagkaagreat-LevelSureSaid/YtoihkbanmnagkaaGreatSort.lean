/-
  A row of elements of k cells that is sorted by a test which may make blocks of its own: what is carried from call to call. No condition but those that stand in each.
-/
import Derived.Test.YtoihkbanmnagkaaGreatM11
import Derived.Test.YtoihkbanmnagkaaGreatTouch0
import Derived.Test.YtoihkbanmnagkaaGreatM7b
import Derived.Shelf.GgSortFunc.SmallK
import Derived.Shelf.SlSortFuncK.RowK2
import Derived.Sort.WalkB2
import Derived.Sort.WalkB3
import Derived.Deep.LoopGhost
import Derived.Deep.DeepCutAuto
/-
  What Add of a counting filter does. No condition but those that stand in each.
-/
set_option linter.unusedSimpArgs false
set_option linter.unusedVariables false
namespace Go.Proofs.YtoihkbanmnagkaaGreat
open Go.RowKit Go.Sort M

set_option maxHeartbeats 2000000 in
theorem fadd_any (lo hi f s : Nat) (k : Int) (C : List Nat) (h l : Nat) (n : Int) (w : World) (H : Fil w lo hi f s k C) (wh : W64 h) (wl : W64 l) :
    Calls Tryz.prog 50 #[.pointer (some ⟨f, 0, none⟩), .agg #[.int .u64 h, .int .u64 l, .int .i64 n]] w fun e w' => e = .returned (.tuple #[]) ∧
      Fil w' lo hi f s k (addL C (plc s h l n k C.length)) ∧ Touch (In lo hi) w w' := by
  have hP : ∀ wx, Fil wx lo hi f s k C → Calls Tryz.prog 61 #[.pointer (some ⟨f, 0, none⟩), .agg #[.int .u64 h, .int .u64 l, .int .i64 n]] wx fun e w' => ∃ p c, e = .returned (.slice p (plc s h l n k C.length).length c) ∧
      w'.ownsRow wx.heap.size 3 1 (.slice p (plc s h l n k C.length).length c) (plc s h l n k C.length).length (ics (plc s h l n k C.length)) ∧ Below wx.heap.size wx w' := fun wx H => fplaces_any lo hi f s k C h l n wx H wh wl
  have hL16 := plc_len s h l n k C.length
  generalize plc s h l n k C.length = L at *
  have HP := Lib.hid hP
  have HC := Lib.hid H
  clear hP H
  go_enter Tryz.func50, Tryz.ntmps50
  go_wp2_with fail
  refine (HP.out _ (HC.out.below (by go_grown))).mono ?_
  rintro e w1 ⟨p, c, rfl, hown, hb1⟩
  have hw1 : Below w.heap.size w w1 := Below.trans (by go_grown) (hb1.mono (by go_size))
  have hown2 := own_le (B' := w.heap.size) hown (by go_size)
  have HC1 := Lib.hid (HC.out.below hw1)
  have htop : hi ≤ w.heap.size := by
    obtain ⟨g1, h1, g2, h2, H⟩ := HC.out
    exact H.top
  obtain ⟨g1, h1, g2, h2, H⟩ := HC1.out
  clear hown hb1 HC1 HP
  go_wp2
  go_loopw [10] (fun i10 wr => ∃ i : Nat, i ≤ L.length ∧ i10 = .int .i64 i ∧ FilB wr lo hi f g1 h1 g2 h2 s k (addL C (L.take i)) (onsC (addL C (L.take i))) ∧ wr.ownsRow w.heap.size 3 1 (.slice p L.length c) L.length (ics L) ∧ Touch (In lo hi) w wr) (fun i10 _ => L.length - (intOf i10).toNat)
  case atStart => exact ⟨0, Nat.zero_le _, rfl, H, hown2, Touch.of_below hw1 (fun k h1 h2 => absurd h1 (by omega))⟩
  case round =>
    clear H hown2 hw1
    obtain ⟨i, hi2, rfl, H, hown, ht⟩ := hrel
    have hz := ht.size
    by_cases hlt : i < L.length
    · obtain ⟨gr, orr, rfl, hgr, d0⟩ := (IRow.of_own hown).at hlt
      have hsn := addL_snoc C L i hlt
      have hlow := (hown.lt gr rfl).1
      generalize hx : L[i] = x at *
      generalize hA : addL C (L.take i) = A at *
      have HSN := Lib.hid hsn
      clear hx hA hsn
      have c2 := H.c2
      have hl := H.lt
      have HH := Lib.hid H
      have HO := Lib.hid hown
      clear H hown
      go_wp2_with fail
      refine (up_any _ _ _ _ x _ HH.out.cs).mono ?_
      rintro e w2 ⟨rfl, hN2, hg2⟩
      obtain ⟨H2, ht2⟩ := HH.out.turnC hN2 (upL_len _ _) hg2
      have hown2 := Touch.own HO.out ht2 (fun j e hj => by cases e; exact absurd (show gr < hi from hj.2) (by omega))
      have ht3 := ht.trans ht2
      have c3 := H2.c3
      have hl2 := H2.lt
      have HH2 := Lib.hid H2
      have HO2 := Lib.hid hown2
      clear H2 hown2 hN2 hg2 ht2 ht c2
      go_wp2_with fail
      refine (bset_any _ _ _ _ x _ _ HH2.out.bs).mono ?_
      rintro e w3 ⟨rfl, hN3, hg3⟩
      obtain ⟨H3, ht4⟩ := HH2.out.turnD hN3 (setB_len _ _ _) hg3
      have hown3 := Touch.own HO2.out ht4 (fun j e hj => by cases e; exact absurd (show gr < hi from hj.2) (by omega))
      have ht5 := ht3.trans ht4
      rw [ons_up, ← HSN.out] at H3
      clear hN3 hg3 ht3 ht4
      go_wp2
      go_roundw
      case rel => exact ⟨i + 1, by omega, by go_num, H3, hown3, ht5⟩
      case measure => simp [intOf]; omega
    · go_wp2
      go_end0
      rw [List.take_of_length_le (by omega)] at H
      exact ⟨rfl, ⟨_, _, _, _, H⟩, ht⟩
end Go.Proofs.YtoihkbanmnagkaaGreat
/-
  What Remove of a counting filter does. No condition but those that stand in each.
-/
set_option linter.unusedSimpArgs false
set_option linter.unusedVariables false
namespace Go.Proofs.YtoihkbanmnagkaaGreat
open Go.RowKit Go.Sort M

set_option maxHeartbeats 2000000 in
theorem frem_any (lo hi f s : Nat) (k : Int) (C : List Nat) (h l : Nat) (n : Int) (w : World) (H : Fil w lo hi f s k C) (wh : W64 h) (wl : W64 l) :
    Calls Tryz.prog 48 #[.pointer (some ⟨f, 0, none⟩), .agg #[.int .u64 h, .int .u64 l, .int .i64 n]] w fun e w' => e = .returned (.tuple #[]) ∧
      Fil w' lo hi f s k (remL C (plc s h l n k C.length)) ∧ Touch (In lo hi) w w' := by
  have hP : ∀ wx, Fil wx lo hi f s k C → Calls Tryz.prog 61 #[.pointer (some ⟨f, 0, none⟩), .agg #[.int .u64 h, .int .u64 l, .int .i64 n]] wx fun e w' => ∃ p c, e = .returned (.slice p (plc s h l n k C.length).length c) ∧
      w'.ownsRow wx.heap.size 3 1 (.slice p (plc s h l n k C.length).length c) (plc s h l n k C.length).length (ics (plc s h l n k C.length)) ∧ Below wx.heap.size wx w' := fun wx H => fplaces_any lo hi f s k C h l n wx H wh wl
  have hL16 := plc_len s h l n k C.length
  generalize plc s h l n k C.length = L at *
  have HP := Lib.hid hP
  have HC := Lib.hid H
  clear hP H
  go_enter Tryz.func48, Tryz.ntmps48
  go_wp2_with fail
  refine (HP.out _ (HC.out.below (by go_grown))).mono ?_
  rintro e w1 ⟨p, c, rfl, hown, hb1⟩
  have hw1 : Below w.heap.size w w1 := Below.trans (by go_grown) (hb1.mono (by go_size))
  have hown2 := own_le (B' := w.heap.size) hown (by go_size)
  have HC1 := Lib.hid (HC.out.below hw1)
  have htop : hi ≤ w.heap.size := by
    obtain ⟨g1, h1, g2, h2, H⟩ := HC.out
    exact H.top
  obtain ⟨g1, h1, g2, h2, H⟩ := HC1.out
  clear hown hb1 HC1 HP
  go_wp2
  go_loopw [10] (fun i10 wr => ∃ i : Nat, i ≤ L.length ∧ i10 = .int .i64 i ∧ FilB wr lo hi f g1 h1 g2 h2 s k (remL C (L.take i)) (onsC (remL C (L.take i))) ∧ wr.ownsRow w.heap.size 3 1 (.slice p L.length c) L.length (ics L) ∧ Touch (In lo hi) w wr) (fun i10 _ => L.length - (intOf i10).toNat)
  case atStart => exact ⟨0, Nat.zero_le _, rfl, H, hown2, Touch.of_below hw1 (fun k h1 h2 => absurd h1 (by omega))⟩
  case round =>
    clear H hown2 hw1
    obtain ⟨i, hi2, rfl, H, hown, ht⟩ := hrel
    have hz := ht.size
    by_cases hlt : i < L.length
    · obtain ⟨gr, orr, rfl, hgr, d0⟩ := (IRow.of_own hown).at hlt
      have hsn := remL_snoc C L i hlt
      have hlow := (hown.lt gr rfl).1
      generalize hx : L[i] = x at *
      generalize hA : remL C (L.take i) = A at *
      have HSN := Lib.hid hsn
      clear hx hA hsn
      have c2 := H.c2
      have hl := H.lt
      have HH := Lib.hid H
      have HO := Lib.hid hown
      clear H hown
      go_wp2_with fail
      refine (down_any _ _ _ _ x _ HH.out.cs).mono ?_
      rintro e w2 ⟨rfl, hN2, hg2⟩
      obtain ⟨H2, ht2⟩ := HH.out.turnC hN2 (downL_len _ _) hg2
      have hown2 := Touch.own HO.out ht2 (fun j e hj => by cases e; exact absurd (show gr < hi from hj.2) (by omega))
      have ht3 := ht.trans ht2
      have c2 := H2.c2
      have c3 := H2.c3
      have hl2 := H2.lt
      obtain ⟨v, hv⟩ : ∃ v : Nat, v = getN (downL A x) x := ⟨_, rfl⟩
      have hgt : ∀ wx, Below w2.heap.size w2 wx → Calls Tryz.prog 75 #[.pointer (some ⟨g1, 0, none⟩), .int .i64 x] wx fun e w' => e = .returned (.int .i64 (v : Int)) ∧ Below wx.heap.size wx w' := by
        intro wx hb
        rw [hv]
        exact get_any _ _ _ _ x _ (H2.cs.below hb)
      have HG := Lib.hid hgt
      have hod := ons_down A x
      rw [← hv] at hod
      have HOD := Lib.hid hod
      have HH2 := Lib.hid H2
      have HO2 := Lib.hid hown2
      clear H2 hown2 hN2 hg2 ht2 ht hgt hv hod
      go_wp2_with fail
      have kg := cell_grow
      refine region_tail 12 (by kernel_rfl) (by kernel_rfl) ?_
      simp only [List.take_succ_cons, List.take_zero, List.drop_succ_cons, List.drop_zero]
      repeat (any_goals (first | go_big_quiet_step ((exact Calls.regrown_of (HG.out _ (below_regrown _ _ _)))) | quiet_step ((exact Calls.regrown_of (HG.out _ (below_regrown _ _ _))))))
      refine wpQuiet_nil ?_
      clear kg
      intro w3 hb3
      obtain ⟨hc3, hf3⟩ := bcell hb3
      have HH3 := Lib.hid (HH2.out.below hb3)
      have hown3 := Touch.own HO2.out (Touch.quiet hb3 (S := In lo hi)) (fun j e hj => by cases e; exact absurd (show gr < hi from hj.2) (by omega))
      have HO3 := Lib.hid hown3
      have ht3b := ht3.trans (Touch.quiet hb3)
      clear HH2 HO2 hown3 hb3
      go_wp2_with fail
      refine (bset_any _ _ _ _ x _ _ HH3.out.bs).mono ?_
      rintro e w4 ⟨rfl, hN3, hg3⟩
      obtain ⟨H3, ht4⟩ := HH3.out.turnD hN3 (setB_len _ _ _) hg3
      have hown3 := Touch.own HO3.out ht4 (fun j e hj => by cases e; exact absurd (show gr < hi from hj.2) (by omega))
      have ht5 := ht3b.trans ht4
      rw [show ((v : Int) != 0) = decide (v ≠ 0) by rw [Bool.eq_iff_iff]; simp, HOD.out, ← HSN.out] at H3
      clear hN3 hg3 ht3 ht4
      go_wp2
      go_roundw
      case rel => exact ⟨i + 1, by omega, by go_num, H3, hown3, ht5⟩
      case measure => simp [intOf]; omega
    · go_wp2
      go_end0
      rw [List.take_of_length_le (by omega)] at H
      exact ⟨rfl, ⟨_, _, _, _, H⟩, ht⟩
end Go.Proofs.YtoihkbanmnagkaaGreat
/-
  What May of a counting filter says. No condition but those that stand in each.
-/
set_option linter.unusedSimpArgs false
set_option linter.unusedVariables false
namespace Go.Proofs.YtoihkbanmnagkaaGreat
open Go.RowKit Go.Sort M

set_option maxHeartbeats 2000000 in
theorem fmay_any (lo hi f s : Nat) (k : Int) (C : List Nat) (h l : Nat) (n : Int) (w : World) (H : Fil w lo hi f s k C) (wh : W64 h) (wl : W64 l) (hm : 1 ≤ C.length) :
    Calls Tryz.prog 36 #[.pointer (some ⟨f, 0, none⟩), .agg #[.int .u64 h, .int .u64 l, .int .i64 n]] w fun e w' => e = .returned (.bool (mayL C (plc s h l n k C.length))) ∧ Below w.heap.size w w' := by
  have hP : ∀ wx, Fil wx lo hi f s k C → Calls Tryz.prog 61 #[.pointer (some ⟨f, 0, none⟩), .agg #[.int .u64 h, .int .u64 l, .int .i64 n]] wx fun e w' => ∃ p c, e = .returned (.slice p (plc s h l n k C.length).length c) ∧
      w'.ownsRow wx.heap.size 3 1 (.slice p (plc s h l n k C.length).length c) (plc s h l n k C.length).length (ics (plc s h l n k C.length)) ∧ Below wx.heap.size wx w' := fun wx H => fplaces_any lo hi f s k C h l n wx H wh wl
  have hL16 := plc_len s h l n k C.length
  have HLN : Hid (∀ wx, Fil wx lo hi f s k C → Calls Tryz.prog 60 #[.pointer (some ⟨f, 0, none⟩)] wx fun e w' => e = .returned (.int .i64 (C.length : Int)) ∧ Below wx.heap.size wx w') := Lib.hid (fun wx H => flen_any lo hi f s k C wx H)
  generalize plc s h l n k C.length = L at *
  have HP := Lib.hid hP
  have HC := Lib.hid H
  clear hP H
  go_enter Tryz.func36, Tryz.ntmps36
  go_wp2_with fail
  refine (HLN.out _ (HC.out.below (by go_grown))).mono ?_
  rintro e w0 ⟨rfl, hb0⟩
  have hw0 : Below w.heap.size w w0 := Below.trans (by go_grown) (hb0.mono (by go_size))
  have hz0 := hw0.size
  have b0 : w0.cell? ⟨w.heap.size, 0, none⟩ = some (.int .u64 h) := by
    rw [hb0.cell (by simp <;> omega)]
    first | assumption | (simp [go_sem]; done) | (simp [go_sem, *]; done)
  have b1 : w0.cell? ⟨w.heap.size, 1, none⟩ = some (.int .u64 l) := by
    rw [hb0.cell (by simp <;> omega)]
    first | assumption | (simp [go_sem]; done) | (simp [go_sem, *]; done)
  have b2 : w0.cell? ⟨w.heap.size, 2, none⟩ = some (.int .i64 n) := by
    rw [hb0.cell (by simp <;> omega)]
    first | assumption | (simp [go_sem]; done) | (simp [go_sem, *]; done)
  have hzb : w.heap.size < w0.heap.size := by have := hb0.size; simp at this; omega
  go_wp2_with fail
  refine (HP.out _ (HC.out.below (by go_grown))).mono ?_
  rintro e w1 ⟨p, c, rfl, hown, hb1⟩
  have hw1 : Below w.heap.size w w1 := hw0.trans (hb1.mono hz0)
  have hown2 := own_le (B' := w.heap.size) hown hz0
  obtain ⟨g1, h1, g2, h2, H⟩ := HC.out.below hw1
  clear hown hb1 HP hb0 hw0 hz0 HLN
  have c3 := H.c3
  have hl := H.lt
  have hz1 := hw1.size
  have HB := Lib.hid H.bs
  have HRW := Lib.hid (IRow.of_own hown2)
  clear H hown2
  go_wp2
  go_loopw [14] (fun i14 wr => ∃ i : Nat, i ≤ L.length ∧ i14 = .int .i64 i ∧ Hid (∀ j (hj : j < L.length), j < i → getN C L[j] ≠ 0) ∧ Below w1.heap.size w1 wr) (fun i14 _ => L.length - (intOf i14).toNat)
  case atStart => exact ⟨0, Nat.zero_le _, rfl, Lib.hid (fun j _ h => absurd h (by omega)), Below.refl _ _⟩
  case round =>
    obtain ⟨i, hi2, rfl, hall, hb⟩ := hrel
    have hz := hb.size
    have hc3 := (hb.cell (p := ⟨f, 3, none⟩) hl).trans c3
    by_cases hlt : i < L.length
    · obtain ⟨gr, orr, rfl, hgr, d0⟩ := (HRW.out.below hb).at hlt
      generalize hx : L[i] = x at *
      by_cases hg : getN C x = 0
      · have hno := mayL_no hlt (by rw [hx]; exact hg)
        have HNO := Lib.hid hno
        have HGE : Hid (getB (onsC C) x = false) := Lib.hid (by rw [getB_ons]; simp [hg])
        clear hx hg hno
        go_wp2_with fail
        refine (bget_any _ _ _ _ x _ (HB.out.below hb)).mono ?_
        rintro e w2 ⟨rfl, hb2⟩
        rw [HGE.out]
        go_wp2
        go_ret
        exact ⟨ret_bool HNO.out.symm, hw1.trans ((hb.trans (hb2.mono hz)).mono hz1)⟩
      · have HGE : Hid (getB (onsC C) x = true) := Lib.hid (by rw [getB_ons]; simp [hg])
        have HN2 : Hid (∀ j (hj : j < L.length), j < i + 1 → getN C L[j] ≠ 0) := by
          intro j hj hji
          by_cases e : j = i
          · subst e
            rw [hx]
            exact hg
          · exact hall.out j hj (by omega)
        clear hx hg hall
        go_wp2_with fail
        refine (bget_any _ _ _ _ x _ (HB.out.below hb)).mono ?_
        rintro e w2 ⟨rfl, hb2⟩
        rw [HGE.out]
        have hbb := hb.trans (hb2.mono hz)
        go_wp2
        go_roundw
        case rel => exact ⟨i + 1, by omega, by go_num, HN2, hbb⟩
        case measure => simp [intOf]; omega
    · go_wp2
      go_ret
      exact ⟨ret_bool (mayL_yes (fun j hj => hall.out j hj (by omega))).symm, hw1.trans (hb.mono hz1)⟩
end Go.Proofs.YtoihkbanmnagkaaGreat
/-
  What New of a counting filter makes. No condition but those that stand in each.
-/
set_option linter.unusedSimpArgs false
set_option linter.unusedVariables false
namespace Go.Proofs.YtoihkbanmnagkaaGreat
open Go.RowKit Go.Sort M

set_option maxHeartbeats 2000000 in
theorem fnew_bad (s : Nat) (k m : Int) (h : ¬ (1 ≤ k ∧ k ≤ 16 ∧ 1 ≤ m ∧ m ≤ 65536)) (w : World) :
    Calls Tryz.prog 22 #[.int .u64 s, .int .i64 k, .int .i64 m] w fun e w' => e = .returned (.tuple #[.pointer none, .int .i64 1]) ∧ Below w.heap.size w w' := by
  by_cases k0 : k < 1
  · go_enter Tryz.func22, Tryz.ntmps22
    go_wp2
    go_ret2
    exact ⟨rfl, by go_grown⟩
  · by_cases k1 : 16 < k
    · go_enter Tryz.func22, Tryz.ntmps22
      go_wp2
      go_ret2
      exact ⟨rfl, by go_grown⟩
    · by_cases m0 : m < 1
      · go_enter Tryz.func22, Tryz.ntmps22
        go_wp2
        go_ret2
        exact ⟨rfl, by go_grown⟩
      · have m1 : 65536 < m := by omega
        clear h
        go_enter Tryz.func22, Tryz.ntmps22
        go_wp2
        go_ret2
        exact ⟨rfl, by go_grown⟩
set_option maxHeartbeats 2000000 in
theorem fnew_any (s : Nat) (k m : Int) (ws : W64 s) (k0 : 1 ≤ k) (k1 : k ≤ 16) (m0 : 1 ≤ m) (m1 : m ≤ 65536) (w : World) :
    Calls Tryz.prog 22 #[.int .u64 s, .int .i64 k, .int .i64 m] w fun e w' => ∃ f, e = .returned (.tuple #[.pointer (some ⟨f, 0, none⟩), .int .i64 0]) ∧ Fil w' w.heap.size w'.heap.size f s k (List.replicate m.toNat 0) ∧ Below w.heap.size w w' := by
  have hm : min m.toNat 65536 = m.toNat := by omega
  have HM := Lib.hid hm
  clear hm
  go_enter Tryz.func22, Tryz.ntmps22
  go_wp2_with fail
  refine (new_any m (by omega) (by omega) _).mono ?_
  rintro e w1 ⟨v, rfl, ⟨g1, h1, rfl, N1⟩, hb1⟩
  have hw1 : Below w.heap.size w w1 := Below.trans (by go_grown) (hb1.mono (by go_size))
  have hz1 := hw1.size
  have N1' := N1.le (B' := w.heap.size) (by go_size)
  rw [HM.out] at N1'
  clear N1 hb1
  go_wp2_with fail
  refine (bnew_any m (by omega) (by omega) _).mono ?_
  rintro e w2 ⟨v, rfl, ⟨g2, h2, rfl, N2⟩, hb2⟩
  have hw2 : Below w.heap.size w w2 := hw1.trans (hb2.mono hz1)
  have hz2 := hb2.size
  rw [HM.out] at N2
  have HN1 := Lib.hid N1'
  have HN2 := Lib.hid N2
  have HB2 := Lib.hid hb2
  clear N1' N2 hb2
  go_wp2
  go_ret2
  have a1 := HN1.out.lt
  have a2 := HN1.out.low2
  have b1 := HN2.out.low
  have b2 := HN2.out.lt
  have b3 := HN2.out.low2
  refine ⟨w2.heap.size, rfl, ⟨g1, h1, g2, h2, ?_⟩, by go_grown⟩
  refine ⟨by simp [go_sem], by simp [go_sem], by simp [go_sem], by simp [go_sem], (HN1.out.below HB2.out).kept (World.grownBy_alloc _ _ none) (by simp) (by simp), ?_, by simp [onsC], by simp, ⟨by omega, by simp⟩, ⟨by simp; omega, by simp; omega⟩, ⟨by simp; omega, by simp; omega⟩, ⟨by omega, by omega, by omega⟩, ⟨by omega, by omega, by omega⟩, ws⟩
  rw [onsC_zero]
  exact (HN2.out.le hz1).kept (World.grownBy_alloc _ _ none) (by simp) (by simp)
end Go.Proofs.YtoihkbanmnagkaaGreat
/-
  A row of elements of k cells that is sorted by a test which may make blocks of its own: what is carried from call to call. No condition but those that stand in each.
-/
set_option linter.unusedSimpArgs false
set_option linter.unusedVariables false
namespace Go.Proofs.YtoihkbanmnagkaaGreat
open Go.RowKit Go.Sort M

section
variable {α : Type} [Inhabited α] {enc : α → List Value} {k : Nat} {w0 W W' : World} {blk off n : Nat} {d d' : Array α} {lt : α → α → Bool} {g : Nat} {lb : Array Value} {sf : Nat} {sb : Array Value}
theorem holdsK_below (h : HoldsK enc k W blk off d) (hl : blk < W.heap.size) (hb : RowKit.Below W.heap.size W W') : HoldsK enc k W' blk off d := by
  intro j hj
  obtain ⟨h1, h2⟩ := h j hj
  exact ⟨(hb.cell (p := ⟨blk, off + j, none⟩) hl).trans h1, (hb.frozen (p := ⟨blk, off + j, none⟩) hl).trans h2⟩
structure Srt (enc : α → List Value) (k : Nat) (w0 : World) (blk off n : Nat) (d : Array α) (W : World) : Prop where
  size : d.size = n
  holds : HoldsK enc k W blk off d
  touch : Touch (· = blk) w0 W
  lt : blk < w0.heap.size
theorem Srt.lt2 (S : Srt enc k w0 blk off n d W) : blk < W.heap.size := Nat.lt_of_lt_of_le S.lt S.touch.size
theorem Srt.below (S : Srt enc k w0 blk off n d W) (hb : RowKit.Below W.heap.size W W') : Srt enc k w0 blk off n d W' := ⟨S.size, holdsK_below S.holds S.lt2 hb, S.touch.trans (.quiet hb), S.lt⟩
theorem Srt.start (h : HoldsK enc k W blk off d) (hl : blk < W.heap.size) (hn : d.size = n) : Srt enc k W blk off n d W := ⟨hn, h, Touch.refl _ _, hl⟩
def LessB (g : Nat) (lb : Array Value) (enc : α → List Value) (k : Nat) (lt : α → α → Bool) (w0 : World) (blk off n : Nat) : Prop :=
  ∀ (W : World) (d : Array α), Srt enc k w0 blk off n d W → ∀ i j : Nat, i < n → j < n → Calls Tryz.prog g (#[.int .i64 (i : Int), .int .i64 (j : Int)] ++ lb) W fun e w' => e = .returned (.bool (lt d[i]! d[j]!)) ∧ RowKit.Below W.heap.size W w'
theorem Srt.less (S : Srt enc k w0 blk off n d W) (hL : LessB g lb enc k lt w0 blk off n) (x y : Int) (i j : Nat) (hi : i < n) (hj : j < n) (hx : (i : Int) = x) (hy : (j : Int) = y) :
    Calls Tryz.prog g (#[.int .i64 x, .int .i64 y] ++ lb) W fun e w' => e = .returned (.bool (lt d[i]! d[j]!)) ∧ Srt enc k w0 blk off n d w' ∧ Touch (· = blk) W w' := by
  subst hx hy
  exact (hL W d S i j hi hj).mono fun _ _ ⟨he, hb⟩ => ⟨he, S.below hb, .quiet hb⟩
theorem putRowK_touch (W : World) (d : Array α) : Touch (· = blk) W (putRowK enc k W blk off d) := by
  refine ⟨rfl, rfl, rfl, Nat.le_of_eq (size_putRowK enc k W blk off d).symm, fun j hj hn => ?_⟩
  show (W.heap.modify blk _)[j]? = W.heap[j]?
  rw [Array.getElem?_modify, if_neg (fun e => hn e.symm)]
theorem Srt.swap (S : Srt enc k w0 blk off n d W) (hS : SwapSwapsK Tryz.prog sf sb enc k blk off n) (hk : ∀ x, (enc x).length = k) (x y : Int) (i j : Nat) (hi : i < n) (hj : j < n) (hx : (i : Int) = x) (hy : (j : Int) = y) :
    ∃ w', (callFunc sf (#[.int .i64 x, .int .i64 y] ++ sb)).run Tryz.prog W = .ok (.value (.tuple #[])) w' ∧ Srt enc k w0 blk off n (swp d i j) w' ∧ Touch (· = blk) W w' := by
  subst hx hy
  have hs := S.size
  have h := hS W d S.holds S.size i j hi hj
  have e := putRowK_swp enc k hk W blk off d i j (by omega) (by omega)
  rw [putRowK_self enc k W blk off d S.holds] at e
  rw [e] at h
  exact ⟨_, h, ⟨by rw [size_swp]; exact S.size, holdsK_putRowK enc k W blk off d _ S.holds (size_swp _ _ _), S.touch.trans (putRowK_touch W _), S.lt⟩, putRowK_touch W _⟩
structure Bxd (x y : Value) (B blk : Nat) (W : World) : Prop where
  c0 : W.cell? ⟨B, 0, none⟩ = some x
  c1 : W.cell? ⟨B, 1, none⟩ = some y
  lt : B < W.heap.size
  ne : B ≠ blk
theorem Bxd.touch {x y : Value} {B : Nat} (h : Bxd x y B blk W) (t : Touch (· = blk) W W') : Bxd x y B blk W' := ⟨t.cell h.c0 h.ne, t.cell h.c1 h.ne, Nat.lt_of_lt_of_le h.lt t.size, h.ne⟩
structure Srd (enc : α → List Value) (k : Nat) (w0 : World) (blk off n : Nat) (x y : Value) (W : World) (d : Array α) (wr : World) : Prop where
  srt : Srt enc k w0 blk off n d wr
  touch : Touch (· = blk) W wr
  box : Bxd x y W.heap.size blk wr
theorem Srd.start {x y : Value} (S : Srt enc k w0 blk off n d W) (t : TypeId) : Srd enc k w0 blk off n x y W d (W.alloc (.cells #[x, y] t)) := by
  have hb : RowKit.Below W.heap.size W (W.alloc (.cells #[x, y] t)) := by go_grown
  have hl := S.lt2
  exact ⟨S.below hb, .quiet hb, ⟨by simp, by simp, by simp, by omega⟩⟩
theorem Srd.next {x y : Value} {wr : World} (R : Srd enc k w0 blk off n x y W d wr) (S : Srt enc k w0 blk off n d' W') (t : Touch (· = blk) wr W') : Srd enc k w0 blk off n x y W d' W' := ⟨S, R.touch.trans t, R.box.touch t⟩
end
end Go.Proofs.YtoihkbanmnagkaaGreat
