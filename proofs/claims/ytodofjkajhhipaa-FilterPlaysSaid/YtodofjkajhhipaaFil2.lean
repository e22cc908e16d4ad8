/-
  What Add of a counting filter does. No condition but those that stand in each.
-/
import Derived.Test.YtodofjkajhhipaaFil
set_option linter.unusedSimpArgs false
set_option linter.unusedVariables false
namespace Go.Proofs.Ytodofjkajhhipaa
open Go.RowKit Go.Sort M

set_option maxHeartbeats 2000000 in
theorem fadd_any (lo hi f s : Nat) (k : Int) (C : List Nat) (h l : Nat) (n : Int) (w : World) (H : Fil w lo hi f s k C) (wh : W64 h) (wl : W64 l) :
    Calls Try.prog 11 #[.pointer (some ⟨f, 0, none⟩), .agg #[.int .u64 h, .int .u64 l, .int .i64 n]] w fun e w' => e = .returned (.tuple #[]) ∧
      Fil w' lo hi f s k (addL C (plc s h l n k C.length)) ∧ Touch (In lo hi) w w' := by
  have hP : ∀ wx, Fil wx lo hi f s k C → Calls Try.prog 25 #[.pointer (some ⟨f, 0, none⟩), .agg #[.int .u64 h, .int .u64 l, .int .i64 n]] wx fun e w' => ∃ p c, e = .returned (.slice p (plc s h l n k C.length).length c) ∧
      w'.ownsRow wx.heap.size 3 1 (.slice p (plc s h l n k C.length).length c) (plc s h l n k C.length).length (ics (plc s h l n k C.length)) ∧ Below wx.heap.size wx w' := fun wx H => fplaces_any lo hi f s k C h l n wx H wh wl
  have hL16 := plc_len s h l n k C.length
  generalize plc s h l n k C.length = L at *
  have HP := Lib.hid hP
  have HC := Lib.hid H
  clear hP H
  go_enter Try.func11, Try.ntmps11
  go_wp2_with fail
  refine (HP.out _ (HC.out.below (by go_grown))).mono ?_
  rintro e w1 ⟨p, c, rfl, hown, hb1⟩
  have hw1 : Below w.heap.size w w1 := Below.trans (by go_grown) (hb1.mono (by go_size))
  have hown2 := own_le (B' := w.heap.size) hown (by go_size)
  have HC1 := Lib.hid (HC.out.below hw1)
  have htop : hi ≤ w.heap.size := by
    obtain ⟨g1, h1, g2, h2, H⟩ := HC.out
    exact H.top
  obtain ⟨g1, h1, g2, h2, H⟩ := HC1.out
  clear hown hb1 HC1 HP
  go_wp2
  go_loopw [10] (fun i10 wr => ∃ i : Nat, i ≤ L.length ∧ i10 = .int .i64 i ∧ FilB wr lo hi f g1 h1 g2 h2 s k (addL C (L.take i)) (onsC (addL C (L.take i))) ∧ wr.ownsRow w.heap.size 3 1 (.slice p L.length c) L.length (ics L) ∧ Touch (In lo hi) w wr) (fun i10 _ => L.length - (intOf i10).toNat)
  case atStart => exact ⟨0, Nat.zero_le _, rfl, H, hown2, Touch.of_below hw1 (fun k h1 h2 => absurd h1 (by omega))⟩
  case round =>
    clear H hown2 hw1
    obtain ⟨i, hi2, rfl, H, hown, ht⟩ := hrel
    have hz := ht.size
    by_cases hlt : i < L.length
    · obtain ⟨gr, orr, rfl, hgr, d0⟩ := (IRow.of_own hown).at hlt
      have hsn := addL_snoc C L i hlt
      have hlow := (hown.lt gr rfl).1
      generalize hx : L[i] = x at *
      generalize hA : addL C (L.take i) = A at *
      have HSN := Lib.hid hsn
      clear hx hA hsn
      have c2 := H.c2
      have hl := H.lt
      have HH := Lib.hid H
      have HO := Lib.hid hown
      clear H hown
      go_wp2_with fail
      refine (up_any _ _ _ _ x _ HH.out.cs).mono ?_
      rintro e w2 ⟨rfl, hN2, hg2⟩
      obtain ⟨H2, ht2⟩ := HH.out.turnC hN2 (upL_len _ _) hg2
      have hown2 := Touch.own HO.out ht2 (fun j e hj => by cases e; exact absurd (show gr < hi from hj.2) (by omega))
      have ht3 := ht.trans ht2
      have c3 := H2.c3
      have hl2 := H2.lt
      have HH2 := Lib.hid H2
      have HO2 := Lib.hid hown2
      clear H2 hown2 hN2 hg2 ht2 ht c2
      go_wp2_with fail
      refine (bset_any _ _ _ _ x _ _ HH2.out.bs).mono ?_
      rintro e w3 ⟨rfl, hN3, hg3⟩
      obtain ⟨H3, ht4⟩ := HH2.out.turnD hN3 (setB_len _ _ _) hg3
      have hown3 := Touch.own HO2.out ht4 (fun j e hj => by cases e; exact absurd (show gr < hi from hj.2) (by omega))
      have ht5 := ht3.trans ht4
      rw [ons_up, ← HSN.out] at H3
      clear hN3 hg3 ht3 ht4
      go_wp2
      go_roundw
      case rel => exact ⟨i + 1, by omega, by go_num, H3, hown3, ht5⟩
      case measure => simp [intOf]; omega
    · go_wp2
      go_end0
      rw [List.take_of_length_le (by omega)] at H
      exact ⟨rfl, ⟨_, _, _, _, H⟩, ht⟩
end Go.Proofs.Ytodofjkajhhipaa
