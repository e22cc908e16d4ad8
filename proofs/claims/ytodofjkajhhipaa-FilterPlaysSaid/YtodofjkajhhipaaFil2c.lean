/-
  What May of a counting filter says. No condition but those that stand in each.
-/
import Derived.Test.YtodofjkajhhipaaFil
set_option linter.unusedSimpArgs false
set_option linter.unusedVariables false
namespace Go.Proofs.Ytodofjkajhhipaa
open Go.RowKit Go.Sort M

set_option maxHeartbeats 2000000 in
theorem fmay_any (lo hi f s : Nat) (k : Int) (C : List Nat) (h l : Nat) (n : Int) (w : World) (H : Fil w lo hi f s k C) (wh : W64 h) (wl : W64 l) (hm : 1 ≤ C.length) :
    Calls Try.prog 15 #[.pointer (some ⟨f, 0, none⟩), .agg #[.int .u64 h, .int .u64 l, .int .i64 n]] w fun e w' => e = .returned (.bool (mayL C (plc s h l n k C.length))) ∧ Below w.heap.size w w' := by
  have hP : ∀ wx, Fil wx lo hi f s k C → Calls Try.prog 25 #[.pointer (some ⟨f, 0, none⟩), .agg #[.int .u64 h, .int .u64 l, .int .i64 n]] wx fun e w' => ∃ p c, e = .returned (.slice p (plc s h l n k C.length).length c) ∧
      w'.ownsRow wx.heap.size 3 1 (.slice p (plc s h l n k C.length).length c) (plc s h l n k C.length).length (ics (plc s h l n k C.length)) ∧ Below wx.heap.size wx w' := fun wx H => fplaces_any lo hi f s k C h l n wx H wh wl
  have hL16 := plc_len s h l n k C.length
  have HLN : Hid (∀ wx, Fil wx lo hi f s k C → Calls Try.prog 21 #[.pointer (some ⟨f, 0, none⟩)] wx fun e w' => e = .returned (.int .i64 (C.length : Int)) ∧ Below wx.heap.size wx w') := Lib.hid (fun wx H => flen_any lo hi f s k C wx H)
  generalize plc s h l n k C.length = L at *
  have HP := Lib.hid hP
  have HC := Lib.hid H
  clear hP H
  go_enter Try.func15, Try.ntmps15
  go_wp2_with fail
  refine (HLN.out _ (HC.out.below (by go_grown))).mono ?_
  rintro e w0 ⟨rfl, hb0⟩
  have hw0 : Below w.heap.size w w0 := Below.trans (by go_grown) (hb0.mono (by go_size))
  have hz0 := hw0.size
  have b0 : w0.cell? ⟨w.heap.size, 0, none⟩ = some (.int .u64 h) := by
    rw [hb0.cell (by simp <;> omega)]
    first | assumption | (simp [go_sem]; done) | (simp [go_sem, *]; done)
  have b1 : w0.cell? ⟨w.heap.size, 1, none⟩ = some (.int .u64 l) := by
    rw [hb0.cell (by simp <;> omega)]
    first | assumption | (simp [go_sem]; done) | (simp [go_sem, *]; done)
  have b2 : w0.cell? ⟨w.heap.size, 2, none⟩ = some (.int .i64 n) := by
    rw [hb0.cell (by simp <;> omega)]
    first | assumption | (simp [go_sem]; done) | (simp [go_sem, *]; done)
  have hzb : w.heap.size < w0.heap.size := by have := hb0.size; simp at this; omega
  go_wp2_with fail
  refine (HP.out _ (HC.out.below (by go_grown))).mono ?_
  rintro e w1 ⟨p, c, rfl, hown, hb1⟩
  have hw1 : Below w.heap.size w w1 := hw0.trans (hb1.mono hz0)
  have hown2 := own_le (B' := w.heap.size) hown hz0
  obtain ⟨g1, h1, g2, h2, H⟩ := HC.out.below hw1
  clear hown hb1 HP hb0 hw0 hz0 HLN
  have c3 := H.c3
  have hl := H.lt
  have hz1 := hw1.size
  have HB := Lib.hid H.bs
  have HRW := Lib.hid (IRow.of_own hown2)
  clear H hown2
  go_wp2
  go_loopw [14] (fun i14 wr => ∃ i : Nat, i ≤ L.length ∧ i14 = .int .i64 i ∧ Hid (∀ j (hj : j < L.length), j < i → getN C L[j] ≠ 0) ∧ Below w1.heap.size w1 wr) (fun i14 _ => L.length - (intOf i14).toNat)
  case atStart => exact ⟨0, Nat.zero_le _, rfl, Lib.hid (fun j _ h => absurd h (by omega)), Below.refl _ _⟩
  case round =>
    obtain ⟨i, hi2, rfl, hall, hb⟩ := hrel
    have hz := hb.size
    have hc3 := (hb.cell (p := ⟨f, 3, none⟩) hl).trans c3
    by_cases hlt : i < L.length
    · obtain ⟨gr, orr, rfl, hgr, d0⟩ := (HRW.out.below hb).at hlt
      generalize hx : L[i] = x at *
      by_cases hg : getN C x = 0
      · have hno := mayL_no hlt (by rw [hx]; exact hg)
        have HNO := Lib.hid hno
        have HGE : Hid (getB (onsC C) x = false) := Lib.hid (by rw [getB_ons]; simp [hg])
        clear hx hg hno
        go_wp2_with fail
        refine (bget_any _ _ _ _ x _ (HB.out.below hb)).mono ?_
        rintro e w2 ⟨rfl, hb2⟩
        rw [HGE.out]
        go_wp2
        go_ret
        exact ⟨ret_bool HNO.out.symm, hw1.trans ((hb.trans (hb2.mono hz)).mono hz1)⟩
      · have HGE : Hid (getB (onsC C) x = true) := Lib.hid (by rw [getB_ons]; simp [hg])
        have HN2 : Hid (∀ j (hj : j < L.length), j < i + 1 → getN C L[j] ≠ 0) := by
          intro j hj hji
          by_cases e : j = i
          · subst e
            rw [hx]
            exact hg
          · exact hall.out j hj (by omega)
        clear hx hg hall
        go_wp2_with fail
        refine (bget_any _ _ _ _ x _ (HB.out.below hb)).mono ?_
        rintro e w2 ⟨rfl, hb2⟩
        rw [HGE.out]
        have hbb := hb.trans (hb2.mono hz)
        go_wp2
        go_roundw
        case rel => exact ⟨i + 1, by omega, by go_num, HN2, hbb⟩
        case measure => simp [intOf]; omega
    · go_wp2
      go_ret
      exact ⟨ret_bool (mayL_yes (fun j hj => hall.out j hj (by omega))).symm, hw1.trans (hb.mono hz1)⟩
end Go.Proofs.Ytodofjkajhhipaa
