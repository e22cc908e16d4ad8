/-
  What levels.allWays hands back, walked. No condition but that the counts lie in memory, and bounds.
-/
import Derived.Test.YtnmcgboafdglbaaW17e
set_option linter.unusedSimpArgs false
set_option linter.unusedVariables false
namespace Go.Proofs.Ytnmcgboafdglbaa
open Go Go.RowKit Go.Sort M

/-- All ways: row k has the best of exactly k levels from each place. -/
def Wyz (w : World) (q : Option Addr) (M lo wd : Nat) (X : Nat → Nat → Wc) : Prop := ∃ g, q = some ⟨g, 0, none⟩ ∧ g < w.heap.size ∧ ∀ k, k < M → ∃ p, w.cell? ⟨g, k, none⟩ = some (.slice p (wd + 1) (wd + 1)) ∧ WRow w p lo wd (X k)
theorem Wyz.below {w w' : World} {q : Option Addr} {M lo wd : Nat} {X : Nat → Nat → Wc} (h : Wyz w q M lo wd X) (hb : Below w.heap.size w w') : Wyz w' q M lo wd X := by
  obtain ⟨g, e, hg, hc⟩ := h
  refine ⟨g, e, Nat.lt_of_lt_of_le hg hb.size, fun k hk => ?_⟩
  obtain ⟨p, e2, h3⟩ := hc k hk
  exact ⟨p, (hb.cell (p := ⟨g, k, none⟩) hg).trans e2, h3.below hb⟩
/-- What is filled in so far: the rows before k whole, row k up to place n. -/
structure Fld (X : Nat → Nat → Wc) (F : Nat → Nat → Wc) (lo wd k n : Nat) : Prop where
  full : ∀ i j, i < k → lo ≤ j → j ≤ wd → F i j = X i j
  part : ∀ j, lo ≤ j → j < n → F k j = X k j
  last : ∀ i, k ≤ i → F i wd = ⟨0, 0, false⟩
theorem Fld.step {X F : Nat → Nat → Wc} {lo wd k n : Nat} (h : Fld X F lo wd k n) (hn : n < wd) : Fld X (updW F k n (X k n)) lo wd k (n + 1) := by
  refine ⟨fun i j h1 h2 h3 => ?_, fun j h1 h2 => ?_, fun i h1 => ?_⟩
  · rw [updW_far _ _ _ _ _ _ (.inl (by omega))]; exact h.full i j h1 h2 h3
  · by_cases e : j = n
    · subst e; exact updW_same _ _ _ _
    · rw [updW_far _ _ _ _ _ _ (.inr e)]; exact h.part j h1 (by omega)
  · rw [updW_far _ _ _ _ _ _ (.inr (by omega))]; exact h.last i h1
theorem Fld.next {X F : Nat → Nat → Wc} {lo wd k : Nat} (h : Fld X F lo wd k wd) (hX : X k wd = ⟨0, 0, false⟩) : Fld X F lo wd (k + 1) lo := by
  refine ⟨fun i j h1 h2 h3 => ?_, fun j h1 h2 => by omega, fun i h1 => h.last i (by omega)⟩
  by_cases e : i = k
  · subst e
    by_cases e2 : j = wd
    · subst e2
      rw [h.last i (Nat.le_refl _), hX]
    · exact h.part j h2 (by omega)
  · exact h.full i j (by omega) h2 h3
theorem ex_last (C : List Int) (st wd n : Nat) : wyE (exO C st wd (n + 1) wd) = ⟨0, 0, false⟩ := by
  rw [exO, show min (wd + st) wd - wd = 0 by omega]
  rfl
theorem ex_first (C : List Int) (st wd lo : Nat) : Fld (fun k j => wyE (exO C st wd k j)) (updW (fun _ _ => ⟨0, 0, false⟩) 0 wd ⟨0, 0, true⟩) lo wd 1 lo := by
  refine ⟨fun i j h1 h2 h3 => ?_, fun j h1 h2 => by omega, fun i h1 => updW_far _ _ _ _ _ _ (.inl (by omega))⟩
  obtain rfl : i = 0 := by omega
  by_cases e : j = wd
  · subst e
    rw [updW_same]
    show _ = wyE (exO C st j 0 j)
    rw [exO, if_pos rfl]
    rfl
  · rw [updW_far _ _ _ _ _ _ (.inr e)]
    show _ = wyE (exO C st wd 0 j)
    rw [exO, if_neg e]
    rfl
set_option maxHeartbeats 4000000 in
set_option maxRecDepth 100000 in
theorem allWays_any (p : Option Addr) (c wd lo mo st : Nat) (C : List Int) (w : World) (hC : IRow w p C) (h1 : C.length ≤ 1000000) (h2 : C.length ≤ c) (h3 : 1 ≤ wd) (h4 : wd ≤ 128) (h5 : lo ≤ wd) (h6 : 1 ≤ st) (h7 : st ≤ 20) (h8 : mo ≤ 128) (M : Nat) (hM : M = min mo (wd - lo) + 1) :
    Calls Try.prog 16 #[.int .i64 (wd : Int), .int .i64 (lo : Int), .int .i64 (mo : Int), .int .i64 (st : Int), .slice p C.length c] w fun e w' => ∃ q, e = .returned (.slice q M M) ∧
      Wyz w' q M lo wd (fun k j => wyE (exO C st wd k j)) ∧ Below w.heap.size w w' := by
  have hac := allCosts_any p c wd lo st C w hC h1 h2 h3 h4 h5 h6 h7
  have hmk := make_row (P := Try.prog) (t := 37) (by kernel_rfl) infoY M (by omega) (by unfold maxLen; omega)
  have hmw := make_row (P := Try.prog) (t := 41) (by kernel_rfl) infoW (wd + 1) (by omega) (by unfold maxLen; omega)
  simp only [show ((wd + 1 : Nat) : Int) = (wd : Int) + 1 by omega] at hmw
  have HAC := Lib.hid hac
  clear hac hC
  by_cases hmin : (wd : Int) - (lo : Int) < (mo : Int)
  · simp only [show (M : Int) = (wd : Int) - (lo : Int) + 1 by omega] at hmk
    have hM1 : 1 ≤ M := by omega
    have hM2 : M ≤ 129 := by omega
    have HM := Lib.hid hM
    clear hM
    go_enter Try.func16, Try.ntmps16
    go_wp2_with fail
    refine HAC.out.mono ?_
    rintro e w1 ⟨q1, rfl, ⟨gc, rfl, hgc, hct⟩, hb1⟩
    have HCT := Lib.hid hct
    have HW0 := Lib.hid (Wys.start w1 M wd (fun _ _ => ⟨0, 0, false⟩) 41)
    have HZ0 : Hid ((w1.alloc (.cells (madeCells #[.slice none 0 0] M) 41)).heap.size = w1.heap.size + 1 + 0) := Lib.hid (by simp)
    have hb2 : Below w1.heap.size w1 (w1.alloc (.cells (madeCells #[.slice none 0 0] M) 41)) := (Below.refl _ _).alloc (Nat.le_refl _) _
    clear hct HAC
    go_wp2
    go_loopg [30] M (fun kx s30 wr => ∃ r : Nat, s30 = .int .i64 (r : Int) ∧ M - r ≤ kx ∧ r ≤ M ∧ Hid (Wys wr w1.heap.size r M wd (fun _ _ => ⟨0, 0, false⟩)) ∧ Hid (wr.heap.size = w1.heap.size + 1 + r) ∧ Below w1.heap.size w1 wr)
    case atStart => exact ⟨0, rfl, by omega, by omega, HW0, HZ0, hb2⟩
    case round =>
      clear HW0 HZ0 hb2 hmk
      obtain ⟨r, rfl, k1, k2, HY, HZ, hb⟩ := hrel
      by_cases hr : r < M
      · have x0 := HY.out.un r (Nat.le_refl _) hr
        have f0 := HY.out.free 0 r (Nat.zero_le _)
        rw [Nat.add_zero] at f0
        have hz := HZ.out
        have hg : w1.heap.size < wr.heap.size := by omega
        have hg2 : w1.heap.size < wr.heap.size + 1 := by omega
        have HZ2 : Hid (wr.heap.size + 1 = w1.heap.size + 1 + (r + 1)) := Lib.hid (by omega)
        clear hz
        go_wp2
        go_roundg (M - (r + 1))
        case measure => omega
        case rel =>
        rw [← World.setCell_alloc_past _ _ _ _ hg]
        exact ⟨r + 1, by go_num, by omega, by omega, Lib.hid (HY.out.laid hr HZ.out (fun _ => rfl) _), Lib.hid (by simpa using HZ2.out), bset17 (hb.alloc hb.size _) (Nat.le_refl _)⟩
      · obtain rfl : r = M := by omega
        have HY1 := Lib.hid (HY.out.store1 (k := 0) (j := wd) (by omega) (Nat.le_refl _) true)
        have x0 := HY.out.hd 0 (by omega)
        have x1 := (HY.out.c 0 wd (by omega) (Nat.le_refl _)).2.2
        have f1 := HY.out.free (0 + 1) (wd * 3 + 2) (by omega)
        rw [Nat.add_zero] at x0 x1 HY1
        have hg1 : w1.heap.size + 1 < wr.heap.size := by have := HY.out.lt; omega
        have hg : w1.heap.size < wr.heap.size := by omega
        have HFL := Lib.hid (ex_first C st wd lo)
        have hbs := bset17 (o := wd * 3 + 2) (v := .bool true) hb (Nat.le_succ w1.heap.size)
        clear HY HZ
        go_wp2
        go_loopg [14] r (fun kx s14 wr => ∃ (k : Nat) (F : Nat → Nat → Wc), s14 = .int .i64 ((k : Int) + 1) ∧ r - k ≤ kx ∧ k + 1 ≤ r ∧ Hid (Wys wr w1.heap.size r r wd F) ∧ Hid (Fld (fun k j => wyE (exO C st wd k j)) F lo wd (k + 1) lo) ∧ Below w1.heap.size w1 wr)
        case atStart => exact ⟨0, _, by go_num, by omega, by omega, HY1, HFL, hbs⟩
        case round =>
          clear HY1 HFL hbs x0 x1 f1 hg1 hg hb
          obtain ⟨k, F, rfl, k3, k4, HY, HFL, hb⟩ := hrel
          by_cases hk : k + 1 < r
          · go_wp2
            rename World => wo
            go_loopg [15] wd (fun kx s15 wr => ∃ (a : Nat) (F : Nat → Nat → Wc), s15 = .int .i64 (a : Int) ∧ wd - a ≤ kx ∧ lo ≤ a ∧ a ≤ wd ∧ Hid (Wys wr w1.heap.size r r wd F) ∧ Hid (Fld (fun k j => wyE (exO C st wd k j)) F lo wd (k + 1) a) ∧ Below w1.heap.size w1 wr)
            case atStart => exact ⟨lo, F, rfl, by omega, by omega, by omega, HY, HFL, hb⟩
            case round =>
              clear HY HFL hb
              obtain ⟨a, F, rfl, k5, k6, k7, HY, HFL, hb⟩ := hrel
              by_cases ha : a < wd
              · have x0 := HY.out.hd (k + 1) (by omega)
                have x1 := HY.out.hd k (by omega)
                obtain ⟨qc, cc, c0, hir⟩ := HCT.out a k6 ha
                have c0 := (hb.cell (p := ⟨gc, a, none⟩) hgc).trans c0
                have hgc2 := Nat.lt_of_lt_of_le hgc hb.size
                rw [pcL_len] at c0
                have hlt := HY.out.lt
                have hwr := HY.out.row_eq (k := k) (by omega) (a + 1) (X := fun j => wyE (exO C st wd k j)) (fun j h1 h2 => HFL.out.full k j (by omega) (by omega) h2)
                have hch := fun W (hW : Below wr.heap.size wr W) => cheapest_any qc (some ⟨w1.heap.size + 1 + k, 0, none⟩) cc (wd + 1) a wd (min (a + st) wd - a) (fun j => ptC C a (a + 1 + j)) (fun j => wyE (exO C st wd k j))
                  (fun i => wyE (fdO (fun k' => cdO C a (a + 1 + k') (exO C st wd k (a + 1 + k'))) none i)) W ((hir.below hb).below hW) (hwr.below hW) (by omega) h4
                  (fun i hi => capS_top (ptC_le C a (a + 1 + i) (by omega)) (by omega)) (fun j => capS_top (ex_le C h7 k j) (by omega)) rfl (fun i hi => ex_stepW C st wd k a i _ _ rfl rfl)
                obtain ⟨x, hx⟩ : ∃ x, x = wyE (exO C st wd (k + 1) a) := ⟨_, rfl⟩
                have HX := Lib.hid hx
                have hch2 : ∀ W, Below wr.heap.size wr W → Calls Try.prog 24 #[.int .i64 (a : Int), .slice qc (min (a + st) wd - a) cc, .slice (some ⟨w1.heap.size + 1 + k, 0, none⟩) (wd + 1) (wd + 1)] W fun e w' => e = .returned (wyV x) ∧ Below W.heap.size W w' := by rw [hx]; exact hch
                obtain ⟨xc, xf, xt⟩ := x
                unfold wyV at hch2
                simp only at hch2
                obtain ⟨K, hK⟩ : ∃ K, K = min (a + st) wd - a := ⟨_, rfl⟩
                rw [← hK] at hch2 c0
                have HCH := Lib.hid hch2
                have i1 : (0 : Int) ≤ (k : Int) + 1 := by omega
                have i2 : (k : Int) + 1 < (r : Int) := by omega
                have i3 : (k : Int) < (r : Int) := by omega
                have i4 : (a : Int) < (wd : Int) := by omega
                have hg : w1.heap.size < wr.heap.size := by omega
                clear hir hwr hch hch2 hx hK
                go_wp2_with fail
                have kg := cell_grow
                refine region_tail 17 (by kernel_rfl) (by kernel_rfl) ?_
                simp only [List.take_succ_cons, List.take_zero, List.drop_succ_cons, List.drop_zero]
                repeat (any_goals (first | go_big_quiet_step ((exact Calls.regrown_of (HCH.out _ (below_regrown _ _ _)))) | quiet_step ((exact Calls.regrown_of (HCH.out _ (below_regrown _ _ _))))))
                refine wpQuiet_nil ?_
                clear kg
                intro w15 hb15
                obtain ⟨hc15, hf15⟩ := bcell hb15
                have HY2 := HY.out.below hb15
                have hc2 := HY2.c (k + 1) a hk k7
                obtain ⟨d0, d1, d2⟩ := hc2
                have ek : w1.heap.size + (k + 2) = w1.heap.size + 1 + (k + 1) := by omega
                have e0 := HY2.free (k + 2) (a * 3) (by omega)
                have e1 := HY2.free (k + 2) (a * 3 + 1) (by omega)
                have e2 := HY2.free (k + 2) (a * 3 + 2) (by omega)
                rw [ek] at e0 e1 e2
                have HYN := Lib.hid (HY2.store (k := k + 1) (j := a) hk k7 ⟨xc, xf, xt⟩)
                have HFN := Lib.hid (HFL.out.step ha)
                rw [← HX.out] at HFN
                have hb := hb.trans (hb15.mono hb.size)
                have hgz := Nat.lt_of_lt_of_le (show w1.heap.size + 1 + (k + 1) < wr.heap.size by omega) hb15.size
                have hk1 : w1.heap.size ≤ w1.heap.size + 1 + (k + 1) := by omega
                clear HY HFL HX HCH hb15 hc15 hf15 HY2 ek x0 x1 c0 hlt hgc2
                go_wp2
                go_roundg (wd - (a + 1))
                case measure => omega
                case rel => exact ⟨a + 1, _, by go_num, by omega, by omega, by omega, HYN, HFN, bset17 (bset17 (bset17 hb hk1) hk1) hk1⟩
              · obtain rfl : a = wd := by omega
                have HFN := Lib.hid (HFL.out.next (ex_last C st a k))
                go_wp2
                go_roundg (r - (k + 1))
                case measure => omega
                case rel => exact ⟨k + 1, F, by go_num, by omega, by omega, HY, HFN, hb⟩
          · obtain rfl : r = k + 1 := by omega
            go_wp2
            go_ret
            have hlt := HY.out.lt
            exact ⟨_, rfl, ⟨_, rfl, by omega, fun i hi => ⟨_, HY.out.hd i hi, HY.out.row_eq hi lo (fun j h1 h2 => HFL.out.full i j hi h1 h2)⟩⟩, hb1.trans (hb.mono hb1.size)⟩
  · simp only [show (M : Int) = (mo : Int) + 1 by omega] at hmk
    have hM1 : 1 ≤ M := by omega
    have hM2 : M ≤ 129 := by omega
    have HM := Lib.hid hM
    clear hM
    go_enter Try.func16, Try.ntmps16
    go_wp2_with fail
    refine HAC.out.mono ?_
    rintro e w1 ⟨q1, rfl, ⟨gc, rfl, hgc, hct⟩, hb1⟩
    have HCT := Lib.hid hct
    have HW0 := Lib.hid (Wys.start w1 M wd (fun _ _ => ⟨0, 0, false⟩) 41)
    have HZ0 : Hid ((w1.alloc (.cells (madeCells #[.slice none 0 0] M) 41)).heap.size = w1.heap.size + 1 + 0) := Lib.hid (by simp)
    have hb2 : Below w1.heap.size w1 (w1.alloc (.cells (madeCells #[.slice none 0 0] M) 41)) := (Below.refl _ _).alloc (Nat.le_refl _) _
    clear hct HAC
    go_wp2
    go_loopg [30] M (fun kx s30 wr => ∃ r : Nat, s30 = .int .i64 (r : Int) ∧ M - r ≤ kx ∧ r ≤ M ∧ Hid (Wys wr w1.heap.size r M wd (fun _ _ => ⟨0, 0, false⟩)) ∧ Hid (wr.heap.size = w1.heap.size + 1 + r) ∧ Below w1.heap.size w1 wr)
    case atStart => exact ⟨0, rfl, by omega, by omega, HW0, HZ0, hb2⟩
    case round =>
      clear HW0 HZ0 hb2 hmk
      obtain ⟨r, rfl, k1, k2, HY, HZ, hb⟩ := hrel
      by_cases hr : r < M
      · have x0 := HY.out.un r (Nat.le_refl _) hr
        have f0 := HY.out.free 0 r (Nat.zero_le _)
        rw [Nat.add_zero] at f0
        have hz := HZ.out
        have hg : w1.heap.size < wr.heap.size := by omega
        have hg2 : w1.heap.size < wr.heap.size + 1 := by omega
        have HZ2 : Hid (wr.heap.size + 1 = w1.heap.size + 1 + (r + 1)) := Lib.hid (by omega)
        clear hz
        go_wp2
        go_roundg (M - (r + 1))
        case measure => omega
        case rel =>
        rw [← World.setCell_alloc_past _ _ _ _ hg]
        exact ⟨r + 1, by go_num, by omega, by omega, Lib.hid (HY.out.laid hr HZ.out (fun _ => rfl) _), Lib.hid (by simpa using HZ2.out), bset17 (hb.alloc hb.size _) (Nat.le_refl _)⟩
      · obtain rfl : r = M := by omega
        have HY1 := Lib.hid (HY.out.store1 (k := 0) (j := wd) (by omega) (Nat.le_refl _) true)
        have x0 := HY.out.hd 0 (by omega)
        have x1 := (HY.out.c 0 wd (by omega) (Nat.le_refl _)).2.2
        have f1 := HY.out.free (0 + 1) (wd * 3 + 2) (by omega)
        rw [Nat.add_zero] at x0 x1 HY1
        have hg1 : w1.heap.size + 1 < wr.heap.size := by have := HY.out.lt; omega
        have hg : w1.heap.size < wr.heap.size := by omega
        have HFL := Lib.hid (ex_first C st wd lo)
        have hbs := bset17 (o := wd * 3 + 2) (v := .bool true) hb (Nat.le_succ w1.heap.size)
        clear HY HZ
        go_wp2
        go_loopg [14] r (fun kx s14 wr => ∃ (k : Nat) (F : Nat → Nat → Wc), s14 = .int .i64 ((k : Int) + 1) ∧ r - k ≤ kx ∧ k + 1 ≤ r ∧ Hid (Wys wr w1.heap.size r r wd F) ∧ Hid (Fld (fun k j => wyE (exO C st wd k j)) F lo wd (k + 1) lo) ∧ Below w1.heap.size w1 wr)
        case atStart => exact ⟨0, _, by go_num, by omega, by omega, HY1, HFL, hbs⟩
        case round =>
          clear HY1 HFL hbs x0 x1 f1 hg1 hg hb
          obtain ⟨k, F, rfl, k3, k4, HY, HFL, hb⟩ := hrel
          by_cases hk : k + 1 < r
          · go_wp2
            rename World => wo
            go_loopg [15] wd (fun kx s15 wr => ∃ (a : Nat) (F : Nat → Nat → Wc), s15 = .int .i64 (a : Int) ∧ wd - a ≤ kx ∧ lo ≤ a ∧ a ≤ wd ∧ Hid (Wys wr w1.heap.size r r wd F) ∧ Hid (Fld (fun k j => wyE (exO C st wd k j)) F lo wd (k + 1) a) ∧ Below w1.heap.size w1 wr)
            case atStart => exact ⟨lo, F, rfl, by omega, by omega, by omega, HY, HFL, hb⟩
            case round =>
              clear HY HFL hb
              obtain ⟨a, F, rfl, k5, k6, k7, HY, HFL, hb⟩ := hrel
              by_cases ha : a < wd
              · have x0 := HY.out.hd (k + 1) (by omega)
                have x1 := HY.out.hd k (by omega)
                obtain ⟨qc, cc, c0, hir⟩ := HCT.out a k6 ha
                have c0 := (hb.cell (p := ⟨gc, a, none⟩) hgc).trans c0
                have hgc2 := Nat.lt_of_lt_of_le hgc hb.size
                rw [pcL_len] at c0
                have hlt := HY.out.lt
                have hwr := HY.out.row_eq (k := k) (by omega) (a + 1) (X := fun j => wyE (exO C st wd k j)) (fun j h1 h2 => HFL.out.full k j (by omega) (by omega) h2)
                have hch := fun W (hW : Below wr.heap.size wr W) => cheapest_any qc (some ⟨w1.heap.size + 1 + k, 0, none⟩) cc (wd + 1) a wd (min (a + st) wd - a) (fun j => ptC C a (a + 1 + j)) (fun j => wyE (exO C st wd k j))
                  (fun i => wyE (fdO (fun k' => cdO C a (a + 1 + k') (exO C st wd k (a + 1 + k'))) none i)) W ((hir.below hb).below hW) (hwr.below hW) (by omega) h4
                  (fun i hi => capS_top (ptC_le C a (a + 1 + i) (by omega)) (by omega)) (fun j => capS_top (ex_le C h7 k j) (by omega)) rfl (fun i hi => ex_stepW C st wd k a i _ _ rfl rfl)
                obtain ⟨x, hx⟩ : ∃ x, x = wyE (exO C st wd (k + 1) a) := ⟨_, rfl⟩
                have HX := Lib.hid hx
                have hch2 : ∀ W, Below wr.heap.size wr W → Calls Try.prog 24 #[.int .i64 (a : Int), .slice qc (min (a + st) wd - a) cc, .slice (some ⟨w1.heap.size + 1 + k, 0, none⟩) (wd + 1) (wd + 1)] W fun e w' => e = .returned (wyV x) ∧ Below W.heap.size W w' := by rw [hx]; exact hch
                obtain ⟨xc, xf, xt⟩ := x
                unfold wyV at hch2
                simp only at hch2
                obtain ⟨K, hK⟩ : ∃ K, K = min (a + st) wd - a := ⟨_, rfl⟩
                rw [← hK] at hch2 c0
                have HCH := Lib.hid hch2
                have i1 : (0 : Int) ≤ (k : Int) + 1 := by omega
                have i2 : (k : Int) + 1 < (r : Int) := by omega
                have i3 : (k : Int) < (r : Int) := by omega
                have i4 : (a : Int) < (wd : Int) := by omega
                have hg : w1.heap.size < wr.heap.size := by omega
                clear hir hwr hch hch2 hx hK
                go_wp2_with fail
                have kg := cell_grow
                refine region_tail 17 (by kernel_rfl) (by kernel_rfl) ?_
                simp only [List.take_succ_cons, List.take_zero, List.drop_succ_cons, List.drop_zero]
                repeat (any_goals (first | go_big_quiet_step ((exact Calls.regrown_of (HCH.out _ (below_regrown _ _ _)))) | quiet_step ((exact Calls.regrown_of (HCH.out _ (below_regrown _ _ _))))))
                refine wpQuiet_nil ?_
                clear kg
                intro w15 hb15
                obtain ⟨hc15, hf15⟩ := bcell hb15
                have HY2 := HY.out.below hb15
                have hc2 := HY2.c (k + 1) a hk k7
                obtain ⟨d0, d1, d2⟩ := hc2
                have ek : w1.heap.size + (k + 2) = w1.heap.size + 1 + (k + 1) := by omega
                have e0 := HY2.free (k + 2) (a * 3) (by omega)
                have e1 := HY2.free (k + 2) (a * 3 + 1) (by omega)
                have e2 := HY2.free (k + 2) (a * 3 + 2) (by omega)
                rw [ek] at e0 e1 e2
                have HYN := Lib.hid (HY2.store (k := k + 1) (j := a) hk k7 ⟨xc, xf, xt⟩)
                have HFN := Lib.hid (HFL.out.step ha)
                rw [← HX.out] at HFN
                have hb := hb.trans (hb15.mono hb.size)
                have hgz := Nat.lt_of_lt_of_le (show w1.heap.size + 1 + (k + 1) < wr.heap.size by omega) hb15.size
                have hk1 : w1.heap.size ≤ w1.heap.size + 1 + (k + 1) := by omega
                clear HY HFL HX HCH hb15 hc15 hf15 HY2 ek x0 x1 c0 hlt hgc2
                go_wp2
                go_roundg (wd - (a + 1))
                case measure => omega
                case rel => exact ⟨a + 1, _, by go_num, by omega, by omega, by omega, HYN, HFN, bset17 (bset17 (bset17 hb hk1) hk1) hk1⟩
              · obtain rfl : a = wd := by omega
                have HFN := Lib.hid (HFL.out.next (ex_last C st a k))
                go_wp2
                go_roundg (r - (k + 1))
                case measure => omega
                case rel => exact ⟨k + 1, F, by go_num, by omega, by omega, HY, HFN, hb⟩
          · obtain rfl : r = k + 1 := by omega
            go_wp2
            go_ret
            have hlt := HY.out.lt
            exact ⟨_, rfl, ⟨_, rfl, by omega, fun i hi => ⟨_, HY.out.hd i hi, HY.out.row_eq hi lo (fun j h1 h2 => HFL.out.full i j hi h1 h2)⟩⟩, hb1.trans (hb.mono hb1.size)⟩
end Go.Proofs.Ytnmcgboafdglbaa
