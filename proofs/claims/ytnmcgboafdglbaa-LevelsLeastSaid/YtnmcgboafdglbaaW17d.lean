/-
  What levels.allCosts hands back, walked. No condition but that the counts lie in memory, and bounds.
-/
import Derived.Test.YtnmcgboafdglbaaW17c
import Derived.Test.YtnmcgboafdglbaaRow
set_option linter.unusedSimpArgs false
set_option linter.unusedVariables false
namespace Go.Proofs.Ytnmcgboafdglbaa
open Go Go.RowKit Go.Sort M

theorem infoS : (Try.prog.info? 22).map (fun i => (i.zero, i.size, i.bytes)) = some (some (.slice none 0 0), 1, 24) := by kernel_rfl
set_option maxHeartbeats 4000000 in
set_option maxRecDepth 100000 in
theorem allCosts_any (p : Option Addr) (c wd lo st : Nat) (C : List Int) (w : World) (hC : IRow w p C) (h1 : C.length ≤ 1000000) (h2 : C.length ≤ c) (h3 : 1 ≤ wd) (h4 : wd ≤ 128) (h5 : lo ≤ wd) (h6 : 1 ≤ st) (h7 : st ≤ 20) :
    Calls Try.prog 23 #[.int .i64 (wd : Int), .int .i64 (lo : Int), .int .i64 (st : Int), .slice p C.length c] w fun e w' => ∃ q, e = .returned (.slice q wd wd) ∧
      Cts w' q lo wd (fun a => pcL (fun j => ptC C a (a + 1 + j)) (min (a + st) wd - a)) ∧ Below w.heap.size w w' := by
  have hmk := make_row (P := Try.prog) (t := 51) (by kernel_rfl) infoS wd (by omega) (by unfold maxLen; omega)
  have HC := Lib.hid hC
  obtain ⟨i0, hi0, iz0, iz1, iz2⟩ := info_parts infoI
  have hst0 : Hid (Cst (w.alloc (.cells (madeCells #[.slice none 0 0] (wd * 1)) 22)) w.heap.size (w.heap.size + 1) lo lo wd (fun a => pcL (fun j => ptC C a (a + 1 + j)) (min (a + st) wd - a)) ∧
      (lo < wd → (w.alloc (.cells (madeCells #[.slice none 0 0] (wd * 1)) 22)).cell? ⟨w.heap.size, lo, none⟩ = some (.slice none 0 0))) := by
    have hcell : ∀ k, k < wd → (w.alloc (.cells (madeCells #[.slice none 0 0] (wd * 1)) 22)).cell? ⟨w.heap.size, k, none⟩ = some (.slice none 0 0) := fun k hk => by
      have := new_cells w (madeCells #[.slice none 0 0] (wd * 1)) 22 k (.slice none 0 0) (by rw [Nat.mul_one, toList_madeCells_one]; simp [hk])
      rwa [show (⟨w.heap.size, 0, none⟩ : Addr).add k = ⟨w.heap.size, k, none⟩ by unfold Addr.add; split <;> simp_all] at this
    exact Lib.hid ⟨⟨fun k _ h => by omega, fun k _ h => hcell k h, fun j => by simp [go_sem], by omega, by simp⟩, hcell lo⟩
  clear hC
  go_enter Try.func23, Try.ntmps23
  go_wp2
  go_loopg [10] wd (fun kx s10 wr => ∃ a : Nat, s10 = .int .i64 (a : Int) ∧ wd - a ≤ kx ∧ lo ≤ a ∧ a ≤ wd ∧
    Hid (Cst wr w.heap.size wr.heap.size lo a wd (fun a => pcL (fun j => ptC C a (a + 1 + j)) (min (a + st) wd - a)) ∧ (a < wd → wr.cell? ⟨w.heap.size, a, none⟩ = some (.slice none 0 0))) ∧ Below w.heap.size w wr)
  case atStart => exact ⟨lo, rfl, by omega, by omega, by omega, (by simpa using hst0), by go_grown⟩
  case round =>
    clear hst0
    obtain ⟨a, rfl, h8, h9, h10, HS, hb⟩ := hrel
    by_cases ha : a < wd
    · obtain ⟨S, hS⟩ : ∃ S, S = wr.heap.size := ⟨_, rfl⟩
      have hSw := hb.size
      have HSS : Hid (Cst wr w.heap.size S lo a wd (fun a => pcL (fun j => ptC C a (a + 1 + j)) (min (a + st) wd - a))) := by rw [hS]; exact Lib.hid HS.out.1
      have x0 := HS.out.2 ha
      have hSb : w.heap.size < S := by rw [hS]; exact HS.out.1.lt
      have hSl : S ≤ wr.heap.size := by omega
      have hown0 : Hid (wr.ownsRow S 3 1 (.slice none 0 0) 0 (ics (pcL (fun j => ptC C a (a + 1 + j)) 0))) := Lib.hid (World.ownsRow_nil _ _ _ _)
      clear HS hS
      go_wp2
      rename World => wo
      go_loopg [11] (min (a + st) wd - a) (fun kx s11 wr => ∃ (i : Nat) (v : Value), s11 = .int .i64 ((a : Int) + 1 + (i : Int)) ∧ min (a + st) wd - a - i ≤ kx ∧ i ≤ min (a + st) wd - a ∧ Hid (Cst wr w.heap.size S lo a wd (fun a => pcL (fun j => ptC C a (a + 1 + j)) (min (a + st) wd - a))) ∧
        wr.cell? ⟨w.heap.size, a, none⟩ = some v ∧ Hid (wr.ownsRow S 3 1 v i (ics (pcL (fun j => ptC C a (a + 1 + j)) i))) ∧ S ≤ wr.heap.size ∧ Below w.heap.size w wr)
      case atStart => exact ⟨0, _, by go_num, by omega, by omega, HSS, x0, hown0, hSl, hb⟩
      case round =>
        clear HSS hown0 x0 hb hSw hSl
        obtain ⟨i, v, rfl, h11, h12, HSS, x0, HO, hSl, hb⟩ := hrel
        by_cases hm : (a : Int) + (st : Int) < (wd : Int)
        · by_cases hi : (a : Int) + 1 + (i : Int) ≤ (a : Int) + (st : Int)
          · by_cases hl : (a : Int) + 1 + (i : Int) + 1 < (C.length : Int)
            · skip
              have hcst := one_cost C a (a + 1 + i) (by omega) (by omega) (by omega)
              have hrow := fun W (hW : Below w.heap.size w W) (y : Nat) => ((HC.out.below hW).take (a + 1 + i + 1))
              have hlen : (C.take (a + 1 + i + 1)).length = a+1+i+1 := by rw [List.length_take]; omega
              have hco := fun W (hW : Below w.heap.size w W) y (hy : IRow W y [((a + 1 + i : Nat) : Int)]) => cost_any p y c 1 (C.take (a + 1 + i + 1)) [((a + 1 + i : Nat) : Int)] (a : Int) W (hrow W hW 0) hy (Nat.le_refl _) (by rw [hlen]; omega) (by simp)
              rw [hcst, hlen] at hco
              simp only [show (((a + 1 + i : Nat)) : Int) = (a : Int) + 1 + (i : Int) by omega] at hco
              have hpre : ∀ w, (Instr.slice 22 (.slice p C.length c) none (some (.int .i64 ((a:Int)+1+(i:Int)+1))) none).run Try.prog w = .ok (.slice p (a+1+i+1) c) w := fun w => by
                have := pre_any p C.length c (a+1+i+1) (by omega) w
                rwa [show (((a+1+i+1 : Nat)) : Int) = ((a:Int)+1+(i:Int)+1) by omega] at this
              obtain ⟨r, hr⟩ : ∃ r, r = ptC C a (a + 1 + i) := ⟨_, rfl⟩
              rw [← hr] at hco
              have HCO : Hid (∀ W, Below w.heap.size w W → ∀ y, IRow W y [(a : Int) + 1 + (i : Int)] → Calls Try.prog 25 #[.slice p (a+1+i+1) c, .slice y 1 1, .int .i64 (a : Int)] W fun e w' => e = .returned (.tuple #[.int .i64 (r : Int), .bool true]) ∧ Below W.heap.size W w') := Lib.hid hco
              have HR := Lib.hid hr
              clear hcst hrow hlen hco hr
              obtain ⟨pv, cv, rfl⟩ := own_slice HO.out
              go_wp2_with fail
              refine (HCO.out _ (hb.alloc hb.size _) _ (irow_one _ _ _)).mono ?_
              rintro e w1 ⟨rfl, hb1⟩
              have hw1 : Below wr.heap.size wr w1 := ((Below.refl _ _).alloc (Nat.le_refl _) _).trans (hb1.mono (by simp))
              have hb := hb.trans (hw1.mono hb.size)
              have hSl1 := Nat.le_trans hSl hw1.size
              have HS1 := Lib.hid (HSS.out.keep hw1.size (fun g j hg _ => hw1.cell (p := ⟨g, j, none⟩) (by show g < _; omega)) (fun j => hw1.frozen (p := ⟨w.heap.size, j, none⟩) (by show w.heap.size < _; omega)))
              have x0 := (hw1.cell (p := ⟨w.heap.size, a, none⟩) (by show w.heap.size < _; omega)).trans x0
              have HO1 := Lib.hid (own_below HO.out hw1)
              have hzb : w.heap.size < w1.heap.size := by omega
              have hzb2 : w.heap.size < w1.heap.size + 1 := by omega
              clear HCO HSS HO hb1 hpre hw1 hSl
              go_wp2_with (at_builtin; go_loud (refine wpList_append_own_at _ rfl (.tmp 52) (.tmp 54) 22 rfl S 3 i0 _ 1 8 Try.underlying22 hi0 iz0 iz1 iz2 rfl (by decide) _ _ _ rfl (HO1.out.alloc _) ⟨w1.heap.size, 0, none⟩ 1 1 [.int .i64 (r : Int)] rfl rfl (one_new (by simp [go_sem])) (by simp [Value.oneCell']) (by unfold maxLen; omega) (by omega) (by simp; omega) ?_))
              intro v2 w2 hown2 hg2 _ _
              obtain ⟨p2, c2, rfl⟩ := own_slice hown2
              have hgS : ∀ g, g < S → some g ≠ (Value.slice pv i cv).ownBlock := fun g hg e => by have := (HO1.out.lt g e.symm).1; omega
              have hfc := fun g j (hg : g < S) => (grown_far hg2 (show g < _ by simp; omega) (hgS g hg) j).1.trans (grown_far (World.grownBy_alloc w1 _ none) (show g < _ by omega) (by simp) j).1
              have hff := fun g j (hg : g < S) => (grown_far hg2 (show g < _ by simp; omega) (hgS g hg) j).2.trans (grown_far (World.grownBy_alloc w1 _ none) (show g < _ by omega) (by simp) j).2
              have x1 := (hfc w.heap.size a (by omega)).trans x0
              have f1 := (hff w.heap.size a (by omega)).trans (HS1.out.free a)
              have hz2 : w1.heap.size ≤ w2.heap.size := by have := hg2.size; simp at this; omega
              have HS2 := Lib.hid (HS1.out.keep hz2 (fun g j hg _ => hfc g j hg) (fun j => hff w.heap.size j hSb))
              have hb2 : Below w.heap.size w w2 := (hb.alloc hb.size _).grown hg2 (by simp; omega) (fun j hj => by have := (HO1.out.lt j hj).1; omega)
              have HO2 : Hid (w2.ownsRow S 3 1 (.slice p2 (i + 1) c2) (i + 1) (ics (pcL (fun j => ptC C a (a + 1 + j)) (i + 1)))) := by
                rw [pcL_snoc, ics_append, ics_one]
                have h := hown2
                rw [HR.out] at h
                exact Lib.hid h
              have hSz2 : S ≤ w2.heap.size := by omega
              have hzb3 : w.heap.size < w2.heap.size := by omega
              clear hown2 hg2 hgS hfc hff HO1 HS1 x0 hb hSl1 hzb hzb2 HR
              go_wp2
              go_roundg (min (a + st) wd - a - (i + 1))
              case measure => omega
              case rel =>
                refine ⟨i + 1, .slice p2 (i + 1) c2, by go_num, by omega, by omega, Lib.hid (HS2.out.keep (by simp) (fun g j hg hne => World.cell?_setCell_other _ _ _ _ (by rintro e; injection e with e1 e2; omega)) (fun j => World.frozen?_setCell _ _ _ _)), World.cell?_setCell_same _ _ _ x1, Lib.hid (ownsRow_setCell_below HO2.out hSb _), by simpa using hSz2, bset17 hb2 (Nat.le_refl _)⟩
            · skip
              have hcst := one_cost C a (a + 1 + i) (by omega) (by omega) (by omega)
              have hrow := fun W (hW : Below w.heap.size w W) (y : Nat) => ((HC.out.below hW).take (a + 1 + i + 1))
              have hlen : (C.take (a + 1 + i + 1)).length = C.length := by rw [List.length_take]; omega
              have hco := fun W (hW : Below w.heap.size w W) y (hy : IRow W y [((a + 1 + i : Nat) : Int)]) => cost_any p y c 1 (C.take (a + 1 + i + 1)) [((a + 1 + i : Nat) : Int)] (a : Int) W (hrow W hW 0) hy (Nat.le_refl _) (by rw [hlen]; omega) (by simp)
              rw [hcst, hlen] at hco
              simp only [show (((a + 1 + i : Nat)) : Int) = (a : Int) + 1 + (i : Int) by omega] at hco
              have hpre : ∀ w, (Instr.slice 22 (.slice p C.length c) none (some (.int .i64 (C.length:Int))) none).run Try.prog w = .ok (.slice p (C.length) c) w := fun w => by
                have := pre_any p C.length c (C.length) (by omega) w
                rwa [show (((C.length : Nat)) : Int) = (C.length:Int) by omega] at this
              obtain ⟨r, hr⟩ : ∃ r, r = ptC C a (a + 1 + i) := ⟨_, rfl⟩
              rw [← hr] at hco
              have HCO : Hid (∀ W, Below w.heap.size w W → ∀ y, IRow W y [(a : Int) + 1 + (i : Int)] → Calls Try.prog 25 #[.slice p (C.length) c, .slice y 1 1, .int .i64 (a : Int)] W fun e w' => e = .returned (.tuple #[.int .i64 (r : Int), .bool true]) ∧ Below W.heap.size W w') := Lib.hid hco
              have HR := Lib.hid hr
              clear hcst hrow hlen hco hr
              obtain ⟨pv, cv, rfl⟩ := own_slice HO.out
              go_wp2_with fail
              refine (HCO.out _ (hb.alloc hb.size _) _ (irow_one _ _ _)).mono ?_
              rintro e w1 ⟨rfl, hb1⟩
              have hw1 : Below wr.heap.size wr w1 := ((Below.refl _ _).alloc (Nat.le_refl _) _).trans (hb1.mono (by simp))
              have hb := hb.trans (hw1.mono hb.size)
              have hSl1 := Nat.le_trans hSl hw1.size
              have HS1 := Lib.hid (HSS.out.keep hw1.size (fun g j hg _ => hw1.cell (p := ⟨g, j, none⟩) (by show g < _; omega)) (fun j => hw1.frozen (p := ⟨w.heap.size, j, none⟩) (by show w.heap.size < _; omega)))
              have x0 := (hw1.cell (p := ⟨w.heap.size, a, none⟩) (by show w.heap.size < _; omega)).trans x0
              have HO1 := Lib.hid (own_below HO.out hw1)
              have hzb : w.heap.size < w1.heap.size := by omega
              have hzb2 : w.heap.size < w1.heap.size + 1 := by omega
              clear HCO HSS HO hb1 hpre hw1 hSl
              go_wp2_with (at_builtin; go_loud (refine wpList_append_own_at _ rfl (.tmp 52) (.tmp 54) 22 rfl S 3 i0 _ 1 8 Try.underlying22 hi0 iz0 iz1 iz2 rfl (by decide) _ _ _ rfl (HO1.out.alloc _) ⟨w1.heap.size, 0, none⟩ 1 1 [.int .i64 (r : Int)] rfl rfl (one_new (by simp [go_sem])) (by simp [Value.oneCell']) (by unfold maxLen; omega) (by omega) (by simp; omega) ?_))
              intro v2 w2 hown2 hg2 _ _
              obtain ⟨p2, c2, rfl⟩ := own_slice hown2
              have hgS : ∀ g, g < S → some g ≠ (Value.slice pv i cv).ownBlock := fun g hg e => by have := (HO1.out.lt g e.symm).1; omega
              have hfc := fun g j (hg : g < S) => (grown_far hg2 (show g < _ by simp; omega) (hgS g hg) j).1.trans (grown_far (World.grownBy_alloc w1 _ none) (show g < _ by omega) (by simp) j).1
              have hff := fun g j (hg : g < S) => (grown_far hg2 (show g < _ by simp; omega) (hgS g hg) j).2.trans (grown_far (World.grownBy_alloc w1 _ none) (show g < _ by omega) (by simp) j).2
              have x1 := (hfc w.heap.size a (by omega)).trans x0
              have f1 := (hff w.heap.size a (by omega)).trans (HS1.out.free a)
              have hz2 : w1.heap.size ≤ w2.heap.size := by have := hg2.size; simp at this; omega
              have HS2 := Lib.hid (HS1.out.keep hz2 (fun g j hg _ => hfc g j hg) (fun j => hff w.heap.size j hSb))
              have hb2 : Below w.heap.size w w2 := (hb.alloc hb.size _).grown hg2 (by simp; omega) (fun j hj => by have := (HO1.out.lt j hj).1; omega)
              have HO2 : Hid (w2.ownsRow S 3 1 (.slice p2 (i + 1) c2) (i + 1) (ics (pcL (fun j => ptC C a (a + 1 + j)) (i + 1)))) := by
                rw [pcL_snoc, ics_append, ics_one]
                have h := hown2
                rw [HR.out] at h
                exact Lib.hid h
              have hSz2 : S ≤ w2.heap.size := by omega
              have hzb3 : w.heap.size < w2.heap.size := by omega
              clear hown2 hg2 hgS hfc hff HO1 HS1 x0 hb hSl1 hzb hzb2 HR
              go_wp2
              go_roundg (min (a + st) wd - a - (i + 1))
              case measure => omega
              case rel =>
                refine ⟨i + 1, .slice p2 (i + 1) c2, by go_num, by omega, by omega, Lib.hid (HS2.out.keep (by simp) (fun g j hg hne => World.cell?_setCell_other _ _ _ _ (by rintro e; injection e with e1 e2; omega)) (fun j => World.frozen?_setCell _ _ _ _)), World.cell?_setCell_same _ _ _ x1, Lib.hid (ownsRow_setCell_below HO2.out hSb _), by simpa using hSz2, bset17 hb2 (Nat.le_refl _)⟩
          · skip
            obtain rfl : i = min (a + st) wd - a := by omega
            obtain ⟨pv, cv, rfl⟩ := own_slice HO.out
            have HN : Hid (Cst wr w.heap.size wr.heap.size lo (a + 1) wd (fun a => pcL (fun j => ptC C a (a + 1 + j)) (min (a + st) wd - a)) ∧ (a + 1 < wd → wr.cell? ⟨w.heap.size, a + 1, none⟩ = some (.slice none 0 0))) :=
              Lib.hid ⟨cst_next HSS.out (pcL_len _ _) x0 HO.out, fun h => HSS.out.rest (a + 1) (by omega) h⟩
            clear HSS HO x0
            go_wp2
            go_roundg (wd - (a + 1))
            case measure => omega
            case rel => exact ⟨a + 1, by go_num, by omega, by omega, by omega, HN, hb⟩
        · by_cases hi : (a : Int) + 1 + (i : Int) ≤ (wd : Int)
          · by_cases hl : (a : Int) + 1 + (i : Int) + 1 < (C.length : Int)
            · skip
              have hcst := one_cost C a (a + 1 + i) (by omega) (by omega) (by omega)
              have hrow := fun W (hW : Below w.heap.size w W) (y : Nat) => ((HC.out.below hW).take (a + 1 + i + 1))
              have hlen : (C.take (a + 1 + i + 1)).length = a+1+i+1 := by rw [List.length_take]; omega
              have hco := fun W (hW : Below w.heap.size w W) y (hy : IRow W y [((a + 1 + i : Nat) : Int)]) => cost_any p y c 1 (C.take (a + 1 + i + 1)) [((a + 1 + i : Nat) : Int)] (a : Int) W (hrow W hW 0) hy (Nat.le_refl _) (by rw [hlen]; omega) (by simp)
              rw [hcst, hlen] at hco
              simp only [show (((a + 1 + i : Nat)) : Int) = (a : Int) + 1 + (i : Int) by omega] at hco
              have hpre : ∀ w, (Instr.slice 22 (.slice p C.length c) none (some (.int .i64 ((a:Int)+1+(i:Int)+1))) none).run Try.prog w = .ok (.slice p (a+1+i+1) c) w := fun w => by
                have := pre_any p C.length c (a+1+i+1) (by omega) w
                rwa [show (((a+1+i+1 : Nat)) : Int) = ((a:Int)+1+(i:Int)+1) by omega] at this
              obtain ⟨r, hr⟩ : ∃ r, r = ptC C a (a + 1 + i) := ⟨_, rfl⟩
              rw [← hr] at hco
              have HCO : Hid (∀ W, Below w.heap.size w W → ∀ y, IRow W y [(a : Int) + 1 + (i : Int)] → Calls Try.prog 25 #[.slice p (a+1+i+1) c, .slice y 1 1, .int .i64 (a : Int)] W fun e w' => e = .returned (.tuple #[.int .i64 (r : Int), .bool true]) ∧ Below W.heap.size W w') := Lib.hid hco
              have HR := Lib.hid hr
              clear hcst hrow hlen hco hr
              obtain ⟨pv, cv, rfl⟩ := own_slice HO.out
              go_wp2_with fail
              refine (HCO.out _ (hb.alloc hb.size _) _ (irow_one _ _ _)).mono ?_
              rintro e w1 ⟨rfl, hb1⟩
              have hw1 : Below wr.heap.size wr w1 := ((Below.refl _ _).alloc (Nat.le_refl _) _).trans (hb1.mono (by simp))
              have hb := hb.trans (hw1.mono hb.size)
              have hSl1 := Nat.le_trans hSl hw1.size
              have HS1 := Lib.hid (HSS.out.keep hw1.size (fun g j hg _ => hw1.cell (p := ⟨g, j, none⟩) (by show g < _; omega)) (fun j => hw1.frozen (p := ⟨w.heap.size, j, none⟩) (by show w.heap.size < _; omega)))
              have x0 := (hw1.cell (p := ⟨w.heap.size, a, none⟩) (by show w.heap.size < _; omega)).trans x0
              have HO1 := Lib.hid (own_below HO.out hw1)
              have hzb : w.heap.size < w1.heap.size := by omega
              have hzb2 : w.heap.size < w1.heap.size + 1 := by omega
              clear HCO HSS HO hb1 hpre hw1 hSl
              go_wp2_with (at_builtin; go_loud (refine wpList_append_own_at _ rfl (.tmp 52) (.tmp 54) 22 rfl S 3 i0 _ 1 8 Try.underlying22 hi0 iz0 iz1 iz2 rfl (by decide) _ _ _ rfl (HO1.out.alloc _) ⟨w1.heap.size, 0, none⟩ 1 1 [.int .i64 (r : Int)] rfl rfl (one_new (by simp [go_sem])) (by simp [Value.oneCell']) (by unfold maxLen; omega) (by omega) (by simp; omega) ?_))
              intro v2 w2 hown2 hg2 _ _
              obtain ⟨p2, c2, rfl⟩ := own_slice hown2
              have hgS : ∀ g, g < S → some g ≠ (Value.slice pv i cv).ownBlock := fun g hg e => by have := (HO1.out.lt g e.symm).1; omega
              have hfc := fun g j (hg : g < S) => (grown_far hg2 (show g < _ by simp; omega) (hgS g hg) j).1.trans (grown_far (World.grownBy_alloc w1 _ none) (show g < _ by omega) (by simp) j).1
              have hff := fun g j (hg : g < S) => (grown_far hg2 (show g < _ by simp; omega) (hgS g hg) j).2.trans (grown_far (World.grownBy_alloc w1 _ none) (show g < _ by omega) (by simp) j).2
              have x1 := (hfc w.heap.size a (by omega)).trans x0
              have f1 := (hff w.heap.size a (by omega)).trans (HS1.out.free a)
              have hz2 : w1.heap.size ≤ w2.heap.size := by have := hg2.size; simp at this; omega
              have HS2 := Lib.hid (HS1.out.keep hz2 (fun g j hg _ => hfc g j hg) (fun j => hff w.heap.size j hSb))
              have hb2 : Below w.heap.size w w2 := (hb.alloc hb.size _).grown hg2 (by simp; omega) (fun j hj => by have := (HO1.out.lt j hj).1; omega)
              have HO2 : Hid (w2.ownsRow S 3 1 (.slice p2 (i + 1) c2) (i + 1) (ics (pcL (fun j => ptC C a (a + 1 + j)) (i + 1)))) := by
                rw [pcL_snoc, ics_append, ics_one]
                have h := hown2
                rw [HR.out] at h
                exact Lib.hid h
              have hSz2 : S ≤ w2.heap.size := by omega
              have hzb3 : w.heap.size < w2.heap.size := by omega
              clear hown2 hg2 hgS hfc hff HO1 HS1 x0 hb hSl1 hzb hzb2 HR
              go_wp2
              go_roundg (min (a + st) wd - a - (i + 1))
              case measure => omega
              case rel =>
                refine ⟨i + 1, .slice p2 (i + 1) c2, by go_num, by omega, by omega, Lib.hid (HS2.out.keep (by simp) (fun g j hg hne => World.cell?_setCell_other _ _ _ _ (by rintro e; injection e with e1 e2; omega)) (fun j => World.frozen?_setCell _ _ _ _)), World.cell?_setCell_same _ _ _ x1, Lib.hid (ownsRow_setCell_below HO2.out hSb _), by simpa using hSz2, bset17 hb2 (Nat.le_refl _)⟩
            · skip
              have hcst := one_cost C a (a + 1 + i) (by omega) (by omega) (by omega)
              have hrow := fun W (hW : Below w.heap.size w W) (y : Nat) => ((HC.out.below hW).take (a + 1 + i + 1))
              have hlen : (C.take (a + 1 + i + 1)).length = C.length := by rw [List.length_take]; omega
              have hco := fun W (hW : Below w.heap.size w W) y (hy : IRow W y [((a + 1 + i : Nat) : Int)]) => cost_any p y c 1 (C.take (a + 1 + i + 1)) [((a + 1 + i : Nat) : Int)] (a : Int) W (hrow W hW 0) hy (Nat.le_refl _) (by rw [hlen]; omega) (by simp)
              rw [hcst, hlen] at hco
              simp only [show (((a + 1 + i : Nat)) : Int) = (a : Int) + 1 + (i : Int) by omega] at hco
              have hpre : ∀ w, (Instr.slice 22 (.slice p C.length c) none (some (.int .i64 (C.length:Int))) none).run Try.prog w = .ok (.slice p (C.length) c) w := fun w => by
                have := pre_any p C.length c (C.length) (by omega) w
                rwa [show (((C.length : Nat)) : Int) = (C.length:Int) by omega] at this
              obtain ⟨r, hr⟩ : ∃ r, r = ptC C a (a + 1 + i) := ⟨_, rfl⟩
              rw [← hr] at hco
              have HCO : Hid (∀ W, Below w.heap.size w W → ∀ y, IRow W y [(a : Int) + 1 + (i : Int)] → Calls Try.prog 25 #[.slice p (C.length) c, .slice y 1 1, .int .i64 (a : Int)] W fun e w' => e = .returned (.tuple #[.int .i64 (r : Int), .bool true]) ∧ Below W.heap.size W w') := Lib.hid hco
              have HR := Lib.hid hr
              clear hcst hrow hlen hco hr
              obtain ⟨pv, cv, rfl⟩ := own_slice HO.out
              go_wp2_with fail
              refine (HCO.out _ (hb.alloc hb.size _) _ (irow_one _ _ _)).mono ?_
              rintro e w1 ⟨rfl, hb1⟩
              have hw1 : Below wr.heap.size wr w1 := ((Below.refl _ _).alloc (Nat.le_refl _) _).trans (hb1.mono (by simp))
              have hb := hb.trans (hw1.mono hb.size)
              have hSl1 := Nat.le_trans hSl hw1.size
              have HS1 := Lib.hid (HSS.out.keep hw1.size (fun g j hg _ => hw1.cell (p := ⟨g, j, none⟩) (by show g < _; omega)) (fun j => hw1.frozen (p := ⟨w.heap.size, j, none⟩) (by show w.heap.size < _; omega)))
              have x0 := (hw1.cell (p := ⟨w.heap.size, a, none⟩) (by show w.heap.size < _; omega)).trans x0
              have HO1 := Lib.hid (own_below HO.out hw1)
              have hzb : w.heap.size < w1.heap.size := by omega
              have hzb2 : w.heap.size < w1.heap.size + 1 := by omega
              clear HCO HSS HO hb1 hpre hw1 hSl
              go_wp2_with (at_builtin; go_loud (refine wpList_append_own_at _ rfl (.tmp 52) (.tmp 54) 22 rfl S 3 i0 _ 1 8 Try.underlying22 hi0 iz0 iz1 iz2 rfl (by decide) _ _ _ rfl (HO1.out.alloc _) ⟨w1.heap.size, 0, none⟩ 1 1 [.int .i64 (r : Int)] rfl rfl (one_new (by simp [go_sem])) (by simp [Value.oneCell']) (by unfold maxLen; omega) (by omega) (by simp; omega) ?_))
              intro v2 w2 hown2 hg2 _ _
              obtain ⟨p2, c2, rfl⟩ := own_slice hown2
              have hgS : ∀ g, g < S → some g ≠ (Value.slice pv i cv).ownBlock := fun g hg e => by have := (HO1.out.lt g e.symm).1; omega
              have hfc := fun g j (hg : g < S) => (grown_far hg2 (show g < _ by simp; omega) (hgS g hg) j).1.trans (grown_far (World.grownBy_alloc w1 _ none) (show g < _ by omega) (by simp) j).1
              have hff := fun g j (hg : g < S) => (grown_far hg2 (show g < _ by simp; omega) (hgS g hg) j).2.trans (grown_far (World.grownBy_alloc w1 _ none) (show g < _ by omega) (by simp) j).2
              have x1 := (hfc w.heap.size a (by omega)).trans x0
              have f1 := (hff w.heap.size a (by omega)).trans (HS1.out.free a)
              have hz2 : w1.heap.size ≤ w2.heap.size := by have := hg2.size; simp at this; omega
              have HS2 := Lib.hid (HS1.out.keep hz2 (fun g j hg _ => hfc g j hg) (fun j => hff w.heap.size j hSb))
              have hb2 : Below w.heap.size w w2 := (hb.alloc hb.size _).grown hg2 (by simp; omega) (fun j hj => by have := (HO1.out.lt j hj).1; omega)
              have HO2 : Hid (w2.ownsRow S 3 1 (.slice p2 (i + 1) c2) (i + 1) (ics (pcL (fun j => ptC C a (a + 1 + j)) (i + 1)))) := by
                rw [pcL_snoc, ics_append, ics_one]
                have h := hown2
                rw [HR.out] at h
                exact Lib.hid h
              have hSz2 : S ≤ w2.heap.size := by omega
              have hzb3 : w.heap.size < w2.heap.size := by omega
              clear hown2 hg2 hgS hfc hff HO1 HS1 x0 hb hSl1 hzb hzb2 HR
              go_wp2
              go_roundg (min (a + st) wd - a - (i + 1))
              case measure => omega
              case rel =>
                refine ⟨i + 1, .slice p2 (i + 1) c2, by go_num, by omega, by omega, Lib.hid (HS2.out.keep (by simp) (fun g j hg hne => World.cell?_setCell_other _ _ _ _ (by rintro e; injection e with e1 e2; omega)) (fun j => World.frozen?_setCell _ _ _ _)), World.cell?_setCell_same _ _ _ x1, Lib.hid (ownsRow_setCell_below HO2.out hSb _), by simpa using hSz2, bset17 hb2 (Nat.le_refl _)⟩
          · skip
            obtain rfl : i = min (a + st) wd - a := by omega
            obtain ⟨pv, cv, rfl⟩ := own_slice HO.out
            have HN : Hid (Cst wr w.heap.size wr.heap.size lo (a + 1) wd (fun a => pcL (fun j => ptC C a (a + 1 + j)) (min (a + st) wd - a)) ∧ (a + 1 < wd → wr.cell? ⟨w.heap.size, a + 1, none⟩ = some (.slice none 0 0))) :=
              Lib.hid ⟨cst_next HSS.out (pcL_len _ _) x0 HO.out, fun h => HSS.out.rest (a + 1) (by omega) h⟩
            clear HSS HO x0
            go_wp2
            go_roundg (wd - (a + 1))
            case measure => omega
            case rel => exact ⟨a + 1, by go_num, by omega, by omega, by omega, HN, hb⟩
    · clear hmk
      go_wp2
      go_ret
      exact ⟨_, rfl, ⟨_, rfl, Nat.lt_of_lt_of_le HS.out.1.lt HS.out.1.le, fun k h1 h2 => (HS.out.1.done k h1 (by omega)).irow (Nat.le_refl _)⟩, hb⟩
end Go.Proofs.Ytnmcgboafdglbaa
