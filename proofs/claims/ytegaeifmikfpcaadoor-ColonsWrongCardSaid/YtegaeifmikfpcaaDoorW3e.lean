/-
  What the program's join of eight numbers hands back. No condition but those that stand in each.
-/
import Derived.Test.YtegaeifmikfpcaaDoorW3d
set_option linter.unusedSimpArgs false
set_option linter.unusedVariables false
namespace Go.Proofs.YtegaeifmikfpcaaDoor
open Go.RowKit Go.Sort M

theorem or16 (wd n : Nat) (h : wd < 281474976710656) (hn : n < 65536) : bits BinOp.or IntKind.u64 ((wd : Int) * 65536) (n : Int) = ((wd * 65536 + n : Nat) : Int) := by
  rw [show ((wd : Int) * 65536) = ((wd * 65536 : Nat) : Int) by omega, bits_or_u64_nat _ _ (by omega) (by omega)]
  have := Nat.two_pow_add_eq_or_of_lt (i := 16) (b := n) (by omega) wd
  rw [show 2 ^ 16 * wd = wd * 65536 by omega] at this
  rw [this]
theorem pow16 {k h : Nat} (hh : h < 65536 ^ k) (hk : k ≤ 3) : h < 281474976710656 := Nat.lt_of_lt_of_le hh (Nat.le_trans (Nat.pow_le_pow_right (by omega) hk) (by decide))
theorem step16 {k h x : Nat} (hh : h < 65536 ^ k) (hx : x < 65536) : h * 65536 + x < 65536 ^ (k + 1) := by
  rw [Nat.pow_succ]
  generalize 65536 ^ k = P at hh ⊢
  omega
theorem pack_take {l : List Nat} {k : Nat} (h : k < l.length) : packGo 0 (l.take (k + 1)) = packGo 0 (l.take k) * 65536 + l[k] := by
  have : ∀ (l : List Nat) (a x : Nat), packGo a (l ++ [x]) = packGo a l * 65536 + x := by
    intro l
    induction l with
    | nil => intro a x; rfl
    | cons y l ih => intro a x; exact ih _ x
  rw [List.take_succ_eq_append_getElem h, this]
def h8V (l0 l1 l2 l3 l4 l5 l6 l7 : Nat) : Value := .agg #[u16V l0, u16V l1, u16V l2, u16V l3, u16V l4, u16V l5, u16V l6, u16V l7]
set_option maxHeartbeats 2000000 in
theorem join_any (l0 l1 l2 l3 l4 l5 l6 l7 : Nat) (b0 : l0 < 65536) (b1 : l1 < 65536) (b2 : l2 < 65536) (b3 : l3 < 65536) (b4 : l4 < 65536) (b5 : l5 < 65536) (b6 : l6 < 65536) (b7 : l7 < 65536) :
    Gives Tryd.prog 37 #[.agg #[.int .u16 l0, .int .u16 l1, .int .u16 l2, .int .u16 l3, .int .u16 l4, .int .u16 l5, .int .u16 l6, .int .u16 l7]] (.agg #[.int .u64 (packGo 0 [l0, l1, l2, l3] : Nat), .int .u64 (packGo 0 [l4, l5, l6, l7] : Nat)]) := by
  intro w
  go_enter Tryd.func37, Tryd.ntmps37
  go_wp2
  go_loopw [5] (fun i wr => ∃ k h g : Nat, k ≤ 4 ∧ i = .int .i64 k ∧ h < 65536 ^ k ∧ g < 65536 ^ k ∧ Hid (h = packGo 0 ([l0, l1, l2, l3].take k)) ∧ Hid (g = packGo 0 ([l4, l5, l6, l7].take k)) ∧ Below w.heap.size w wr ∧ w.heap.size + 2 < wr.heap.size ∧
      wr.cell? ⟨w.heap.size, 0, none⟩ = some (.int .u16 l0) ∧ wr.cell? ⟨w.heap.size, 1, none⟩ = some (.int .u16 l1) ∧ wr.cell? ⟨w.heap.size, 2, none⟩ = some (.int .u16 l2) ∧ wr.cell? ⟨w.heap.size, 3, none⟩ = some (.int .u16 l3) ∧
      wr.cell? ⟨w.heap.size, 4, none⟩ = some (.int .u16 l4) ∧ wr.cell? ⟨w.heap.size, 5, none⟩ = some (.int .u16 l5) ∧ wr.cell? ⟨w.heap.size, 6, none⟩ = some (.int .u16 l6) ∧ wr.cell? ⟨w.heap.size, 7, none⟩ = some (.int .u16 l7) ∧
      wr.cell? ⟨w.heap.size + 1, 0, none⟩ = some (.int .u64 0) ∧ wr.cell? ⟨w.heap.size + 1, 1, none⟩ = some (.int .u64 0) ∧ wr.frozen? ⟨w.heap.size + 1, 0, none⟩ = false ∧ wr.frozen? ⟨w.heap.size + 1, 1, none⟩ = false ∧
      wr.cell? ⟨w.heap.size + 2, 0, none⟩ = some (.int .u64 h) ∧ wr.cell? ⟨w.heap.size + 2, 1, none⟩ = some (.int .u64 g) ∧ wr.frozen? ⟨w.heap.size + 2, 0, none⟩ = false ∧ wr.frozen? ⟨w.heap.size + 2, 1, none⟩ = false) (fun i _ => 4 - (intOf i).toNat)
  case atStart =>
    refine ⟨0, 0, 0, by omega, rfl, by decide, by decide, Lib.hid rfl, Lib.hid rfl, by go_grown, by go_size, ?_⟩
    simp [go_sem]
  case round =>
    obtain ⟨k, h, g, hk, rfl, hh, hg, HH, HG, hw0, hz, a0, a1, a2, a3, a4, a5, a6, a7, c0, c1, f0, f1, d0, d1, e0, e1⟩ := hrel
    by_cases hlt : k < 4
    · obtain rfl | rfl | rfl | rfl : k = 0 ∨ k = 1 ∨ k = 2 ∨ k = 3 := by omega
      ·
        have hh2 := pow16 hh (by omega)
        have hg2 := pow16 hg (by omega)
        have h1 := step16 hh b0
        have g1 := step16 hg b4
        have HH1 := Lib.hid h1
        have HG1 := Lib.hid g1
        clear h1 g1 hh hg
        go_wp2_with fail
        go_region
        go_wp2_with fail
        go_region
        go_wp2
        rw [or16 h l0 hh2 b0, or16 g l4 hg2 b4]
        go_roundw
        case rel =>
          refine ⟨0 + 1, h * 65536 + l0, g * 65536 + l4, by omega, by go_num, HH1.out, HG1.out, Lib.hid ?_, Lib.hid ?_, by go_grown, by go_size, ?_⟩
          · rw [HH.out]; rfl
          · rw [HG.out]; rfl
          · simp [go_sem, a0, a1, a2, a3, a4, a5, a6, a7, c0, c1, f0, f1, d0, d1, e0, e1, hz]
        case measure => simp [intOf]
      ·
        have hh2 := pow16 hh (by omega)
        have hg2 := pow16 hg (by omega)
        have h1 := step16 hh b1
        have g1 := step16 hg b5
        have HH1 := Lib.hid h1
        have HG1 := Lib.hid g1
        clear h1 g1 hh hg
        go_wp2_with fail
        go_region
        go_wp2_with fail
        go_region
        go_wp2
        rw [or16 h l1 hh2 b1, or16 g l5 hg2 b5]
        go_roundw
        case rel =>
          refine ⟨1 + 1, h * 65536 + l1, g * 65536 + l5, by omega, by go_num, HH1.out, HG1.out, Lib.hid ?_, Lib.hid ?_, by go_grown, by go_size, ?_⟩
          · rw [HH.out]; rfl
          · rw [HG.out]; rfl
          · simp [go_sem, a0, a1, a2, a3, a4, a5, a6, a7, c0, c1, f0, f1, d0, d1, e0, e1, hz]
        case measure => simp [intOf]
      ·
        have hh2 := pow16 hh (by omega)
        have hg2 := pow16 hg (by omega)
        have h1 := step16 hh b2
        have g1 := step16 hg b6
        have HH1 := Lib.hid h1
        have HG1 := Lib.hid g1
        clear h1 g1 hh hg
        go_wp2_with fail
        go_region
        go_wp2_with fail
        go_region
        go_wp2
        rw [or16 h l2 hh2 b2, or16 g l6 hg2 b6]
        go_roundw
        case rel =>
          refine ⟨2 + 1, h * 65536 + l2, g * 65536 + l6, by omega, by go_num, HH1.out, HG1.out, Lib.hid ?_, Lib.hid ?_, by go_grown, by go_size, ?_⟩
          · rw [HH.out]; rfl
          · rw [HG.out]; rfl
          · simp [go_sem, a0, a1, a2, a3, a4, a5, a6, a7, c0, c1, f0, f1, d0, d1, e0, e1, hz]
        case measure => simp [intOf]
      ·
        have hh2 := pow16 hh (by omega)
        have hg2 := pow16 hg (by omega)
        have h1 := step16 hh b3
        have g1 := step16 hg b7
        have HH1 := Lib.hid h1
        have HG1 := Lib.hid g1
        clear h1 g1 hh hg
        go_wp2_with fail
        go_region
        go_wp2_with fail
        go_region
        go_wp2
        rw [or16 h l3 hh2 b3, or16 g l7 hg2 b7]
        go_roundw
        case rel =>
          refine ⟨3 + 1, h * 65536 + l3, g * 65536 + l7, by omega, by go_num, HH1.out, HG1.out, Lib.hid ?_, Lib.hid ?_, by go_grown, by go_size, ?_⟩
          · rw [HH.out]; rfl
          · rw [HG.out]; rfl
          · simp [go_sem, a0, a1, a2, a3, a4, a5, a6, a7, c0, c1, f0, f1, d0, d1, e0, e1, hz]
        case measure => simp [intOf]
    · obtain rfl : k = 4 := by omega
      clear hh hg
      go_wp2
      refine bodyPost_ret (by simp [results, Tryd.results37, go_sem, c0, c1, d0, d1, f0, f1, e0, e1]; try rfl) rfl ?_
      exact ⟨by rw [show packGo 0 [l0, l1, l2, l3] = h from HH.out.symm, show packGo 0 [l4, l5, l6, l7] = g from HG.out.symm], by go_grown⟩
end Go.Proofs.YtegaeifmikfpcaaDoor
