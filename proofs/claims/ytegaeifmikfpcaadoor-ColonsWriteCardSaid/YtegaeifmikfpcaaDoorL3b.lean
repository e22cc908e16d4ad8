/-
  The given laws of chapter 3 as walks, second part. They ask what Kit tells of the library's variables.
-/
import Derived.Test.YtegaeifmikfpcaaDoorL3
set_option linter.unusedSimpArgs false
set_option linter.unusedVariables false
namespace Go.Proofs.YtegaeifmikfpcaaDoor
open Go.RowKit Go.Sort M

def wIn : List (List UInt8) := [[48, 58, 48, 58, 48, 58, 48, 58, 48, 58, 48, 58, 48, 58, 48, 47, 48], [49, 58, 48, 58, 48, 58, 48, 58, 48, 58, 48, 58, 48, 58, 49, 47, 49, 50, 56], [49, 58, 48, 58, 48, 58, 50, 58, 48, 58, 48, 58, 48, 58, 51, 47, 49, 50, 56], [48, 58, 48, 58, 49, 58, 48, 58, 48, 58, 50, 58, 51, 58, 52, 47, 49, 50, 56], [49, 58, 48, 58, 50, 58, 48, 58, 51, 58, 48, 58, 52, 58, 48, 47, 49, 50, 56], [48, 58, 49, 58, 50, 58, 51, 58, 52, 58, 53, 58, 54, 58, 55, 47, 49, 50, 56], [65, 66, 67, 68, 58, 48, 48, 101, 102, 58, 48, 58, 58, 47, 52, 56], [58, 58, 102, 102, 102, 102, 47, 49, 50, 56], [49, 58, 50, 58, 51, 58, 52, 58, 53, 58, 54, 58, 55, 58, 58, 47, 49, 50, 56], [48, 58, 48, 58, 48, 58, 49, 58, 48, 58, 48, 58, 48, 58, 48, 47, 54, 52]]
def wOut : List (List UInt8) := [[58, 58, 47, 48], [49, 58, 58, 49, 47, 49, 50, 56], [49, 58, 48, 58, 48, 58, 50, 58, 58, 51, 47, 49, 50, 56], [58, 58, 49, 58, 48, 58, 48, 58, 50, 58, 51, 58, 52, 47, 49, 50, 56], [49, 58, 48, 58, 50, 58, 48, 58, 51, 58, 48, 58, 52, 58, 48, 47, 49, 50, 56], [48, 58, 49, 58, 50, 58, 51, 58, 52, 58, 53, 58, 54, 58, 55, 47, 49, 50, 56], [97, 98, 99, 100, 58, 101, 102, 58, 58, 47, 52, 56], [58, 58, 102, 102, 102, 102, 47, 49, 50, 56], [49, 58, 50, 58, 51, 58, 52, 58, 53, 58, 54, 58, 55, 58, 48, 47, 49, 50, 56], [48, 58, 48, 58, 48, 58, 49, 58, 58, 47, 54, 52]]
def wBad : List (List UInt8) := [[58, 58, 47, 48], [58, 47, 48], [58, 58, 58, 47, 48], [58, 58, 49, 58, 58, 47, 49, 50, 56], [49, 58, 50, 58, 51, 58, 52, 58, 53, 58, 54, 58, 55, 58, 56, 47, 49, 50, 56], [49, 58, 50, 58, 51, 58, 52, 58, 53, 58, 54, 58, 55, 58, 56, 58, 57, 47, 49, 50, 56], [49, 58, 50, 58, 51, 58, 52, 58, 53, 58, 54, 58, 55, 47, 49, 50, 56], [49, 58, 50, 58, 51, 58, 52, 58, 53, 58, 54, 58, 55, 58, 56, 58, 58, 47, 49, 50, 56], [58, 58, 49, 58, 50, 58, 51, 58, 52, 58, 53, 58, 54, 58, 55, 58, 56, 47, 49, 50, 56], [49, 58, 58, 50, 47, 49, 50, 55], [49, 58, 58, 50, 47, 49, 50, 56], [49, 50, 51, 52, 53, 58, 58, 47, 49, 54], [103, 58, 58, 47, 49, 54], [58, 58, 47, 49, 50, 57], [58, 58, 47, 48, 48], [58, 58], [49, 58, 47, 49, 54], [58, 49, 58, 58, 47, 49, 50, 56], [58, 58, 47], [49, 58, 58, 47, 49, 53]]
def wErr : List Nat := [0, 2, 2, 2, 0, 2, 2, 2, 2, 0, 0, 2, 2, 2, 2, 2, 2, 2, 2, 3]
theorem wIn_at (k : Nat) (h : k < 10) : ∀ h', ([.string ⟨#[48, 58, 48, 58, 48, 58, 48, 58, 48, 58, 48, 58, 48, 58, 48, 47, 48]⟩, .string ⟨#[49, 58, 48, 58, 48, 58, 48, 58, 48, 58, 48, 58, 48, 58, 49, 47, 49, 50, 56]⟩, .string ⟨#[49, 58, 48, 58, 48, 58, 50, 58, 48, 58, 48, 58, 48, 58, 51, 47, 49, 50, 56]⟩, .string ⟨#[48, 58, 48, 58, 49, 58, 48, 58, 48, 58, 50, 58, 51, 58, 52, 47, 49, 50, 56]⟩, .string ⟨#[49, 58, 48, 58, 50, 58, 48, 58, 51, 58, 48, 58, 52, 58, 48, 47, 49, 50, 56]⟩, .string ⟨#[48, 58, 49, 58, 50, 58, 51, 58, 52, 58, 53, 58, 54, 58, 55, 47, 49, 50, 56]⟩, .string ⟨#[65, 66, 67, 68, 58, 48, 48, 101, 102, 58, 48, 58, 58, 47, 52, 56]⟩, .string ⟨#[58, 58, 102, 102, 102, 102, 47, 49, 50, 56]⟩, .string ⟨#[49, 58, 50, 58, 51, 58, 52, 58, 53, 58, 54, 58, 55, 58, 58, 47, 49, 50, 56]⟩, .string ⟨#[48, 58, 48, 58, 48, 58, 49, 58, 48, 58, 48, 58, 48, 58, 48, 47, 54, 52]⟩] : List Value)[k]'h' = .string ⟨(wIn.getD k []).toArray⟩ := by
  intro h'
  match k, h, h' with
  | 0, _, _ => rfl
  | 1, _, _ => rfl
  | 2, _, _ => rfl
  | 3, _, _ => rfl
  | 4, _, _ => rfl
  | 5, _, _ => rfl
  | 6, _, _ => rfl
  | 7, _, _ => rfl
  | 8, _, _ => rfl
  | 9, _, _ => rfl
  | k + 10, h, _ => exact absurd h (by omega)
theorem wOut_at (k : Nat) (h : k < 10) : ∀ h', ([.string ⟨#[58, 58, 47, 48]⟩, .string ⟨#[49, 58, 58, 49, 47, 49, 50, 56]⟩, .string ⟨#[49, 58, 48, 58, 48, 58, 50, 58, 58, 51, 47, 49, 50, 56]⟩, .string ⟨#[58, 58, 49, 58, 48, 58, 48, 58, 50, 58, 51, 58, 52, 47, 49, 50, 56]⟩, .string ⟨#[49, 58, 48, 58, 50, 58, 48, 58, 51, 58, 48, 58, 52, 58, 48, 47, 49, 50, 56]⟩, .string ⟨#[48, 58, 49, 58, 50, 58, 51, 58, 52, 58, 53, 58, 54, 58, 55, 47, 49, 50, 56]⟩, .string ⟨#[97, 98, 99, 100, 58, 101, 102, 58, 58, 47, 52, 56]⟩, .string ⟨#[58, 58, 102, 102, 102, 102, 47, 49, 50, 56]⟩, .string ⟨#[49, 58, 50, 58, 51, 58, 52, 58, 53, 58, 54, 58, 55, 58, 48, 47, 49, 50, 56]⟩, .string ⟨#[48, 58, 48, 58, 48, 58, 49, 58, 58, 47, 54, 52]⟩] : List Value)[k]'h' = .string ⟨(wOut.getD k []).toArray⟩ := by
  intro h'
  match k, h, h' with
  | 0, _, _ => rfl
  | 1, _, _ => rfl
  | 2, _, _ => rfl
  | 3, _, _ => rfl
  | 4, _, _ => rfl
  | 5, _, _ => rfl
  | 6, _, _ => rfl
  | 7, _, _ => rfl
  | 8, _, _ => rfl
  | 9, _, _ => rfl
  | k + 10, h, _ => exact absurd h (by omega)
theorem wBad_at (k : Nat) (h : k < 20) : ∀ h', ([.string ⟨#[58, 58, 47, 48]⟩, .string ⟨#[58, 47, 48]⟩, .string ⟨#[58, 58, 58, 47, 48]⟩, .string ⟨#[58, 58, 49, 58, 58, 47, 49, 50, 56]⟩, .string ⟨#[49, 58, 50, 58, 51, 58, 52, 58, 53, 58, 54, 58, 55, 58, 56, 47, 49, 50, 56]⟩, .string ⟨#[49, 58, 50, 58, 51, 58, 52, 58, 53, 58, 54, 58, 55, 58, 56, 58, 57, 47, 49, 50, 56]⟩, .string ⟨#[49, 58, 50, 58, 51, 58, 52, 58, 53, 58, 54, 58, 55, 47, 49, 50, 56]⟩, .string ⟨#[49, 58, 50, 58, 51, 58, 52, 58, 53, 58, 54, 58, 55, 58, 56, 58, 58, 47, 49, 50, 56]⟩, .string ⟨#[58, 58, 49, 58, 50, 58, 51, 58, 52, 58, 53, 58, 54, 58, 55, 58, 56, 47, 49, 50, 56]⟩, .string ⟨#[49, 58, 58, 50, 47, 49, 50, 55]⟩, .string ⟨#[49, 58, 58, 50, 47, 49, 50, 56]⟩, .string ⟨#[49, 50, 51, 52, 53, 58, 58, 47, 49, 54]⟩, .string ⟨#[103, 58, 58, 47, 49, 54]⟩, .string ⟨#[58, 58, 47, 49, 50, 57]⟩, .string ⟨#[58, 58, 47, 48, 48]⟩, .string ⟨#[58, 58]⟩, .string ⟨#[49, 58, 47, 49, 54]⟩, .string ⟨#[58, 49, 58, 58, 47, 49, 50, 56]⟩, .string ⟨#[58, 58, 47]⟩, .string ⟨#[49, 58, 58, 47, 49, 53]⟩] : List Value)[k]'h' = .string ⟨(wBad.getD k []).toArray⟩ := by
  intro h'
  match k, h, h' with
  | 0, _, _ => rfl
  | 1, _, _ => rfl
  | 2, _, _ => rfl
  | 3, _, _ => rfl
  | 4, _, _ => rfl
  | 5, _, _ => rfl
  | 6, _, _ => rfl
  | 7, _, _ => rfl
  | 8, _, _ => rfl
  | 9, _, _ => rfl
  | 10, _, _ => rfl
  | 11, _, _ => rfl
  | 12, _, _ => rfl
  | 13, _, _ => rfl
  | 14, _, _ => rfl
  | 15, _, _ => rfl
  | 16, _, _ => rfl
  | 17, _, _ => rfl
  | 18, _, _ => rfl
  | 19, _, _ => rfl
  | k + 20, h, _ => exact absurd h (by omega)
theorem wErr_at (k : Nat) (h : k < 20) : ∀ h', ([.int .i64 0, .int .i64 2, .int .i64 2, .int .i64 2, .int .i64 0, .int .i64 2, .int .i64 2, .int .i64 2, .int .i64 2, .int .i64 0, .int .i64 0, .int .i64 2, .int .i64 2, .int .i64 2, .int .i64 2, .int .i64 2, .int .i64 2, .int .i64 2, .int .i64 2, .int .i64 3] : List Value)[k]'h' = .int .i64 ((wErr.getD k 0 : Nat) : Int) := by
  intro h'
  match k, h, h' with
  | 0, _, _ => rfl
  | 1, _, _ => rfl
  | 2, _, _ => rfl
  | 3, _, _ => rfl
  | 4, _, _ => rfl
  | 5, _, _ => rfl
  | 6, _, _ => rfl
  | 7, _, _ => rfl
  | 8, _, _ => rfl
  | 9, _, _ => rfl
  | 10, _, _ => rfl
  | 11, _, _ => rfl
  | 12, _, _ => rfl
  | 13, _, _ => rfl
  | 14, _, _ => rfl
  | 15, _, _ => rfl
  | 16, _, _ => rfl
  | 17, _, _ => rfl
  | 18, _, _ => rfl
  | 19, _, _ => rfl
  | k + 20, h, _ => exact absurd h (by omega)
theorem bad_all : (List.range 20).all (fun k => decide ((readP (wBad.getD k [])).2.2.2 = wErr.getD k 0) && decide ((wBad.getD k []).length ≤ 1000)) = true := by decide +kernel
theorem bad_one (k : Nat) (h : k < 20) : (readP (wBad.getD k [])).2.2.2 = wErr.getD k 0 ∧ (wBad.getD k []).length ≤ 1000 := by
  have := List.all_eq_true.1 bad_all k (List.mem_range.2 h)
  simpa using this
/-- A text that is a prefix, and how that is written. -/
def goodB (k : Nat) : Bool := let x := readP (wIn.getD k []); let y := readP (wOut.getD k []); decide (x = y) && decide (x.2.2.2 = 0) && decide ((wIn.getD k []).length ≤ 1000) && decide ((wOut.getD k []).length ≤ 1000) && decide (x.2.2.1 ≤ 128) && rightB x.1 x.2.1 (x.2.2.1 : Int) && decide (showW (wordsL x.1 x.2.1) ++ 47 :: dec3 x.2.2.1 = wOut.getD k []) && decide (x.1 < 18446744073709551616) && decide (x.2.1 < 18446744073709551616)
theorem good_all : (List.range 10).all goodB = true := by decide +kernel
theorem good_one (k : Nat) (h : k < 10) : ∃ hi lo n : Nat, readP (wIn.getD k []) = (hi, lo, n, 0) ∧ readP (wOut.getD k []) = (hi, lo, n, 0) ∧ (wIn.getD k []).length ≤ 1000 ∧ (wOut.getD k []).length ≤ 1000 ∧ showK hi lo (n : Int) = wOut.getD k [] ∧ W64 hi ∧ W64 lo := by
  have h0 := List.all_eq_true.1 good_all k (List.mem_range.2 h)
  unfold goodB at h0
  simp only [Bool.and_eq_true, decide_eq_true_eq] at h0
  obtain ⟨⟨⟨⟨⟨⟨⟨⟨h1, h2⟩, h3⟩, h4⟩, h5⟩, h6⟩, h7⟩, h8⟩, h9⟩ := h0
  obtain ⟨⟨hi, lo, n, e⟩, hx⟩ : ∃ p, p = readP (wIn.getD k []) := ⟨_, rfl⟩
  rw [← hx] at h1 h2 h5 h6 h7 h8 h9
  simp only at h2 h5 h6 h7 h8 h9
  subst h2
  refine ⟨hi, lo, n, hx.symm, h1.symm, h3, h4, ?_, W64.mk h8, W64.mk h9⟩
  rw [showK_small h5 h6, h7]
set_option maxHeartbeats 2000000 in
theorem kwrong_walk (i : Int) : GivesK 6 #[.int .i64 i] (.bool true) := by
  intro w hk
  have HK := Lib.hid hk
  clear hk
  by_cases hin : 0 ≤ i ∧ i < 20
  · obtain ⟨i0, i1⟩ := hin
    obtain ⟨k, rfl⟩ := Int.eq_ofNat_of_zero_le i0
    have hkk : k < 20 := by omega
    have hs := wBad_at k hkk
    have he := wErr_at k hkk
    obtain ⟨h1, h2⟩ := bad_one k hkk
    have hR := kread_any (wBad.getD k []) (by omega)
    generalize wBad.getD k [] = s at hs h1 hR
    generalize wErr.getD k 0 = z at he h1
    obtain ⟨⟨x, y, n, zz⟩, hx⟩ : ∃ p, p = readP s := ⟨_, rfl⟩
    rw [← hx] at hR h1
    obtain rfl : zz = z := h1
    have hR' : GivesK 8 #[.string ⟨s.toArray⟩] (.tuple #[.agg #[.int .u64 x, .int .u64 y, .int .i64 n], .int .i64 zz]) := hR
    have HR := Lib.hid hR'
    clear hR hR' hx h2
    go_enter Tryd.func6, Tryd.ntmps6
    go_wp2_with fail
    refine (alive3_any _ HK.out).mono ?_
    rintro e w0 ⟨rfl, hw0⟩
    have z0 := hw0.size
    go_wp2_with fail
    refine (HR.out _ (HK.out.up (by go_grown))).mono ?_
    rintro e w1 ⟨rfl, hb1⟩
    have hk1 : Below w0.heap.size w0 w1 := Below.trans (by go_grown) (hb1.mono (by go_size))
    have c0 : w1.cell? ⟨w0.heap.size + 1, k, none⟩ = some (.int .i64 zz) := by
      rw [hb1.cell (by simp <;> omega)]
      first | assumption | (simp [go_sem]; done) | (simp [go_sem, *]; done)
    have z1 : w0.heap.size + 1 < w1.heap.size := by have := hb1.size; simp at this; omega
    have z2 : w0.heap.size < w1.heap.size := by omega
    have hk2 : Below w.heap.size w w1 := hw0.trans (hk1.mono z0)
    have z3 := hk2.size
    clear hb1 hk1 hw0
    go_wp2_with fail
    have kg := cell_grow
    refine region_whole (by kernel_rfl) (by kernel_rfl) ?_
    repeat (any_goals (first | go_big_quiet_step (first | (go_at_call 10; exact Calls.regrown_of ((num3_any _ _).mono fun _ _ ⟨h1, h2⟩ => ⟨h1, h2 ▸ Below.refl _ _⟩))) | quiet_step (first | (go_at_call 10; exact Calls.regrown_of ((num3_any _ _).mono fun _ _ ⟨h1, h2⟩ => ⟨h1, h2 ▸ Below.refl _ _⟩)))))
    refine wpQuiet_nil ?_
    clear kg
    intro w2 hb2
    obtain ⟨hc2, hf2⟩ := bcell hb2
    have hw2 : Below w.heap.size w w2 := by
      refine Below.trans ?_ (hb2.mono ?_)
      · go_grown
      · first | omega | go_size
    go_wp2
    go_ret
    exact ⟨rfl, by go_grown⟩
  · go_enter Tryd.func6, Tryd.ntmps6
    go_wp2_with fail
    refine (alive3_any _ HK.out).mono ?_
    rintro e w0 ⟨rfl, hw0⟩
    have z0 := hw0.size
    go_wp2_with fail
    all_goals first
      | (exfalso; omega)
      | (go_ret; exact ⟨rfl, by go_grown⟩)
set_option maxHeartbeats 2000000 in
theorem kback_walk (h1 l1 h2 l2 : Nat) (n m : Int) (a1 : W64 h1) (b1 : W64 l1) (a2 : W64 h2) (b2 : W64 l2) : GivesK 4 #[.agg #[.int .u64 h1, .int .u64 l1], .agg #[.int .u64 h2, .int .u64 l2], .int .i64 n, .int .i64 m] (.bool true) := by
  intro w hk
  have HK := Lib.hid hk
  clear hk
  by_cases hin : 0 ≤ n ∧ n ≤ 128 ∧ 0 ≤ m ∧ m ≤ 128
  · obtain ⟨n0, n1, m0, m1⟩ := hin
    have hA := rcut_any h1 l1 n a1 b1
    have hB := rcut_any h2 l2 m a2 b2
    have r1 := right_cut h1 l1 n n0 n1
    have r2 := right_cut h2 l2 m m0 m1
    have wX := a1.cut n.toNat
    have wU := b1.cut (n.toNat - 64)
    have wY := a2.cut m.toNat
    have wV := b2.cut (m.toNat - 64)
    obtain ⟨X, hX⟩ : ∃ X : Nat, X = cutW h1 n.toNat := ⟨_, rfl⟩
    obtain ⟨U, hU⟩ : ∃ U : Nat, U = cutW l1 (n.toNat - 64) := ⟨_, rfl⟩
    obtain ⟨Y, hY⟩ : ∃ Y : Nat, Y = cutW h2 m.toNat := ⟨_, rfl⟩
    obtain ⟨V, hV⟩ : ∃ V : Nat, V = cutW l2 (m.toNat - 64) := ⟨_, rfl⟩
    rw [← hX, ← hU] at hA r1
    rw [← hY, ← hV] at hB r2
    rw [← hX] at wX
    rw [← hU] at wU
    rw [← hY] at wY
    rw [← hV] at wV
    have hS1 : ∀ w, Kit w.heap.size w → Calls Tryd.prog 11 #[.agg #[.int .u64 X, .int .u64 U, .int .i64 n]] w fun e w' => e = .returned (.string ⟨(showK X U n).toArray⟩) ∧ Below w.heap.size w w' := kshow_any X U n wX wU
    have hS2 : ∀ w, Kit w.heap.size w → Calls Tryd.prog 11 #[.agg #[.int .u64 Y, .int .u64 V, .int .i64 m]] w fun e w' => e = .returned (.string ⟨(showK Y V m).toArray⟩) ∧ Below w.heap.size w w' := kshow_any Y V m wY wV
    have hlen : (showK X U n).length ≤ 1000 := by
      unfold showK
      rw [if_pos r1]
      have hj : ∀ l : List Nat, All16 l → l.length ≤ 8 → (showW l).length ≤ 90 := by
        intro l hl h8
        unfold showW
        split
        · have e1 := joinH_len _ (hl.take (zrow l).1)
          have e2 := joinH_len _ (hl.drop (zrow l).2)
          simp at e1 e2 ⊢; omega
        · have e1 := joinH_len _ hl
          omega
      have e1 := hj _ (words_lt X U) (show 8 ≤ 8 by decide)
      have e2 := dec_len n.toNat (by omega)
      simp; omega
    have hRd := kread_any (showK X U n) (by omega)
    rw [readP_eq, read_showK X U n wX.lt wU.lt r1] at hRd
    have hRd' : GivesK 8 #[.string ⟨(showK X U n).toArray⟩] (.tuple #[.agg #[.int .u64 X, .int .u64 U, .int .i64 n], .int .i64 0]) := by
      have := hRd
      unfold pre6 at this
      rwa [show ((n.toNat : Nat) : Int) = n by omega] at this
    have hinj := showK_inj X U Y V n m wX.lt wU.lt wY.lt wV.lt r1 r2
    clear hX hU hY hV hRd r1 r2 hlen
    generalize showK X U n = P at hS1 hRd' hinj
    generalize showK Y V m = Q at hS2 hinj
    have hpp : ∀ w, (binOp .eql 26 (.agg #[.int .u64 X, .int .u64 U, .int .i64 n]) (.agg #[.int .u64 X, .int .u64 U, .int .i64 n])).run Tryd.prog w = .ok (.bool true) w := fun w => eql_pfx3i _ _ _ _ _ _ w rfl rfl rfl
    have hpq : ∀ w, (binOp .eql 26 (.agg #[.int .u64 X, .int .u64 U, .int .i64 n]) (.agg #[.int .u64 Y, .int .u64 V, .int .i64 m])).run Tryd.prog w = .ok (.bool (decide (X = Y ∧ U = V ∧ n = m))) w := fun w => eql_pfx3 X U n Y V m w
    have hss : ∀ w, (binOp .eql 9 (.string ⟨P.toArray⟩) (.string ⟨Q.toArray⟩)).run Tryd.prog w = .ok (.bool (decide (X = Y ∧ U = V ∧ n = m))) w := by
      intro w
      by_cases h : X = Y ∧ U = V ∧ n = m
      · rw [hinj.2 h]; simp [go_sem, h]
      · have h' : ¬ P = Q := fun e => h (hinj.1 e)
        simp [go_sem, h, h', Lib.toList_data]
    have hbb : (P == Q) = decide (X = Y ∧ U = V ∧ n = m) := by
      by_cases h : X = Y ∧ U = V ∧ n = m
      · rw [hinj.2 h]; simp [h]
      · have h' : ¬ P = Q := fun e => h (hinj.1 e)
        simp [h, h']
    generalize decide (X = Y ∧ U = V ∧ n = m) = b at hpq hss hbb
    have HBB := Lib.hid hbb
    have HA := Lib.hid hA
    have HB := Lib.hid hB
    have HS1 := Lib.hid hS1
    have HS2 := Lib.hid hS2
    have HR := Lib.hid hRd'
    clear hA hB hS1 hS2 hRd' hinj hbb a1 b1 a2 b2
    go_enter Tryd.func4, Tryd.ntmps4
    go_wp2_with fail
    refine (alive3_any _ (HK.out.up (by go_grown))).mono ?_
    rintro e w0 ⟨rfl, hb0⟩
    have hw0 : Below w.heap.size w w0 := Below.trans (by go_grown) (hb0.mono (by go_size))
    have z0 : w.heap.size + 1 < w0.heap.size := by have := hb0.size; simp at this; omega
    have p0 : w0.cell? ⟨w.heap.size, 0, none⟩ = some (.int .u64 h1) := by
      rw [hb0.cell (by simp <;> omega)]
      first | assumption | (simp [go_sem]; done) | (simp [go_sem, *]; done)
    have p1 : w0.cell? ⟨w.heap.size, 1, none⟩ = some (.int .u64 l1) := by
      rw [hb0.cell (by simp <;> omega)]
      first | assumption | (simp [go_sem]; done) | (simp [go_sem, *]; done)
    have q0 : w0.cell? ⟨w.heap.size + 1, 0, none⟩ = some (.int .u64 h2) := by
      rw [hb0.cell (by simp <;> omega)]
      first | assumption | (simp [go_sem]; done) | (simp [go_sem, *]; done)
    have q1 : w0.cell? ⟨w.heap.size + 1, 1, none⟩ = some (.int .u64 l2) := by
      rw [hb0.cell (by simp <;> omega)]
      first | assumption | (simp [go_sem]; done) | (simp [go_sem, *]; done)
    clear hb0
    go_wp2_with fail
    refine (HA.out _).mono ?_
    rintro e w1 ⟨rfl, hb1⟩
    obtain ⟨hc1, -⟩ := bcell hb1
    have q0 := (hc1 _ _ (by omega)).trans q0
    have q1 := (hc1 _ _ (by omega)).trans q1
    have hw1 : Below w.heap.size w w1 := Below.trans hw0 (hb1.mono (by omega))
    have z1 : w.heap.size + 1 < w1.heap.size := Nat.lt_of_lt_of_le z0 hb1.size
    clear hw0 z0 hb1 hc1 p0 p1
    go_wp2_with fail
    refine (HB.out _).mono ?_
    rintro e w2 ⟨rfl, hb2⟩
    have c0 : w2.cell? ⟨w1.heap.size, 0, none⟩ = some (.int .u64 X) := by
      rw [hb2.cell (by simp <;> omega)]
      first | assumption | (simp [go_sem]; done) | (simp [go_sem, *]; done)
    have c1 : w2.cell? ⟨w1.heap.size, 1, none⟩ = some (.int .u64 U) := by
      rw [hb2.cell (by simp <;> omega)]
      first | assumption | (simp [go_sem]; done) | (simp [go_sem, *]; done)
    have c2 : w2.cell? ⟨w1.heap.size, 2, none⟩ = some (.int .i64 n) := by
      rw [hb2.cell (by simp <;> omega)]
      first | assumption | (simp [go_sem]; done) | (simp [go_sem, *]; done)
    have z2 : w1.heap.size < w2.heap.size := by have := hb2.size; simp at this; omega
    have hw2 : Below w.heap.size w w2 := Below.trans (by go_grown) (hb2.mono (by simp; omega))
    have zz2 : w.heap.size < w2.heap.size := by omega
    clear hb2 q0 q1
    have HT2 := Lib.hid (HK.out.up hw2)
    go_wp2_with fail
    refine (HS1.out _ (HT2.out.up (by go_grown))).mono ?_
    rintro e w3 ⟨rfl, hb3⟩
    have d0 : w3.cell? ⟨w2.heap.size, 0, none⟩ = some (.int .u64 Y) := by
      rw [hb3.cell (by simp <;> omega)]
      first | assumption | (simp [go_sem]; done) | (simp [go_sem, *]; done)
    have d1 : w3.cell? ⟨w2.heap.size, 1, none⟩ = some (.int .u64 V) := by
      rw [hb3.cell (by simp <;> omega)]
      first | assumption | (simp [go_sem]; done) | (simp [go_sem, *]; done)
    have d2 : w3.cell? ⟨w2.heap.size, 2, none⟩ = some (.int .i64 m) := by
      rw [hb3.cell (by simp <;> omega)]
      first | assumption | (simp [go_sem]; done) | (simp [go_sem, *]; done)
    have z3 : w2.heap.size < w3.heap.size := by have := hb3.size; simp at this; omega
    have hk3 : Below w2.heap.size w2 w3 := Below.trans (by go_grown) (hb3.mono (by go_size))
    obtain ⟨hc3, hf3⟩ := bcell hk3
    have c0 := (hc3 _ _ (by omega)).trans c0
    have c1 := (hc3 _ _ (by omega)).trans c1
    have c2 := (hc3 _ _ (by omega)).trans c2
    have hw2 := Below.trans hw2 (hk3.mono (by omega))
    have zz2 := Nat.lt_of_lt_of_le zz2 hk3.size
    clear hc3 hf3 hk3 hb3
    have HT3 := Lib.hid (HK.out.up hw2)
    go_wp2_with fail
    refine (HR.out _ HT3.out).mono ?_
    rintro e w4 ⟨rfl, hb4⟩
    have z4 : w2.heap.size < w4.heap.size := Nat.lt_of_lt_of_le z3 hb4.size
    obtain ⟨hc4, hf4⟩ := bcell hb4
    have c0 := (hc4 _ _ (by omega)).trans c0
    have c1 := (hc4 _ _ (by omega)).trans c1
    have c2 := (hc4 _ _ (by omega)).trans c2
    have d0 := (hc4 _ _ (by omega)).trans d0
    have d1 := (hc4 _ _ (by omega)).trans d1
    have d2 := (hc4 _ _ (by omega)).trans d2
    have hw2 := Below.trans hw2 (hb4.mono (by omega))
    have zz2 := Nat.lt_of_lt_of_le zz2 hb4.size
    clear hc4 hf4 hb4
    have z14 : w1.heap.size < w4.heap.size := by omega
    have HT4 := Lib.hid (HK.out.up hw2)
    go_wp2_with fail
    have kg := cell_grow
    refine region_whole (by kernel_rfl) (by kernel_rfl) ?_
    repeat (any_goals (first | go_big_quiet_step (first | (go_at_call 10; exact Calls.regrown_of ((num3_any _ _).mono fun _ _ ⟨h1, h2⟩ => ⟨h1, h2 ▸ Below.refl _ _⟩)) | (go_at_call 11; (first | (with_reducible exact Calls.regrown_of (HS1.out _ (Kit.re (HT4.out.up (by go_grown)) _ _))) | (with_reducible exact Calls.regrown_of (HS2.out _ (Kit.re (HT4.out.up (by go_grown)) _ _)))))) | quiet_step (first | (go_at_call 10; exact Calls.regrown_of ((num3_any _ _).mono fun _ _ ⟨h1, h2⟩ => ⟨h1, h2 ▸ Below.refl _ _⟩)) | (go_at_call 11; (first | (with_reducible exact Calls.regrown_of (HS1.out _ (Kit.re (HT4.out.up (by go_grown)) _ _))) | (with_reducible exact Calls.regrown_of (HS2.out _ (Kit.re (HT4.out.up (by go_grown)) _ _))))))))
    refine wpQuiet_nil ?_
    clear kg
    intro w5 hb5
    obtain ⟨hc5, hf5⟩ := bcell hb5
    have hw5 : Below w.heap.size w w5 := by
      refine Below.trans ?_ (hb5.mono ?_)
      · go_grown
      · first | omega | go_size
    go_wp2
    go_ret
    refine ⟨?_, by go_grown⟩
    first | rfl | exact ret_bool (by simp; exact HBB.out)
  · go_enter Tryd.func4, Tryd.ntmps4
    go_wp2_with fail
    refine (alive3_any _ (HK.out.up (by go_grown))).mono ?_
    rintro e w0 ⟨rfl, hb0⟩
    have hw0 : Below w.heap.size w w0 := Below.trans (by go_grown) (hb0.mono (by go_size))
    clear hb0
    go_wp2_with fail
    all_goals first
      | (exfalso; omega)
      | (go_ret; exact ⟨rfl, hw0⟩)
end Go.Proofs.YtegaeifmikfpcaaDoor
