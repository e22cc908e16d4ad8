/-
  What the program's look for the longest row of numbers 0 hands back. No condition but those that stand in each.
-/
import Derived.Test.YtegaeifmikfpcaaDoorW3j
set_option linter.unusedSimpArgs false
set_option linter.unusedVariables false
namespace Go.Proofs.YtegaeifmikfpcaaDoor
open Go.RowKit Go.Sort M

theorem zGo_non {s f t i : Nat} {b : Bool} {l : List Bool} {Z : Nat × Nat} (h : Hid (zGo s f t i (b :: l) = Z)) (hb : b = false) : Hid (zGo (i + 1) f t (i + 1) l = Z) := by
  have h := h.out
  rw [zGo, if_pos hb] at h
  exact Lib.hid h
theorem zGo_more {s f t i : Nat} {b : Bool} {l : List Bool} {Z : Nat × Nat} (h : Hid (zGo s f t i (b :: l) = Z)) (hb : b = true) (hm : max 1 (t - f) < i + 1 - s) : Hid (zGo s s (i + 1) (i + 1) l = Z) := by
  have h := h.out
  rw [zGo, if_neg (by simp [hb]), if_pos hm] at h
  exact Lib.hid h
theorem zGo_less {s f t i : Nat} {b : Bool} {l : List Bool} {Z : Nat × Nat} (h : Hid (zGo s f t i (b :: l) = Z)) (hb : b = true) (hm : ¬ max 1 (t - f) < i + 1 - s) : Hid (zGo s f t (i + 1) l = Z) := by
  have h := h.out
  rw [zGo, if_neg (by simp [hb]), if_neg hm] at h
  exact Lib.hid h
theorem idx8 (l0 l1 l2 l3 l4 l5 l6 l7 : Int) (k : Int) (x : Int) (h : (k = 0 ∧ x = l0) ∨ (k = 1 ∧ x = l1) ∨ (k = 2 ∧ x = l2) ∨ (k = 3 ∧ x = l3) ∨ (k = 4 ∧ x = l4) ∨ (k = 5 ∧ x = l5) ∨ (k = 6 ∧ x = l6) ∨ (k = 7 ∧ x = l7)) (w : World) :
    (Instr.index 55 (.agg #[.int .u16 l0, .int .u16 l1, .int .u16 l2, .int .u16 l3, .int .u16 l4, .int .u16 l5, .int .u16 l6, .int .u16 l7]) (.int .i64 k)).run Tryd.prog w = .ok (.int .u16 x) w := by
  obtain ⟨i0, hi0, iz0, iz1, iz2⟩ := info_parts infoH
  rcases h with ⟨rfl, rfl⟩ | ⟨rfl, rfl⟩ | ⟨rfl, rfl⟩ | ⟨rfl, rfl⟩ | ⟨rfl, rfl⟩ | ⟨rfl, rfl⟩ | ⟨rfl, rfl⟩ | ⟨rfl, rfl⟩ <;>
    simp [Instr.index, run_underlying Tryd.underlying55, asIntOf, sizeOf, typeInfo, hi0, iz1, go_sem]
set_option maxHeartbeats 4000000 in
set_option maxRecDepth 100000 in
theorem zeros_any (l0 l1 l2 l3 l4 l5 l6 l7 : Nat) :
    Gives Tryd.prog 23 #[.agg #[.int .u16 l0, .int .u16 l1, .int .u16 l2, .int .u16 l3, .int .u16 l4, .int .u16 l5, .int .u16 l6, .int .u16 l7]]
      (.tuple #[.int .i64 ((zrow [l0, l1, l2, l3, l4, l5, l6, l7]).1 : Nat), .int .i64 ((zrow [l0, l1, l2, l3, l4, l5, l6, l7]).2 : Nat)]) := by
  intro w
  generalize hZ : zrow [l0, l1, l2, l3, l4, l5, l6, l7] = Z
  have h0 : Hid (zGo 0 0 0 0 ([decide (l0 = 0), decide (l1 = 0), decide (l2 = 0), decide (l3 = 0), decide (l4 = 0), decide (l5 = 0), decide (l6 = 0), decide (l7 = 0)].drop 0) = Z) := Lib.hid (by rw [← hZ]; rfl)
  clear hZ
  go_enter Tryd.func23, Tryd.ntmps23
  go_wp2
  go_loop [2, 3, 4, 8] (fun vf vt vs vi => ∃ k f t s : Nat, k ≤ 8 ∧ f ≤ t ∧ t ≤ k ∧ s ≤ k ∧ vi = .int .i64 k ∧ vf = .int .i64 f ∧ vt = .int .i64 t ∧ vs = .int .i64 s ∧
      Hid (zGo s f t k ([decide (l0 = 0), decide (l1 = 0), decide (l2 = 0), decide (l3 = 0), decide (l4 = 0), decide (l5 = 0), decide (l6 = 0), decide (l7 = 0)].drop k) = Z)) (fun _ _ _ vi => 8 - (intOf vi).toNat)
  case atStart => exact ⟨0, 0, 0, 0, by omega, by omega, by omega, by omega, rfl, rfl, rfl, rfl, h0⟩
  case round =>
    clear h0
    obtain ⟨k, f, t, s, hk, hft, htk, hsk, rfl, rfl, rfl, rfl, HZ⟩ := hrel
    by_cases hlt : k < 8
    · obtain rfl | rfl | rfl | rfl | rfl | rfl | rfl | rfl : k = 0 ∨ k = 1 ∨ k = 2 ∨ k = 3 ∨ k = 4 ∨ k = 5 ∨ k = 6 ∨ k = 7 := by omega
      ·
        have hix := idx8 l0 l1 l2 l3 l4 l5 l6 l7 0 l0 (by simp)
        by_cases hz : l0 = 0
        · have hzb : ((l0 : Int) != 0) = false := by simp; omega
          by_cases hm : max 1 (t - f) < 0 + 1 - s
          · have HN := zGo_more HZ (by simp [hz]) hm
            have hmi : max (1 : Int) ((t : Int) - (f : Int)) < (0 : Int) + 1 - (s : Int) := by omega
            clear HZ hz
            first
            | (exfalso; omega)
            | (go_wp2
               go_round
               case rel => exact ⟨0 + 1, s, 0 + 1, s, by omega, by omega, by omega, by omega, by go_num, by go_num, by go_num, by go_num, HN⟩
               case measure => simp [intOf])
          · have HN := zGo_less HZ (by simp [hz]) hm
            have hmi : ¬ max (1 : Int) ((t : Int) - (f : Int)) < (0 : Int) + 1 - (s : Int) := by omega
            clear HZ hz
            go_wp2
            go_round
            case rel => exact ⟨0 + 1, f, t, s, by omega, by omega, by omega, by omega, by go_num, by go_num, by go_num, by go_num, HN⟩
            case measure => simp [intOf]
        · have HN := zGo_non HZ (by simp [hz])
          have hzb : ((l0 : Int) != 0) = true := by simp; omega
          clear HZ hz
          go_wp2
          go_round
          case rel => exact ⟨0 + 1, f, t, 0 + 1, by omega, by omega, by omega, by omega, by go_num, by go_num, by go_num, by go_num, HN⟩
          case measure => simp [intOf]
      ·
        have hix := idx8 l0 l1 l2 l3 l4 l5 l6 l7 1 l1 (by simp)
        by_cases hz : l1 = 0
        · have hzb : ((l1 : Int) != 0) = false := by simp; omega
          by_cases hm : max 1 (t - f) < 1 + 1 - s
          · have HN := zGo_more HZ (by simp [hz]) hm
            have hmi : max (1 : Int) ((t : Int) - (f : Int)) < (1 : Int) + 1 - (s : Int) := by omega
            clear HZ hz
            first
            | (exfalso; omega)
            | (go_wp2
               go_round
               case rel => exact ⟨1 + 1, s, 1 + 1, s, by omega, by omega, by omega, by omega, by go_num, by go_num, by go_num, by go_num, HN⟩
               case measure => simp [intOf])
          · have HN := zGo_less HZ (by simp [hz]) hm
            have hmi : ¬ max (1 : Int) ((t : Int) - (f : Int)) < (1 : Int) + 1 - (s : Int) := by omega
            clear HZ hz
            go_wp2
            go_round
            case rel => exact ⟨1 + 1, f, t, s, by omega, by omega, by omega, by omega, by go_num, by go_num, by go_num, by go_num, HN⟩
            case measure => simp [intOf]
        · have HN := zGo_non HZ (by simp [hz])
          have hzb : ((l1 : Int) != 0) = true := by simp; omega
          clear HZ hz
          go_wp2
          go_round
          case rel => exact ⟨1 + 1, f, t, 1 + 1, by omega, by omega, by omega, by omega, by go_num, by go_num, by go_num, by go_num, HN⟩
          case measure => simp [intOf]
      ·
        have hix := idx8 l0 l1 l2 l3 l4 l5 l6 l7 2 l2 (by simp)
        by_cases hz : l2 = 0
        · have hzb : ((l2 : Int) != 0) = false := by simp; omega
          by_cases hm : max 1 (t - f) < 2 + 1 - s
          · have HN := zGo_more HZ (by simp [hz]) hm
            have hmi : max (1 : Int) ((t : Int) - (f : Int)) < (2 : Int) + 1 - (s : Int) := by omega
            clear HZ hz
            first
            | (exfalso; omega)
            | (go_wp2
               go_round
               case rel => exact ⟨2 + 1, s, 2 + 1, s, by omega, by omega, by omega, by omega, by go_num, by go_num, by go_num, by go_num, HN⟩
               case measure => simp [intOf])
          · have HN := zGo_less HZ (by simp [hz]) hm
            have hmi : ¬ max (1 : Int) ((t : Int) - (f : Int)) < (2 : Int) + 1 - (s : Int) := by omega
            clear HZ hz
            go_wp2
            go_round
            case rel => exact ⟨2 + 1, f, t, s, by omega, by omega, by omega, by omega, by go_num, by go_num, by go_num, by go_num, HN⟩
            case measure => simp [intOf]
        · have HN := zGo_non HZ (by simp [hz])
          have hzb : ((l2 : Int) != 0) = true := by simp; omega
          clear HZ hz
          go_wp2
          go_round
          case rel => exact ⟨2 + 1, f, t, 2 + 1, by omega, by omega, by omega, by omega, by go_num, by go_num, by go_num, by go_num, HN⟩
          case measure => simp [intOf]
      ·
        have hix := idx8 l0 l1 l2 l3 l4 l5 l6 l7 3 l3 (by simp)
        by_cases hz : l3 = 0
        · have hzb : ((l3 : Int) != 0) = false := by simp; omega
          by_cases hm : max 1 (t - f) < 3 + 1 - s
          · have HN := zGo_more HZ (by simp [hz]) hm
            have hmi : max (1 : Int) ((t : Int) - (f : Int)) < (3 : Int) + 1 - (s : Int) := by omega
            clear HZ hz
            first
            | (exfalso; omega)
            | (go_wp2
               go_round
               case rel => exact ⟨3 + 1, s, 3 + 1, s, by omega, by omega, by omega, by omega, by go_num, by go_num, by go_num, by go_num, HN⟩
               case measure => simp [intOf])
          · have HN := zGo_less HZ (by simp [hz]) hm
            have hmi : ¬ max (1 : Int) ((t : Int) - (f : Int)) < (3 : Int) + 1 - (s : Int) := by omega
            clear HZ hz
            go_wp2
            go_round
            case rel => exact ⟨3 + 1, f, t, s, by omega, by omega, by omega, by omega, by go_num, by go_num, by go_num, by go_num, HN⟩
            case measure => simp [intOf]
        · have HN := zGo_non HZ (by simp [hz])
          have hzb : ((l3 : Int) != 0) = true := by simp; omega
          clear HZ hz
          go_wp2
          go_round
          case rel => exact ⟨3 + 1, f, t, 3 + 1, by omega, by omega, by omega, by omega, by go_num, by go_num, by go_num, by go_num, HN⟩
          case measure => simp [intOf]
      ·
        have hix := idx8 l0 l1 l2 l3 l4 l5 l6 l7 4 l4 (by simp)
        by_cases hz : l4 = 0
        · have hzb : ((l4 : Int) != 0) = false := by simp; omega
          by_cases hm : max 1 (t - f) < 4 + 1 - s
          · have HN := zGo_more HZ (by simp [hz]) hm
            have hmi : max (1 : Int) ((t : Int) - (f : Int)) < (4 : Int) + 1 - (s : Int) := by omega
            clear HZ hz
            first
            | (exfalso; omega)
            | (go_wp2
               go_round
               case rel => exact ⟨4 + 1, s, 4 + 1, s, by omega, by omega, by omega, by omega, by go_num, by go_num, by go_num, by go_num, HN⟩
               case measure => simp [intOf])
          · have HN := zGo_less HZ (by simp [hz]) hm
            have hmi : ¬ max (1 : Int) ((t : Int) - (f : Int)) < (4 : Int) + 1 - (s : Int) := by omega
            clear HZ hz
            go_wp2
            go_round
            case rel => exact ⟨4 + 1, f, t, s, by omega, by omega, by omega, by omega, by go_num, by go_num, by go_num, by go_num, HN⟩
            case measure => simp [intOf]
        · have HN := zGo_non HZ (by simp [hz])
          have hzb : ((l4 : Int) != 0) = true := by simp; omega
          clear HZ hz
          go_wp2
          go_round
          case rel => exact ⟨4 + 1, f, t, 4 + 1, by omega, by omega, by omega, by omega, by go_num, by go_num, by go_num, by go_num, HN⟩
          case measure => simp [intOf]
      ·
        have hix := idx8 l0 l1 l2 l3 l4 l5 l6 l7 5 l5 (by simp)
        by_cases hz : l5 = 0
        · have hzb : ((l5 : Int) != 0) = false := by simp; omega
          by_cases hm : max 1 (t - f) < 5 + 1 - s
          · have HN := zGo_more HZ (by simp [hz]) hm
            have hmi : max (1 : Int) ((t : Int) - (f : Int)) < (5 : Int) + 1 - (s : Int) := by omega
            clear HZ hz
            first
            | (exfalso; omega)
            | (go_wp2
               go_round
               case rel => exact ⟨5 + 1, s, 5 + 1, s, by omega, by omega, by omega, by omega, by go_num, by go_num, by go_num, by go_num, HN⟩
               case measure => simp [intOf])
          · have HN := zGo_less HZ (by simp [hz]) hm
            have hmi : ¬ max (1 : Int) ((t : Int) - (f : Int)) < (5 : Int) + 1 - (s : Int) := by omega
            clear HZ hz
            go_wp2
            go_round
            case rel => exact ⟨5 + 1, f, t, s, by omega, by omega, by omega, by omega, by go_num, by go_num, by go_num, by go_num, HN⟩
            case measure => simp [intOf]
        · have HN := zGo_non HZ (by simp [hz])
          have hzb : ((l5 : Int) != 0) = true := by simp; omega
          clear HZ hz
          go_wp2
          go_round
          case rel => exact ⟨5 + 1, f, t, 5 + 1, by omega, by omega, by omega, by omega, by go_num, by go_num, by go_num, by go_num, HN⟩
          case measure => simp [intOf]
      ·
        have hix := idx8 l0 l1 l2 l3 l4 l5 l6 l7 6 l6 (by simp)
        by_cases hz : l6 = 0
        · have hzb : ((l6 : Int) != 0) = false := by simp; omega
          by_cases hm : max 1 (t - f) < 6 + 1 - s
          · have HN := zGo_more HZ (by simp [hz]) hm
            have hmi : max (1 : Int) ((t : Int) - (f : Int)) < (6 : Int) + 1 - (s : Int) := by omega
            clear HZ hz
            first
            | (exfalso; omega)
            | (go_wp2
               go_round
               case rel => exact ⟨6 + 1, s, 6 + 1, s, by omega, by omega, by omega, by omega, by go_num, by go_num, by go_num, by go_num, HN⟩
               case measure => simp [intOf])
          · have HN := zGo_less HZ (by simp [hz]) hm
            have hmi : ¬ max (1 : Int) ((t : Int) - (f : Int)) < (6 : Int) + 1 - (s : Int) := by omega
            clear HZ hz
            go_wp2
            go_round
            case rel => exact ⟨6 + 1, f, t, s, by omega, by omega, by omega, by omega, by go_num, by go_num, by go_num, by go_num, HN⟩
            case measure => simp [intOf]
        · have HN := zGo_non HZ (by simp [hz])
          have hzb : ((l6 : Int) != 0) = true := by simp; omega
          clear HZ hz
          go_wp2
          go_round
          case rel => exact ⟨6 + 1, f, t, 6 + 1, by omega, by omega, by omega, by omega, by go_num, by go_num, by go_num, by go_num, HN⟩
          case measure => simp [intOf]
      ·
        have hix := idx8 l0 l1 l2 l3 l4 l5 l6 l7 7 l7 (by simp)
        by_cases hz : l7 = 0
        · have hzb : ((l7 : Int) != 0) = false := by simp; omega
          by_cases hm : max 1 (t - f) < 7 + 1 - s
          · have HN := zGo_more HZ (by simp [hz]) hm
            have hmi : max (1 : Int) ((t : Int) - (f : Int)) < (7 : Int) + 1 - (s : Int) := by omega
            clear HZ hz
            first
            | (exfalso; omega)
            | (go_wp2
               go_round
               case rel => exact ⟨7 + 1, s, 7 + 1, s, by omega, by omega, by omega, by omega, by go_num, by go_num, by go_num, by go_num, HN⟩
               case measure => simp [intOf])
          · have HN := zGo_less HZ (by simp [hz]) hm
            have hmi : ¬ max (1 : Int) ((t : Int) - (f : Int)) < (7 : Int) + 1 - (s : Int) := by omega
            clear HZ hz
            go_wp2
            go_round
            case rel => exact ⟨7 + 1, f, t, s, by omega, by omega, by omega, by omega, by go_num, by go_num, by go_num, by go_num, HN⟩
            case measure => simp [intOf]
        · have HN := zGo_non HZ (by simp [hz])
          have hzb : ((l7 : Int) != 0) = true := by simp; omega
          clear HZ hz
          go_wp2
          go_round
          case rel => exact ⟨7 + 1, f, t, 7 + 1, by omega, by omega, by omega, by omega, by go_num, by go_num, by go_num, by go_num, HN⟩
          case measure => simp [intOf]
    · obtain rfl : k = 8 := by omega
      have hZ := HZ.out
      simp only [List.drop_succ_cons, List.drop_zero, List.drop_nil, zGo] at hZ
      subst hZ
      go_wp2
      go_ret2
      exact ⟨rfl, by go_grown⟩
end Go.Proofs.YtegaeifmikfpcaaDoor
