/-
  What the reference's words of an address, and its reader of numbers with colons between, hand back: new lists. No condition but those that stand in each.
-/
import Derived.Test.YtegaeifmikfpcaaDoorW3m
import Derived.Test.YtegaeifmikfpcaaDoorW2f
import Derived.Test.YtegaeifmikfpcaaDoorOwn
set_option linter.unusedSimpArgs false
set_option linter.unusedVariables false
namespace Go.Proofs.YtegaeifmikfpcaaDoor
open Go.RowKit Go.Sort M

def intV (x : Nat) : Value := .int .i64 (x : Int)
theorem infoN : (Tryd.prog.info? 3).map (fun i => (i.zero, i.size, i.bytes)) = some (some (.int .i64 0), 1, 8) := by kernel_rfl
theorem and64k (x : Nat) (hx : x < 18446744073709551616) : bits BinOp.and IntKind.u64 (x : Int) 65535 = ((x % 65536 : Nat) : Int) := by
  rw [show (65535 : Int) = ((65535 : Nat) : Int) from rfl, bits_and_u64_nat _ _ hx (by decide)]
  have := Nat.and_two_pow_sub_one_eq_mod x 16
  rw [show 2 ^ 16 - 1 = 65535 from rfl] at this
  rw [this]
theorem rw0 (x : Nat) (h : W64 x) : bits BinOp.and IntKind.u64 ((x : Int) / 281474976710656) 65535 = ((word x 0 : Nat) : Int) := by
  have h := h.lt
  rw [show (x : Int) / 281474976710656 = ((x / 2 ^ 48 : Nat) : Int) by omega, and64k _ (by omega)]; rfl
theorem rw1 (x : Nat) (h : W64 x) : bits BinOp.and IntKind.u64 ((x : Int) / 4294967296) 65535 = ((word x 1 : Nat) : Int) := by
  have h := h.lt
  rw [show (x : Int) / 4294967296 = ((x / 2 ^ 32 : Nat) : Int) by omega, and64k _ (by omega)]; rfl
theorem rw2 (x : Nat) (h : W64 x) : bits BinOp.and IntKind.u64 ((x : Int) / 65536) 65535 = ((word x 2 : Nat) : Int) := by
  have h := h.lt
  rw [show (x : Int) / 65536 = ((x / 2 ^ 16 : Nat) : Int) by omega, and64k _ (by omega)]; rfl
theorem rw3 (x : Nat) (h : W64 x) : bits BinOp.and IntKind.u64 (x : Int) 65535 = ((word x 3 : Nat) : Int) := by
  have h := h.lt
  rw [and64k _ (by omega)]; unfold word; simp
theorem ownI_snoc {w : World} {B : Nat} {v : Value} {L : List Nat} {x : Nat} (h : w.ownsRow B 3 1 v (L.length + 1) (L.map intV ++ [.int .i64 (x : Int)])) : w.ownsRow B 3 1 v (L ++ [x]).length ((L ++ [x]).map intV) := by
  simpa [intV] using h
theorem take_snoc {W L : List Nat} {k : Nat} (hL : L = W.take k) (h : k < W.length) : L ++ [W[k]] = W.take (k + 1) := by
  rw [hL, List.take_succ_eq_append_getElem h]
set_option maxHeartbeats 2000000 in
set_option maxRecDepth 100000 in
theorem rwords_any (hi lo : Nat) (ha : W64 hi) (hb : W64 lo) (w : World) :
    Calls Tryd.prog 27 #[.agg #[.int .u64 hi, .int .u64 lo]] w fun e w' => ∃ v, e = .returned v ∧ w'.ownsRow w.heap.size 3 1 v 8 ((wordsL hi lo).map intV) ∧ Below w.heap.size w w' := by
  obtain ⟨i0, hi0, iz0, iz1, iz2⟩ := info_parts infoN
  go_enter Tryd.func27, Tryd.ntmps27
  go_wp2
  go_loopw [3, 4] (fun v i wr => ∃ (k : Nat) (L : List Nat), k ≤ 4 ∧ i = .int .i64 k ∧ L.length ≤ k ∧ Hid (L = (wordsL hi lo).take k) ∧ wr.ownsRow (w.heap.size + 1) 3 1 v L.length (L.map intV) ∧ Below w.heap.size w wr ∧ w.heap.size < wr.heap.size ∧
      wr.cell? ⟨w.heap.size, 0, none⟩ = some (.int .u64 hi) ∧ wr.cell? ⟨w.heap.size, 1, none⟩ = some (.int .u64 lo)) (fun _ i _ => 4 - (intOf i).toNat)
  case atStart =>
    refine ⟨0, [], by omega, rfl, by simp, Lib.hid rfl, World.ownsRow_nil _ _ _ _, by go_grown, by go_size, ?_⟩
    simp [go_sem]
  case round =>
    obtain ⟨k, L, hk, rfl, hLk, HL, hown, hw0, hz, c0, c1⟩ := hrel
    by_cases hlt : k < 4
    · obtain rfl | rfl | rfl | rfl : k = 0 ∨ k = 1 ∨ k = 2 ∨ k = 3 := by omega
      ·
        have hrw := rw0 hi ha
        have hwb : word hi 0 < 65536 := by unfold word; omega
        go_wp2_with (at_builtin; go_loud (refine wpList_append_own _ rfl (.tmp 10) (.tmp 20) 40 rfl (w.heap.size + 1) 3 i0 _ 1 8 Tryd.underlying40 hi0 iz0 iz1 iz2 rfl (by decide) _ _ _ rfl (hown.alloc _) ⟨wr.heap.size, 0, none⟩ 1 1 [.int .i64 ((word hi 0 : Nat) : Int)] rfl rfl (one_news (by simp [go_sem])) (by simp [Value.oneCell']) (by unfold maxLen; omega) (by omega) (by have := hw0.size; simp; omega) ?_))
        intro v3 w3 hown3 hg3 _
        have hown4 := ownI_snoc hown3
        have hwr : Below (w.heap.size + 1) wr w3 := ((Below.refl _ _).alloc (by omega) _).grown hg3 (by simp; omega) (fun j hj => (hown.lt j hj).1)
        have hw3 : Below w.heap.size w w3 := hw0.trans (hwr.mono (by omega))
        have c0 := (hwr.cell (p := ⟨w.heap.size, 0, none⟩) (by simp)).trans c0
        have c1 := (hwr.cell (p := ⟨w.heap.size, 1, none⟩) (by simp)).trans c1
        have hz3 : w.heap.size < w3.heap.size := Nat.lt_of_lt_of_le hz hwr.size
        clear hown3 hg3 hown hw0 hwr hz hrw
        go_wp2
        go_roundw
        case rel => exact ⟨0 + 1, L ++ [word hi 0], by omega, by go_num, by rw [List.length_append, List.length_singleton]; omega, Lib.hid (take_snoc (W := wordsL hi lo) (k := 0) HL.out (show 0 < 8 by decide)), hown4, hw3, hz3, c0, c1⟩
        case measure => simp [intOf]
      ·
        have hrw := rw1 hi ha
        have hwb : word hi 1 < 65536 := by unfold word; omega
        go_wp2_with (at_builtin; go_loud (refine wpList_append_own _ rfl (.tmp 10) (.tmp 20) 40 rfl (w.heap.size + 1) 3 i0 _ 1 8 Tryd.underlying40 hi0 iz0 iz1 iz2 rfl (by decide) _ _ _ rfl (hown.alloc _) ⟨wr.heap.size, 0, none⟩ 1 1 [.int .i64 ((word hi 1 : Nat) : Int)] rfl rfl (one_news (by simp [go_sem])) (by simp [Value.oneCell']) (by unfold maxLen; omega) (by omega) (by have := hw0.size; simp; omega) ?_))
        intro v3 w3 hown3 hg3 _
        have hown4 := ownI_snoc hown3
        have hwr : Below (w.heap.size + 1) wr w3 := ((Below.refl _ _).alloc (by omega) _).grown hg3 (by simp; omega) (fun j hj => (hown.lt j hj).1)
        have hw3 : Below w.heap.size w w3 := hw0.trans (hwr.mono (by omega))
        have c0 := (hwr.cell (p := ⟨w.heap.size, 0, none⟩) (by simp)).trans c0
        have c1 := (hwr.cell (p := ⟨w.heap.size, 1, none⟩) (by simp)).trans c1
        have hz3 : w.heap.size < w3.heap.size := Nat.lt_of_lt_of_le hz hwr.size
        clear hown3 hg3 hown hw0 hwr hz hrw
        go_wp2
        go_roundw
        case rel => exact ⟨1 + 1, L ++ [word hi 1], by omega, by go_num, by rw [List.length_append, List.length_singleton]; omega, Lib.hid (take_snoc (W := wordsL hi lo) (k := 1) HL.out (show 1 < 8 by decide)), hown4, hw3, hz3, c0, c1⟩
        case measure => simp [intOf]
      ·
        have hrw := rw2 hi ha
        have hwb : word hi 2 < 65536 := by unfold word; omega
        go_wp2_with (at_builtin; go_loud (refine wpList_append_own _ rfl (.tmp 10) (.tmp 20) 40 rfl (w.heap.size + 1) 3 i0 _ 1 8 Tryd.underlying40 hi0 iz0 iz1 iz2 rfl (by decide) _ _ _ rfl (hown.alloc _) ⟨wr.heap.size, 0, none⟩ 1 1 [.int .i64 ((word hi 2 : Nat) : Int)] rfl rfl (one_news (by simp [go_sem])) (by simp [Value.oneCell']) (by unfold maxLen; omega) (by omega) (by have := hw0.size; simp; omega) ?_))
        intro v3 w3 hown3 hg3 _
        have hown4 := ownI_snoc hown3
        have hwr : Below (w.heap.size + 1) wr w3 := ((Below.refl _ _).alloc (by omega) _).grown hg3 (by simp; omega) (fun j hj => (hown.lt j hj).1)
        have hw3 : Below w.heap.size w w3 := hw0.trans (hwr.mono (by omega))
        have c0 := (hwr.cell (p := ⟨w.heap.size, 0, none⟩) (by simp)).trans c0
        have c1 := (hwr.cell (p := ⟨w.heap.size, 1, none⟩) (by simp)).trans c1
        have hz3 : w.heap.size < w3.heap.size := Nat.lt_of_lt_of_le hz hwr.size
        clear hown3 hg3 hown hw0 hwr hz hrw
        go_wp2
        go_roundw
        case rel => exact ⟨2 + 1, L ++ [word hi 2], by omega, by go_num, by rw [List.length_append, List.length_singleton]; omega, Lib.hid (take_snoc (W := wordsL hi lo) (k := 2) HL.out (show 2 < 8 by decide)), hown4, hw3, hz3, c0, c1⟩
        case measure => simp [intOf]
      ·
        have hrw := rw3 hi ha
        have hwb : word hi 3 < 65536 := by unfold word; omega
        go_wp2_with (at_builtin; go_loud (refine wpList_append_own _ rfl (.tmp 10) (.tmp 20) 40 rfl (w.heap.size + 1) 3 i0 _ 1 8 Tryd.underlying40 hi0 iz0 iz1 iz2 rfl (by decide) _ _ _ rfl (hown.alloc _) ⟨wr.heap.size, 0, none⟩ 1 1 [.int .i64 ((word hi 3 : Nat) : Int)] rfl rfl (one_news (by simp [go_sem])) (by simp [Value.oneCell']) (by unfold maxLen; omega) (by omega) (by have := hw0.size; simp; omega) ?_))
        intro v3 w3 hown3 hg3 _
        have hown4 := ownI_snoc hown3
        have hwr : Below (w.heap.size + 1) wr w3 := ((Below.refl _ _).alloc (by omega) _).grown hg3 (by simp; omega) (fun j hj => (hown.lt j hj).1)
        have hw3 : Below w.heap.size w w3 := hw0.trans (hwr.mono (by omega))
        have c0 := (hwr.cell (p := ⟨w.heap.size, 0, none⟩) (by simp)).trans c0
        have c1 := (hwr.cell (p := ⟨w.heap.size, 1, none⟩) (by simp)).trans c1
        have hz3 : w.heap.size < w3.heap.size := Nat.lt_of_lt_of_le hz hwr.size
        clear hown3 hg3 hown hw0 hwr hz hrw
        go_wp2
        go_roundw
        case rel => exact ⟨3 + 1, L ++ [word hi 3], by omega, by go_num, by rw [List.length_append, List.length_singleton]; omega, Lib.hid (take_snoc (W := wordsL hi lo) (k := 3) HL.out (show 3 < 8 by decide)), hown4, hw3, hz3, c0, c1⟩
        case measure => simp [intOf]
    · have HL4 : Hid (L = (wordsL hi lo).take (4 + 0)) := Lib.hid (by
        have hk4 : k = 4 := by omega
        have := HL.out
        rw [hk4] at this; exact this)
      have hL4 : L.length ≤ 4 + 0 := by omega
      clear HL hLk
      go_wp2
      go_loopw [3, 5] (fun v i wr => ∃ (k : Nat) (L : List Nat), k ≤ 4 ∧ i = .int .i64 k ∧ L.length ≤ 4 + k ∧ Hid (L = (wordsL hi lo).take (4 + k)) ∧ wr.ownsRow (w.heap.size + 1) 3 1 v L.length (L.map intV) ∧ Below w.heap.size w wr ∧ w.heap.size < wr.heap.size ∧
          wr.cell? ⟨w.heap.size, 0, none⟩ = some (.int .u64 hi) ∧ wr.cell? ⟨w.heap.size, 1, none⟩ = some (.int .u64 lo)) (fun _ i _ => 4 - (intOf i).toNat)
      case atStart => exact ⟨0, L, by omega, rfl, hL4, HL4, hown, hw0, hz, c0, c1⟩
      case round =>
        clear HL4 hown hw0 hz c0 c1 hL4
        obtain ⟨j, L, hj, rfl, hLk, HL, hown, hw0, hz, c0, c1⟩ := hrel
        by_cases hjt : j < 4
        · obtain rfl | rfl | rfl | rfl : j = 0 ∨ j = 1 ∨ j = 2 ∨ j = 3 := by omega
          ·
            have hrw := rw0 lo hb
            have hwb : word lo 0 < 65536 := by unfold word; omega
            go_wp2_with (at_builtin; go_loud (refine wpList_append_own _ rfl (.tmp 26) (.tmp 36) 40 rfl (w.heap.size + 1) 3 i0 _ 1 8 Tryd.underlying40 hi0 iz0 iz1 iz2 rfl (by decide) _ _ _ rfl (hown.alloc _) ⟨wr.heap.size, 0, none⟩ 1 1 [.int .i64 ((word lo 0 : Nat) : Int)] rfl rfl (one_news (by simp [go_sem])) (by simp [Value.oneCell']) (by unfold maxLen; omega) (by omega) (by have := hw0.size; simp; omega) ?_))
            intro v3 w3 hown3 hg3 _
            have hown4 := ownI_snoc hown3
            have hwr : Below (w.heap.size + 1) wr w3 := ((Below.refl _ _).alloc (by omega) _).grown hg3 (by simp; omega) (fun j hj => (hown.lt j hj).1)
            have hw3 : Below w.heap.size w w3 := hw0.trans (hwr.mono (by omega))
            have c0 := (hwr.cell (p := ⟨w.heap.size, 0, none⟩) (by simp)).trans c0
            have c1 := (hwr.cell (p := ⟨w.heap.size, 1, none⟩) (by simp)).trans c1
            have hz3 : w.heap.size < w3.heap.size := Nat.lt_of_lt_of_le hz hwr.size
            clear hown3 hg3 hown hw0 hwr hz hrw
            go_wp2
            go_roundw
            case rel => exact ⟨0 + 1, L ++ [word lo 0], by omega, by go_num, by rw [List.length_append, List.length_singleton]; omega, Lib.hid (take_snoc (W := wordsL hi lo) (k := 4) HL.out (show 4 < 8 by decide)), hown4, hw3, hz3, c0, c1⟩
            case measure => simp [intOf]
          ·
            have hrw := rw1 lo hb
            have hwb : word lo 1 < 65536 := by unfold word; omega
            go_wp2_with (at_builtin; go_loud (refine wpList_append_own _ rfl (.tmp 26) (.tmp 36) 40 rfl (w.heap.size + 1) 3 i0 _ 1 8 Tryd.underlying40 hi0 iz0 iz1 iz2 rfl (by decide) _ _ _ rfl (hown.alloc _) ⟨wr.heap.size, 0, none⟩ 1 1 [.int .i64 ((word lo 1 : Nat) : Int)] rfl rfl (one_news (by simp [go_sem])) (by simp [Value.oneCell']) (by unfold maxLen; omega) (by omega) (by have := hw0.size; simp; omega) ?_))
            intro v3 w3 hown3 hg3 _
            have hown4 := ownI_snoc hown3
            have hwr : Below (w.heap.size + 1) wr w3 := ((Below.refl _ _).alloc (by omega) _).grown hg3 (by simp; omega) (fun j hj => (hown.lt j hj).1)
            have hw3 : Below w.heap.size w w3 := hw0.trans (hwr.mono (by omega))
            have c0 := (hwr.cell (p := ⟨w.heap.size, 0, none⟩) (by simp)).trans c0
            have c1 := (hwr.cell (p := ⟨w.heap.size, 1, none⟩) (by simp)).trans c1
            have hz3 : w.heap.size < w3.heap.size := Nat.lt_of_lt_of_le hz hwr.size
            clear hown3 hg3 hown hw0 hwr hz hrw
            go_wp2
            go_roundw
            case rel => exact ⟨1 + 1, L ++ [word lo 1], by omega, by go_num, by rw [List.length_append, List.length_singleton]; omega, Lib.hid (take_snoc (W := wordsL hi lo) (k := 5) HL.out (show 5 < 8 by decide)), hown4, hw3, hz3, c0, c1⟩
            case measure => simp [intOf]
          ·
            have hrw := rw2 lo hb
            have hwb : word lo 2 < 65536 := by unfold word; omega
            go_wp2_with (at_builtin; go_loud (refine wpList_append_own _ rfl (.tmp 26) (.tmp 36) 40 rfl (w.heap.size + 1) 3 i0 _ 1 8 Tryd.underlying40 hi0 iz0 iz1 iz2 rfl (by decide) _ _ _ rfl (hown.alloc _) ⟨wr.heap.size, 0, none⟩ 1 1 [.int .i64 ((word lo 2 : Nat) : Int)] rfl rfl (one_news (by simp [go_sem])) (by simp [Value.oneCell']) (by unfold maxLen; omega) (by omega) (by have := hw0.size; simp; omega) ?_))
            intro v3 w3 hown3 hg3 _
            have hown4 := ownI_snoc hown3
            have hwr : Below (w.heap.size + 1) wr w3 := ((Below.refl _ _).alloc (by omega) _).grown hg3 (by simp; omega) (fun j hj => (hown.lt j hj).1)
            have hw3 : Below w.heap.size w w3 := hw0.trans (hwr.mono (by omega))
            have c0 := (hwr.cell (p := ⟨w.heap.size, 0, none⟩) (by simp)).trans c0
            have c1 := (hwr.cell (p := ⟨w.heap.size, 1, none⟩) (by simp)).trans c1
            have hz3 : w.heap.size < w3.heap.size := Nat.lt_of_lt_of_le hz hwr.size
            clear hown3 hg3 hown hw0 hwr hz hrw
            go_wp2
            go_roundw
            case rel => exact ⟨2 + 1, L ++ [word lo 2], by omega, by go_num, by rw [List.length_append, List.length_singleton]; omega, Lib.hid (take_snoc (W := wordsL hi lo) (k := 6) HL.out (show 6 < 8 by decide)), hown4, hw3, hz3, c0, c1⟩
            case measure => simp [intOf]
          ·
            have hrw := rw3 lo hb
            have hwb : word lo 3 < 65536 := by unfold word; omega
            go_wp2_with (at_builtin; go_loud (refine wpList_append_own _ rfl (.tmp 26) (.tmp 36) 40 rfl (w.heap.size + 1) 3 i0 _ 1 8 Tryd.underlying40 hi0 iz0 iz1 iz2 rfl (by decide) _ _ _ rfl (hown.alloc _) ⟨wr.heap.size, 0, none⟩ 1 1 [.int .i64 ((word lo 3 : Nat) : Int)] rfl rfl (one_news (by simp [go_sem])) (by simp [Value.oneCell']) (by unfold maxLen; omega) (by omega) (by have := hw0.size; simp; omega) ?_))
            intro v3 w3 hown3 hg3 _
            have hown4 := ownI_snoc hown3
            have hwr : Below (w.heap.size + 1) wr w3 := ((Below.refl _ _).alloc (by omega) _).grown hg3 (by simp; omega) (fun j hj => (hown.lt j hj).1)
            have hw3 : Below w.heap.size w w3 := hw0.trans (hwr.mono (by omega))
            have c0 := (hwr.cell (p := ⟨w.heap.size, 0, none⟩) (by simp)).trans c0
            have c1 := (hwr.cell (p := ⟨w.heap.size, 1, none⟩) (by simp)).trans c1
            have hz3 : w.heap.size < w3.heap.size := Nat.lt_of_lt_of_le hz hwr.size
            clear hown3 hg3 hown hw0 hwr hz hrw
            go_wp2
            go_roundw
            case rel => exact ⟨3 + 1, L ++ [word lo 3], by omega, by go_num, by rw [List.length_append, List.length_singleton]; omega, Lib.hid (take_snoc (W := wordsL hi lo) (k := 7) HL.out (show 7 < 8 by decide)), hown4, hw3, hz3, c0, c1⟩
            case measure => simp [intOf]
        · obtain rfl : j = 4 := by omega
          have hL : L = wordsL hi lo := HL.out
          rw [hL] at hown
          have HO := Lib.hid (own_le hown (show w.heap.size ≤ w.heap.size + 1 by omega))
          clear hown hL HL
          go_wp2
          go_ret
          exact ⟨_, rfl, HO.out, hw0⟩
theorem splitGo_len (c : UInt8) : ∀ (s cur : List UInt8), (splitGo c cur s).length ≤ s.length + 1 ∧ ∀ q ∈ splitGo c cur s, q.length ≤ cur.length + s.length
  | [], cur => by simp [splitGo]
  | b :: l, cur => by
    unfold splitGo
    by_cases h : b = c
    · rw [if_pos h]
      obtain ⟨h1, h2⟩ := splitGo_len c l []
      refine ⟨by simp; omega, fun q hq => ?_⟩
      rcases List.mem_cons.1 hq with rfl | hq
      · simp
      · have := h2 q hq
        simp at this ⊢; omega
    · rw [if_neg h]
      obtain ⟨h1, h2⟩ := splitGo_len c l (cur ++ [b])
      refine ⟨by simp; omega, fun q hq => ?_⟩
      have := h2 q hq
      simp at this ⊢; omega
theorem splitB_len (c : UInt8) (s : List UInt8) : (splitB c s).length ≤ s.length + 1 ∧ ∀ q ∈ splitB c s, q.length ≤ s.length := by
  obtain ⟨h1, h2⟩ := splitGo_len c s []
  exact ⟨h1, fun q hq => by have := h2 q hq; simpa using this⟩
theorem grp_on {L : List Nat} {d : List UInt8} {r : List (List UInt8)} {R : Option (List Nat)} {x : Nat} (h : Hid (grpGo L (d :: r) = R)) (hd : hexV d = some x) : Hid (grpGo (L ++ [x]) r = R) := by
  have h := h.out
  rw [grpGo, hd] at h
  exact Lib.hid h
theorem grp_bad {L : List Nat} {d : List UInt8} {r : List (List UInt8)} {R : Option (List Nat)} (h : Hid (grpGo L (d :: r) = R)) (hd : hexV d = none) : R = none := by
  have h := h.out
  rw [grpGo, hd] at h
  exact h.symm
/-- A list of numbers of the call's own, or none. -/
def ListsI (R : Option (List Nat)) (B : Nat) (v : Value) (w : World) : Prop := match R with | none => v = .slice none 0 0 | some L => w.ownsRow B 3 1 v L.length (L.map intV)
theorem rsplit_l (l : List UInt8) (c : UInt8) (hl : l.length ≤ 1000000) (w : World) : Calls Tryd.prog 18 #[.string ⟨l.toArray⟩, .int .u8 (c.toNat : Int)] w fun e w' => ∃ v, e = .returned v ∧ w'.ownsRow w.heap.size 9 1 v (splitB c l).length ((splitB c l).map strV) ∧ Below w.heap.size w w' :=
  rsplit_any ⟨l.toArray⟩ c (by show l.toArray.size ≤ _; simpa using hl) w
set_option maxHeartbeats 2000000 in
set_option maxRecDepth 100000 in
theorem rgroup_any (l : List UInt8) (hl : l.length ≤ 100000) (w : World) :
    Calls Tryd.prog 40 #[.string ⟨l.toArray⟩] w fun e w' => ∃ v, e = .returned (.tuple #[v, .bool (groupV l).isSome]) ∧ ListsI (groupV l) w.heap.size v w' ∧ Below w.heap.size w w' := by
  obtain ⟨i0, hi0, iz0, iz1, iz2⟩ := info_parts infoN
  by_cases hemp : l = []
  · subst hemp
    go_enter Tryd.func40, Tryd.ntmps40
    go_wp2
    go_ret2
    exact ⟨_, rfl, World.ownsRow_nil _ _ _ _, by go_grown⟩
  · have hle : l.isEmpty = false := by simpa using hemp
    have hg : groupV l = grpGo [] (splitB 58 l) := by unfold groupV; rw [hle]; rfl
    rw [hg]
    have hS := rsplit_l l 58 (by omega) w
    obtain ⟨q1, q2⟩ := splitB_len 58 l
    have hne := List.length_pos_iff.2 (splitB_ne 58 l)
    generalize hQ : splitB 58 l = Q at *
    generalize hR : grpGo [] Q = R
    have h0 : Hid (grpGo [] (Q.drop 0) = R) := Lib.hid (by rw [List.drop_zero]; exact hR)
    have HS : Hid (Calls Tryd.prog 18 #[.string ⟨l.toArray⟩, .int .u8 58] w fun e w' => ∃ v, e = .returned v ∧ w'.ownsRow w.heap.size 9 1 v Q.length (Q.map strV) ∧ Below w.heap.size w w') := hS
    have HQ : Hid (∀ q ∈ Q, q.length ≤ 100000) := Lib.hid (fun q hq => Nat.le_trans (q2 q hq) hl)
    have hQl : Q.length ≤ 100001 := by omega
    clear hS hR hQ hg q1 q2 hl hemp
    go_enter Tryd.func40, Tryd.ntmps40
    go_wp2_with fail
    refine HS.out.mono ?_
    rintro e w1 ⟨v, rfl, hown, hb1⟩
    obtain ⟨g, cap, rfl, hg, hgs, hnc, hcm, hcells⟩ := own_form hown hne
    have HC := Lib.hid hcells
    clear hcells hown
    go_wp2
    go_loopw [5, 6] (fun v i wr => ∃ (k : Nat) (L : List Nat), k ≤ Q.length ∧ i = .int .i64 k ∧ L.length ≤ k ∧ Hid (grpGo L (Q.drop k) = R) ∧ wr.ownsRow w1.heap.size 3 1 v L.length (L.map intV) ∧ Below w1.heap.size w1 wr) (fun _ i _ => Q.length - (intOf i).toNat)
    case atStart => exact ⟨0, [], by omega, rfl, by simp, h0, World.ownsRow_nil _ _ _ _, Below.refl _ _⟩
    case round =>
      clear h0
      obtain ⟨k, L, hk, rfl, hLk, hrest, hown, hw0⟩ := hrel
      have hz0 := hw0.size
      by_cases hlt : k < Q.length
      · rw [List.drop_eq_getElem_cons hlt] at hrest
        have hcell : wr.cell? ⟨g, k, none⟩ = some (strV Q[k]) := by
          rw [hw0.cell (by simpa using hgs)]
          exact HC.out k _ (by rw [List.getElem?_map, List.getElem?_eq_getElem hlt]; rfl)
        have hql := HQ.out Q[k] (List.getElem_mem hlt)
        generalize Q[k] = q at hrest hcell hql
        have hX : Gives Tryd.prog 49 #[.string ⟨q.toArray⟩] (.int .i64 (numI (hexV q))) := rreadHex_any ⟨q.toArray⟩ (by show q.toArray.size ≤ _; rw [List.size_toArray]; omega)
        unfold strV at hcell
        cases hx : hexV q with
        | none =>
          have hR := grp_bad hrest hx
          subst hR
          rw [hx] at hX
          have HX : Hid (Gives Tryd.prog 49 #[.string ⟨q.toArray⟩] (.int .i64 (-1))) := hX
          clear hX hrest hx hql
          go_wp2_with fail
          refine (HX.out _).mono ?_
          rintro e w2 ⟨rfl, hb2⟩
          have hw2 := hb1.trans ((hw0.trans (hb2.mono hz0)).mono hb1.size)
          go_wp2
          go_ret2
          exact ⟨_, rfl, rfl, hw2⟩
        | some x =>
          have hn := grp_on hrest hx
          have hx16 := hexV_lt hx
          rw [hx] at hX
          have HX : Hid (Gives Tryd.prog 49 #[.string ⟨q.toArray⟩] (.int .i64 (x : Int))) := hX
          clear hX hrest hx hql
          go_wp2_with fail
          refine (HX.out _).mono ?_
          rintro e w2 ⟨rfl, hb2⟩
          have hw2 := hw0.trans (hb2.mono hz0)
          have hz2 := hw2.size
          have hown2 := own_below hown hb2
          clear hown hcell
          go_wp2_with (at_builtin; go_loud (refine wpList_append_own _ rfl (.tmp 25) (.tmp 27) 40 rfl w1.heap.size 3 i0 _ 1 8 Tryd.underlying40 hi0 iz0 iz1 iz2 rfl (by decide) _ _ _ rfl (hown2.alloc _) ⟨w2.heap.size, 0, none⟩ 1 1 [.int .i64 (x : Int)] rfl rfl (one_news (by simp [go_sem])) (by simp [Value.oneCell']) (by unfold maxLen; omega) (by omega) (by simp; omega) ?_))
          intro v3 w3 hown3 hg3 _
          have hown4 := ownI_snoc hown3
          have hw3 : Below w1.heap.size w1 w3 := (hw2.alloc hz2 _).grown hg3 (by simp; omega) (fun j hj => (hown2.lt j hj).1)
          clear hown3 hg3 hown2 hw0 hw2 hb2
          go_wp2
          go_roundw
          case rel => exact ⟨k + 1, L ++ [x], by omega, by go_num, by rw [List.length_append, List.length_singleton]; omega, hn, hown4, hw3⟩
          case measure => simp [intOf]; omega
      · have hR : R = some L := by
          have := hrest.out
          rw [List.drop_eq_nil_of_le (by omega)] at this
          exact this.symm
        subst hR
        have HO := Lib.hid (And.intro (own_le hown hb1.size) (hb1.trans (hw0.mono hb1.size)))
        clear hrest hown
        go_wp2
        go_ret2
        exact ⟨_, rfl, HO.out.1, HO.out.2⟩
end Go.Proofs.YtegaeifmikfpcaaDoor
