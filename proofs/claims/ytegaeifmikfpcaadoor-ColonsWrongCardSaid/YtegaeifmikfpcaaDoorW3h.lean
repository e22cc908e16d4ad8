/-
  What the library's writer of numbers in base 16 hands back, at numbers of 16 bits. It asks for one cell of the library's table of places.
-/
import Derived.Test.YtegaeifmikfpcaaDoorW3g
set_option linter.unusedSimpArgs false
set_option linter.unusedVariables false
namespace Go.Proofs.YtegaeifmikfpcaaDoor
open Go.RowKit Go.Sort M

theorem ispow16 (w : World) : Calls Tryd.prog 74 #[.int .i64 16] w fun e w' => e = .returned (.bool true) ∧ w = w' := by
  have hb : bits .and .i64 16 15 = 0 := by decide +kernel
  go_enter Tryd.func74, Tryd.ntmps74
  go_wp2
  go_ret
  exact ⟨rfl, rfl⟩
set_option maxRecDepth 100000 in
theorem tz64_16 (w : World) (h : w.cell? ⟨5, 15, none⟩ = some (.int .u8 4)) : Calls Tryd.prog 79 #[.int .u64 16] w fun e w' => e = .returned (.int .i64 4) ∧ w = w' := by
  have e : (IntKind.u64.wrap (bits BinOp.and IntKind.u64 16 (IntKind.u64.wrap (-16)) * 285870213051353865) / 288230376151711744).toNat = 15 := by decide +kernel
  rw [← e] at h
  clear e
  go_enter Tryd.func79, Tryd.ntmps79
  go_wp2
  go_ret
  exact ⟨rfl, rfl⟩
theorem tz_16 (w : World) (h : w.cell? ⟨5, 15, none⟩ = some (.int .u8 4)) : Calls Tryd.prog 75 #[.int .u64 16] w fun e w' => e = .returned (.int .i64 4) ∧ w = w' := by
  have HT := Lib.hid (tz64_16 w h)
  clear h
  go_enter Tryd.func75, Tryd.ntmps75
  go_wp2_with fail
  refine HT.out.mono ?_
  rintro e w' ⟨rfl, rfl⟩
  go_wp2
  go_ret
  exact ⟨rfl, rfl⟩
theorem add_at (g o j : Nat) : (⟨g, o, none⟩ : Addr).add j = ⟨g, o + j, none⟩ := by unfold Addr.add; split <;> simp_all
theorem news1 {w : World} {g o : Nat} {a : Value} (h0 : w.cell? ⟨g, o, none⟩ = some a) : ∀ j u, [a][j]? = some u → w.cell? ((⟨g, o, none⟩ : Addr).add j) = some u := by
  intro j u hj
  rw [add_at]
  match j, hj with
  | 0, hj => injection hj with hj; subst hj; exact h0
theorem news2 {w : World} {g o : Nat} {a b : Value} (h0 : w.cell? ⟨g, o, none⟩ = some a) (h1 : w.cell? ⟨g, o + 1, none⟩ = some b) : ∀ j u, [a, b][j]? = some u → w.cell? ((⟨g, o, none⟩ : Addr).add j) = some u := by
  intro j u hj
  rw [add_at]
  match j, hj with
  | 0, hj => injection hj with hj; subst hj; exact h0
  | 1, hj => injection hj with hj; subst hj; exact h1
theorem news3 {w : World} {g o : Nat} {a b c : Value} (h0 : w.cell? ⟨g, o, none⟩ = some a) (h1 : w.cell? ⟨g, o + 1, none⟩ = some b) (h2 : w.cell? ⟨g, o + 2, none⟩ = some c) : ∀ j u, [a, b, c][j]? = some u → w.cell? ((⟨g, o, none⟩ : Addr).add j) = some u := by
  intro j u hj
  rw [add_at]
  match j, hj with
  | 0, hj => injection hj with hj; subst hj; exact h0
  | 1, hj => injection hj with hj; subst hj; exact h1
  | 2, hj => injection hj with hj; subst hj; exact h2
theorem news4 {w : World} {g o : Nat} {a b c d : Value} (h0 : w.cell? ⟨g, o, none⟩ = some a) (h1 : w.cell? ⟨g, o + 1, none⟩ = some b) (h2 : w.cell? ⟨g, o + 2, none⟩ = some c) (h3 : w.cell? ⟨g, o + 3, none⟩ = some d) : ∀ j u, [a, b, c, d][j]? = some u → w.cell? ((⟨g, o, none⟩ : Addr).add j) = some u := by
  intro j u hj
  rw [add_at]
  match j, hj with
  | 0, hj => injection hj with hj; subst hj; exact h0
  | 1, hj => injection hj with hj; subst hj; exact h1
  | 2, hj => injection hj with hj; subst hj; exact h2
  | 3, hj => injection hj with hj; subst hj; exact h3
theorem digit36 : ∀ m : Fin 16, ∀ h, (⟨#[48, 49, 50, 51, 52, 53, 54, 55, 56, 57, 97, 98, 99, 100, 101, 102, 103, 104, 105, 106, 107, 108, 109, 110, 111, 112, 113, 114, 115, 116, 117, 118, 119, 120, 121, 122]⟩ : ByteArray)[m.val]'h = dg m.val := by
  intro m h
  have : ∀ m : Fin 16, (#[48, 49, 50, 51, 52, 53, 54, 55, 56, 57, 97, 98, 99, 100, 101, 102, 103, 104, 105, 106, 107, 108, 109, 110, 111, 112, 113, 114, 115, 116, 117, 118, 119, 120, 121, 122] : Array UInt8)[m.val]? = some (dg m.val) := by decide +kernel
  have h1 := this m
  rw [Array.getElem?_eq_getElem (by show m.val < 36; omega)] at h1
  injection h1
theorem digit36_at (m : Nat) (hm : m < 16) : ∀ h, (⟨#[48, 49, 50, 51, 52, 53, 54, 55, 56, 57, 97, 98, 99, 100, 101, 102, 103, 104, 105, 106, 107, 108, 109, 110, 111, 112, 113, 114, 115, 116, 117, 118, 119, 120, 121, 122]⟩ : ByteArray)[m]'h = dg m := fun h => digit36 ⟨m, hm⟩ h
theorem and15 (x : Nat) (hx : x < 65536) : bits BinOp.and IntKind.u64 (x : Int) 15 = ((x % 16 : Nat) : Int) := by
  rw [show (15 : Int) = ((15 : Nat) : Int) from rfl, bits_and_u64_nat _ _ (by omega) (by decide)]
  have := Nat.and_two_pow_sub_one_eq_mod x 4
  rw [show 2 ^ 4 - 1 = 15 from rfl] at this
  rw [this]
set_option maxHeartbeats 4000000 in
set_option maxRecDepth 100000 in
theorem fmt16_any (B n u : Nat) (hu : u < 65536) (sv : Value) (xs : List Value) (w : World) (hown : w.ownsRow B 5 1 sv n xs) (hB : B ≤ w.heap.size) (hlim : n ≤ 1000000) (hk : Kit B w) :
    Calls Tryd.prog 65 #[sv, .int .u64 (u : Int), .int .i64 16, .bool false, .bool true] w fun e w' => ∃ v', e = .returned (.tuple #[v', .string ⟨#[]⟩]) ∧ w'.ownsRow B 5 1 v' (n + (hexS u).length) (xs ++ Lib.byteCells (hexS u)) ∧ Below B w w' := by
  have HT := Lib.hid (fun w' hb => tz_16 w' (hk.tab64 w' hb))
  obtain ⟨i0, hi0, iz0, iz1, iz2⟩ := info_parts infoB
  have hx : Hid (hexF 4 u ++ ([] : List UInt8) = hexS u) := Lib.hid (by simp [hexS])
  go_enter Tryd.func65, Tryd.ntmps65
  go_wp2_with (go_at_call 74; refine (ispow16 _).mono ?_; rintro e w' ⟨rfl, rfl⟩)
  refine (HT.out _ (by go_grown)).mono ?_
  rintro e w' ⟨rfl, rfl⟩
  go_wp2
  go_loopw [1, 13] (fun vu vi wr => ∃ (k m : Nat) (D : List UInt8) (c1 c2 c3 c4 : Int), k ≤ 3 ∧ vi = .int .i64 ((65 - k : Nat) : Int) ∧ vu = .int .u64 m ∧ m < 16 ^ (4 - k) ∧ Hid (hexF (4 - k) m ++ D = hexS u) ∧ Hid (Lib.byteCells D = ([c1, c2, c3, c4].drop (4 - k)).map (Value.int .u8)) ∧
      Below w.heap.size w wr ∧ w.heap.size < wr.heap.size ∧
      wr.cell? ⟨w.heap.size, 61, none⟩ = some (.int .u8 c1) ∧ wr.cell? ⟨w.heap.size, 62, none⟩ = some (.int .u8 c2) ∧ wr.cell? ⟨w.heap.size, 63, none⟩ = some (.int .u8 c3) ∧ wr.cell? ⟨w.heap.size, 64, none⟩ = some (.int .u8 c4) ∧
      wr.frozen? ⟨w.heap.size, 61, none⟩ = false ∧ wr.frozen? ⟨w.heap.size, 62, none⟩ = false ∧ wr.frozen? ⟨w.heap.size, 63, none⟩ = false ∧ wr.frozen? ⟨w.heap.size, 64, none⟩ = false) (fun vu _ _ => (intOf vu).toNat)
  case atStart =>
    refine ⟨0, u, [], 0, 0, 0, 0, by omega, rfl, rfl, by omega, hx, Lib.hid rfl, by go_grown, by go_size, ?_⟩
    simp [go_sem]
    refine ⟨?_, ?_, ?_, ?_⟩ <;> kernel_rfl
  case round =>
    clear hx
    obtain ⟨k, m, D, c1, c2, c3, c4, hk3, rfl, rfl, hm, HX, HD, hw0, hz, a1, a2, a3, a4, f1, f2, f3, f4⟩ := hrel
    obtain rfl | rfl | rfl | rfl : k = 0 ∨ k = 1 ∨ k = 2 ∨ k = 3 := by omega
    · by_cases h16 : m < 16
      ·
        have hdg := digit36_at m h16
        go_wp2_with (at_builtin; go_loud (refine wpList_append_own _ rfl (.tmp 95) (.tmp 97) 59 rfl B 5 i0 _ 1 1 Tryd.underlying59 hi0 iz0 iz1 iz2 rfl (by decide) _ _ _ rfl (own_below hown (by go_grown)) ⟨w.heap.size, 64 - 0, none⟩ (0 + 1) (0 + 1) [.int .u8 ((dg m).toNat : Int)] rfl rfl (news1 (by simp [go_sem, a4])) (by simp [Value.oneCell']) (by unfold maxLen; omega) (by omega) (by have := hw0.size; simp; omega) ?_))
        intro v3 w3 hown3 hg3 _
        have hw3 : Below B w w3 := (Below.trans (hw0.mono hB) (by go_grown)).grown hg3 (by have := hw0.size; simp; omega) (fun j hj => (hown.lt j hj).1)
        have hbc : Lib.byteCells (hexS u) = [.int .u8 ((dg m).toNat : Int)] := by
          rw [← HX.out, hexF, if_pos h16, List.singleton_append]
          show Value.int .u8 _ :: Lib.byteCells D = _
          rw [HD.out]; rfl
        have hbl : (hexS u).length = 0 + 1 := by
          have := congrArg List.length hbc
          simpa [Lib.byteCells] using this
        rw [← hbc] at hown3
        have HB := Lib.hid (And.intro hown3 hbl)
        clear hown3 hg3 hbc hbl
        go_wp2
        go_ret2
        refine ⟨_, rfl, ?_, hw3⟩
        rw [HB.out.2]
        exact HB.out.1
      ·
        obtain ⟨m', hm'⟩ : ∃ m', m' = m / 16 := ⟨_, rfl⟩
        have h15 := and15 m (by omega)
        have hdg := digit36_at (m % 16) (by omega)
        have hx' : hexF (4 - 0) m = hexF (4 - (0 + 1)) (m / 16) ++ [dg (m % 16)] := by
          show hexF (3 - 0 + 1) m = _
          rw [hexF, if_neg h16]
        have hm2 : m / 16 < 16 ^ (4 - (0 + 1)) := by
          have h2 := hm
          simp only [Nat.reducePow, Nat.reduceSub, Nat.reduceAdd] at h2 ⊢
          omega
        have HM := Lib.hid (And.intro hx' hm2)
        clear hx' hm2 hm hm'
        go_wp2
        go_roundw
        case rel =>
          refine ⟨0 + 1, m / 16, dg (m % 16) :: D, c1, c2, c3, ((dg (m % 16)).toNat : Int), by omega, by go_num, by go_num, HM.out.2, Lib.hid ?_, Lib.hid ?_, by go_grown, by go_size, ?_⟩
          · rw [← HX.out, HM.out.1]; simp
          · show Value.int .u8 _ :: Lib.byteCells D = _
            rw [HD.out]; rfl
          · simp [go_sem, a1, a2, a3, a4, f1, f2, f3, f4]
        case measure => simp [intOf]; omega
    · by_cases h16 : m < 16
      ·
        have hdg := digit36_at m h16
        go_wp2_with (at_builtin; go_loud (refine wpList_append_own _ rfl (.tmp 95) (.tmp 97) 59 rfl B 5 i0 _ 1 1 Tryd.underlying59 hi0 iz0 iz1 iz2 rfl (by decide) _ _ _ rfl (own_below hown (by go_grown)) ⟨w.heap.size, 64 - 1, none⟩ (1 + 1) (1 + 1) [.int .u8 ((dg m).toNat : Int), .int .u8 c4] rfl rfl (news2 (by simp [go_sem, a3]) (by simp [go_sem, a4])) (by simp [Value.oneCell']) (by unfold maxLen; omega) (by omega) (by have := hw0.size; simp; omega) ?_))
        intro v3 w3 hown3 hg3 _
        have hw3 : Below B w w3 := (Below.trans (hw0.mono hB) (by go_grown)).grown hg3 (by have := hw0.size; simp; omega) (fun j hj => (hown.lt j hj).1)
        have hbc : Lib.byteCells (hexS u) = [.int .u8 ((dg m).toNat : Int), .int .u8 c4] := by
          rw [← HX.out, hexF, if_pos h16, List.singleton_append]
          show Value.int .u8 _ :: Lib.byteCells D = _
          rw [HD.out]; rfl
        have hbl : (hexS u).length = 1 + 1 := by
          have := congrArg List.length hbc
          simpa [Lib.byteCells] using this
        rw [← hbc] at hown3
        have HB := Lib.hid (And.intro hown3 hbl)
        clear hown3 hg3 hbc hbl
        go_wp2
        go_ret2
        refine ⟨_, rfl, ?_, hw3⟩
        rw [HB.out.2]
        exact HB.out.1
      ·
        obtain ⟨m', hm'⟩ : ∃ m', m' = m / 16 := ⟨_, rfl⟩
        have h15 := and15 m (by omega)
        have hdg := digit36_at (m % 16) (by omega)
        have hx' : hexF (4 - 1) m = hexF (4 - (1 + 1)) (m / 16) ++ [dg (m % 16)] := by
          show hexF (3 - 1 + 1) m = _
          rw [hexF, if_neg h16]
        have hm2 : m / 16 < 16 ^ (4 - (1 + 1)) := by
          have h2 := hm
          simp only [Nat.reducePow, Nat.reduceSub, Nat.reduceAdd] at h2 ⊢
          omega
        have HM := Lib.hid (And.intro hx' hm2)
        clear hx' hm2 hm hm'
        go_wp2
        go_roundw
        case rel =>
          refine ⟨1 + 1, m / 16, dg (m % 16) :: D, c1, c2, ((dg (m % 16)).toNat : Int), c4, by omega, by go_num, by go_num, HM.out.2, Lib.hid ?_, Lib.hid ?_, by go_grown, by go_size, ?_⟩
          · rw [← HX.out, HM.out.1]; simp
          · show Value.int .u8 _ :: Lib.byteCells D = _
            rw [HD.out]; rfl
          · simp [go_sem, a1, a2, a3, a4, f1, f2, f3, f4]
        case measure => simp [intOf]; omega
    · by_cases h16 : m < 16
      ·
        have hdg := digit36_at m h16
        go_wp2_with (at_builtin; go_loud (refine wpList_append_own _ rfl (.tmp 95) (.tmp 97) 59 rfl B 5 i0 _ 1 1 Tryd.underlying59 hi0 iz0 iz1 iz2 rfl (by decide) _ _ _ rfl (own_below hown (by go_grown)) ⟨w.heap.size, 64 - 2, none⟩ (2 + 1) (2 + 1) [.int .u8 ((dg m).toNat : Int), .int .u8 c3, .int .u8 c4] rfl rfl (news3 (by simp [go_sem, a2]) (by simp [go_sem, a3]) (by simp [go_sem, a4])) (by simp [Value.oneCell']) (by unfold maxLen; omega) (by omega) (by have := hw0.size; simp; omega) ?_))
        intro v3 w3 hown3 hg3 _
        have hw3 : Below B w w3 := (Below.trans (hw0.mono hB) (by go_grown)).grown hg3 (by have := hw0.size; simp; omega) (fun j hj => (hown.lt j hj).1)
        have hbc : Lib.byteCells (hexS u) = [.int .u8 ((dg m).toNat : Int), .int .u8 c3, .int .u8 c4] := by
          rw [← HX.out, hexF, if_pos h16, List.singleton_append]
          show Value.int .u8 _ :: Lib.byteCells D = _
          rw [HD.out]; rfl
        have hbl : (hexS u).length = 2 + 1 := by
          have := congrArg List.length hbc
          simpa [Lib.byteCells] using this
        rw [← hbc] at hown3
        have HB := Lib.hid (And.intro hown3 hbl)
        clear hown3 hg3 hbc hbl
        go_wp2
        go_ret2
        refine ⟨_, rfl, ?_, hw3⟩
        rw [HB.out.2]
        exact HB.out.1
      ·
        obtain ⟨m', hm'⟩ : ∃ m', m' = m / 16 := ⟨_, rfl⟩
        have h15 := and15 m (by omega)
        have hdg := digit36_at (m % 16) (by omega)
        have hx' : hexF (4 - 2) m = hexF (4 - (2 + 1)) (m / 16) ++ [dg (m % 16)] := by
          show hexF (3 - 2 + 1) m = _
          rw [hexF, if_neg h16]
        have hm2 : m / 16 < 16 ^ (4 - (2 + 1)) := by
          have h2 := hm
          simp only [Nat.reducePow, Nat.reduceSub, Nat.reduceAdd] at h2 ⊢
          omega
        have HM := Lib.hid (And.intro hx' hm2)
        clear hx' hm2 hm hm'
        go_wp2
        go_roundw
        case rel =>
          refine ⟨2 + 1, m / 16, dg (m % 16) :: D, c1, ((dg (m % 16)).toNat : Int), c3, c4, by omega, by go_num, by go_num, HM.out.2, Lib.hid ?_, Lib.hid ?_, by go_grown, by go_size, ?_⟩
          · rw [← HX.out, HM.out.1]; simp
          · show Value.int .u8 _ :: Lib.byteCells D = _
            rw [HD.out]; rfl
          · simp [go_sem, a1, a2, a3, a4, f1, f2, f3, f4]
        case measure => simp [intOf]; omega
    · by_cases h16 : m < 16
      ·
        have hdg := digit36_at m h16
        go_wp2_with (at_builtin; go_loud (refine wpList_append_own _ rfl (.tmp 95) (.tmp 97) 59 rfl B 5 i0 _ 1 1 Tryd.underlying59 hi0 iz0 iz1 iz2 rfl (by decide) _ _ _ rfl (own_below hown (by go_grown)) ⟨w.heap.size, 64 - 3, none⟩ (3 + 1) (3 + 1) [.int .u8 ((dg m).toNat : Int), .int .u8 c2, .int .u8 c3, .int .u8 c4] rfl rfl (news4 (by simp [go_sem, a1]) (by simp [go_sem, a2]) (by simp [go_sem, a3]) (by simp [go_sem, a4])) (by simp [Value.oneCell']) (by unfold maxLen; omega) (by omega) (by have := hw0.size; simp; omega) ?_))
        intro v3 w3 hown3 hg3 _
        have hw3 : Below B w w3 := (Below.trans (hw0.mono hB) (by go_grown)).grown hg3 (by have := hw0.size; simp; omega) (fun j hj => (hown.lt j hj).1)
        have hbc : Lib.byteCells (hexS u) = [.int .u8 ((dg m).toNat : Int), .int .u8 c2, .int .u8 c3, .int .u8 c4] := by
          rw [← HX.out, hexF, if_pos h16, List.singleton_append]
          show Value.int .u8 _ :: Lib.byteCells D = _
          rw [HD.out]; rfl
        have hbl : (hexS u).length = 3 + 1 := by
          have := congrArg List.length hbc
          simpa [Lib.byteCells] using this
        rw [← hbc] at hown3
        have HB := Lib.hid (And.intro hown3 hbl)
        clear hown3 hg3 hbc hbl
        go_wp2
        go_ret2
        refine ⟨_, rfl, ?_, hw3⟩
        rw [HB.out.2]
        exact HB.out.1
      · exfalso
        have h2 := hm
        simp only [Nat.reducePow, Nat.reduceSub] at h2
        omega
end Go.Proofs.YtegaeifmikfpcaaDoor
