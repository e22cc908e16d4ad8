/-
  What levels.Choose hands back. No condition but that the counts lie in memory, their number at most the capacity, and short of a million.
-/
import Derived.Test.YtnmcgboafdglbaaW17f
set_option linter.unusedSimpArgs false
set_option linter.unusedVariables false
namespace Go.Proofs.Ytnmcgboafdglbaa
open Go Go.RowKit Go.Sort M

/-- WHICH LEVELS ARE CHOSEN. -/
def chosen (C : List Int) (wd lo mo st : Int) : Option (List Nat) := if ablB wd lo mo st = true then (bst C st.toNat wd.toNat (min mo.toNat wd.toNat) lo.toNat).map (·.2) else none
/-- What a choice hands back. -/
def ChoE (o : Option (List Nat)) (e : Ending) (w' : World) : Prop :=
  match o with
  | none => e = .returned (.tuple #[.slice none 0 0, .int .i64 1])
  | some L => ∃ q d, e = .returned (.tuple #[.slice q L.length d, .int .i64 0]) ∧ IRow w' q (toI L) ∧ L.length ≤ d
theorem make_zero {P : Program} {t e : TypeId} {z : Value} {size bytes : Nat} (ht : P.underlying t = some (.slice e)) (hz : (P.info? e).map (fun i => (i.zero, i.size, i.bytes)) = some (some z, size, bytes)) (c : Nat) (hb : bytes * c ≤ 281474976710656) (hm : c ≤ maxLen) (w : World) :
    (Instr.makeSlice t (.int .i64 0) (.int .i64 (c : Int))).run P w = .ok (.slice (some ⟨w.heap.size, 0, none⟩) 0 c) (w.alloc (.cells (madeCells z.cells (c * size)) e)) := by
  obtain ⟨i0, hi0, iz0, iz1, iz2⟩ := info_parts hz
  have h := run_make (P := P) w t e i0 z ht hi0 iz0 .i64 .i64 0 c (by omega) (by omega) (by rw [iz2]; have e : ((bytes * c : Nat) : Int) ≤ 281474976710656 := (by omega); rwa [Int.natCast_mul] at e) (by unfold maxLen at hm; omega)
  rw [Int.toNat_natCast, iz1] at h
  exact h
theorem own_zero (w : World) (c B : Nat) (t : TypeId) (hB : B ≤ w.heap.size) (hm : c ≤ maxLen) : (w.alloc (.cells (madeCells #[.int .i64 0] c) t)).ownsRow B t 1 (.slice (some ⟨w.heap.size, 0, none⟩) 0 c) 0 (ics []) :=
  ⟨rfl, .inr ⟨w.heap.size, c, _, rfl, hB, heap_alloc_new w _, Nat.zero_le _, hm, by simp [madeCells], by simp [ics]⟩⟩
/-- The best so far, before number k is tried. -/
def bJ (C : List Int) (st wd a : Nat) : Nat → Nat
  | 0 => 0
  | k + 1 => bsI C st wd a k
theorem chB_self (r : Option Wy) : chB r r = false := by
  cases r with
  | none => rfl
  | some x => exact decide_eq_false (Nat.lt_irrefl _)
theorem bJ_step (C : List Int) (st wd a k : Nat) : bJ C st wd a (k + 1) = if chB (exO C st wd k a) (exO C st wd (bJ C st wd a k) a) then k else bJ C st wd a k := by
  cases k with
  | zero =>
    show 0 = if chB (exO C st wd 0 a) (exO C st wd 0 a) then 0 else 0
    rw [chB_self]
    rfl
  | succ k => rfl
theorem bJ_le (C : List Int) (st wd a k : Nat) : bJ C st wd a k ≤ k := by
  cases k with
  | zero => exact Nat.le_refl _
  | succ k => exact Nat.le_trans (bsI_le C st wd a k) (Nat.le_succ k)
theorem chosen_is (C : List Int) (wd lo mo st : Nat) (h : ablB wd lo mo st = true) (hlo : lo ≤ wd) : chosen C wd lo mo st = (exO C st wd (bsI C st wd lo (min mo (wd - lo))) lo).map (·.2) := by
  unfold chosen
  rw [if_pos h, choice C st wd mo lo hlo]
  rfl
set_option maxHeartbeats 4000000 in
set_option maxRecDepth 100000 in
theorem choose_any (p : Option Addr) (c : Nat) (C : List Int) (wd lo mo st : Int) (w : World) (hC : IRow w p C) (h1 : C.length ≤ 1000000) (h2 : C.length ≤ c) :
    Calls Try.prog 8 #[.int .i64 wd, .int .i64 lo, .int .i64 mo, .int .i64 st, .slice p C.length c] w fun e w' => ChoE (chosen C wd lo mo st) e w' ∧ Below w.heap.size w w' := by
  have hA := allowed_any wd lo mo st
  cases hab : ablB wd lo mo st with
  | false =>
    have hR : chosen C wd lo mo st = none := by unfold chosen; rw [hab]; rfl
    rw [hR]
    rw [hab] at hA
    have HA := Lib.hid hA
    clear hA hab hR hC
    go_enter Try.func8, Try.ntmps8
    go_wp2_with fail
    refine (HA.out _).mono ?_
    rintro e w1 ⟨rfl, hb1⟩
    go_wp2
    go_ret2
    exact ⟨rfl, hb1⟩
  | true =>
    have hab2 := hab
    unfold ablB at hab2
    obtain ⟨a1, a2, a3, a4, a5, a6, a7, a8⟩ := of_decide_eq_true hab2
    clear hab2
    obtain ⟨wn, rfl⟩ := Int.eq_ofNat_of_zero_le (show 0 ≤ wd by omega)
    obtain ⟨ln, rfl⟩ := Int.eq_ofNat_of_zero_le a3
    obtain ⟨mn, rfl⟩ := Int.eq_ofNat_of_zero_le a5
    obtain ⟨sn, rfl⟩ := Int.eq_ofNat_of_zero_le (show 0 ≤ st by omega)
    rw [chosen_is C wn ln mn sn hab (by omega)]
    rw [hab] at hA
    obtain ⟨M, hM⟩ : ∃ M, M = min mn (wn - ln) + 1 := ⟨_, rfl⟩
    have hAW := fun W (hW : Below w.heap.size w W) => allWays_any p c wn ln mn sn C W (hC.below hW) h1 h2 (by omega) (by omega) (by omega) (by omega) (by omega) (by omega) M hM
    have hM1 : 1 ≤ M := by omega
    have hM2 : M ≤ 129 := by omega
    rw [show min mn (wn - ln) = M - 1 by omega]
    obtain ⟨R, hR⟩ : ∃ R, R = (exO C sn wn (bsI C sn wn ln (M - 1)) ln).map (·.2) := ⟨_, rfl⟩
    rw [← hR]
    have HR := Lib.hid hR
    clear hR
    have HA := Lib.hid hA
    have HAW := Lib.hid hAW
    have hln : ln ≤ wn := by omega
    clear hA hab hC hAW hM
    obtain ⟨i0, hi0, iz0, iz1, iz2⟩ := info_parts infoI
    go_enter Try.func8, Try.ntmps8
    go_wp2_with fail
    refine (HA.out _).mono ?_
    rintro e w1 ⟨rfl, hb1⟩
    go_wp2_with fail
    refine (HAW.out _ hb1).mono ?_
    rintro e w2 ⟨q2, rfl, ⟨g, rfl, hg, hy⟩, hb2⟩
    have HY := Lib.hid hy
    have hb2 := hb1.trans (hb2.mono hb1.size)
    clear hy hb1 HA HAW
    go_wp2
    go_loopg [13, 31] M (fun kx s13 s31 wr => ∃ k : Nat, s31 = .int .i64 (k : Int) ∧ M - k ≤ kx ∧ k ≤ M ∧ s13 = .int .i64 ((bJ C sn wn ln k : Nat) : Int) ∧ Below w2.heap.size w2 wr)
    case atStart => exact ⟨0, rfl, by omega, by omega, rfl, Below.refl _ _⟩
    case round =>
      obtain ⟨k, rfl, k1, k2, rfl, hb⟩ := hrel
      have hjl := bJ_le C sn wn ln k
      by_cases hk : k < M
      · have hst := bJ_step C sn wn ln k
        obtain ⟨b, hbb⟩ : ∃ b, b = bJ C sn wn ln k := ⟨_, rfl⟩
        rw [← hbb] at hst hjl
        rw [← hbb]
        obtain ⟨pk, x0, hk0, rfl, hk1, hkc⟩ := HY.out k hk
        obtain ⟨pb, x1, hb0, rfl, hb1, hbc⟩ := HY.out b (by omega)
        obtain ⟨y0, y1, y2⟩ := hkc ln (Nat.le_refl _) hln
        obtain ⟨z0, z1, z2⟩ := hbc ln (Nat.le_refl _) hln
        have x0 := (hb.cell (p := ⟨g, k, none⟩) hg).trans x0
        have x1 := (hb.cell (p := ⟨g, b, none⟩) hg).trans x1
        have y0 : wr.cell? ⟨hk0, ln * 3, none⟩ = some (Value.int .i64 ((wyE (exO C sn wn k ln)).c : Int)) := (hb.cell (p := ⟨hk0, ln * 3, none⟩) hk1).trans y0
        have y1 : wr.cell? ⟨hk0, ln * 3 + 1, none⟩ = some (Value.int .i64 ((wyE (exO C sn wn k ln)).f : Int)) := (hb.cell (p := ⟨hk0, ln * 3 + 1, none⟩) hk1).trans y1
        have y2 : wr.cell? ⟨hk0, ln * 3 + 2, none⟩ = some (Value.bool (wyE (exO C sn wn k ln)).t) := (hb.cell (p := ⟨hk0, ln * 3 + 2, none⟩) hk1).trans y2
        have z0 : wr.cell? ⟨hb0, ln * 3, none⟩ = some (Value.int .i64 ((wyE (exO C sn wn b ln)).c : Int)) := (hb.cell (p := ⟨hb0, ln * 3, none⟩) hb1).trans z0
        have z1 : wr.cell? ⟨hb0, ln * 3 + 1, none⟩ = some (Value.int .i64 ((wyE (exO C sn wn b ln)).f : Int)) := (hb.cell (p := ⟨hb0, ln * 3 + 1, none⟩) hb1).trans z1
        have z2 : wr.cell? ⟨hb0, ln * 3 + 2, none⟩ = some (Value.bool (wyE (exO C sn wn b ln)).t) := (hb.cell (p := ⟨hb0, ln * 3 + 2, none⟩) hb1).trans z2
        have hbw := below_any (wyE (exO C sn wn k ln)) (wyE (exO C sn wn b ln))
        rw [chW_is] at hbw
        generalize wyE (exO C sn wn k ln) = y at y0 y1 y2 hbw
        generalize wyE (exO C sn wn b ln) = z at z0 z1 z2 hbw
        obtain ⟨yc, yf, yt⟩ := y
        obtain ⟨zc, zf, zt⟩ := z
        simp only at y0 y1 y2 z0 z1 z2
        unfold wyV at hbw
        simp only at hbw
        have hz0 := hb.size
        have hbw0 := hb2.trans (hb.mono hb2.size)
        have g1 := Nat.lt_of_lt_of_le hg hz0
        have g2 := Nat.lt_of_lt_of_le hk1 hz0
        have g3 := Nat.lt_of_lt_of_le hb1 hz0
        have i1 : (k : Int) < (M : Int) := by omega
        have i2 : (b : Int) < (M : Int) := by omega
        have i3 : (ln : Int) < (wn : Int) + 1 := by omega
        cases hch : chB (exO C sn wn k ln) (exO C sn wn b ln) with
        | true =>
          rw [hch, if_pos rfl] at hst
          rw [hch] at hbw
          have HST := Lib.hid hst
          have HBW := Lib.hid hbw
          clear hch hst hbw hbb hkc hbc hz0
          go_wp2_with fail
          have kg := cell_grow
          refine region_whole (by kernel_rfl) (by kernel_rfl) ?_
          repeat (any_goals (first | go_big_quiet_step ((exact Gives.at HBW.out _ _ _)) | quiet_step ((exact Gives.at HBW.out _ _ _))))
          refine wpQuiet_nil ?_
          clear kg
          intro w8 hb8
          obtain ⟨hc8, hf8⟩ := bcell hb8
          have hb := hb.trans (hb8.mono hb.size)
          go_wp2
          go_roundg (M - (k + 1))
          case measure => omega
          case rel => exact ⟨k + 1, by go_num, by omega, by omega, by rw [HST.out], hb⟩
        | false =>
          rw [hch, if_neg (by decide)] at hst
          rw [hch] at hbw
          have HST := Lib.hid hst
          have HBW := Lib.hid hbw
          clear hch hst hbw hbb hkc hbc hz0
          go_wp2_with fail
          have kg := cell_grow
          refine region_whole (by kernel_rfl) (by kernel_rfl) ?_
          repeat (any_goals (first | go_big_quiet_step ((exact Gives.at HBW.out _ _ _)) | quiet_step ((exact Gives.at HBW.out _ _ _))))
          refine wpQuiet_nil ?_
          clear kg
          intro w8 hb8
          obtain ⟨hc8, hf8⟩ := bcell hb8
          have hb := hb.trans (hb8.mono hb.size)
          go_wp2
          go_roundg (M - (k + 1))
          case measure => omega
          case rel => exact ⟨k + 1, by go_num, by omega, by omega, by rw [HST.out], hb⟩
      · obtain rfl : k = M := by omega
        obtain ⟨b, hbb⟩ : ∃ b, b = bJ C sn wn ln k := ⟨_, rfl⟩
        have hbm : b = bsI C sn wn ln (k - 1) := by rw [hbb, show k = (k - 1) + 1 by omega]; rfl
        have hbl : b ≤ k - 1 := by rw [hbm]; exact bsI_le _ _ _ _ _
        clear hjl
        rw [← hbb]
        have HR2 := HR.out
        rw [← hbm] at HR2
        obtain ⟨pb, x1, hb0, rfl, hb1, hbc⟩ := HY.out b (by omega)
        obtain ⟨z0, z1, z2⟩ := hbc ln (Nat.le_refl _) hln
        have x1 := (hb.cell (p := ⟨g, b, none⟩) hg).trans x1
        have z2 : wr.cell? ⟨hb0, ln * 3 + 2, none⟩ = some (.bool (wyE (exO C sn wn b ln)).t) := (hb.cell (p := ⟨hb0, ln * 3 + 2, none⟩) hb1).trans z2
        have hwr := hb2.trans (hb.mono hb2.size)
        have i2 : (b : Int) < (k : Int) := by omega
        have i3 : (ln : Int) < (wn : Int) + 1 := by omega
        rw [wyE_t] at z2
        cases hex : exO C sn wn b ln with
        | none =>
          rw [hex] at z2
          simp only [Option.isSome_none] at z2
          rw [hex] at HR2
          have HR3 := Lib.hid HR2
          clear hbb hbm hex hbc z0 z1 HR2
          go_wp2
          go_ret2
          exact ⟨by rw [HR3.out]; rfl, hwr⟩
        | some x =>
          obtain ⟨xc, L⟩ := x
          rw [hex] at z2
          simp only [Option.isSome_some] at z2
          rw [hex] at HR2
          have HR3 := Lib.hid HR2
          have HEX := Lib.hid hex
          have hmk := make_zero (P := Try.prog) (t := 22) Try.underlying22 infoI b (by omega) (by unfold maxLen; omega)
          have HO0 := Lib.hid (own_zero wr b wr.heap.size 3 (Nat.le_refl _) (by unfold maxLen; omega))
          have hbz : Below wr.heap.size wr (wr.alloc (.cells (madeCells #[.int .i64 0] b) 3)) := (Below.refl _ _).alloc (Nat.le_refl _) _
          clear hbb hbm hex hbc z0 z1 HR2
          go_wp2
          rename World => wo
          clear z2 x1 hmk
          go_loopg [1, 15, 16] b (fun kx s1 s15 s16 wr => ∃ (n lo' c' : Nat) (D R' : List Nat) (pd : Option Addr) (cd : Nat), s16 = .int .i64 (n : Int) ∧ n ≤ kx ∧ n ≤ b ∧ s1 = .int .i64 (lo' : Int) ∧ ln ≤ lo' ∧ lo' ≤ wn ∧ Hid (exO C sn wn n lo' = some (c', R')) ∧ Hid (L = D ++ R') ∧ D.length + n ≤ b ∧
            s15 = .slice pd D.length cd ∧ Hid (wr.ownsRow wo.heap.size 3 1 (.slice pd D.length cd) D.length (ics (toI D))) ∧ Below wo.heap.size wo wr)
          case atStart => exact ⟨b, ln, xc, [], L, _, b, rfl, by omega, by omega, rfl, by omega, by omega, HEX, Lib.hid rfl, by simp, rfl, HO0, hbz⟩
          case round =>
            clear HEX HO0 hbz
            obtain ⟨n, l2, c2, D, R2, pd, cd, rfl, k3, k4, rfl, k5, k6, HEX, HL, k7, rfl, HO, hbr⟩ := hrel
            by_cases hn : n = 0
            · subst hn
              have hR2 := ex_zero HEX.out
              have HE : Hid (R = some D) := by
                rw [HR3.out, HL.out, hR2, List.append_nil]
                exact Lib.hid rfl
              have hcap := own_cap17 HO.out
              clear hR2 HEX HL
              go_wp2
              go_ret2
              refine ⟨?_, hwr.trans (hbr.mono hwr.size)⟩
              rw [HE.out]
              exact ⟨pd, cd, rfl, .of_own HO.out, hcap⟩
            · obtain ⟨m, rfl⟩ : ∃ m, n = m + 1 := ⟨n - 1, by omega⟩
              obtain ⟨b0, M2, c3, e1, e2, e3, e4, e5⟩ := ex_back HEX.out
              obtain ⟨pk, x0, hk0, rfl, hk1, hkc⟩ := HY.out (m + 1) (by omega)
              obtain ⟨-, y1, -⟩ := hkc l2 k5 k6
              have hbw2 := hb.trans (hbr.mono hb.size)
              have x0 := (hbw2.cell (p := ⟨g, m + 1, none⟩) hg).trans x0
              have y1 : wr.cell? ⟨hk0, l2 * 3 + 1, none⟩ = some (.int .i64 ((wyE (exO C sn wn (m + 1) l2)).f : Int)) := (hbw2.cell (p := ⟨hk0, l2 * 3 + 1, none⟩) hk1).trans y1
              rw [e2] at y1
              have HE3 := Lib.hid e3
              have HE1 := Lib.hid e1
              have i1 : (m : Int) + 1 < (k : Int) := by omega
              have i2 : (l2 : Int) < (wn : Int) + 1 := by omega
              have hzr := hbr.size
              clear e1 e2 e3 hkc HEX
              go_wp2_with (at_builtin; go_loud (refine wpList_append_own_at _ rfl (.tmp 75) (.tmp 77) 22 rfl wo.heap.size 3 i0 _ 1 8 Try.underlying22 hi0 iz0 iz1 iz2 rfl (by decide) _ _ _ rfl (HO.out.alloc _) ⟨wr.heap.size, 0, none⟩ 1 1 [.int .i64 (b0 : Int)] rfl rfl (one_new (by simp [go_sem])) (by simp [Value.oneCell']) (by unfold maxLen; omega) (by omega) (by simp; omega) ?_))
              intro v9 w9 hown9 hg9 _ _
              obtain ⟨p9, c9, rfl⟩ := own_slice hown9
              have hb9 : Below wo.heap.size wo w9 := (hbr.alloc hbr.size _).grown hg9 (by simp; omega) (fun j hj => (HO.out.lt j hj).1)
              have HL9 : Hid (L = (D ++ [b0]) ++ M2) := by rw [HL.out, HE1.out, List.append_assoc]; exact Lib.hid rfl
              have HO9 : Hid (w9.ownsRow wo.heap.size 3 1 (.slice p9 (D ++ [b0]).length c9) (D ++ [b0]).length (ics (toI (D ++ [b0])))) := by
                have e : ics (toI (D ++ [b0])) = ics (toI D) ++ [.int .i64 (b0 : Int)] := by simp [toI, ics]
                rw [e, List.length_append]
                exact Lib.hid hown9
              have hlen : (D ++ [b0]).length = D.length + 1 := by simp
              obtain ⟨D9, hD9⟩ : ∃ D9, D9 = D ++ [b0] := ⟨_, rfl⟩
              rw [← hD9] at HL9 HO9 hlen
              have HLEN := Lib.hid hlen
              clear hown9 hg9 HO HL HE1 x0 y1 hzr hlen hD9
              go_wp2
              go_roundg m
              case measure => omega
              case rel =>
                refine ⟨m, b0, c3, D9, M2, p9, c9, by go_num, by omega, by omega, rfl, by omega, by omega, HE3, HL9, by have := HLEN.out; omega, ?_, HO9, hb9⟩
                rw [HLEN.out]
end Go.Proofs.Ytnmcgboafdglbaa
