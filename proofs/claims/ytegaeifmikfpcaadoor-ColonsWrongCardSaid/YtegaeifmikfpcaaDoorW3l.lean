/-
  What colons.Show hands back. It asks what Kit tells of the library's variables.
-/
import Derived.Test.YtegaeifmikfpcaaDoorW3k
set_option linter.unusedSimpArgs false
set_option linter.unusedVariables false
namespace Go.Proofs.YtegaeifmikfpcaaDoor
open Go.RowKit Go.Sort M

def zFlat (l : List Bool) : Bool := let z := zGo 0 0 0 0 l; if z.1 < z.2 then true else decide (z.1 = 0) && decide (z.2 = 0)
theorem z_flat (l : List Nat) (hl : l.length = 8) (h : ¬ (zrow l).1 < (zrow l).2) : (zrow l).1 = 0 ∧ (zrow l).2 = 0 := by
  have h1 : zFlat (l.map (fun x => decide (x = 0))) = true := all8_spec (by decide +kernel) _ (by simp [hl])
  unfold zFlat at h1
  simp only [show zGo 0 0 0 0 (l.map (fun x => decide (x = 0))) = zrow l from rfl] at h1
  rw [if_neg h] at h1
  simpa using h1
theorem slice_to8 (g f : Nat) (h : f ≤ 8) (w' : World) : (Instr.sliceAt 55 (.pointer (some ⟨g, 0, none⟩)) none (some (.int .i64 (f : Int))) none).run Tryd.prog w' = .ok (.slice (some ⟨g, 0, none⟩) f 8) w' := by
  have e8 : Tryd.prog.arrayLen 55 = 8 := by kernel_rfl
  have ee : Tryd.prog.elem 55 = 54 := by kernel_rfl
  have hu : Tryd.prog.underlying 55 = some (.array (Tryd.prog.arrayLen 55) (Tryd.prog.elem 55)) := by rw [e8, ee]; exact Tryd.underlying55
  have hr := run_sliceAt_array_h w' 55 ⟨g, 0, none⟩ hu .i64 (f : Int) (by omega) (by rw [e8]; omega)
  rw [hr, ee, e8]
  have hs : (sizeOf 54).run Tryd.prog w' = .ok 1 w' := by
    obtain ⟨i0, hi0, iz0, iz1, iz2⟩ := info_parts infoH
    simp [sizeOf, typeInfo, hi0, iz1]
  rw [hs]
  simp [Result.andThen, slicedAt, add_at]
theorem slice_from8 (g q m : Nat) (h : q + m = 8) : ∃ o, (∀ w', (Instr.sliceAt 55 (.pointer (some ⟨g, 0, none⟩)) (some (.int .i64 (q : Int))) none none).run Tryd.prog w' = .ok (.slice (some ⟨g, o, none⟩) m m) w') ∧ (0 < m → o = q) := by
  have e8 : Tryd.prog.arrayLen 55 = 8 := by kernel_rfl
  have ee : Tryd.prog.elem 55 = 54 := by kernel_rfl
  have hu : Tryd.prog.underlying 55 = some (.array (Tryd.prog.arrayLen 55) (Tryd.prog.elem 55)) := by rw [e8, ee]; exact Tryd.underlying55
  have hs : ∀ w', (sizeOf 54).run Tryd.prog w' = .ok 1 w' := by
    intro w'
    obtain ⟨i0, hi0, iz0, iz1, iz2⟩ := info_parts infoH
    simp [sizeOf, typeInfo, hi0, iz1]
  by_cases h8 : q = 8
  · subst h8
    obtain rfl : m = 0 := by omega
    refine ⟨0, fun w' => ?_, fun h0 => by omega⟩
    have hr := run_sliceAt_array_l w' 55 ⟨g, 0, none⟩ hu .i64 ((8 : Nat) : Int) (by omega) (by rw [e8]; omega)
    rw [hr, ee, e8, hs]
    simp [Result.andThen, slicedAt]
  · refine ⟨q, fun w' => ?_, fun _ => rfl⟩
    have hr := run_sliceAt_array_l w' 55 ⟨g, 0, none⟩ hu .i64 (q : Int) (by omega) (by rw [e8]; omega)
    rw [hr, ee, e8, hs]
    simp only [Result.andThen, slicedAt, Int.toNat_natCast, Nat.mul_one]
    rw [if_neg (by omega), show 8 - q = m by omega, add_at]
    simp
theorem cells_all {w : World} {g a b c d e f k i : Nat} (h0 : w.cell? ⟨g, 0, none⟩ = some (.int .u16 a)) (h1 : w.cell? ⟨g, 1, none⟩ = some (.int .u16 b)) (h2 : w.cell? ⟨g, 2, none⟩ = some (.int .u16 c)) (h3 : w.cell? ⟨g, 3, none⟩ = some (.int .u16 d))
    (h4 : w.cell? ⟨g, 4, none⟩ = some (.int .u16 e)) (h5 : w.cell? ⟨g, 5, none⟩ = some (.int .u16 f)) (h6 : w.cell? ⟨g, 6, none⟩ = some (.int .u16 k)) (h7 : w.cell? ⟨g, 7, none⟩ = some (.int .u16 i)) :
    ∀ j (h : j < ([a, b, c, d, e, f, k, i] : List Nat).length), w.cell? ⟨g, j, none⟩ = some (.int .u16 (([a, b, c, d, e, f, k, i] : List Nat)[j] : Nat)) := by
  intro j h
  match j, h with
  | 0, _ => exact h0
  | 1, _ => exact h1
  | 2, _ => exact h2
  | 3, _ => exact h3
  | 4, _ => exact h4
  | 5, _ => exact h5
  | 6, _ => exact h6
  | 7, _ => exact h7
set_option maxHeartbeats 4000000 in
set_option maxRecDepth 100000 in
theorem kshow_go (hi lo : Nat) (n : Int) (ha : W64 hi) (hb : W64 lo) (hr : rightB hi lo n = true) (w : World) (hk : Kit w.heap.size w) :
    Calls Tryd.prog 11 #[.agg #[.int .u64 hi, .int .u64 lo, .int .i64 n]] w fun e w' => e = .returned (.string ⟨(showW (wordsL hi lo) ++ 47 :: Lib.decDigits n.toNat).toArray⟩) ∧ Below w.heap.size w w' := by
  obtain ⟨n0, n128, -, -⟩ := (rightB_iff hi lo n).1 hr
  have hrr := right_any hi lo n ha hb
  rw [hr] at hrr
  have HR := Lib.hid hrr
  have hs := split_any hi lo ha hb
  have h16 := words_lt hi lo
  obtain ⟨x0, x1, x2, x3, x4, x5, x6, x7, hW⟩ : ∃ x0 x1 x2 x3 x4 x5 x6 x7, wordsL hi lo = [x0, x1, x2, x3, x4, x5, x6, x7] := ⟨_, _, _, _, _, _, _, _, rfl⟩
  have hW' := hW
  simp only [wordsL, List.cons.injEq, and_true] at hW'
  obtain ⟨e0, e1, e2, e3, e4, e5, e6, e7⟩ := hW'
  rw [e0, e1, e2, e3, e4, e5, e6, e7] at hs
  rw [hW] at h16 ⊢
  have hz := zeros_any x0 x1 x2 x3 x4 x5 x6 x7
  have hsp := zrow_spec (l := [x0, x1, x2, x3, x4, x5, x6, x7]) rfl
  have hfl := z_flat [x0, x1, x2, x3, x4, x5, x6, x7] rfl
  obtain ⟨f, hf⟩ : ∃ f, f = (zrow [x0, x1, x2, x3, x4, x5, x6, x7]).1 := ⟨_, rfl⟩
  obtain ⟨t, ht⟩ : ∃ t, t = (zrow [x0, x1, x2, x3, x4, x5, x6, x7]).2 := ⟨_, rfl⟩
  have hsh : showW [x0, x1, x2, x3, x4, x5, x6, x7] = if f < t then joinH ([x0, x1, x2, x3, x4, x5, x6, x7].take f) ++ 58 :: 58 :: joinH ([x0, x1, x2, x3, x4, x5, x6, x7].drop t) else joinH [x0, x1, x2, x3, x4, x5, x6, x7] := by
    unfold showW; rw [← hf, ← ht]
  rw [← hf, ← ht] at hz hsp hfl
  have hft8 : f ≤ 8 ∧ t ≤ 8 := by
    by_cases h : f < t
    · rcases hsp with ⟨_, _, h2, _, _⟩ | ⟨h1, _⟩
      · omega
      · exact absurd h h1
    · have := hfl h; omega
  obtain ⟨f8, t8⟩ := hft8
  obtain ⟨m, hm⟩ : ∃ m, t + m = 8 := ⟨8 - t, by omega⟩
  have HS := Lib.hid hs
  have HZ := Lib.hid hz
  have HK := Lib.hid hk
  have HSH := Lib.hid hsh
  have HFL := Lib.hid hfl
  have H16 := Lib.hid h16
  have HE := Lib.hid (And.intro ha hb)
  clear hrr hr hs hz hk hsh hfl h16 hsp hf ht hW e0 e1 e2 e3 e4 e5 e6 e7 ha hb
  obtain ⟨i0, hi0, iz0, iz1, iz2⟩ := info_parts infoB
  go_enter Tryd.func11, Tryd.ntmps11
  go_wp2_with fail
  refine (HR.out _).mono ?_
  rintro e w1 ⟨rfl, hb1⟩
  have hk1 : Below w.heap.size w w1 := Below.trans (by go_grown) (hb1.mono (by go_size))
  have c0 : w1.cell? ⟨w.heap.size, 0, none⟩ = some (.int .u64 hi) := by
    rw [hb1.cell (by simp <;> omega)]
    first | assumption | (simp [go_sem]; done) | (simp [go_sem, *]; done)
  have c1 : w1.cell? ⟨w.heap.size, 1, none⟩ = some (.int .u64 lo) := by
    rw [hb1.cell (by simp <;> omega)]
    first | assumption | (simp [go_sem]; done) | (simp [go_sem, *]; done)
  have c2 : w1.cell? ⟨w.heap.size, 2, none⟩ = some (.int .i64 n) := by
    rw [hb1.cell (by simp <;> omega)]
    first | assumption | (simp [go_sem]; done) | (simp [go_sem, *]; done)
  have hz : w.heap.size < w1.heap.size := by have := hb1.size; simp at this; omega
  clear hb1
  go_wp2_with fail
  refine (HS.out _).mono ?_
  rintro e w2 ⟨rfl, hb2⟩
  obtain ⟨hc2, hf2⟩ := bcell hb2
  have c0 := (hc2 _ _ (by omega)).trans c0
  have c1 := (hc2 _ _ (by omega)).trans c1
  have c2 := (hc2 _ _ (by omega)).trans c2
  have hk1 := Below.trans hk1 (hb2.mono (by omega))
  have hz := Nat.lt_of_lt_of_le hz hb2.size
  clear hc2 hf2 hb2
  go_wp2_with fail
  refine (HZ.out _).mono ?_
  rintro e w3 ⟨rfl, hb3⟩
  have a0 : w3.cell? ⟨w2.heap.size, 0, none⟩ = some (.int .u16 x0) := by
    rw [hb3.cell (by simp <;> omega)]
    first | assumption | (simp [go_sem]; done) | (simp [go_sem, *]; done)
  have a1 : w3.cell? ⟨w2.heap.size, 1, none⟩ = some (.int .u16 x1) := by
    rw [hb3.cell (by simp <;> omega)]
    first | assumption | (simp [go_sem]; done) | (simp [go_sem, *]; done)
  have a2 : w3.cell? ⟨w2.heap.size, 2, none⟩ = some (.int .u16 x2) := by
    rw [hb3.cell (by simp <;> omega)]
    first | assumption | (simp [go_sem]; done) | (simp [go_sem, *]; done)
  have a3 : w3.cell? ⟨w2.heap.size, 3, none⟩ = some (.int .u16 x3) := by
    rw [hb3.cell (by simp <;> omega)]
    first | assumption | (simp [go_sem]; done) | (simp [go_sem, *]; done)
  have a4 : w3.cell? ⟨w2.heap.size, 4, none⟩ = some (.int .u16 x4) := by
    rw [hb3.cell (by simp <;> omega)]
    first | assumption | (simp [go_sem]; done) | (simp [go_sem, *]; done)
  have a5 : w3.cell? ⟨w2.heap.size, 5, none⟩ = some (.int .u16 x5) := by
    rw [hb3.cell (by simp <;> omega)]
    first | assumption | (simp [go_sem]; done) | (simp [go_sem, *]; done)
  have a6 : w3.cell? ⟨w2.heap.size, 6, none⟩ = some (.int .u16 x6) := by
    rw [hb3.cell (by simp <;> omega)]
    first | assumption | (simp [go_sem]; done) | (simp [go_sem, *]; done)
  have a7 : w3.cell? ⟨w2.heap.size, 7, none⟩ = some (.int .u16 x7) := by
    rw [hb3.cell (by simp <;> omega)]
    first | assumption | (simp [go_sem]; done) | (simp [go_sem, *]; done)
  have hz3 : w2.heap.size < w3.heap.size := by have := hb3.size; simp at this; omega
  have hk3 : Below w2.heap.size w2 w3 := Below.trans (by go_grown) (hb3.mono (by go_size))
  obtain ⟨hc3, hf3⟩ := bcell hk3
  have c2 := (hc3 _ _ (by omega)).trans c2
  have hk1 := Below.trans hk1 (hk3.mono (by omega))
  have hz := Nat.lt_of_lt_of_le hz hk3.size
  clear hc3 hf3 hk3 hb3
  have HC := Lib.hid (cells_all a0 a1 a2 a3 a4 a5 a6 a7)
  clear a0 a1 a2 a3 a4 a5 a6 a7 c0 c1
  have hst := slice_to8 w2.heap.size f f8
  obtain ⟨o, hsf, ho⟩ := slice_from8 w2.heap.size t m hm
  have HO := Lib.hid ho
  have hlen1 : ([x0, x1, x2, x3, x4, x5, x6, x7].take f).length = f := by simp; omega
  have hlen2 : ([x0, x1, x2, x3, x4, x5, x6, x7].drop t).length = m := by simp; omega
  have hl1 := clist_any w3.heap.size [] ([x0, x1, x2, x3, x4, x5, x6, x7].take f) (H16.out.take f) (by omega) (by simp) w2.heap.size 0 8 hz3 (.slice none 0 0) w3 (World.ownsRow_nil _ _ _ _) (Nat.le_refl _)
    (fun j hj => by rw [Nat.zero_add, HC.out j (by simp at hj ⊢; omega), List.getElem_take]) (HK.out.up hk1)
  rw [hlen1] at hl1
  have HL1 := Lib.hid hl1
  have HLEN := Lib.hid (And.intro hlen1 hlen2)
  clear hl1 ho hlen1 hlen2
  go_wp2_with fail
  refine HL1.out.mono ?_
  rintro e w4 ⟨v4, rfl, hown4, hb4⟩
  rw [List.nil_append] at hown4
  have hw4 := hb4.size
  have hl1n := joinH_len _ (H16.out.take f)
  rw [HLEN.out.1] at hl1n
  by_cases hft : f < t
  · have hSW : (joinH ([x0, x1, x2, x3, x4, x5, x6, x7].take f) ++ [58, 58]) ++ joinH ([x0, x1, x2, x3, x4, x5, x6, x7].drop t) = showW [x0, x1, x2, x3, x4, x5, x6, x7] := by
      rw [HSH.out, if_pos hft]; simp
    have hdf : decide ((f : Int) < (t : Int)) = true := by simp; omega
    obtain ⟨X, hX⟩ : ∃ X, X = joinH ([x0, x1, x2, x3, x4, x5, x6, x7].take f) := ⟨_, rfl⟩
    rw [← hX] at hown4 hSW hl1n
    clear hX
    go_wp2_with (at_builtin; go_loud (refine Lib.wpList_append_own_string _ rfl _ _ 59 9 rfl w3.heap.size 5 i0 Tryd.underlying59 Tryd.underlying9 hi0 iz0 iz1 iz2 _ _ _ rfl hown4 _ rfl (append_big (by show X.length + 2 ≤ 1000000; omega)) (append_big' (by show X.length + 2 ≤ 1000000; omega)) hw4 ?_))
    intro v5 w5 hown5 hg5 _
    have hown5 := own_plus (L := X) (D := [58, 58]) hown5 (by first | (simp; done) | (simp; rfl)) (by rw [Lib.byteCells_append]; rfl)
    have hw5 : Below w3.heap.size w3 w5 := hb4.grown hg5 hw4 (fun j hj => (hown4.lt j hj).1)
    have hB5 := hw5.size
    have hXl : (X ++ [58, 58]).length ≤ 900 := by simp; omega
    clear hown4 hg5 hb4 hw4
    have hl2 := clist_any w3.heap.size (X ++ [58, 58]) ([x0, x1, x2, x3, x4, x5, x6, x7].drop t) (H16.out.drop t) (by rw [HLEN.out.2]; omega) (Nat.le_trans hXl (by omega)) w2.heap.size o m hz3 _ w5 hown5 hB5
      (fun j hj => by
        have hj' : j < m := by rw [← HLEN.out.2]; exact hj
        have ho : o = t := HO.out (by omega)
        rw [hw5.cell (by simpa using hz3), ho, HC.out (t + j) (by simp; omega), List.getElem_drop]) ((HK.out.up hk1).on hw5)
    rw [HLEN.out.2] at hl2
    have HL2 := Lib.hid hl2
    clear hl2
    go_wp2_with fail
    refine HL2.out.mono ?_
    rintro e w6 ⟨v6, rfl, hown6, hb6⟩
    have hw6 := hw5.trans hb6
    have hB6 := hw6.size
    have hs6 : (X ++ [58, 58]) ++ joinH ([x0, x1, x2, x3, x4, x5, x6, x7].drop t) = showW [x0, x1, x2, x3, x4, x5, x6, x7] := hSW
    rw [hs6] at hown6
    have hlS : (showW [x0, x1, x2, x3, x4, x5, x6, x7]).length ≤ 1000 := by
      rw [← hs6, List.length_append]
      have := joinH_len _ (H16.out.drop t)
      rw [HLEN.out.2] at this
      omega
    obtain ⟨S, hS⟩ : ∃ S, S = showW [x0, x1, x2, x3, x4, x5, x6, x7] := ⟨_, rfl⟩
    rw [← hS] at hown6 hlS
    have HSS := Lib.hid hS
    clear hS
    clear hs6 hSW hXl hw5 hb6 hB5
    go_wp2_with (at_builtin; go_loud (refine Lib.wpList_append_own_string _ rfl _ _ 59 9 rfl w3.heap.size 5 i0 Tryd.underlying59 Tryd.underlying9 hi0 iz0 iz1 iz2 _ _ _ rfl hown6 _ rfl (append_big (by show S.length + 1 ≤ 1000000; omega)) (append_big' (by show S.length + 1 ≤ 1000000; omega)) hB6 ?_))
    intro v7 w7 hown7 hg7 _
    have hown7 := own_plus (L := S) (D := [47]) hown7 (by first | (simp; done) | (simp; rfl)) (by rw [Lib.byteCells_append]; rfl)
    have hw7 : Below w3.heap.size w3 w7 := hw6.grown hg7 hB6 (fun j hj => (hown6.lt j hj).1)
    have hB7 := hw7.size
    have hc2 : w7.cell? ⟨w.heap.size, 2, none⟩ = some (.int .i64 n) := by rw [hw7.cell (by simpa using hz)]; exact c2
    have hlS1 : (S ++ [47]).length ≤ 1001 := by simp; omega
    have hai := fun sv xs w' h1 h2 h3 h4 => Tryd.strconv_AppendInt_10 w3.heap.size (S ++ [47]).length n (by omega) (by omega) sv xs w' h1 h2 h3 h4
    have hit : Lib.itoa n = Lib.decDigits n.toNat := by unfold Lib.itoa; rw [if_neg (by omega)]
    rw [hit] at hai
    obtain ⟨D, hD⟩ : ∃ D, D = Lib.decDigits n.toNat := ⟨_, rfl⟩
    rw [← hD] at hai
    obtain ⟨F, hF⟩ : ∃ F, F = S ++ 47 :: D := ⟨_, rfl⟩
    have HFIN : Hid ((S ++ [47]) ++ D = F) := Lib.hid (by rw [hF]; simp)
    have HFF : Hid (showW [x0, x1, x2, x3, x4, x5, x6, x7] ++ 47 :: Lib.decDigits n.toNat = F) := Lib.hid (by rw [hF, hD, HSS.out])
    clear hF hD
    have hw7w : Below w.heap.size w w7 := hk1.trans (hw7.mono (by omega))
    have HT := Lib.hid ((HK.out.up hk1).on hw7)
    have HAI := Lib.hid hai
    clear hai hit hown6 hg7 hw6 hB6
    go_wp2_with fail
    refine (HAI.out _ _ _ hown7 hB7 (by omega) HT.out.tens).mono ?_
    rintro e w8 ⟨v8, rfl, hown8, hb8, -⟩
    have hcv := own_string hown8
    have hw8 := hw7w.trans (hb8.mono (by omega))
    rw [HFIN.out] at hcv
    clear hown8 hown7 hb8 hw7 hw7w HT HAI
    go_wp2
    go_ret
    exact ⟨by rw [HFF.out]; rfl, hw8⟩
  · have hSW : joinH ([x0, x1, x2, x3, x4, x5, x6, x7].take f) ++ joinH ([x0, x1, x2, x3, x4, x5, x6, x7].drop t) = showW [x0, x1, x2, x3, x4, x5, x6, x7] := by
      obtain ⟨h1, h2⟩ := HFL.out hft
      rw [HSH.out, if_neg hft, h1, h2, List.take_zero, List.drop_zero]; rfl
    have hdf : decide ((f : Int) < (t : Int)) = false := by simp; omega
    obtain ⟨X, hX⟩ : ∃ X, X = joinH ([x0, x1, x2, x3, x4, x5, x6, x7].take f) := ⟨_, rfl⟩
    rw [← hX] at hown4 hSW hl1n
    clear hX
    have hown5 := hown4
    have hw5 := hb4
    have hB5 := hw4
    have hXl : X.length ≤ 900 := by omega
    clear hown4 hb4 hw4
    have hl2 := clist_any w3.heap.size X ([x0, x1, x2, x3, x4, x5, x6, x7].drop t) (H16.out.drop t) (by rw [HLEN.out.2]; omega) (Nat.le_trans hXl (by omega)) w2.heap.size o m hz3 _ w4 hown5 hB5
      (fun j hj => by
        have hj' : j < m := by rw [← HLEN.out.2]; exact hj
        have ho : o = t := HO.out (by omega)
        rw [hw5.cell (by simpa using hz3), ho, HC.out (t + j) (by simp; omega), List.getElem_drop]) ((HK.out.up hk1).on hw5)
    rw [HLEN.out.2] at hl2
    have HL2 := Lib.hid hl2
    clear hl2
    go_wp2_with fail
    refine HL2.out.mono ?_
    rintro e w6 ⟨v6, rfl, hown6, hb6⟩
    have hw6 := hw5.trans hb6
    have hB6 := hw6.size
    have hs6 : X ++ joinH ([x0, x1, x2, x3, x4, x5, x6, x7].drop t) = showW [x0, x1, x2, x3, x4, x5, x6, x7] := hSW
    rw [hs6] at hown6
    have hlS : (showW [x0, x1, x2, x3, x4, x5, x6, x7]).length ≤ 1000 := by
      rw [← hs6, List.length_append]
      have := joinH_len _ (H16.out.drop t)
      rw [HLEN.out.2] at this
      omega
    obtain ⟨S, hS⟩ : ∃ S, S = showW [x0, x1, x2, x3, x4, x5, x6, x7] := ⟨_, rfl⟩
    rw [← hS] at hown6 hlS
    have HSS := Lib.hid hS
    clear hS
    clear hs6 hSW hXl hw5 hb6 hB5
    go_wp2_with (at_builtin; go_loud (refine Lib.wpList_append_own_string _ rfl _ _ 59 9 rfl w3.heap.size 5 i0 Tryd.underlying59 Tryd.underlying9 hi0 iz0 iz1 iz2 _ _ _ rfl hown6 _ rfl (append_big (by show S.length + 1 ≤ 1000000; omega)) (append_big' (by show S.length + 1 ≤ 1000000; omega)) hB6 ?_))
    intro v7 w7 hown7 hg7 _
    have hown7 := own_plus (L := S) (D := [47]) hown7 (by first | (simp; done) | (simp; rfl)) (by rw [Lib.byteCells_append]; rfl)
    have hw7 : Below w3.heap.size w3 w7 := hw6.grown hg7 hB6 (fun j hj => (hown6.lt j hj).1)
    have hB7 := hw7.size
    have hc2 : w7.cell? ⟨w.heap.size, 2, none⟩ = some (.int .i64 n) := by rw [hw7.cell (by simpa using hz)]; exact c2
    have hlS1 : (S ++ [47]).length ≤ 1001 := by simp; omega
    have hai := fun sv xs w' h1 h2 h3 h4 => Tryd.strconv_AppendInt_10 w3.heap.size (S ++ [47]).length n (by omega) (by omega) sv xs w' h1 h2 h3 h4
    have hit : Lib.itoa n = Lib.decDigits n.toNat := by unfold Lib.itoa; rw [if_neg (by omega)]
    rw [hit] at hai
    obtain ⟨D, hD⟩ : ∃ D, D = Lib.decDigits n.toNat := ⟨_, rfl⟩
    rw [← hD] at hai
    obtain ⟨F, hF⟩ : ∃ F, F = S ++ 47 :: D := ⟨_, rfl⟩
    have HFIN : Hid ((S ++ [47]) ++ D = F) := Lib.hid (by rw [hF]; simp)
    have HFF : Hid (showW [x0, x1, x2, x3, x4, x5, x6, x7] ++ 47 :: Lib.decDigits n.toNat = F) := Lib.hid (by rw [hF, hD, HSS.out])
    clear hF hD
    have hw7w : Below w.heap.size w w7 := hk1.trans (hw7.mono (by omega))
    have HT := Lib.hid ((HK.out.up hk1).on hw7)
    have HAI := Lib.hid hai
    clear hai hit hown6 hg7 hw6 hB6
    go_wp2_with fail
    refine (HAI.out _ _ _ hown7 hB7 (by omega) HT.out.tens).mono ?_
    rintro e w8 ⟨v8, rfl, hown8, hb8, -⟩
    have hcv := own_string hown8
    have hw8 := hw7w.trans (hb8.mono (by omega))
    rw [HFIN.out] at hcv
    clear hown8 hown7 hb8 hw7 hw7w HT HAI
    go_wp2
    go_ret
    exact ⟨by rw [HFF.out]; rfl, hw8⟩
set_option maxHeartbeats 400000 in
theorem kshow_any (hi lo : Nat) (n : Int) (ha : W64 hi) (hb : W64 lo) : GivesK 11 #[.agg #[.int .u64 hi, .int .u64 lo, .int .i64 n]] (.string ⟨(showK hi lo n).toArray⟩) := by
  intro w hk
  unfold showK
  by_cases hr : rightB hi lo n = true
  · rw [if_pos hr]
    exact kshow_go hi lo n ha hb hr w hk
  · rw [if_neg hr]
    have hr' : rightB hi lo n = false := by simpa using hr
    have hrr := right_any hi lo n ha hb
    rw [hr'] at hrr
    have HR := Lib.hid hrr
    clear hrr hr hr' hk
    go_enter Tryd.func11, Tryd.ntmps11
    go_wp2_with fail
    refine (HR.out _).mono ?_
    rintro e w1 ⟨rfl, hb1⟩
    have hk1 : Below w.heap.size w w1 := Below.trans (by go_grown) (hb1.mono (by go_size))
    clear hb1
    go_wp2
    go_ret
    exact ⟨rfl, hk1⟩
end Go.Proofs.YtegaeifmikfpcaaDoor
