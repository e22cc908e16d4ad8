/-
  The given laws of chapter 2 as walks: each call hands back true, for every input. They ask that the library's table of powers of ten reads as its initialiser lays it.
-/
import Derived.Test.YtmcageenjlbacaaDoorW2f
import Derived.Test.YtmcageenjlbacaaDoorW2g
set_option linter.unusedSimpArgs false
set_option linter.unusedVariables false
namespace Go.Proofs.YtmcageenjlbacaaDoor
open Go.RowKit Go.Sort M

theorem Tens.up {w w' : World} (h : Tens w.heap.size w) (hb : Below w.heap.size w w') : Tens w'.heap.size w' := Tens.mono (Lib.TabBelow.on h hb) hb.size
theorem Tens.re {w : World} (h : Tens w.heap.size w) (d : Nat) (os : Array Obj) : Tens (grow (redrawn w d) os).heap.size (grow (redrawn w d) os) := Tens.up h (below_regrown w d os)
theorem eql_pfx (a b : Nat) (n : Int) (c d : Nat) (m : Int) (w : World) : (binOp .eql 26 (.agg #[.int .u64 a, .int .u64 b, .int .i64 n]) (.agg #[.int .u64 c, .int .u64 d, .int .i64 m])).run Tryd.prog w =
    .ok (.bool (decide (a = c ∧ b = d ∧ n = m))) w := by
  have e1 : decide (a = c ∧ b = d ∧ n = m) = (decide ((a : Int) = c) && (decide ((b : Int) = d) && decide (n = m))) := by
    rw [← Bool.decide_and, ← Bool.decide_and, decide_eq_decide]; omega
  rw [e1]
  by_cases h1 : (a : Int) = c <;> by_cases h2 : (b : Int) = d <;> by_cases h3 : n = m <;> simp [go_sem, h1, h2, h3]
theorem decs : Lib.decDigits 10 = [49, 48] ∧ Lib.decDigits 0 = [48] ∧ Lib.decDigits 8 = [56] := by
  refine ⟨?_, ?_, ?_⟩
  · rw [decDigits_more (by omega), decDigits_small (by omega)]; rfl
  · rw [decDigits_small (by omega)]; rfl
  · rw [decDigits_small (by omega)]; rfl
theorem show_ten : showC 720575940379279360 0 8 = [49, 48, 46, 48, 46, 48, 46, 48, 47, 56] := by
  obtain ⟨h1, h2, h3⟩ := decs
  have e : showC 720575940379279360 0 8 = showL 720575940379279360 8 := by
    unfold showC
    rw [if_pos ⟨by decide +kernel, by decide⟩]; rfl
  rw [e, showL, show byteAt 720575940379279360 0 = 10 by decide +kernel, show byteAt 720575940379279360 1 = 0 by decide +kernel, show byteAt 720575940379279360 2 = 0 by decide +kernel, show byteAt 720575940379279360 3 = 0 by decide +kernel, h1, h2, h3]
  rfl
set_option maxHeartbeats 400000 in
theorem num2_any (e : Int) (w : World) : Calls Tryd.prog 9 #[.int .i64 e] w fun x w' => x = .returned (.int .i64 e) ∧ w = w' := by
  go_enter Tryd.func9, Tryd.ntmps9
  go_wp2
  go_ret
  exact ⟨rfl, rfl⟩

set_option maxHeartbeats 400000 in
theorem alive2_any (w : World) (ht : Tens w.heap.size w) : Calls Tryd.prog 6 #[] w fun e w' => e = .returned (.bool true) ∧ Below w.heap.size w w' := by
  have hA : Gives Tryd.prog 7 #[.string ⟨#[49, 48, 46, 48, 46, 48, 46, 48, 47, 56]⟩] (.tuple #[.agg #[.int .u64 720575940379279360, .int .u64 0, .int .i64 8], .int .i64 0]) := by
    have := cread_any [49, 48, 46, 48, 46, 48, 46, 48, 47, 56] (by decide)
    rw [show readC [49, 48, 46, 48, 46, 48, 46, 48, 47, 56] = (720575940379279360, 8, 0) by decide +kernel] at this
    exact this
  have hS := fun w' => cshow_any 720575940379279360 0 8 (W64.mk (by decide)) (W64.mk (by decide)) w'
  rw [show_ten] at hS
  have hS' : ∀ w', Tens w'.heap.size w' → Calls Tryd.prog 10 #[.agg #[.int .u64 720575940379279360, .int .u64 0, .int .i64 8]] w' fun e w'' => e = .returned (.string ⟨#[49, 48, 46, 48, 46, 48, 46, 48, 47, 56]⟩) ∧ Below w'.heap.size w' w'' := hS
  have HA := Lib.hid hA
  have HS := Lib.hid hS'
  have HT := Lib.hid ht
  clear hA hS hS' ht
  go_enter Tryd.func6, Tryd.ntmps6
  go_wp2_with fail
  refine (HA.out _).mono ?_
  rintro e0 w0 ⟨rfl, hb0⟩
  have hw0 : Below w.heap.size w w0 := by
    refine Below.trans ?_ (hb0.mono ?_)
    · go_grown
    · go_size
  have z0 := hw0.size
  go_wp2_with fail
  refine (num2_any _ _).mono ?_
  rintro e w1 ⟨rfl, rfl⟩
  go_wp2_with fail
  refine (HS.out _ (Tens.up HT.out (by go_grown))).mono ?_
  rintro e w2 ⟨rfl, hb2⟩
  go_wp2
  go_ret
  exact ⟨rfl, Below.trans (by go_grown) (hb2.mono (by go_size))⟩

set_option maxHeartbeats 1000000 in
theorem ctells_walk (s : ByteArray) (hi lo : Nat) (n : Int) (ha : W64 hi) (hb : W64 lo) (w : World) (ht : Tens w.heap.size w) :
    Calls Tryd.prog 3 #[.string s, .agg #[.int .u64 hi, .int .u64 lo, .int .i64 n]] w fun e w' => e = .returned (.bool true) ∧ Below w.heap.size w w' := by
  have HT := Lib.hid ht
  clear ht
  by_cases hs : s.size ≤ 200
  · have hl : s.data.toList.length ≤ 200 := by simpa using hs
    have hA := cread_any s.data.toList (by unfold maxLen; omega)
    have hB := rread_any s.data.toList (by omega)
    rw [← ba_of s] at hA hB
    rw [← read_eq] at hB
    generalize readC s.data.toList = R at hA hB
    obtain ⟨r1, r2, r3⟩ := R
    have hA' : Gives Tryd.prog 7 #[.string s] (.tuple #[.agg #[.int .u64 r1, .int .u64 0, .int .i64 r2], .int .i64 r3]) := hA
    have hB' : Gives Tryd.prog 8 #[.string s] (.tuple #[.agg #[.int .u64 r1, .int .u64 0, .int .i64 r2], .int .i64 r3]) := hB
    have hS := fun w' => cshow_any hi lo n ha hb w'
    have hR := rshow_any hi lo n ha hb
    generalize showC hi lo n = X at hS hR
    have HA := Lib.hid hA'
    have HB := Lib.hid hB'
    have HS := Lib.hid hS
    have HR := Lib.hid hR
    clear hA hB hA' hB' hS hR hl
    have ea := eql_pfx r1 0 r2 r1 0 r2
    have ea' : ∀ w, (binOp .eql 26 (.agg #[.int .u64 r1, .int .u64 0, .int .i64 r2]) (.agg #[.int .u64 r1, .int .u64 0, .int .i64 r2])).run Tryd.prog w = .ok (.bool true) w := by
      intro w; have := ea w; simpa using this
    clear ea
    go_enter Tryd.func3, Tryd.ntmps3
    go_wp2_with fail
    refine (alive2_any _ (Tens.up HT.out (by go_grown))).mono ?_
    rintro e w0 ⟨rfl, hb0⟩
    have hw0 : Below w.heap.size w w0 := Below.trans (by go_grown) (hb0.mono (by go_size))
    have c0 : w0.cell? ⟨w.heap.size, 0, none⟩ = some (.int .u64 hi) := by
      rw [hb0.cell (by simp <;> omega)]
      first | assumption | (simp [go_sem]; done) | (simp [go_sem, *]; done)
    have c1 : w0.cell? ⟨w.heap.size, 1, none⟩ = some (.int .u64 lo) := by
      rw [hb0.cell (by simp <;> omega)]
      first | assumption | (simp [go_sem]; done) | (simp [go_sem, *]; done)
    have c2 : w0.cell? ⟨w.heap.size, 2, none⟩ = some (.int .i64 n) := by
      rw [hb0.cell (by simp <;> omega)]
      first | assumption | (simp [go_sem]; done) | (simp [go_sem, *]; done)
    have hz : w.heap.size < w0.heap.size := by have := hb0.size; simp at this; omega
    clear hb0
    go_wp2_with fail
    refine (HA.out _).mono ?_
    rintro e w1 ⟨rfl, hb1⟩
    obtain ⟨hc1, hf1⟩ := bcell hb1
    have c0 := (hc1 _ _ (by omega)).trans c0
    have c1 := (hc1 _ _ (by omega)).trans c1
    have c2 := (hc1 _ _ (by omega)).trans c2
    have hw0 := Below.trans hw0 (hb1.mono (by omega))
    have hz := Nat.lt_of_lt_of_le hz hb1.size
    clear hc1 hf1 hb1
    go_wp2_with fail
    refine (HB.out _).mono ?_
    rintro e w2 ⟨rfl, hb2⟩
    have d0 : w2.cell? ⟨w1.heap.size, 0, none⟩ = some (.int .u64 r1) := by
      rw [hb2.cell (by simp <;> omega)]
      first | assumption | (simp [go_sem]; done) | (simp [go_sem, *]; done)
    have d1 : w2.cell? ⟨w1.heap.size, 1, none⟩ = some (.int .u64 0) := by
      rw [hb2.cell (by simp <;> omega)]
      first | assumption | (simp [go_sem]; done) | (simp [go_sem, *]; done)
    have d2 : w2.cell? ⟨w1.heap.size, 2, none⟩ = some (.int .i64 r2) := by
      rw [hb2.cell (by simp <;> omega)]
      first | assumption | (simp [go_sem]; done) | (simp [go_sem, *]; done)
    have hz2 : w1.heap.size < w2.heap.size := by have := hb2.size; simp at this; omega
    have hk2 : Below w1.heap.size w1 w2 := Below.trans (by go_grown) (hb2.mono (by go_size))
    obtain ⟨hc2, hf2⟩ := bcell hk2
    have c0 := (hc2 _ _ (by omega)).trans c0
    have c1 := (hc2 _ _ (by omega)).trans c1
    have c2 := (hc2 _ _ (by omega)).trans c2
    have hw0 := Below.trans hw0 (hk2.mono (by omega))
    have hz := Nat.lt_of_lt_of_le hz hk2.size
    clear hc2 hf2 hk2 hb2
    have HT2 := Lib.hid (Tens.up HT.out hw0)
    go_wp2_with fail
    have kg := cell_grow
    refine region_whole (by kernel_rfl) (by kernel_rfl) ?_
    repeat (any_goals (first | go_big_quiet_step (first | (go_at_call 9; exact Calls.regrown_of ((num2_any _ _).mono fun _ _ ⟨h1, h2⟩ => ⟨h1, h2 ▸ Below.refl _ _⟩)) | (go_at_call 10; exact Calls.regrown_of (HS.out _ (Tens.re (Tens.up HT2.out (by go_grown)) _ _))) | (go_at_call 11; exact Gives.at HR.out _ _ _)) | quiet_step (first | (go_at_call 9; exact Calls.regrown_of ((num2_any _ _).mono fun _ _ ⟨h1, h2⟩ => ⟨h1, h2 ▸ Below.refl _ _⟩)) | (go_at_call 10; exact Calls.regrown_of (HS.out _ (Tens.re (Tens.up HT2.out (by go_grown)) _ _))) | (go_at_call 11; exact Gives.at HR.out _ _ _))))
    refine wpQuiet_nil ?_
    clear kg
    intro w3 hb3
    obtain ⟨hc3, hf3⟩ := bcell hb3
    have hw3 : Below w.heap.size w w3 := by
      refine Below.trans ?_ (hb3.mono ?_)
      · go_grown
      · go_size
    go_wp2
    go_ret
    exact ⟨rfl, by go_grown⟩
  · go_enter Tryd.func3, Tryd.ntmps3
    go_wp2_with fail
    refine (alive2_any _ (Tens.up HT.out (by go_grown))).mono ?_
    rintro e w0 ⟨rfl, hb0⟩
    have hw0 : Below w.heap.size w w0 := Below.trans (by go_grown) (hb0.mono (by go_size))
    clear hb0
    go_wp2
    go_ret
    exact ⟨rfl, hw0⟩

theorem rcut_hi (hi : Nat) (n : Int) (ha : W64 hi) : Gives Tryd.prog 12 #[.agg #[.int .u64 hi, .int .u64 0], .int .i64 n] (.agg #[.int .u64 (cutW hi n.toNat : Nat), .int .u64 0]) := by
  have := rcut_any hi 0 n ha (W64.mk (by decide))
  rw [show cutW 0 (n.toNat - 64) = 0 by unfold cutW; simp] at this
  exact this
theorem back_show (hi : Nat) (n : Int) (h0 : 0 ≤ n) (h32 : n ≤ 32) : showC (cutW hi n.toNat) 0 n = showL (cutW hi n.toNat) n.toNat ∧ rightB (cutW hi n.toNat) 0 n = true := by
  have : rightB (cutW hi n.toNat) 0 n = true := by
    have := right_cut hi 0 n h0 (by omega)
    rwa [show cutW 0 (n.toNat - 64) = 0 by unfold cutW; simp] at this
  exact ⟨by unfold showC; rw [if_pos ⟨this, h32⟩], this⟩
theorem showL_len (hi n : Nat) (h : n ≤ 32) : (showL hi n).length ≤ 19 := by
  have h0 := dec_len _ (byteAt_le hi 0)
  have h1 := dec_len _ (byteAt_le hi 1)
  have h2 := dec_len _ (byteAt_le hi 2)
  have h3 := dec_len _ (byteAt_le hi 3)
  have h4 := dec_len n (by omega)
  simp [showL]; omega

set_option maxHeartbeats 1000000 in
theorem cback_walk (hi other : Nat) (n m : Int) (ha : W64 hi) (hb : W64 other) (w : World) (ht : Tens w.heap.size w) :
    Calls Tryd.prog 4 #[.int .u64 hi, .int .u64 other, .int .i64 n, .int .i64 m] w fun e w' => e = .returned (.bool true) ∧ Below w.heap.size w w' := by
  have HT := Lib.hid ht
  clear ht
  by_cases hin : 0 ≤ n ∧ n ≤ 32 ∧ 0 ≤ m ∧ m ≤ 32
  · obtain ⟨n0, n1, m0, m1⟩ := hin
    have hA := rcut_hi hi n ha
    have hB := rcut_hi other m hb
    obtain ⟨e1, r1⟩ := back_show hi n n0 n1
    obtain ⟨e2, r2⟩ := back_show other m m0 m1
    have wX := ha.cut n.toNat
    have wY := hb.cut m.toNat
    obtain ⟨X, hX⟩ : ∃ X : Nat, X = cutW hi n.toNat := ⟨_, rfl⟩
    obtain ⟨Y, hY⟩ : ∃ Y : Nat, Y = cutW other m.toNat := ⟨_, rfl⟩
    rw [← hX] at hA e1 r1 wX
    rw [← hY] at hB e2 r2 wY
    have hS1 := fun w' => cshow_any X 0 n wX (W64.mk (by decide)) w'
    have hS2 := fun w' => cshow_any Y 0 m wY (W64.mk (by decide)) w'
    rw [e1] at hS1
    rw [e2] at hS2
    have hRd := cread_any (showL X n.toNat) (by have := showL_len X n.toNat (by omega); unfold maxLen; omega)
    rw [read_show X n.toNat wX (by omega) (by rw [show ((n.toNat : Nat) : Int) = n by omega]; exact r1)] at hRd
    have hRd' : Gives Tryd.prog 7 #[.string ⟨(showL X n.toNat).toArray⟩] (.tuple #[.agg #[.int .u64 X, .int .u64 0, .int .i64 n], .int .i64 0]) := by
      have := hRd
      unfold preV at this
      rwa [show ((n.toNat : Nat) : Int) = n by omega] at this
    have hinj := show_inj X n.toNat Y m.toNat wX wY (by omega) (by omega) (by rw [show ((n.toNat : Nat) : Int) = n by omega]; exact r1) (by rw [show ((m.toNat : Nat) : Int) = m by omega]; exact r2)
    have hinj' : showL X n.toNat = showL Y m.toNat ↔ (X = Y ∧ n = m) := by rw [hinj]; constructor <;> rintro ⟨h1, h2⟩ <;> exact ⟨h1, by omega⟩
    clear e1 e2 r1 r2 hX hY hRd hinj
    generalize showL X n.toNat = P at hS1 hRd' hinj'
    generalize showL Y m.toNat = Q at hS2 hinj'
    have hpp : ∀ w, (binOp .eql 26 (.agg #[.int .u64 X, .int .u64 0, .int .i64 n]) (.agg #[.int .u64 X, .int .u64 0, .int .i64 n])).run Tryd.prog w = .ok (.bool true) w := by
      intro w; have := eql_pfx X 0 n X 0 n w; simpa using this
    have hpq : ∀ w, (binOp .eql 26 (.agg #[.int .u64 X, .int .u64 0, .int .i64 n]) (.agg #[.int .u64 Y, .int .u64 0, .int .i64 m])).run Tryd.prog w = .ok (.bool (decide (X = Y ∧ n = m))) w := by
      intro w; have := eql_pfx X 0 n Y 0 m w; simpa using this
    have hss : ∀ w, (binOp .eql 9 (.string ⟨P.toArray⟩) (.string ⟨Q.toArray⟩)).run Tryd.prog w = .ok (.bool (decide (X = Y ∧ n = m))) w := by
      intro w
      by_cases h : X = Y ∧ n = m
      · rw [hinj'.2 h]; simp [go_sem, h]
      · have h' : ¬ P = Q := fun e => h (hinj'.1 e)
        simp [go_sem, h, h', Lib.toList_data]
    have hbb : (P == Q) = decide (X = Y ∧ n = m) := by
      by_cases h : X = Y ∧ n = m
      · rw [hinj'.2 h]; simp [h]
      · have h' : ¬ P = Q := fun e => h (hinj'.1 e)
        simp [h, h']
    generalize decide (X = Y ∧ n = m) = b at hpq hss hbb
    have HBB := Lib.hid hbb
    clear hbb
    have HA := Lib.hid hA
    have HB := Lib.hid hB
    have HS1 := Lib.hid hS1
    have HS2 := Lib.hid hS2
    have HR := Lib.hid hRd'
    clear hA hB hS1 hS2 hRd' hinj'
    go_enter Tryd.func4, Tryd.ntmps4
    go_wp2_with fail
    refine (alive2_any _ (Tens.up HT.out (by go_grown))).mono ?_
    rintro e w0 ⟨rfl, hw0⟩
    have z0 := hw0.size
    go_wp2_with fail
    refine (HA.out _).mono ?_
    rintro e w1 ⟨rfl, hb1⟩
    have hw1 : Below w.heap.size w w1 := Below.trans hw0 (hb1.mono (by omega))
    have z1 := hw1.size
    clear hw0 z0 hb1
    go_wp2_with fail
    refine (HB.out _).mono ?_
    rintro e w2 ⟨rfl, hb2⟩
    have c0 : w2.cell? ⟨w1.heap.size, 0, none⟩ = some (.int .u64 X) := by
      rw [hb2.cell (by simp <;> omega)]
      first | assumption | (simp [go_sem]; done) | (simp [go_sem, *]; done)
    have c1 : w2.cell? ⟨w1.heap.size, 1, none⟩ = some (.int .u64 0) := by
      rw [hb2.cell (by simp <;> omega)]
      first | assumption | (simp [go_sem]; done) | (simp [go_sem, *]; done)
    have c2 : w2.cell? ⟨w1.heap.size, 2, none⟩ = some (.int .i64 n) := by
      rw [hb2.cell (by simp <;> omega)]
      first | assumption | (simp [go_sem]; done) | (simp [go_sem, *]; done)
    have z2 : w1.heap.size < w2.heap.size := by have := hb2.size; simp at this; omega
    have hw2 : Below w.heap.size w w2 := Below.trans (by go_grown) (hb2.mono (by go_size))
    have zz2 : w.heap.size < w2.heap.size := by omega
    clear hb2
    have HT2 := Lib.hid (Tens.up HT.out hw2)
    go_wp2_with fail
    refine (HS1.out _ (Tens.up HT2.out (by go_grown))).mono ?_
    rintro e w3 ⟨rfl, hb3⟩
    have d0 : w3.cell? ⟨w2.heap.size, 0, none⟩ = some (.int .u64 Y) := by
      rw [hb3.cell (by simp <;> omega)]
      first | assumption | (simp [go_sem]; done) | (simp [go_sem, *]; done)
    have d1 : w3.cell? ⟨w2.heap.size, 1, none⟩ = some (.int .u64 0) := by
      rw [hb3.cell (by simp <;> omega)]
      first | assumption | (simp [go_sem]; done) | (simp [go_sem, *]; done)
    have d2 : w3.cell? ⟨w2.heap.size, 2, none⟩ = some (.int .i64 m) := by
      rw [hb3.cell (by simp <;> omega)]
      first | assumption | (simp [go_sem]; done) | (simp [go_sem, *]; done)
    have z3 : w2.heap.size < w3.heap.size := by have := hb3.size; simp at this; omega
    have hk3 : Below w2.heap.size w2 w3 := Below.trans (by go_grown) (hb3.mono (by go_size))
    obtain ⟨hc3, hf3⟩ := bcell hk3
    have c0 := (hc3 _ _ (by omega)).trans c0
    have c1 := (hc3 _ _ (by omega)).trans c1
    have c2 := (hc3 _ _ (by omega)).trans c2
    have hw2 := Below.trans hw2 (hk3.mono (by omega))
    have zz2 := Nat.lt_of_lt_of_le zz2 hk3.size
    clear hc3 hf3 hk3 hb3
    go_wp2_with fail
    refine (HR.out _).mono ?_
    rintro e w4 ⟨rfl, hb4⟩
    have z4 : w2.heap.size < w4.heap.size := Nat.lt_of_lt_of_le z3 hb4.size
    obtain ⟨hc4, hf4⟩ := bcell hb4
    have c0 := (hc4 _ _ (by omega)).trans c0
    have c1 := (hc4 _ _ (by omega)).trans c1
    have c2 := (hc4 _ _ (by omega)).trans c2
    have d0 := (hc4 _ _ (by omega)).trans d0
    have d1 := (hc4 _ _ (by omega)).trans d1
    have d2 := (hc4 _ _ (by omega)).trans d2
    have hw2 := Below.trans hw2 (hb4.mono (by omega))
    have zz2 := Nat.lt_of_lt_of_le zz2 hb4.size
    clear hc4 hf4 hb4
    have z14 : w1.heap.size < w4.heap.size := by omega
    have HT4 := Lib.hid (Tens.up HT.out hw2)
    go_wp2_with fail
    have kg := cell_grow
    refine region_whole (by kernel_rfl) (by kernel_rfl) ?_
    repeat (any_goals (first | go_big_quiet_step (first | (go_at_call 9; exact Calls.regrown_of ((num2_any _ _).mono fun _ _ ⟨h1, h2⟩ => ⟨h1, h2 ▸ Below.refl _ _⟩)) | (go_at_call 10; (first | (with_reducible exact Calls.regrown_of (HS1.out _ (Tens.re (Tens.up HT4.out (by go_grown)) _ _))) | (with_reducible exact Calls.regrown_of (HS2.out _ (Tens.re (Tens.up HT4.out (by go_grown)) _ _)))))) | quiet_step (first | (go_at_call 9; exact Calls.regrown_of ((num2_any _ _).mono fun _ _ ⟨h1, h2⟩ => ⟨h1, h2 ▸ Below.refl _ _⟩)) | (go_at_call 10; (first | (with_reducible exact Calls.regrown_of (HS1.out _ (Tens.re (Tens.up HT4.out (by go_grown)) _ _))) | (with_reducible exact Calls.regrown_of (HS2.out _ (Tens.re (Tens.up HT4.out (by go_grown)) _ _))))))))
    refine wpQuiet_nil ?_
    clear kg
    intro w5 hb5
    obtain ⟨hc5, hf5⟩ := bcell hb5
    have hw5 : Below w.heap.size w w5 := by
      refine Below.trans ?_ (hb5.mono ?_)
      · go_grown
      · go_size
    go_wp2
    go_ret
    refine ⟨?_, by go_grown⟩
    first | rfl | exact ret_bool (by simp; exact HBB.out)
  · go_enter Tryd.func4, Tryd.ntmps4
    go_wp2_with fail
    refine (alive2_any _ (Tens.up HT.out (by go_grown))).mono ?_
    rintro e w0 ⟨rfl, hw0⟩
    go_wp2_with fail
    all_goals first
      | (exfalso; omega)
      | (go_ret; exact ⟨rfl, hw0⟩)
end Go.Proofs.YtmcageenjlbacaaDoor
