/-
  What the reference's ShowDots hands back. No condition but that the words are words of 64 bits.
-/
import Derived.Test.YtmcageenjlbacaaDoorW2d
import Derived.Test.YtmcageenjlbacaaDoorW2c
set_option linter.unusedSimpArgs false
set_option linter.unusedVariables false
namespace Go.Proofs.YtmcageenjlbacaaDoor
open Go.RowKit Go.Sort M

def dotPre (hi : Nat) : Nat → List UInt8
  | 0 => []
  | k + 1 => (if 0 < k then dotPre hi k ++ [46] else dotPre hi k) ++ Lib.decDigits (byteAt hi k)
theorem dotPre_end (hi n : Nat) : dotPre hi 4 ++ [47] ++ Lib.decDigits n = showL hi n := by
  simp [dotPre, showL]
theorem dotPre_len (hi k : Nat) : (dotPre hi k).length ≤ 4 * k := by
  induction k with
  | zero => simp [dotPre]
  | succ k ih =>
    have := dec_len _ (byteAt_le hi k)
    by_cases h : 0 < k <;> simp [dotPre, h] <;> omega
theorem rbyte0 (hi : Nat) (h : W64 hi) : bits BinOp.and IntKind.u64 ((hi : Int) / 72057594037927936) 255 = (byteAt hi 0 : Int) := by
  have h := h.lt
  rw [show (hi : Int) / 72057594037927936 = ((hi / 2 ^ 56 : Nat) : Int) by omega, and255 _ (by omega)]; rfl
theorem rbyte1 (hi : Nat) (h : W64 hi) : bits BinOp.and IntKind.u64 ((hi : Int) / 281474976710656) 255 = (byteAt hi 1 : Int) := by
  have h := h.lt
  rw [show (hi : Int) / 281474976710656 = ((hi / 2 ^ 48 : Nat) : Int) by omega, and255 _ (by omega)]; rfl
theorem rbyte2 (hi : Nat) (h : W64 hi) : bits BinOp.and IntKind.u64 ((hi : Int) / 1099511627776) 255 = (byteAt hi 2 : Int) := by
  have h := h.lt
  rw [show (hi : Int) / 1099511627776 = ((hi / 2 ^ 40 : Nat) : Int) by omega, and255 _ (by omega)]; rfl
theorem rbyte3 (hi : Nat) (h : W64 hi) : bits BinOp.and IntKind.u64 ((hi : Int) / 4294967296) 255 = (byteAt hi 3 : Int) := by
  have h := h.lt
  rw [show (hi : Int) / 4294967296 = ((hi / 2 ^ 32 : Nat) : Int) by omega, and255 _ (by omega)]; rfl

set_option maxHeartbeats 1000000 in
theorem rshow_go (hi lo : Nat) (n : Int) (ha : W64 hi) (hb : W64 lo) (h0 : 0 ≤ n) (h32 : n ≤ 32) (hr : rightB hi lo n = true) :
    Gives Tryd.prog 11 #[.agg #[.int .u64 hi, .int .u64 lo, .int .i64 n]] (.string ⟨(showL hi n.toNat).toArray⟩) := by
  intro w
  have hrr := rright_any hi lo n ha hb
  rw [hr] at hrr
  have HR := Lib.hid hrr
  clear hrr hr
  have d32 : decide (32 < n) = false := by simpa using h32
  go_enter Tryd.func11, Tryd.ntmps11
  go_wp2_with fail
  refine (HR.out _).mono ?_
  rintro e w1 ⟨rfl, hb1⟩
  have hw0 : Below w.heap.size w w1 := Below.trans (by go_grown) (hb1.mono (by go_size))
  have hz : w.heap.size < w1.heap.size := by have := hb1.size; simp at this; omega
  have c0 : w1.cell? ⟨w.heap.size, 0, none⟩ = some (.int .u64 hi) := by
    rw [hb1.cell (by simp <;> omega)]
    first | assumption | (simp [go_sem]; done) | (simp [go_sem, *]; done)
  have c1 : w1.cell? ⟨w.heap.size, 1, none⟩ = some (.int .u64 lo) := by
    rw [hb1.cell (by simp <;> omega)]
    first | assumption | (simp [go_sem]; done) | (simp [go_sem, *]; done)
  have c2 : w1.cell? ⟨w.heap.size, 2, none⟩ = some (.int .i64 n) := by
    rw [hb1.cell (by simp <;> omega)]
    first | assumption | (simp [go_sem]; done) | (simp [go_sem, *]; done)
  clear hb1
  go_wp2
  go_loopw [3, 4] (fun v i wr => ∃ (k : Nat) (L : List UInt8), k ≤ 4 ∧ i = .int .i64 k ∧ L.length ≤ 4 * k ∧ v = .string ⟨L.toArray⟩ ∧ Hid (L = dotPre hi k) ∧
      Below w.heap.size w wr ∧ w.heap.size < wr.heap.size ∧
      wr.cell? ⟨w.heap.size, 0, none⟩ = some (.int .u64 hi) ∧ wr.cell? ⟨w.heap.size, 1, none⟩ = some (.int .u64 lo) ∧ wr.cell? ⟨w.heap.size, 2, none⟩ = some (.int .i64 n)) (fun _ i _ => 4 - (intOf i).toNat)
  case atStart => exact ⟨0, [], by omega, rfl, by simp, rfl, Lib.hid rfl, hw0, hz, c0, c1, c2⟩
  case round =>
    clear hw0 hz c0 c1 c2
    obtain ⟨k, L, hk, rfl, hl, rfl, HN, hw0, hz, c0, c1, c2⟩ := hrel
    by_cases hlt : k < 4
    · obtain rfl | rfl | rfl | rfl : k = 0 ∨ k = 1 ∨ k = 2 ∨ k = 3 := by omega
      ·
        have hrb := rbyte0 hi ha
        have hD := rdec_any (byteAt hi 0) (by have := byteAt_le hi 0; omega)
        have hDl := dec_len _ (byteAt_le hi 0)
        have hb255 := byteAt_le hi 0
        have hl4 : L.length ≤ 4 * 0 := hl
        have hl5 : L.length ≤ 12 := by omega
        have HL := Lib.hid hl4
        have hsz : (⟨L.toArray⟩ : ByteArray).size ≤ 12 := by show L.toArray.size ≤ 12; simpa using hl5
        clear hl hl4
        obtain ⟨D, hDD⟩ : ∃ D, D = Lib.decDigits (byteAt hi 0) := ⟨_, rfl⟩
        rw [← hDD] at hD hDl
        have HDD := Lib.hid hDD
        have HD := Lib.hid hD
        clear hD hDD
        go_wp2_with fail
        refine (HD.out _).mono ?_
        rintro e w2 ⟨rfl, hb2⟩
        obtain ⟨hc2, hf2⟩ := bcell hb2
        have c0 := (hc2 _ _ (by omega)).trans c0
        have c1 := (hc2 _ _ (by omega)).trans c1
        have c2 := (hc2 _ _ (by omega)).trans c2
        have hw0 := Below.trans hw0 (hb2.mono (by omega))
        have hz := Nat.lt_of_lt_of_le hz hb2.size
        clear hc2 hf2 hb2
        go_wp2
        go_roundw
        case rel =>
          refine ⟨0 + 1, (if 0 < 0 then L ++ [46] else L) ++ D, by omega, by go_num, ?_, ?_, ?_, hw0, hz, c0, c1, c2⟩
          · have := HL.out
            simp; omega
          · first | exact congrArg Value.string (ba_app _ _) | exact congrArg Value.string ((congrArg (· ++ _) (ba_app L [46])).trans (ba_app _ _))
          · refine Lib.hid ?_
            rw [HN.out, HDD.out]
            rfl
        case measure => simp [intOf]
      ·
        have hrb := rbyte1 hi ha
        have hD := rdec_any (byteAt hi 1) (by have := byteAt_le hi 1; omega)
        have hDl := dec_len _ (byteAt_le hi 1)
        have hb255 := byteAt_le hi 1
        have hl4 : L.length ≤ 4 * 1 := hl
        have hl5 : L.length ≤ 12 := by omega
        have HL := Lib.hid hl4
        have hsz : (⟨L.toArray⟩ : ByteArray).size ≤ 12 := by show L.toArray.size ≤ 12; simpa using hl5
        clear hl hl4
        obtain ⟨D, hDD⟩ : ∃ D, D = Lib.decDigits (byteAt hi 1) := ⟨_, rfl⟩
        rw [← hDD] at hD hDl
        have HDD := Lib.hid hDD
        have HD := Lib.hid hD
        clear hD hDD
        go_wp2_with fail
        refine (HD.out _).mono ?_
        rintro e w2 ⟨rfl, hb2⟩
        obtain ⟨hc2, hf2⟩ := bcell hb2
        have c0 := (hc2 _ _ (by omega)).trans c0
        have c1 := (hc2 _ _ (by omega)).trans c1
        have c2 := (hc2 _ _ (by omega)).trans c2
        have hw0 := Below.trans hw0 (hb2.mono (by omega))
        have hz := Nat.lt_of_lt_of_le hz hb2.size
        clear hc2 hf2 hb2
        go_wp2
        go_roundw
        case rel =>
          refine ⟨1 + 1, (if 0 < 1 then L ++ [46] else L) ++ D, by omega, by go_num, ?_, ?_, ?_, hw0, hz, c0, c1, c2⟩
          · have := HL.out
            simp; omega
          · first | exact congrArg Value.string (ba_app _ _) | exact congrArg Value.string ((congrArg (· ++ _) (ba_app L [46])).trans (ba_app _ _))
          · refine Lib.hid ?_
            rw [HN.out, HDD.out]
            rfl
        case measure => simp [intOf]
      ·
        have hrb := rbyte2 hi ha
        have hD := rdec_any (byteAt hi 2) (by have := byteAt_le hi 2; omega)
        have hDl := dec_len _ (byteAt_le hi 2)
        have hb255 := byteAt_le hi 2
        have hl4 : L.length ≤ 4 * 2 := hl
        have hl5 : L.length ≤ 12 := by omega
        have HL := Lib.hid hl4
        have hsz : (⟨L.toArray⟩ : ByteArray).size ≤ 12 := by show L.toArray.size ≤ 12; simpa using hl5
        clear hl hl4
        obtain ⟨D, hDD⟩ : ∃ D, D = Lib.decDigits (byteAt hi 2) := ⟨_, rfl⟩
        rw [← hDD] at hD hDl
        have HDD := Lib.hid hDD
        have HD := Lib.hid hD
        clear hD hDD
        go_wp2_with fail
        refine (HD.out _).mono ?_
        rintro e w2 ⟨rfl, hb2⟩
        obtain ⟨hc2, hf2⟩ := bcell hb2
        have c0 := (hc2 _ _ (by omega)).trans c0
        have c1 := (hc2 _ _ (by omega)).trans c1
        have c2 := (hc2 _ _ (by omega)).trans c2
        have hw0 := Below.trans hw0 (hb2.mono (by omega))
        have hz := Nat.lt_of_lt_of_le hz hb2.size
        clear hc2 hf2 hb2
        go_wp2
        go_roundw
        case rel =>
          refine ⟨2 + 1, (if 0 < 2 then L ++ [46] else L) ++ D, by omega, by go_num, ?_, ?_, ?_, hw0, hz, c0, c1, c2⟩
          · have := HL.out
            simp; omega
          · first | exact congrArg Value.string (ba_app _ _) | exact congrArg Value.string ((congrArg (· ++ _) (ba_app L [46])).trans (ba_app _ _))
          · refine Lib.hid ?_
            rw [HN.out, HDD.out]
            rfl
        case measure => simp [intOf]
      ·
        have hrb := rbyte3 hi ha
        have hD := rdec_any (byteAt hi 3) (by have := byteAt_le hi 3; omega)
        have hDl := dec_len _ (byteAt_le hi 3)
        have hb255 := byteAt_le hi 3
        have hl4 : L.length ≤ 4 * 3 := hl
        have hl5 : L.length ≤ 12 := by omega
        have HL := Lib.hid hl4
        have hsz : (⟨L.toArray⟩ : ByteArray).size ≤ 12 := by show L.toArray.size ≤ 12; simpa using hl5
        clear hl hl4
        obtain ⟨D, hDD⟩ : ∃ D, D = Lib.decDigits (byteAt hi 3) := ⟨_, rfl⟩
        rw [← hDD] at hD hDl
        have HDD := Lib.hid hDD
        have HD := Lib.hid hD
        clear hD hDD
        go_wp2_with fail
        refine (HD.out _).mono ?_
        rintro e w2 ⟨rfl, hb2⟩
        obtain ⟨hc2, hf2⟩ := bcell hb2
        have c0 := (hc2 _ _ (by omega)).trans c0
        have c1 := (hc2 _ _ (by omega)).trans c1
        have c2 := (hc2 _ _ (by omega)).trans c2
        have hw0 := Below.trans hw0 (hb2.mono (by omega))
        have hz := Nat.lt_of_lt_of_le hz hb2.size
        clear hc2 hf2 hb2
        go_wp2
        go_roundw
        case rel =>
          refine ⟨3 + 1, (if 0 < 3 then L ++ [46] else L) ++ D, by omega, by go_num, ?_, ?_, ?_, hw0, hz, c0, c1, c2⟩
          · have := HL.out
            simp; omega
          · first | exact congrArg Value.string (ba_app _ _) | exact congrArg Value.string ((congrArg (· ++ _) (ba_app L [46])).trans (ba_app _ _))
          · refine Lib.hid ?_
            rw [HN.out, HDD.out]
            rfl
        case measure => simp [intOf]
    · obtain rfl : k = 4 := by omega
      have hD := rdec_any n.toNat (by omega)
      rw [show ((n.toNat : Nat) : Int) = n by omega] at hD
      have hDl := dec_len n.toNat (by omega)
      have hfin : (⟨L.toArray⟩ ++ ⟨#[47]⟩ ++ ⟨(Lib.decDigits n.toNat).toArray⟩ : ByteArray) = ⟨(showL hi n.toNat).toArray⟩ := by
        rw [show (⟨#[47]⟩ : ByteArray) = ⟨([47] : List UInt8).toArray⟩ from rfl, ba_app, ba_app, HN.out, dotPre_end]
      have hl16 : L.length ≤ 16 := hl
      have hsz : (⟨L.toArray⟩ : ByteArray).size ≤ 16 := by show L.toArray.size ≤ 16; simpa using hl16
      have hsd : (⟨(Lib.decDigits n.toNat).toArray⟩ : ByteArray).size ≤ 3 := by show (Lib.decDigits n.toNat).toArray.size ≤ 3; simpa using hDl
      generalize (⟨(Lib.decDigits n.toNat).toArray⟩ : ByteArray) = D at hD hfin hsd
      have HF := Lib.hid hfin
      have HD := Lib.hid hD
      clear hD hfin hl hDl HN
      go_wp2_with fail
      refine (HD.out _).mono ?_
      rintro e w2 ⟨rfl, hb2⟩
      obtain ⟨hc2, hf2⟩ := bcell hb2
      have c0 := (hc2 _ _ (by omega)).trans c0
      have c1 := (hc2 _ _ (by omega)).trans c1
      have c2 := (hc2 _ _ (by omega)).trans c2
      have hw0 := Below.trans hw0 (hb2.mono (by omega))
      have hz := Nat.lt_of_lt_of_le hz hb2.size
      clear hc2 hf2 hb2
      go_wp2
      go_ret
      exact ⟨ret_str HF.out, hw0⟩

set_option maxHeartbeats 400000 in
theorem rshow_any (hi lo : Nat) (n : Int) (ha : W64 hi) (hb : W64 lo) :
    Gives Tryd.prog 11 #[.agg #[.int .u64 hi, .int .u64 lo, .int .i64 n]] (.string ⟨(showC hi lo n).toArray⟩) := by
  by_cases hr : rightB hi lo n = true
  · by_cases h32 : n ≤ 32
    · have h0 : 0 ≤ n := ((rightB_iff hi lo n).1 hr).1
      have : showC hi lo n = showL hi n.toNat := by unfold showC; rw [if_pos ⟨hr, h32⟩]
      rw [this]
      exact rshow_go hi lo n ha hb h0 h32 hr
    · have : showC hi lo n = [] := by unfold showC; rw [if_neg (by simp [h32])]
      rw [this]
      intro w
      have hrr := rright_any hi lo n ha hb
      rw [hr] at hrr
      have HR := Lib.hid hrr
      clear hrr hr this
      have d32 : decide (32 < n) = true := by simpa using h32
      go_enter Tryd.func11, Tryd.ntmps11
      go_wp2_with fail
      refine (HR.out _).mono ?_
      rintro e w1 ⟨rfl, hb1⟩
      have hk1 : Below w.heap.size w w1 := Below.trans (by go_grown) (hb1.mono (by go_size))
      have c2 : w1.cell? ⟨w.heap.size, 2, none⟩ = some (.int .i64 n) := by
        rw [hb1.cell (by simp <;> omega)]
        first | assumption | (simp [go_sem]; done) | (simp [go_sem, *]; done)
      clear hb1
      go_wp2
      go_ret
      exact ⟨rfl, hk1⟩
  · have hr' : rightB hi lo n = false := by simpa using hr
    have : showC hi lo n = [] := by unfold showC; rw [if_neg (by simp [hr'])]
    rw [this]
    intro w
    have hrr := rright_any hi lo n ha hb
    rw [hr'] at hrr
    have HR := Lib.hid hrr
    clear hrr hr this hr'
    go_enter Tryd.func11, Tryd.ntmps11
    go_wp2_with fail
    refine (HR.out _).mono ?_
    rintro e w1 ⟨rfl, hb1⟩
    have hk1 : Below w.heap.size w w1 := Below.trans (by go_grown) (hb1.mono (by go_size))
    clear hb1
    go_wp2
    go_ret
    exact ⟨rfl, hk1⟩
end Go.Proofs.YtmcageenjlbacaaDoor
