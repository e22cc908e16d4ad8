/-
  What cidr.Show hands back: by plain lists. It asks that the library's table of powers of ten reads as its initialiser lays it.
-/
import Derived.Test.YtmcageenjlbacaaDoorW2b
import Derived.Lib.AppendStr
import Derived.Laws.BytesString
import Derived.Laws.IdiomStrings
import Derived.Laws.BytesArg
set_option linter.unusedSimpArgs false
set_option linter.unusedVariables false
namespace Go.Proofs.YtmcageenjlbacaaDoor
open Go.RowKit Go.Sort M

/-- The table of powers of ten, in this world and in all that leave what is below block B. -/
abbrev Tens (B : Nat) (w : World) : Prop := Lib.TabBelow Tryd.prog B w "internal/strconv.uint64pow10" .u64 Lib.pow10Tab
theorem Tens.mono {B B' : Nat} {w : World} (h : Tens B w) (hB : B ≤ B') : Tens B' w := fun w' hb => h w' (hb.mono hB)
set_option maxHeartbeats 400000 in
theorem appu_any (B n u : Nat) (hu : W64 u) (sv : Value) (xs : List Value) (w : World) (hown : w.ownsRow B 5 1 sv n xs) (hB : B ≤ w.heap.size) (hlim : n + 20 ≤ 140737488355328) (ht : Tens B w) :
    Calls Tryd.prog 20 #[sv, .int .u64 u, .int .i64 10] w fun e w' => ∃ v', e = .returned v' ∧ w'.ownsRow B 5 1 v' (n + (Lib.decDigits u).length) (xs ++ Lib.byteCells (Lib.decDigits u)) ∧ Below B w w' ∧ Lib.OthersKept 5 none w w' := by
  have h := Tryd.internal_strconv_AppendUint_10 B n u hu.lt sv xs w hown hB hlim ht.here
  have HI := Lib.hid h
  clear h ht hu
  go_enter Tryd.func20, Tryd.ntmps20
  go_wp2_with fail
  refine HI.out.mono ?_
  rintro e w1 ⟨v', rfl, ho, hb, hk⟩
  go_wp2
  go_ret
  exact ⟨_, rfl, ho, hb, hk⟩
/-- The text up to number k. -/
def showPre (hi : Nat) : Nat → List UInt8
  | 0 => []
  | k + 1 => showPre hi k ++ (Lib.decDigits (byteAt hi k) ++ [markB k])
theorem dec_len (u : Nat) (h : u ≤ 255) : (Lib.decDigits u).length ≤ 3 := by
  rw [Lib.decDigits_length]
  by_cases h1 : u < 10
  · rw [Lib.nDigits_small h1]; omega
  · rw [Lib.nDigits_big h1]
    by_cases h2 : u / 10 < 10
    · rw [Lib.nDigits_small h2]; omega
    · rw [Lib.nDigits_big h2, Lib.nDigits_small (by omega)]; omega
theorem showPre_len (hi k : Nat) : (showPre hi k).length ≤ 4 * k := by
  induction k with
  | zero => simp [showPre]
  | succ k ih =>
    have := dec_len _ (byteAt_le hi k)
    simp [showPre]; omega
theorem showPre_end (hi n : Nat) : showPre hi 4 ++ Lib.decDigits n = showL hi n := by
  simp [showPre, showL, markB]
theorem and255 (x : Nat) (hx : x < 18446744073709551616) : bits BinOp.and IntKind.u64 (x : Int) 255 = ((x % 256 : Nat) : Int) := by
  rw [show (255 : Int) = ((255 : Nat) : Int) from rfl, bits_and_u64_nat _ _ hx (by decide)]
  have := Nat.and_two_pow_sub_one_eq_mod x 8
  rw [show 2 ^ 8 - 1 = 255 from rfl] at this
  rw [this]

theorem byte0 (hi : Nat) (h : W64 hi) : bits BinOp.and IntKind.u64 ((hi : Int) / 4294967296 / 16777216) 255 = (byteAt hi 0 : Int) := by
  have h := h.lt
  rw [show (hi : Int) / 4294967296 / 16777216 = ((hi / 2 ^ 56 : Nat) : Int) by omega, and255 _ (by omega)]; rfl
theorem byte1 (hi : Nat) (h : W64 hi) : bits BinOp.and IntKind.u64 ((hi : Int) / 4294967296 / 65536) 255 = (byteAt hi 1 : Int) := by
  have h := h.lt
  rw [show (hi : Int) / 4294967296 / 65536 = ((hi / 2 ^ 48 : Nat) : Int) by omega, and255 _ (by omega)]; rfl
theorem byte2 (hi : Nat) (h : W64 hi) : bits BinOp.and IntKind.u64 ((hi : Int) / 4294967296 / 256) 255 = (byteAt hi 2 : Int) := by
  have h := h.lt
  rw [show (hi : Int) / 4294967296 / 256 = ((hi / 2 ^ 40 : Nat) : Int) by omega, and255 _ (by omega)]; rfl
theorem byte3 (hi : Nat) (h : W64 hi) : bits BinOp.and IntKind.u64 ((hi : Int) / 4294967296) 255 = (byteAt hi 3 : Int) := by
  have h := h.lt
  rw [show (hi : Int) / 4294967296 = ((hi / 2 ^ 32 : Nat) : Int) by omega, and255 _ (by omega)]; rfl
theorem infoB : (Tryd.prog.info? 5).map (fun i => (i.zero, i.size, i.bytes)) = some (some (.int .u8 0), 1, 1) := by kernel_rfl

theorem own_string {w : World} {B : Nat} {v : Value} {L D : List UInt8} (h : w.ownsRow B 5 1 v (L.length + D.length) (Lib.byteCells L ++ Lib.byteCells D)) :
    (convert 51 9 v).run Tryd.prog w = .ok (.string ⟨(L ++ D).toArray⟩) w := by
  rw [← Lib.byteCells_append, ← List.length_append] at h
  generalize L ++ D = X at h ⊢
  have hc := fun g hg => h.cells (g := g) hg
  rcases h.2 with ⟨rfl, h0⟩ | ⟨g, cap, cur, rfl, -, -, -, -, -, -⟩
  · obtain rfl : X = [] := List.eq_nil_of_length_eq_zero h0
    exact run_convert_bytes_nil w _ _ Tryd.underlying51 Tryd.underlying5 0 0 _ Tryd.underlying9
  · refine run_convert_bytes_back w _ _ _ ⟨g, 0, none⟩ cap X Tryd.underlying51 Tryd.underlying5 Tryd.underlying9 (fun j hj => ?_)
    refine hc g rfl j _ ?_
    simp [Lib.byteCells, List.getElem?_eq_getElem hj]
theorem append_small {n : Nat} (h : n ≤ 1000) : n ≤ maxLen := by unfold maxLen; omega
theorem append_small' {n : Nat} (h : n ≤ 1000) : n ≤ 140737488355328 := by omega
theorem own_text {B n : Nat} {e : TypeId} {v : Value} {L D : List UInt8} {x : UInt8} {w : World} (hn : n = (L ++ (D ++ [x])).length)
    (h : w.ownsRow B e 1 v n (Lib.byteCells L ++ (Lib.byteCells D ++ Lib.strCells ⟨#[x]⟩))) : w.ownsRow B e 1 v (L ++ (D ++ [x])).length (Lib.byteCells (L ++ (D ++ [x]))) := by
  subst hn
  have e1 : Lib.byteCells (L ++ (D ++ [x])) = Lib.byteCells L ++ (Lib.byteCells D ++ Lib.strCells ⟨#[x]⟩) := by
    rw [Lib.strCells_eq, Lib.byteCells_append, Lib.byteCells_append]
  rw [e1]
  exact h
set_option maxHeartbeats 1000000 in
theorem cshow_go (hi lo : Nat) (n : Int) (ha : W64 hi) (hb : W64 lo) (h0 : 0 ≤ n) (h32 : n ≤ 32) (hr : rightB hi lo n = true) (w : World) (ht : Tens w.heap.size w) :
    Calls Tryd.prog 10 #[.agg #[.int .u64 hi, .int .u64 lo, .int .i64 n]] w fun e w' => e = .returned (.string ⟨(showL hi n.toNat).toArray⟩) ∧ Below w.heap.size w w' := by
  have hrr := right_any hi lo n ha hb
  rw [hr] at hrr
  have HR := Lib.hid hrr
  have HT := Lib.hid ht
  clear hrr hr ht
  obtain ⟨i0, hi0, iz0, iz1, iz2⟩ := info_parts infoB
  go_enter Tryd.func10, Tryd.ntmps10
  go_wp2_with fail
  refine (HR.out _).mono ?_
  rintro e w1 ⟨rfl, hb1⟩
  have hk1 : Below w.heap.size w w1 := Below.trans (by go_grown) (hb1.mono (by go_size))
  have c0 : w1.cell? ⟨w.heap.size, 0, none⟩ = some (.int .u64 hi) := by
    rw [hb1.cell (by simp <;> omega)]
    first | assumption | (simp [go_sem]; done) | (simp [go_sem, *]; done)
  have c1 : w1.cell? ⟨w.heap.size, 1, none⟩ = some (.int .u64 lo) := by
    rw [hb1.cell (by simp <;> omega)]
    first | assumption | (simp [go_sem]; done) | (simp [go_sem, *]; done)
  have c2 : w1.cell? ⟨w.heap.size, 2, none⟩ = some (.int .i64 n) := by
    rw [hb1.cell (by simp <;> omega)]
    first | assumption | (simp [go_sem]; done) | (simp [go_sem, *]; done)
  have hz : w.heap.size < w1.heap.size := by have := hb1.size; simp at this; omega
  clear hb1
  have d32 : decide (32 < n) = false := by simpa using h32
  go_wp2
  go_loopw [3, 18] (fun v i wr => ∃ (k : Nat) (L : List UInt8), k ≤ 4 ∧ i = .int .i64 k ∧ L.length ≤ 4 * k ∧ Hid (L = showPre hi k) ∧ wr.ownsRow (w.heap.size + 1) 5 1 v L.length (Lib.byteCells L) ∧
      Below w.heap.size w wr ∧ w.heap.size < wr.heap.size ∧
      wr.cell? ⟨w.heap.size, 0, none⟩ = some (.int .u64 hi) ∧ wr.cell? ⟨w.heap.size, 1, none⟩ = some (.int .u64 lo) ∧ wr.cell? ⟨w.heap.size, 2, none⟩ = some (.int .i64 n)) (fun _ i _ => 4 - (intOf i).toNat)
  case atStart => exact ⟨0, [], by omega, rfl, by simp, Lib.hid rfl, World.ownsRow_nil _ _ _ _, hk1, hz, c0, c1, c2⟩
  case round =>
    clear hk1 hz c0 c1 c2
    obtain ⟨k, L, hk, rfl, hl, HN, hown, hw0, hz, c0, c1, c2⟩ := hrel
    have hT : Hid (Tens (w.heap.size + 1) wr) := Lib.hid (Tens.mono (HT.out.on hw0) (by omega))
    by_cases hlt : k < 4
    · obtain rfl | rfl | rfl | rfl : k = 0 ∨ k = 1 ∨ k = 2 ∨ k = 3 := by omega
      ·
        have hl4 : L.length ≤ 4 * 0 := hl
        have hl5 : L.length ≤ 12 := by omega
        have HL := Lib.hid hl4
        clear hl hl4
        have hap := fun sv xs w' h1 h2 h3 h4 => appu_any (w.heap.size + 1) L.length (byteAt hi 0) (W64.mk (Nat.lt_of_le_of_lt (byteAt_le hi 0) (by decide))) sv xs w' h1 h2 h3 h4
        have hmk := mark_any 0
        have hDl := dec_len _ (byteAt_le hi 0)
        obtain ⟨D, hD⟩ : ∃ D, D = Lib.decDigits (byteAt hi 0) := ⟨_, rfl⟩
        rw [← hD] at hap hDl
        have HAP := Lib.hid hap
        have HMK := Lib.hid hmk
        have HD := Lib.hid hD
        clear hap hmk hD
        go_wp2_with fail
        rw [byte0 hi ha]
        refine (HAP.out _ _ _ hown (by omega) (by omega) hT.out).mono ?_
        rintro e w2 ⟨v2, rfl, hown2, hb2, -⟩
        have hw2 := Below.trans hw0 (hb2.mono (by omega))
        have hz2 := Nat.lt_of_lt_of_le hz hb2.size
        have c0 := (hb2.cell (p := ⟨w.heap.size, 0, none⟩) (by simp)).trans c0
        have c1 := (hb2.cell (p := ⟨w.heap.size, 1, none⟩) (by simp)).trans c1
        have c2 := (hb2.cell (p := ⟨w.heap.size, 2, none⟩) (by simp)).trans c2
        clear hown hb2 hw0 hz
        go_wp2_with fail
        refine (HMK.out _).mono ?_
        rintro e w3 ⟨rfl, rfl⟩
        go_wp2_with (at_builtin; go_loud (refine Lib.wpList_append_own_string _ rfl (.tmp 30) (.tmp 32) 51 9 rfl (w.heap.size + 1) 5 i0 Tryd.underlying51 Tryd.underlying9 hi0 iz0 iz1 iz2 _ _ _ rfl hown2 _ rfl (append_small (by show L.length + D.length + 1 ≤ 1000; omega)) (append_small' (by show L.length + D.length + 1 ≤ 1000; omega)) (by omega) ?_))
        intro v3 w3 hown3 hg3 _
        have hs : (L.length + D.length + 1) = (L ++ (D ++ [markB 0])).length := by simp; omega
        have hown4 := own_text (x := markB 0) hs hown3
        clear hown3 hs
        have hrow : ∀ j, v2.ownBlock = some j → w.heap.size + 1 ≤ j := fun j hj => (hown2.lt j hj).1
        have c0 := hg3.cell c0 (fun e => by have h : w.heap.size + 1 ≤ w.heap.size := hrow _ e.symm; omega)
        have c1 := hg3.cell c1 (fun e => by have h : w.heap.size + 1 ≤ w.heap.size := hrow _ e.symm; omega)
        have c2 := hg3.cell c2 (fun e => by have h : w.heap.size + 1 ≤ w.heap.size := hrow _ e.symm; omega)
        have hw3 := hw2.grown hg3 (by omega) (fun j hj => by have := hrow _ hj; omega)
        have hz3 := Nat.lt_of_lt_of_le hz2 hg3.size
        clear hw2 hz2 hg3 hown2 hrow
        go_wp2
        go_roundw
        case rel =>
          refine ⟨0 + 1, L ++ (D ++ [markB 0]), by omega, by go_num, ?_, ?_, hown4, hw3, hz3, c0, c1, c2⟩
          · have := HL.out; simp; omega
          · refine Lib.hid ?_
            show _ = showPre hi 0 ++ (Lib.decDigits (byteAt hi 0) ++ [markB 0])
            rw [HN.out, HD.out]
        case measure => simp [intOf]
      ·
        have hl4 : L.length ≤ 4 * 1 := hl
        have hl5 : L.length ≤ 12 := by omega
        have HL := Lib.hid hl4
        clear hl hl4
        have hap := fun sv xs w' h1 h2 h3 h4 => appu_any (w.heap.size + 1) L.length (byteAt hi 1) (W64.mk (Nat.lt_of_le_of_lt (byteAt_le hi 1) (by decide))) sv xs w' h1 h2 h3 h4
        have hmk := mark_any 1
        have hDl := dec_len _ (byteAt_le hi 1)
        obtain ⟨D, hD⟩ : ∃ D, D = Lib.decDigits (byteAt hi 1) := ⟨_, rfl⟩
        rw [← hD] at hap hDl
        have HAP := Lib.hid hap
        have HMK := Lib.hid hmk
        have HD := Lib.hid hD
        clear hap hmk hD
        go_wp2_with fail
        rw [byte1 hi ha]
        refine (HAP.out _ _ _ hown (by omega) (by omega) hT.out).mono ?_
        rintro e w2 ⟨v2, rfl, hown2, hb2, -⟩
        have hw2 := Below.trans hw0 (hb2.mono (by omega))
        have hz2 := Nat.lt_of_lt_of_le hz hb2.size
        have c0 := (hb2.cell (p := ⟨w.heap.size, 0, none⟩) (by simp)).trans c0
        have c1 := (hb2.cell (p := ⟨w.heap.size, 1, none⟩) (by simp)).trans c1
        have c2 := (hb2.cell (p := ⟨w.heap.size, 2, none⟩) (by simp)).trans c2
        clear hown hb2 hw0 hz
        go_wp2_with fail
        refine (HMK.out _).mono ?_
        rintro e w3 ⟨rfl, rfl⟩
        go_wp2_with (at_builtin; go_loud (refine Lib.wpList_append_own_string _ rfl (.tmp 30) (.tmp 32) 51 9 rfl (w.heap.size + 1) 5 i0 Tryd.underlying51 Tryd.underlying9 hi0 iz0 iz1 iz2 _ _ _ rfl hown2 _ rfl (append_small (by show L.length + D.length + 1 ≤ 1000; omega)) (append_small' (by show L.length + D.length + 1 ≤ 1000; omega)) (by omega) ?_))
        intro v3 w3 hown3 hg3 _
        have hs : (L.length + D.length + 1) = (L ++ (D ++ [markB 1])).length := by simp; omega
        have hown4 := own_text (x := markB 1) hs hown3
        clear hown3 hs
        have hrow : ∀ j, v2.ownBlock = some j → w.heap.size + 1 ≤ j := fun j hj => (hown2.lt j hj).1
        have c0 := hg3.cell c0 (fun e => by have h : w.heap.size + 1 ≤ w.heap.size := hrow _ e.symm; omega)
        have c1 := hg3.cell c1 (fun e => by have h : w.heap.size + 1 ≤ w.heap.size := hrow _ e.symm; omega)
        have c2 := hg3.cell c2 (fun e => by have h : w.heap.size + 1 ≤ w.heap.size := hrow _ e.symm; omega)
        have hw3 := hw2.grown hg3 (by omega) (fun j hj => by have := hrow _ hj; omega)
        have hz3 := Nat.lt_of_lt_of_le hz2 hg3.size
        clear hw2 hz2 hg3 hown2 hrow
        go_wp2
        go_roundw
        case rel =>
          refine ⟨1 + 1, L ++ (D ++ [markB 1]), by omega, by go_num, ?_, ?_, hown4, hw3, hz3, c0, c1, c2⟩
          · have := HL.out; simp; omega
          · refine Lib.hid ?_
            show _ = showPre hi 1 ++ (Lib.decDigits (byteAt hi 1) ++ [markB 1])
            rw [HN.out, HD.out]
        case measure => simp [intOf]
      ·
        have hl4 : L.length ≤ 4 * 2 := hl
        have hl5 : L.length ≤ 12 := by omega
        have HL := Lib.hid hl4
        clear hl hl4
        have hap := fun sv xs w' h1 h2 h3 h4 => appu_any (w.heap.size + 1) L.length (byteAt hi 2) (W64.mk (Nat.lt_of_le_of_lt (byteAt_le hi 2) (by decide))) sv xs w' h1 h2 h3 h4
        have hmk := mark_any 2
        have hDl := dec_len _ (byteAt_le hi 2)
        obtain ⟨D, hD⟩ : ∃ D, D = Lib.decDigits (byteAt hi 2) := ⟨_, rfl⟩
        rw [← hD] at hap hDl
        have HAP := Lib.hid hap
        have HMK := Lib.hid hmk
        have HD := Lib.hid hD
        clear hap hmk hD
        go_wp2_with fail
        rw [byte2 hi ha]
        refine (HAP.out _ _ _ hown (by omega) (by omega) hT.out).mono ?_
        rintro e w2 ⟨v2, rfl, hown2, hb2, -⟩
        have hw2 := Below.trans hw0 (hb2.mono (by omega))
        have hz2 := Nat.lt_of_lt_of_le hz hb2.size
        have c0 := (hb2.cell (p := ⟨w.heap.size, 0, none⟩) (by simp)).trans c0
        have c1 := (hb2.cell (p := ⟨w.heap.size, 1, none⟩) (by simp)).trans c1
        have c2 := (hb2.cell (p := ⟨w.heap.size, 2, none⟩) (by simp)).trans c2
        clear hown hb2 hw0 hz
        go_wp2_with fail
        refine (HMK.out _).mono ?_
        rintro e w3 ⟨rfl, rfl⟩
        go_wp2_with (at_builtin; go_loud (refine Lib.wpList_append_own_string _ rfl (.tmp 30) (.tmp 32) 51 9 rfl (w.heap.size + 1) 5 i0 Tryd.underlying51 Tryd.underlying9 hi0 iz0 iz1 iz2 _ _ _ rfl hown2 _ rfl (append_small (by show L.length + D.length + 1 ≤ 1000; omega)) (append_small' (by show L.length + D.length + 1 ≤ 1000; omega)) (by omega) ?_))
        intro v3 w3 hown3 hg3 _
        have hs : (L.length + D.length + 1) = (L ++ (D ++ [markB 2])).length := by simp; omega
        have hown4 := own_text (x := markB 2) hs hown3
        clear hown3 hs
        have hrow : ∀ j, v2.ownBlock = some j → w.heap.size + 1 ≤ j := fun j hj => (hown2.lt j hj).1
        have c0 := hg3.cell c0 (fun e => by have h : w.heap.size + 1 ≤ w.heap.size := hrow _ e.symm; omega)
        have c1 := hg3.cell c1 (fun e => by have h : w.heap.size + 1 ≤ w.heap.size := hrow _ e.symm; omega)
        have c2 := hg3.cell c2 (fun e => by have h : w.heap.size + 1 ≤ w.heap.size := hrow _ e.symm; omega)
        have hw3 := hw2.grown hg3 (by omega) (fun j hj => by have := hrow _ hj; omega)
        have hz3 := Nat.lt_of_lt_of_le hz2 hg3.size
        clear hw2 hz2 hg3 hown2 hrow
        go_wp2
        go_roundw
        case rel =>
          refine ⟨2 + 1, L ++ (D ++ [markB 2]), by omega, by go_num, ?_, ?_, hown4, hw3, hz3, c0, c1, c2⟩
          · have := HL.out; simp; omega
          · refine Lib.hid ?_
            show _ = showPre hi 2 ++ (Lib.decDigits (byteAt hi 2) ++ [markB 2])
            rw [HN.out, HD.out]
        case measure => simp [intOf]
      ·
        have hl4 : L.length ≤ 4 * 3 := hl
        have hl5 : L.length ≤ 12 := by omega
        have HL := Lib.hid hl4
        clear hl hl4
        have hap := fun sv xs w' h1 h2 h3 h4 => appu_any (w.heap.size + 1) L.length (byteAt hi 3) (W64.mk (Nat.lt_of_le_of_lt (byteAt_le hi 3) (by decide))) sv xs w' h1 h2 h3 h4
        have hmk := mark_any 3
        have hDl := dec_len _ (byteAt_le hi 3)
        obtain ⟨D, hD⟩ : ∃ D, D = Lib.decDigits (byteAt hi 3) := ⟨_, rfl⟩
        rw [← hD] at hap hDl
        have HAP := Lib.hid hap
        have HMK := Lib.hid hmk
        have HD := Lib.hid hD
        clear hap hmk hD
        go_wp2_with fail
        rw [byte3 hi ha]
        refine (HAP.out _ _ _ hown (by omega) (by omega) hT.out).mono ?_
        rintro e w2 ⟨v2, rfl, hown2, hb2, -⟩
        have hw2 := Below.trans hw0 (hb2.mono (by omega))
        have hz2 := Nat.lt_of_lt_of_le hz hb2.size
        have c0 := (hb2.cell (p := ⟨w.heap.size, 0, none⟩) (by simp)).trans c0
        have c1 := (hb2.cell (p := ⟨w.heap.size, 1, none⟩) (by simp)).trans c1
        have c2 := (hb2.cell (p := ⟨w.heap.size, 2, none⟩) (by simp)).trans c2
        clear hown hb2 hw0 hz
        go_wp2_with fail
        refine (HMK.out _).mono ?_
        rintro e w3 ⟨rfl, rfl⟩
        go_wp2_with (at_builtin; go_loud (refine Lib.wpList_append_own_string _ rfl (.tmp 30) (.tmp 32) 51 9 rfl (w.heap.size + 1) 5 i0 Tryd.underlying51 Tryd.underlying9 hi0 iz0 iz1 iz2 _ _ _ rfl hown2 _ rfl (append_small (by show L.length + D.length + 1 ≤ 1000; omega)) (append_small' (by show L.length + D.length + 1 ≤ 1000; omega)) (by omega) ?_))
        intro v3 w3 hown3 hg3 _
        have hs : (L.length + D.length + 1) = (L ++ (D ++ [markB 3])).length := by simp; omega
        have hown4 := own_text (x := markB 3) hs hown3
        clear hown3 hs
        have hrow : ∀ j, v2.ownBlock = some j → w.heap.size + 1 ≤ j := fun j hj => (hown2.lt j hj).1
        have c0 := hg3.cell c0 (fun e => by have h : w.heap.size + 1 ≤ w.heap.size := hrow _ e.symm; omega)
        have c1 := hg3.cell c1 (fun e => by have h : w.heap.size + 1 ≤ w.heap.size := hrow _ e.symm; omega)
        have c2 := hg3.cell c2 (fun e => by have h : w.heap.size + 1 ≤ w.heap.size := hrow _ e.symm; omega)
        have hw3 := hw2.grown hg3 (by omega) (fun j hj => by have := hrow _ hj; omega)
        have hz3 := Nat.lt_of_lt_of_le hz2 hg3.size
        clear hw2 hz2 hg3 hown2 hrow
        go_wp2
        go_roundw
        case rel =>
          refine ⟨3 + 1, L ++ (D ++ [markB 3]), by omega, by go_num, ?_, ?_, hown4, hw3, hz3, c0, c1, c2⟩
          · have := HL.out; simp; omega
          · refine Lib.hid ?_
            show _ = showPre hi 3 ++ (Lib.decDigits (byteAt hi 3) ++ [markB 3])
            rw [HN.out, HD.out]
        case measure => simp [intOf]
    · obtain rfl : k = 4 := by omega
      have hai := fun sv xs w' h1 h2 h3 h4 => Tryd.strconv_AppendInt_10 (w.heap.size + 1) L.length n (by omega) (by omega) sv xs w' h1 h2 h3 h4
      have hit : Lib.itoa n = Lib.decDigits n.toNat := by unfold Lib.itoa; rw [if_neg (by omega)]
      have hfin : L ++ Lib.decDigits n.toNat = showL hi n.toNat := by rw [HN.out]; exact showPre_end hi _
      rw [hit] at hai
      generalize Lib.decDigits n.toNat = D at hai hfin
      have HAI := Lib.hid hai
      have HF := Lib.hid hfin
      clear hai hit hfin
      go_wp2_with fail
      refine (HAI.out _ _ _ hown (by omega) (by omega) hT.out).mono ?_
      rintro e w2 ⟨v2, rfl, hown2, hb2, -⟩
      have hcv := own_string hown2
      have hw2 := Below.trans hw0 (hb2.mono (by omega))
      rw [HF.out] at hcv
      go_wp2
      go_ret
      exact ⟨rfl, hw2⟩
set_option maxHeartbeats 400000 in
theorem cshow_any (hi lo : Nat) (n : Int) (ha : W64 hi) (hb : W64 lo) (w : World) (ht : Tens w.heap.size w) :
    Calls Tryd.prog 10 #[.agg #[.int .u64 hi, .int .u64 lo, .int .i64 n]] w fun e w' => e = .returned (.string ⟨(showC hi lo n).toArray⟩) ∧ Below w.heap.size w w' := by
  by_cases hr : rightB hi lo n = true
  · by_cases h32 : n ≤ 32
    · have h0 : 0 ≤ n := ((rightB_iff hi lo n).1 hr).1
      have : showC hi lo n = showL hi n.toNat := by unfold showC; rw [if_pos ⟨hr, h32⟩]
      rw [this]
      exact cshow_go hi lo n ha hb h0 h32 hr w ht
    · have : showC hi lo n = [] := by unfold showC; rw [if_neg (by simp [h32])]
      rw [this]
      have hrr := right_any hi lo n ha hb
      rw [hr] at hrr
      have HR := Lib.hid hrr
      clear hrr hr ht this
      have d32 : decide (32 < n) = true := by simpa using h32
      go_enter Tryd.func10, Tryd.ntmps10
      go_wp2_with fail
      refine (HR.out _).mono ?_
      rintro e w1 ⟨rfl, hb1⟩
      have hk1 : Below w.heap.size w w1 := Below.trans (by go_grown) (hb1.mono (by go_size))
      have c2 : w1.cell? ⟨w.heap.size, 2, none⟩ = some (.int .i64 n) := by
        rw [hb1.cell (by simp <;> omega)]
        first | assumption | (simp [go_sem]; done) | (simp [go_sem, *]; done)
      clear hb1
      go_wp2
      go_ret
      exact ⟨rfl, hk1⟩
  · have hr' : rightB hi lo n = false := by simpa using hr
    have : showC hi lo n = [] := by unfold showC; rw [if_neg (by simp [hr'])]
    rw [this]
    have hrr := right_any hi lo n ha hb
    rw [hr'] at hrr
    have HR := Lib.hid hrr
    clear hrr hr ht this hr'
    go_enter Tryd.func10, Tryd.ntmps10
    go_wp2_with fail
    refine (HR.out _).mono ?_
    rintro e w1 ⟨rfl, hb1⟩
    have hk1 : Below w.heap.size w w1 := Below.trans (by go_grown) (hb1.mono (by go_size))
    clear hb1
    go_wp2
    go_ret
    exact ⟨rfl, hk1⟩
end Go.Proofs.YtmcageenjlbacaaDoor
