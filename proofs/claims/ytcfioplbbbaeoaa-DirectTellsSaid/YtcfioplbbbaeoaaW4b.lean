/-
  What spread.Keys hands back: a new row of prefixes. No condition but that the words are words of 64 bits.
-/
import Derived.Test.YtcfioplbbbaeoaaW12b
import Derived.Test.YtcfioplbbbaeoaaM4
import Derived.Test.YtcfioplbbbaeoaaM11
/-
  What package spread's raise and Count hand back. No condition but that the words are words of 64 bits.
-/
set_option linter.unusedSimpArgs false
set_option linter.unusedVariables false
namespace Go.Proofs.Ytcfioplbbbaeoaa
open Go.RowKit Go.Sort M

theorem wrap_mod (x : Nat) : IntKind.u64.wrap (x : Int) = ((x % 2 ^ 64 : Nat) : Int) := by
  rw [IntKind.wrap_u64]; omega
theorem wrap_shl (x : Nat) (i : Int) (j : Nat) (h : i.toNat = j) : IntKind.u64.wrap ((x : Int) * 2 ^ i.toNat) = ((x * 2 ^ j % 2 ^ 64 : Nat) : Int) := by
  have e : ((x : Int) * 2 ^ i.toNat) = ((x * 2 ^ j : Nat) : Int) := by rw [h, Int.natCast_mul, Int.natCast_pow]; rfl
  rw [e, wrap_mod]
theorem shr_nat (x : Nat) (i : Int) (j : Nat) (h : i.toNat = j) : ((x : Int) / 2 ^ i.toNat) = ((x / 2 ^ j : Nat) : Int) := by
  rw [h, Int.natCast_ediv, Int.natCast_pow]; rfl
set_option maxHeartbeats 400000 in
theorem raise_any (x : Nat) (k : Nat) (hk : k ≤ 128) :
    Gives Try.prog 37 #[.int .u64 (x : Int), .int .i64 (k : Int)] (.agg #[.int .u64 (raiseH x k : Nat), .int .u64 (raiseL x k : Nat)]) := by
  intro w
  obtain ⟨i, hi⟩ : ∃ i : Int, i = k := ⟨_, rfl⟩
  have HI := Lib.hid hi
  rw [← hi]
  have h0 : 0 ≤ i := by omega
  have h1 : i ≤ 128 := by omega
  clear hi
  by_cases h2 : 64 ≤ i
  · go_enter Try.func37, Try.ntmps37
    go_wp2
    refine bodyPost_ret (by simp [results, Try.results37, go_sem]; try rfl) rfl ?_
    have hk2 := HI.out
    have e1 : raiseH x k = x * 2 ^ (k - 64) % 2 ^ 64 := if_pos (by omega)
    have e2 : raiseL x k = 0 := if_pos (by omega)
    exact ⟨by rw [wrap_shl x (i - 64) (k - 64) (by omega), e1, e2]; rfl, by go_grown⟩
  · go_enter Try.func37, Try.ntmps37
    go_wp2
    go_region
    all_goals go_wp2
    all_goals
      refine bodyPost_ret (by simp [results, Try.results37, go_sem]; try rfl) rfl ?_
      have hk2 := HI.out
      have e1 : raiseH x k = x / 2 ^ (64 - k) := if_neg (by omega)
      have e2 : raiseL x k = x * 2 ^ k % 2 ^ 64 := if_neg (by omega)
      exact ⟨by rw [wrap_shl x i k (by omega), shr_nat x (64 - i) (64 - k) (by omega), e1, e2], by go_grown⟩

def cntN (h l : Nat) (n m : Int) : Nat := if rightB h l n = true ∧ n ≤ m ∧ m ≤ 128 ∧ m - n ≤ 8 then 2 ^ (m - n).toNat else 0
theorem cnt_none {h l : Nat} {n m : Int} (hc : ¬ (rightB h l n = true ∧ n ≤ m ∧ m ≤ 128 ∧ m - n ≤ 8)) : cntN h l n m = 0 := if_neg hc
theorem cnt_some {h l : Nat} {n m : Int} (hc : rightB h l n = true ∧ n ≤ m ∧ m ≤ 128 ∧ m - n ≤ 8) : cntN h l n m = 2 ^ (m - n).toNat := if_pos hc
theorem cnt_le (h l : Nat) (n m : Int) : cntN h l n m ≤ 256 := by
  unfold cntN
  split
  · rename_i hc
    exact Nat.pow_le_pow_right (by decide) (by omega : (m - n).toNat ≤ 8)
  · omega
theorem shr256 (d : Nat) (h : 9 ≤ d) : ((256 : Int) / 2 ^ d) = 0 := by
  have : (256 : Nat) / 2 ^ d = 0 := Nat.div_eq_of_lt (Nat.lt_of_lt_of_le (by decide : 256 < 2 ^ 9) (Nat.pow_le_pow_right (by decide) h))
  have e : ((256 : Int) / 2 ^ d) = ((256 / 2 ^ d : Nat) : Int) := by rw [Int.natCast_ediv, Int.natCast_pow]; rfl
  rw [e, this]; rfl
theorem shr256_ne (d : Nat) (h : d ≤ 8) : ((256 : Int) / 2 ^ d == 0) = false := by
  rcases (show d = 0 ∨ d = 1 ∨ d = 2 ∨ d = 3 ∨ d = 4 ∨ d = 5 ∨ d = 6 ∨ d = 7 ∨ d = 8 by omega) with rfl | rfl | rfl | rfl | rfl | rfl | rfl | rfl | rfl <;> rfl
theorem shl_small (d : Nat) (h : d ≤ 8) : wrap64 (2 ^ d) = ((2 ^ d : Nat) : Int) := by
  rcases (show d = 0 ∨ d = 1 ∨ d = 2 ∨ d = 3 ∨ d = 4 ∨ d = 5 ∨ d = 6 ∨ d = 7 ∨ d = 8 by omega) with rfl | rfl | rfl | rfl | rfl | rfl | rfl | rfl | rfl <;> (unfold wrap64; decide +kernel)
set_option maxHeartbeats 1000000 in
theorem count_any (hi lo : Nat) (n m : Int) (ha : W64 hi) (hb : W64 lo) :
    Gives Try.prog 36 #[.agg #[.int .u64 hi, .int .u64 lo, .int .i64 n], .int .i64 m] (.int .i64 (cntN hi lo n m : Nat)) := by
  intro w
  have hr := right_any hi lo n ha hb
  have hrv := rightB_val hi lo n hb
  cases hR : rightB hi lo n
  · rw [hR] at hr
    rw [cnt_none (by simp [hR])]
    have HR := Lib.hid hr
    clear hr hrv hR
    go_enter Try.func36, Try.ntmps36
    go_wp2_with fail
    refine (HR.out _).mono ?_
    rintro e0 w0 ⟨rfl, hb0⟩
    have hw0 : Below w.heap.size w w0 := by
      refine Below.trans ?_ (hb0.mono ?_)
      · go_grown
      · go_size
    have c2 : w0.cell? ⟨w.heap.size, 2, none⟩ = some (.int .i64 n) := by
      rw [hb0.cell (by simp <;> omega)]
      first | assumption | (simp [go_sem]; done) | (simp [go_sem, *]; done)
    go_wp2
    all_goals
      go_ret
      exact ⟨rfl, by go_grown⟩
  · rw [hR] at hr hrv
    have HR := Lib.hid hr
    obtain ⟨n0, n1, -⟩ := hrv.1 rfl
    clear hr hrv
    by_cases h1 : n ≤ m
    · have d1 : decide (m < n) = false := by simp; omega
      by_cases h2 : m ≤ 128
      · have d2 : decide (128 < m) = false := by simp; omega
        by_cases h3 : m - n ≤ 8
        · rw [cnt_some ⟨hR, h1, h2, h3⟩]
          clear hR
          have s0 := shr256_ne (m - n).toNat (by omega)
          go_enter Try.func36, Try.ntmps36
          go_wp2_with fail
          refine (HR.out _).mono ?_
          rintro e0 w0 ⟨rfl, hb0⟩
          have hw0 : Below w.heap.size w w0 := by
            refine Below.trans ?_ (hb0.mono ?_)
            · go_grown
            · go_size
          have c2 : w0.cell? ⟨w.heap.size, 2, none⟩ = some (.int .i64 n) := by
            rw [hb0.cell (by simp <;> omega)]
            first | assumption | (simp [go_sem]; done) | (simp [go_sem, *]; done)
          go_wp2
          go_ret
          exact ⟨ret_num (shl_small _ (by omega)), by go_grown⟩
        · rw [cnt_none (by omega)]
          clear hR
          have s0 := shr256 (min (m - n).toNat 64) (by omega)
          go_enter Try.func36, Try.ntmps36
          go_wp2_with fail
          refine (HR.out _).mono ?_
          rintro e0 w0 ⟨rfl, hb0⟩
          have hw0 : Below w.heap.size w w0 := by
            refine Below.trans ?_ (hb0.mono ?_)
            · go_grown
            · go_size
          have c2 : w0.cell? ⟨w.heap.size, 2, none⟩ = some (.int .i64 n) := by
            rw [hb0.cell (by simp <;> omega)]
            first | assumption | (simp [go_sem]; done) | (simp [go_sem, *]; done)
          go_wp2
          all_goals
            go_ret
            exact ⟨rfl, by go_grown⟩
      · rw [cnt_none (by omega)]
        clear hR
        go_enter Try.func36, Try.ntmps36
        go_wp2_with fail
        refine (HR.out _).mono ?_
        rintro e0 w0 ⟨rfl, hb0⟩
        have hw0 : Below w.heap.size w w0 := by
          refine Below.trans ?_ (hb0.mono ?_)
          · go_grown
          · go_size
        have c2 : w0.cell? ⟨w.heap.size, 2, none⟩ = some (.int .i64 n) := by
          rw [hb0.cell (by simp <;> omega)]
          first | assumption | (simp [go_sem]; done) | (simp [go_sem, *]; done)
        go_wp2
        all_goals
          go_ret
          exact ⟨rfl, by go_grown⟩
    · rw [cnt_none (by omega)]
      clear hR
      go_enter Try.func36, Try.ntmps36
      go_wp2_with fail
      refine (HR.out _).mono ?_
      rintro e0 w0 ⟨rfl, hb0⟩
      have hw0 : Below w.heap.size w w0 := by
        refine Below.trans ?_ (hb0.mono ?_)
        · go_grown
        · go_size
      have c2 : w0.cell? ⟨w.heap.size, 2, none⟩ = some (.int .i64 n) := by
        rw [hb0.cell (by simp <;> omega)]
        first | assumption | (simp [go_sem]; done) | (simp [go_sem, *]; done)
      go_wp2
      all_goals
        go_ret
        exact ⟨rfl, by go_grown⟩
end Go.Proofs.Ytcfioplbbbaeoaa
/-
  What spread.Keys hands back: a new row of prefixes. No condition but that the words are words of 64 bits.
-/
set_option linter.unusedSimpArgs false
set_option linter.unusedVariables false
namespace Go.Proofs.Ytcfioplbbbaeoaa
open Go.RowKit Go.Sort M

/-- The keys of a prefix, to m bits. -/
def keysV (h l : Nat) (n m : Int) : List Pf := if rightB h l n = true ∧ n ≤ m ∧ m ≤ 128 ∧ m - n ≤ 8 then pfs (keysN (val h l) n.toNat m.toNat) m else []
theorem keysV_none {h l : Nat} {n m : Int} (hc : ¬ (rightB h l n = true ∧ n ≤ m ∧ m ≤ 128 ∧ m - n ≤ 8)) : keysV h l n m = [] := if_neg hc
theorem keysV_some {h l : Nat} {n m : Int} (hc : rightB h l n = true ∧ n ≤ m ∧ m ≤ 128 ∧ m - n ≤ 8) : keysV h l n m = pfs (keysN (val h l) n.toNat m.toNat) m := if_pos hc
theorem keysV_len (h l : Nat) (n m : Int) (b : W64 l) : (keysV h l n m).length = cntN h l n m := by
  unfold keysV cntN
  by_cases hc : rightB h l n = true ∧ n ≤ m ∧ m ≤ 128 ∧ m - n ≤ 8
  · rw [if_pos hc, if_pos hc, pfs_len, keys_len]
    obtain ⟨h0, -⟩ := (rightB_val h l n b).1 hc.1
    congr 1
    omega
  · rw [if_neg hc, if_neg hc]; rfl
/-- What a function that hands back a new row of prefixes does. -/
def GivesRow (f : FuncId) (args : Array Value) (L : List Pf) : Prop := ∀ w, Calls Try.prog f args w fun e w' => ∃ p c, e = .returned (.slice p L.length c) ∧ w'.ownsRow w.heap.size 41 3 (.slice p L.length c) L.length (pcs L) ∧ Below w.heap.size w w'
theorem infoP : (Try.prog.info? 41).map (fun i => (i.zero, i.size, i.bytes)) = some (some (.agg #[.int .u64 0, .int .u64 0, .int .i64 0]), 3, 24) := by kernel_rfl

theorem raiseH_w (x k : Nat) (h : x < 2 ^ 64) : W64 (raiseH x k) := by
  unfold raiseH W64
  split
  · exact Nat.mod_lt _ (by decide)
  · exact Nat.lt_of_le_of_lt (Nat.div_le_self _ _) h
theorem raiseL_w (x k : Nat) : W64 (raiseL x k) := by
  unfold raiseL W64
  split
  · decide
  · exact Nat.mod_lt _ (by decide)
theorem keysV_at {h l : Nat} {n m : Int} (hc : rightB h l n = true ∧ n ≤ m ∧ m ≤ 128 ∧ m - n ≤ 8) (b : W64 l) (k : Nat) (hk : k < (keysV h l n m).length) : (keysV h l n m)[k] = ⟨val h l + k * 2 ^ (128 - m.toNat), m⟩ := by
  have e := keysV_some hc
  have : (keysV h l n m)[k]? = some ⟨val h l + k * 2 ^ (128 - m.toNat), m⟩ := by
    rw [e]
    rw [e, pfs_len, keys_len] at hk
    simp [pfs, keysN, hk]
  rw [List.getElem?_eq_getElem hk] at this
  injection this
set_option maxHeartbeats 1000000 in
theorem keys_any (hi lo : Nat) (n m : Int) (ha : W64 hi) (hb : W64 lo) :
    GivesRow 27 #[.agg #[.int .u64 hi, .int .u64 lo, .int .i64 n], .int .i64 m] (keysV hi lo n m) := by
  intro w
  have hc := count_any hi lo n m ha hb
  have hl := keysV_len hi lo n m hb
  have hle := cnt_le hi lo n m
  obtain ⟨c, hcn⟩ : ∃ c, c = cntN hi lo n m := ⟨_, rfl⟩
  rw [← hcn] at hc hl hle
  have hmk := make_row (P := Try.prog) (t := 61) Try.underlying61 infoP c (by omega) (by unfold maxLen; omega)
  have HC := Lib.hid hc
  have HL := Lib.hid hl
  have HN := Lib.hid hcn
  clear hc hl hcn
  go_enter Try.func27, Try.ntmps27
  go_wp2_with fail
  refine (HC.out _).mono ?_
  rintro e0 w0 ⟨rfl, hb0⟩
  have hw0 : Below w.heap.size w w0 := by
    refine Below.trans ?_ (hb0.mono ?_)
    · go_grown
    · go_size
  have c0 : w0.cell? ⟨w.heap.size, 0, none⟩ = some (.int .u64 hi) := by
    rw [hb0.cell (by simp <;> omega)]
    first | assumption | (simp [go_sem]; done) | (simp [go_sem, *]; done)
  have c1 : w0.cell? ⟨w.heap.size, 1, none⟩ = some (.int .u64 lo) := by
    rw [hb0.cell (by simp <;> omega)]
    first | assumption | (simp [go_sem]; done) | (simp [go_sem, *]; done)
  obtain ⟨zs, hzs⟩ : ∃ zs, zs = (madeCells #[.int .u64 0, .int .u64 0, .int .i64 0] (c * 3)).toList := ⟨_, rfl⟩
  have hw0z : w.heap.size < w0.heap.size := by have := hb0.size; simp at this; omega
  have hown0 : (w0.alloc (.cells (madeCells #[.int .u64 0, .int .u64 0, .int .i64 0] (c * 3)) 41)).ownsRow w.heap.size 41 3 (.slice (some ⟨w0.heap.size, 0, none⟩) c c) c (madeCells #[.int .u64 0, .int .u64 0, .int .i64 0] (c * 3)).toList :=
    World.ownsRow_lit _ _ c (by omega) (by unfold maxLen; omega) (by simp [madeCells])
  go_wp2
  go_loopw [14] (fun i wr => ∃ (k : Nat) (xs : List Value), k ≤ c ∧ i = .int .i64 k ∧ wr.ownsRow w.heap.size 41 3 (.slice (some ⟨w0.heap.size, 0, none⟩) c c) c xs ∧ Hid (xs.take (k * 3) = pcs ((keysV hi lo n m).take k)) ∧
      Below w.heap.size w wr ∧ wr.cell? ⟨w.heap.size, 0, none⟩ = some (.int .u64 hi) ∧ wr.cell? ⟨w.heap.size, 1, none⟩ = some (.int .u64 lo)) (fun i _ => c - (intOf i).toNat)
  case atStart => exact ⟨0, _, Nat.zero_le _, rfl, hown0, Lib.hid (by simp [pcs]), by go_grown, by rw [World.cell?_alloc_lt _ _ _ hw0z]; exact c0, by rw [World.cell?_alloc_lt _ _ _ hw0z]; exact c1⟩
  case round =>
    clear hown0
    obtain ⟨k, xs, hk, rfl, hown, hxs, hw1, c0, c1⟩ := hrel
    by_cases hlt : k < c
    · have hcond : rightB hi lo n = true ∧ n ≤ m ∧ m ≤ 128 ∧ m - n ≤ 8 := by
        by_cases hx : rightB hi lo n = true ∧ n ≤ m ∧ m ≤ 128 ∧ m - n ≤ 8
        · exact hx
        · have := HN.out
          rw [cnt_none hx] at this
          omega
      obtain ⟨hr0, hr1, hr2⟩ := (rightB_val hi lo n hb).1 hcond.1
      obtain ⟨j, hj⟩ : ∃ j : Nat, (j : Int) = 128 - m := ⟨(128 - m).toNat, by omega⟩
      have hcv : c = 2 ^ (m.toNat - n.toNat) := by
        have := HN.out
        rw [cnt_some hcond] at this
        rw [this]; congr 1; omega
      obtain ⟨hkh, hkl, hkw⟩ := key_words (val hi lo) k n.toNat m.toNat (by omega) (by omega) (ha.val hb) hr2 (by omega)
      rw [hi_val hi lo hb, show 128 - m.toNat = j by omega] at hkh
      rw [lo_val hi lo hb, show 128 - m.toNat = j by omega] at hkl
      have hR := raise_any k j (by omega)
      rw [hj] at hR
      have o1 : bits BinOp.or IntKind.u64 (hi : Int) (raiseH k j : Nat) = ((hiW (val hi lo + k * 2 ^ j) : Nat) : Int) := by rw [bits_or_u64_nat _ _ ha.lt (raiseH_w k j (by omega)).lt, hkh]
      have o2 : bits BinOp.or IntKind.u64 (lo : Int) (raiseL k j : Nat) = ((loW (val hi lo + k * 2 ^ j) : Nat) : Int) := by rw [bits_or_u64_nat _ _ hb.lt (raiseL_w k j).lt, hkl]
      have hm0 : 0 ≤ m := by omega
      have hm1 : m ≤ 128 := by omega
      have HR := Lib.hid hR
      have HO := Lib.hid (And.intro hcond (And.intro hj hkw))
      clear hR hcond hj hkh hkl hkw hcv hr0 hr1 hr2
      go_wp2_with fail
      refine (HR.out _).mono ?_
      rintro e w1 ⟨rfl, hb1⟩
      have hz1 := hw1.size
      have hgz := (hown.lt w0.heap.size rfl).2
      have hgz1 : w0.heap.size < w1.heap.size := Nat.lt_of_lt_of_le hgz hb1.size
      have hown1 := own_below hown hb1
      have hw2 := hw1.trans (hb1.mono hz1)
      obtain ⟨hc1, -⟩ := bcell hb1
      have c0 := (hc1 _ _ (by omega)).trans c0
      have c1 := (hc1 _ _ (by omega)).trans c1
      have hxl : xs.length = c * 3 := hown1.1
      obtain ⟨v0, d0⟩ : ∃ v, w1.cell? ⟨w0.heap.size, k * 3, none⟩ = some v := ⟨_, (hown1.cellAt (k * 3) (by omega)).trans (List.getElem?_eq_getElem (by omega))⟩
      obtain ⟨v1, d1⟩ : ∃ v, w1.cell? ⟨w0.heap.size, k * 3 + 1, none⟩ = some v := ⟨_, (hown1.cellAt (k * 3 + 1) (by omega)).trans (List.getElem?_eq_getElem (by omega))⟩
      obtain ⟨v2, d2⟩ : ∃ v, w1.cell? ⟨w0.heap.size, k * 3 + 2, none⟩ = some v := ⟨_, (hown1.cellAt (k * 3 + 2) (by omega)).trans (List.getElem?_eq_getElem (by omega))⟩
      have f0 := hown1.frozenAt (k * 3)
      have f1 := hown1.frozenAt (k * 3 + 1)
      have f2 := hown1.frozenAt (k * 3 + 2)
      have HXL := Lib.hid hxl
      have hwz1 : w.heap.size < w1.heap.size := by omega
      clear hc1 hown hw1 hb1 hxl
      go_wp2
      go_roundw
      case rel =>
        have S := (store3 hown1 k (.int .u64 (hiW (val hi lo + k * 2 ^ j) : Nat)) (.int .u64 (loW (val hi lo + k * 2 ^ j) : Nat)) (.int .i64 m)).alloc (.cells #[.int .u64 (raiseH k j : Nat), .int .u64 (raiseL k j : Nat)] 25)
        refine ⟨k + 1, _, by omega, by go_num, S, Lib.hid ?_, by go_grown, ?_, ?_⟩
        · have hcl : k < (keysV hi lo n m).length := by rw [HL.out]; exact hlt
          rw [set3_take _ _ _ _ _ (by have := HXL.out; omega), hxs.out, List.take_succ_eq_append_getElem hcl, pcs_append, pcs_one, keysV_at HO.out.1 hb k hcl, show 128 - m.toNat = j by have := HO.out.2.1; omega]
          rfl
        · simp [go_sem, c0, c1, hwz1]
        · simp [go_sem, c0, c1, hwz1]
      case measure => simp [intOf]; omega
    · go_wp2
      go_ret
      have hL := HL.out
      have hx := hxs.out
      have hkc : k = c := by omega
      rw [List.take_of_length_le (by rw [hown.1, hkc]; exact Nat.le_refl _), List.take_of_length_le (by omega)] at hx
      refine ⟨some ⟨w0.heap.size, 0, none⟩, c, by rw [hL]; rfl, ?_, hw1⟩
      rw [hL, ← hx]
      exact hown
end Go.Proofs.Ytcfioplbbbaeoaa
