/-
  The given laws of chapter 4 as walks, continued: SpreadAll hands back true, for every input. No condition but that the words are words of 64 bits.
-/
import Derived.Test.YtjpgdcccnlnmfaaL4b
set_option linter.unusedSimpArgs false
set_option linter.unusedVariables false
namespace Go.Proofs.Ytjpgdcccnlnmfaa
open Go.RowKit Go.Sort M

/-- What the law asks of each key, and of all. -/
def KeyOk (x u : Nat) (n k : Int) (bh bl : Nat) (Z : List Nat) (f : Nat → Bool) : Prop :=
  ∀ i (h : i < Z.length), W128 Z[i] ∧ rightB (hiW Z[i]) (loW Z[i]) k = true ∧ hasB x u n (hiW Z[i]) (loW Z[i]) = true ∧ hasB (hiW Z[i]) (loW Z[i]) k bh bl = f Z[i] ∧
    ∀ (h0 : 0 < i), lessB (hiW (Z[i - 1]'(by omega))) (loW (Z[i - 1]'(by omega))) k (hiW Z[i]) (loW Z[i]) k = true
theorem all_facts (hi lo bh bl : Nat) (n m : Int) (ha : W64 hi) (hb : W64 lo) (hc : W64 bh) (hd : W64 bl) (h0 : 0 ≤ n) (h1 : 0 ≤ m) (h8 : m ≤ 8) (h2 : n + m ≤ 128) :
    ∃ (x u : Nat) (Z : List Nat) (f : Nat → Bool), x = cutW hi n.toNat ∧ u = cutW lo (n.toNat - 64) ∧ W64 x ∧ W64 u ∧ keysV x u n (n + m) = pfs Z (n + m) ∧ Z.length = 2 ^ m.toNat ∧ KeyOk x u n (n + m) bh bl Z f ∧ (Z.filter f).length = if hasB x u n bh bl = true then 1 else 0 := by
  have hx := ha.cut n.toNat
  have hu := hb.cut (n.toNat - 64)
  have hv := val_cut hi lo n.toNat hb (by omega)
  generalize cutW hi n.toNat = x at *
  generalize cutW lo (n.toNat - 64) = u at *
  have hVw : W128 (val x u) := hx.val hu
  have hdv : 2 ^ (128 - n.toNat) ∣ val x u := by rw [hv]; exact Nat.dvd_mul_left _ _
  have e1 := hi_val x u hu
  have e2 := lo_val x u hu
  have k3 := keysV_val (val x u) n m hVw (by omega) (by omega) (by omega) (by omega) hdv
  have hp := (pcond (val x u) n m hVw (by omega) (by omega) (by omega) (by omega) hdv).1
  rw [e1, e2] at k3 hp
  have hlen : (keysN (val x u) n.toNat (n + m).toNat).length = 2 ^ m.toNat := by rw [keys_len]; congr 1; omega
  refine ⟨x, u, _, fun z => decide (val bh bl / 2 ^ (128 - (n + m).toNat) = z / 2 ^ (128 - (n + m).toNat)), rfl, rfl, hx, hu, k3, hlen, ?_, ?_⟩
  · intro i hi'
    obtain ⟨hw, hdz⟩ := keys_w (val x u) n.toNat (n + m).toNat (by omega) (by omega) hVw hdv _ (List.getElem_mem hi')
    have hr : rightB (hiW (keysN (val x u) n.toNat (n + m).toNat)[i]) (loW (keysN (val x u) n.toNat (n + m).toNat)[i]) (n + m) = true := by
      rw [rightB_val _ _ _ W128.lo, val_hl]
      exact ⟨by omega, by omega, hdz⟩
    refine ⟨hw, hr, ?_, ?_, ?_⟩
    · rw [hasB_val _ _ _ _ _ hu W128.lo, val_hl, keys_at]
      refine ⟨hp, key_in _ _ _ _ (by omega) (by omega) hdv ?_⟩
      rw [← keys_len]; exact hi'
    · rw [Bool.eq_iff_iff, hasB_val _ _ _ _ _ W128.lo hd, val_hl, decide_eq_true_eq]
      exact ⟨fun h => h.2, fun h => ⟨hr, h⟩⟩
    · intro h00
      rw [lessB_val _ _ _ _ _ _ W128.lo W128.lo, val_hl, val_hl, keys_at, keys_at]
      left
      have : (i - 1) * 2 ^ (128 - (n + m).toNat) < i * 2 ^ (128 - (n + m).toNat) := Nat.mul_lt_mul_of_pos_right (by omega) (Nat.two_pow_pos _)
      omega
  · rw [keys_filter _ _ _ _ (by omega) (by omega) hdv]
    by_cases h : val bh bl / 2 ^ (128 - n.toNat) = val x u / 2 ^ (128 - n.toNat)
    · rw [if_pos h, if_pos ((hasB_val _ _ _ _ _ hu hd).2 ⟨hp, h⟩)]
    · rw [if_neg h, if_neg (fun e => h ((hasB_val _ _ _ _ _ hu hd).1 e).2)]
set_option maxRecDepth 100000 in
set_option maxHeartbeats 4000000 in
theorem spreadAll_walk (hi lo bh bl : Nat) (n m : Int) (ha : W64 hi) (hb : W64 lo) (hc : W64 bh) (hd : W64 bl) :
    Gives Try.prog 4 #[.agg #[.int .u64 hi, .int .u64 lo], .agg #[.int .u64 bh, .int .u64 bl], .int .i64 n, .int .i64 m] (.bool true) := by
  intro w
  have HA := Lib.hid alive4_any
  by_cases hv : 0 ≤ n ∧ 0 ≤ m ∧ m ≤ 8 ∧ n + m ≤ 128
  · obtain ⟨v0, v1, v2, v3⟩ := hv
    have hcut := rcut_any hi lo n ha hb
    obtain ⟨x, u, Z, f, ex, eu, wx, wu, ek, hl, hok, hcnt⟩ := all_facts hi lo bh bl n m ha hb hc hd v0 v1 v2 v3
    rw [← ex, ← eu] at hcut
    have h1 := keys_any x u n (n + m) wx wu
    rw [ek] at h1
    have hp := rhas_any x u n bh bl wx wu hc hd
    have hz : Z.length ≤ 256 := by rw [hl]; exact Nat.pow_le_pow_right (by decide) (by omega : m.toNat ≤ 8)
    have hsh : wrap64 (2 ^ m.toNat) = (Z.length : Int) := by rw [hl]; exact shl_small _ (by omega)
    have HC := Lib.hid hcut
    have H1 := Lib.hid h1
    have HP := Lib.hid hp
    have HOK := Lib.hid hok
    have HCNT := Lib.hid hcnt
    have HL := Lib.hid hl
    clear hcut h1 hp ex eu ek hok hcnt hl
    have v4 : n ≤ 128 - m := by omega
    have t1 : decide (n < 0) = false := by simp; omega
    have t2 : decide (m < 0) = false := by simp; omega
    have t3 : decide (8 < m) = false := by simp; omega
    have t4 : decide (128 - m < n) = false := by simp; omega
    go_enter Try.func4, Try.ntmps4
    go_wp2_with fail
    refine (HA.out _).mono ?_
    rintro e0 w0 ⟨rfl, hb0⟩
    have hw0 : Below w.heap.size w w0 := by
      refine Below.trans ?_ (hb0.mono ?_)
      · go_grown
      · go_size
    have c0 : w0.cell? ⟨w.heap.size, 0, none⟩ = some (.int .u64 hi) := by
      rw [hb0.cell (by simp <;> omega)]
      first | assumption | (simp [go_sem]; done) | (simp [go_sem, *]; done)
    have c1 : w0.cell? ⟨w.heap.size, 1, none⟩ = some (.int .u64 lo) := by
      rw [hb0.cell (by simp <;> omega)]
      first | assumption | (simp [go_sem]; done) | (simp [go_sem, *]; done)
    have b0 : w0.cell? ⟨w.heap.size + 1, 0, none⟩ = some (.int .u64 bh) := by
      rw [hb0.cell (by simp <;> omega)]
      first | assumption | (simp [go_sem]; done) | (simp [go_sem, *]; done)
    have b1 : w0.cell? ⟨w.heap.size + 1, 1, none⟩ = some (.int .u64 bl) := by
      rw [hb0.cell (by simp <;> omega)]
      first | assumption | (simp [go_sem]; done) | (simp [go_sem, *]; done)
    have z0 : w.heap.size + 1 < w0.heap.size := by
      have hs := hb0.size
      try simp only [World.size_alloc, World.size_setCell] at hs
      omega
    go_wp2_with fail
    refine (HC.out _).mono ?_
    rintro e1 w1 ⟨rfl, hb1⟩
    have hw1 : Below w.heap.size w w1 := by
      refine Below.trans ?_ (hb1.mono ?_)
      · go_grown
      · go_size
    have b0 : w1.cell? ⟨w.heap.size + 1, 0, none⟩ = some (.int .u64 bh) := by
      rw [hb1.cell (by simp <;> omega)]
      first | assumption | (simp [go_sem]; done) | (simp [go_sem, *]; done)
    have b1 : w1.cell? ⟨w.heap.size + 1, 1, none⟩ = some (.int .u64 bl) := by
      rw [hb1.cell (by simp <;> omega)]
      first | assumption | (simp [go_sem]; done) | (simp [go_sem, *]; done)
    have z1 : w.heap.size + 1 < w1.heap.size := by
      have hs := hb1.size
      try simp only [World.size_alloc, World.size_setCell] at hs
      omega
    go_wp2_with fail
    refine (H1.out _).mono ?_
    rintro e w2 ⟨p1, k1, rfl, hown1, hb2⟩
    have hw2 : Below w.heap.size w w2 := by
      refine Below.trans ?_ (hb2.mono ?_)
      · go_grown
      · go_size
    have d0 : w2.cell? ⟨w1.heap.size, 0, none⟩ = some (.int .u64 x) := by
      rw [hb2.cell (by simp <;> omega)]
      first | assumption | (simp [go_sem]; done) | (simp [go_sem, *]; done)
    have d1 : w2.cell? ⟨w1.heap.size, 1, none⟩ = some (.int .u64 u) := by
      rw [hb2.cell (by simp <;> omega)]
      first | assumption | (simp [go_sem]; done) | (simp [go_sem, *]; done)
    have d2 : w2.cell? ⟨w1.heap.size, 2, none⟩ = some (.int .i64 n) := by
      rw [hb2.cell (by simp <;> omega)]
      first | assumption | (simp [go_sem]; done) | (simp [go_sem, *]; done)
    have b0 : w2.cell? ⟨w.heap.size + 1, 0, none⟩ = some (.int .u64 bh) := by
      rw [hb2.cell (by simp <;> omega)]
      first | assumption | (simp [go_sem]; done) | (simp [go_sem, *]; done)
    have b1 : w2.cell? ⟨w.heap.size + 1, 1, none⟩ = some (.int .u64 bl) := by
      rw [hb2.cell (by simp <;> omega)]
      first | assumption | (simp [go_sem]; done) | (simp [go_sem, *]; done)
    have z2 : w1.heap.size < w2.heap.size := by
      have hs := hb2.size
      try simp only [World.size_alloc, World.size_setCell] at hs
      omega
    clear c0 c1 hb2
    rw [pfs_len] at *
    go_wp2
    clear hsh
    go_loopw [12, 13] (fun k i wr => ∃ (j c : Nat), j ≤ Z.length ∧ i = .int .i64 j ∧ k = .int .i64 c ∧ c ≤ j ∧ Hid (c = ((Z.take j).filter f).length) ∧ wr.ownsRow (w1.heap.size + 1) 26 3 (.slice p1 Z.length k1) Z.length (pcs (pfs Z (n + m))) ∧ Below w.heap.size w wr ∧ w1.heap.size < wr.heap.size ∧
        wr.cell? ⟨w1.heap.size, 0, none⟩ = some (.int .u64 x) ∧ wr.cell? ⟨w1.heap.size, 1, none⟩ = some (.int .u64 u) ∧ wr.cell? ⟨w1.heap.size, 2, none⟩ = some (.int .i64 n) ∧ wr.cell? ⟨w.heap.size + 1, 0, none⟩ = some (.int .u64 bh) ∧ wr.cell? ⟨w.heap.size + 1, 1, none⟩ = some (.int .u64 bl)) (fun _ i _ => Z.length - (intOf i).toNat)
    case atStart => exact ⟨0, 0, Nat.zero_le _, rfl, rfl, Nat.le_refl _, Lib.hid (by simp), by simpa using hown1, hw2, z2, d0, d1, d2, b0, b1⟩
    case round =>
      clear hown1 d0 d1 d2 b0 b1 hw2 z2
      obtain ⟨j, c, hj, rfl, rfl, hcj, hcv, hown, hw2, z2, d0, d1, d2, b0, b1⟩ := hrel
      by_cases hlt : j < Z.length
      · obtain ⟨z, hzj⟩ : ∃ z, z = Z[j] := ⟨_, rfl⟩
        obtain ⟨okw, ok1, ok2, ok3, ok4⟩ := HOK.out j hlt
        rw [← hzj] at okw ok1 ok2 ok3
        have hR := rright_any (hiW z) (loW z) (n + m) okw.hi W128.lo
        rw [ok1] at hR
        have hH := rhas_any x u n (hiW z) (loW z) wx wu okw.hi W128.lo
        rw [ok2] at hH
        have hB := rhas_any (hiW z) (loW z) (n + m) bh bl okw.hi W128.lo hc hd
        rw [ok3] at hB
        have hcs := filter_take_succ f Z j hlt
        rw [← hzj, ← hcv.out] at hcs
        obtain ⟨g, o, e, hg, a0, a1, a2⟩ := (Row.of_own hown).at_pfs hlt
        subst e
        rw [← hzj] at a0 a1
        have HR := Lib.hid hR
        have HH := Lib.hid hH
        have i1 : (0 : Int) ≤ (j : Int) := by omega
        have i2 : (j : Int) < (Z.length : Int) := by omega
        have wz1 : w.heap.size + 1 < wr.heap.size := by omega
        clear hR hH ok1 ok2 ok3 okw hcv hj
        by_cases hj0 : 0 < j
        · have hS := rless_any (hiW (Z[j - 1]'(by omega))) (loW (Z[j - 1]'(by omega))) (n + m) (hiW z) (loW z) (n + m)
          rw [hzj, ok4 hj0, ← hzj] at hS
          obtain ⟨j1, rfl⟩ : ∃ j1, j = j1 + 1 := ⟨j - 1, by omega⟩
          have dj : decide (0 < j1 + 1) = true := by simp
          have hlt1 : j1 < Z.length := by omega
          obtain ⟨y, hy⟩ : ∃ y, y = Z[j1] := ⟨_, rfl⟩
          obtain ⟨g', o', e', -, f0, f1, f2⟩ := (Row.of_own hown).at_pfs hlt1
          injection e' with e'
          injection e' with e1 e2 e3
          subst e1 e2
          rw [← hy] at f0 f1
          have hS2 : Gives Try.prog 14 #[.agg #[.int .u64 (hiW y : Nat), .int .u64 (loW y : Nat), .int .i64 (n + m)], .agg #[.int .u64 (hiW z : Nat), .int .u64 (loW z : Nat), .int .i64 (n + m)]] (.bool true) := by rw [hy]; exact hS
          have HLS := Lib.hid hS2
          clear hS2 hS
          clear ok4 hj0 hy
          have i3 : (0 : Int) ≤ (j1 : Int) := by omega
          have i4 : (j1 : Int) < (Z.length : Int) := by omega
          have i5 : IntKind.i64.wrap ((j1 : Int) + 1 - 1) = (j1 : Int) := by rw [IntWalk.i64_in _ (by omega)]; omega
          cases hf : f z
          · rw [hf] at hB hcs
            have HB := Lib.hid hB
            have HCS := Lib.hid hcs
            clear hB hcs hf hzj
            go_wp2_with fail
            have kg := cell_grow
            refine region_whole (by kernel_rfl) (by kernel_rfl) ?_
            repeat (any_goals (first | go_big_quiet_step (first | (go_at_call 12; exact Gives.at HR.out _ _ _) | (go_at_call 13; exact Gives.at HH.out _ _ _) | (go_at_call 14; exact Gives.at HLS.out _ _ _)) | quiet_step (first | (go_at_call 12; exact Gives.at HR.out _ _ _) | (go_at_call 13; exact Gives.at HH.out _ _ _) | (go_at_call 14; exact Gives.at HLS.out _ _ _))))
            refine wpQuiet_nil ?_
            clear kg
            intro w3 hb3
            obtain ⟨hc3, hf3⟩ := bcell hb3
            have hw3 : Below w.heap.size w w3 := by
              refine Below.trans ?_ (hb3.mono ?_)
              · go_grown
              · first | omega | go_size
            have hown := own_below hown hb3
            have d0 := (hc3 _ _ (by omega)).trans d0
            have d1 := (hc3 _ _ (by omega)).trans d1
            have d2 := (hc3 _ _ (by omega)).trans d2
            have b0 := (hc3 _ _ (by omega)).trans b0
            have b1 := (hc3 _ _ (by omega)).trans b1
            have a0 := (hc3 _ _ (by omega)).trans a0
            have a1 := (hc3 _ _ (by omega)).trans a1
            have a2 := (hc3 _ _ (by omega)).trans a2
            have f0 := (hc3 _ _ (by omega)).trans f0
            have f1 := (hc3 _ _ (by omega)).trans f1
            have f2 := (hc3 _ _ (by omega)).trans f2
            have hg := Nat.lt_of_lt_of_le hg hb3.size
            have z2 := Nat.lt_of_lt_of_le z2 hb3.size
            have wz1 := Nat.lt_of_lt_of_le wz1 hb3.size
            have hw2 := hw3
            clear hw3 hb3 hc3 hf3
            go_wp2_with fail
            have kg := cell_grow
            refine region_whole (by kernel_rfl) (by kernel_rfl) ?_
            repeat (any_goals (first | go_big_quiet_step ((go_at_call 13; exact Gives.at HB.out _ _ _)) | quiet_step ((go_at_call 13; exact Gives.at HB.out _ _ _))))
            refine wpQuiet_nil ?_
            clear kg
            intro w4 hb4
            obtain ⟨hc4, hf4⟩ := bcell hb4
            have hw4 : Below w.heap.size w w4 := by
              refine Below.trans ?_ (hb4.mono ?_)
              · go_grown
              · first | omega | go_size
            have hown := own_below hown hb4
            have d0 := (hc4 _ _ (by omega)).trans d0
            have d1 := (hc4 _ _ (by omega)).trans d1
            have d2 := (hc4 _ _ (by omega)).trans d2
            have b0 := (hc4 _ _ (by omega)).trans b0
            have b1 := (hc4 _ _ (by omega)).trans b1
            have a0 := (hc4 _ _ (by omega)).trans a0
            have a1 := (hc4 _ _ (by omega)).trans a1
            have a2 := (hc4 _ _ (by omega)).trans a2
            have f0 := (hc4 _ _ (by omega)).trans f0
            have f1 := (hc4 _ _ (by omega)).trans f1
            have f2 := (hc4 _ _ (by omega)).trans f2
            have hg := Nat.lt_of_lt_of_le hg hb4.size
            have z2 := Nat.lt_of_lt_of_le z2 hb4.size
            have wz1 := Nat.lt_of_lt_of_le wz1 hb4.size
            have hw2 := hw4
            clear hw4 hb4 hc4 hf4
            go_wp2
            go_roundw
            case rel => exact ⟨(j1 + 1) + 1, c, by omega, by go_num, rfl, by omega, Lib.hid (by rw [HCS.out]; simp), hown, hw2, z2, d0, d1, d2, b0, b1⟩
            case measure => simp [intOf]; omega
          · rw [hf] at hB hcs
            have HB := Lib.hid hB
            have HCS := Lib.hid hcs
            clear hB hcs hf hzj
            go_wp2_with fail
            have kg := cell_grow
            refine region_whole (by kernel_rfl) (by kernel_rfl) ?_
            repeat (any_goals (first | go_big_quiet_step (first | (go_at_call 12; exact Gives.at HR.out _ _ _) | (go_at_call 13; exact Gives.at HH.out _ _ _) | (go_at_call 14; exact Gives.at HLS.out _ _ _)) | quiet_step (first | (go_at_call 12; exact Gives.at HR.out _ _ _) | (go_at_call 13; exact Gives.at HH.out _ _ _) | (go_at_call 14; exact Gives.at HLS.out _ _ _))))
            refine wpQuiet_nil ?_
            clear kg
            intro w3 hb3
            obtain ⟨hc3, hf3⟩ := bcell hb3
            have hw3 : Below w.heap.size w w3 := by
              refine Below.trans ?_ (hb3.mono ?_)
              · go_grown
              · first | omega | go_size
            have hown := own_below hown hb3
            have d0 := (hc3 _ _ (by omega)).trans d0
            have d1 := (hc3 _ _ (by omega)).trans d1
            have d2 := (hc3 _ _ (by omega)).trans d2
            have b0 := (hc3 _ _ (by omega)).trans b0
            have b1 := (hc3 _ _ (by omega)).trans b1
            have a0 := (hc3 _ _ (by omega)).trans a0
            have a1 := (hc3 _ _ (by omega)).trans a1
            have a2 := (hc3 _ _ (by omega)).trans a2
            have f0 := (hc3 _ _ (by omega)).trans f0
            have f1 := (hc3 _ _ (by omega)).trans f1
            have f2 := (hc3 _ _ (by omega)).trans f2
            have hg := Nat.lt_of_lt_of_le hg hb3.size
            have z2 := Nat.lt_of_lt_of_le z2 hb3.size
            have wz1 := Nat.lt_of_lt_of_le wz1 hb3.size
            have hw2 := hw3
            clear hw3 hb3 hc3 hf3
            go_wp2_with fail
            have kg := cell_grow
            refine region_whole (by kernel_rfl) (by kernel_rfl) ?_
            repeat (any_goals (first | go_big_quiet_step ((go_at_call 13; exact Gives.at HB.out _ _ _)) | quiet_step ((go_at_call 13; exact Gives.at HB.out _ _ _))))
            refine wpQuiet_nil ?_
            clear kg
            intro w4 hb4
            obtain ⟨hc4, hf4⟩ := bcell hb4
            have hw4 : Below w.heap.size w w4 := by
              refine Below.trans ?_ (hb4.mono ?_)
              · go_grown
              · first | omega | go_size
            have hown := own_below hown hb4
            have d0 := (hc4 _ _ (by omega)).trans d0
            have d1 := (hc4 _ _ (by omega)).trans d1
            have d2 := (hc4 _ _ (by omega)).trans d2
            have b0 := (hc4 _ _ (by omega)).trans b0
            have b1 := (hc4 _ _ (by omega)).trans b1
            have a0 := (hc4 _ _ (by omega)).trans a0
            have a1 := (hc4 _ _ (by omega)).trans a1
            have a2 := (hc4 _ _ (by omega)).trans a2
            have f0 := (hc4 _ _ (by omega)).trans f0
            have f1 := (hc4 _ _ (by omega)).trans f1
            have f2 := (hc4 _ _ (by omega)).trans f2
            have hg := Nat.lt_of_lt_of_le hg hb4.size
            have z2 := Nat.lt_of_lt_of_le z2 hb4.size
            have wz1 := Nat.lt_of_lt_of_le wz1 hb4.size
            have hw2 := hw4
            clear hw4 hb4 hc4 hf4
            go_wp2
            go_roundw
            case rel =>
              have R : Hid (c + 1 = ((Z.take ((j1 + 1) + 1)).filter f).length) := Lib.hid (by rw [HCS.out]; simp)
              exact ⟨(j1 + 1) + 1, c + 1, by omega, by go_num, by go_num, by omega, R, hown, hw2, z2, d0, d1, d2, b0, b1⟩
            case measure => simp [intOf]; omega
        · have dj : decide (0 < j) = false := by simp; omega
          clear hj0 ok4
          cases hf : f z
          · rw [hf] at hB hcs
            have HB := Lib.hid hB
            have HCS := Lib.hid hcs
            clear hB hcs hf hzj
            go_wp2_with fail
            have kg := cell_grow
            refine region_whole (by kernel_rfl) (by kernel_rfl) ?_
            repeat (any_goals (first | go_big_quiet_step (first | (go_at_call 12; exact Gives.at HR.out _ _ _) | (go_at_call 13; exact Gives.at HH.out _ _ _)) | quiet_step (first | (go_at_call 12; exact Gives.at HR.out _ _ _) | (go_at_call 13; exact Gives.at HH.out _ _ _))))
            refine wpQuiet_nil ?_
            clear kg
            intro w3 hb3
            obtain ⟨hc3, hf3⟩ := bcell hb3
            have hw3 : Below w.heap.size w w3 := by
              refine Below.trans ?_ (hb3.mono ?_)
              · go_grown
              · first | omega | go_size
            have hown := own_below hown hb3
            have d0 := (hc3 _ _ (by omega)).trans d0
            have d1 := (hc3 _ _ (by omega)).trans d1
            have d2 := (hc3 _ _ (by omega)).trans d2
            have b0 := (hc3 _ _ (by omega)).trans b0
            have b1 := (hc3 _ _ (by omega)).trans b1
            have a0 := (hc3 _ _ (by omega)).trans a0
            have a1 := (hc3 _ _ (by omega)).trans a1
            have a2 := (hc3 _ _ (by omega)).trans a2
            have hg := Nat.lt_of_lt_of_le hg hb3.size
            have z2 := Nat.lt_of_lt_of_le z2 hb3.size
            have wz1 := Nat.lt_of_lt_of_le wz1 hb3.size
            have hw2 := hw3
            clear hw3 hb3 hc3 hf3
            go_wp2_with fail
            have kg := cell_grow
            refine region_whole (by kernel_rfl) (by kernel_rfl) ?_
            repeat (any_goals (first | go_big_quiet_step ((go_at_call 13; exact Gives.at HB.out _ _ _)) | quiet_step ((go_at_call 13; exact Gives.at HB.out _ _ _))))
            refine wpQuiet_nil ?_
            clear kg
            intro w4 hb4
            obtain ⟨hc4, hf4⟩ := bcell hb4
            have hw4 : Below w.heap.size w w4 := by
              refine Below.trans ?_ (hb4.mono ?_)
              · go_grown
              · first | omega | go_size
            have hown := own_below hown hb4
            have d0 := (hc4 _ _ (by omega)).trans d0
            have d1 := (hc4 _ _ (by omega)).trans d1
            have d2 := (hc4 _ _ (by omega)).trans d2
            have b0 := (hc4 _ _ (by omega)).trans b0
            have b1 := (hc4 _ _ (by omega)).trans b1
            have a0 := (hc4 _ _ (by omega)).trans a0
            have a1 := (hc4 _ _ (by omega)).trans a1
            have a2 := (hc4 _ _ (by omega)).trans a2
            have hg := Nat.lt_of_lt_of_le hg hb4.size
            have z2 := Nat.lt_of_lt_of_le z2 hb4.size
            have wz1 := Nat.lt_of_lt_of_le wz1 hb4.size
            have hw2 := hw4
            clear hw4 hb4 hc4 hf4
            go_wp2
            go_roundw
            case rel => exact ⟨j + 1, c, by omega, by go_num, rfl, by omega, Lib.hid (by rw [HCS.out]; simp), hown, hw2, z2, d0, d1, d2, b0, b1⟩
            case measure => simp [intOf]; omega
          · rw [hf] at hB hcs
            have HB := Lib.hid hB
            have HCS := Lib.hid hcs
            clear hB hcs hf hzj
            go_wp2_with fail
            have kg := cell_grow
            refine region_whole (by kernel_rfl) (by kernel_rfl) ?_
            repeat (any_goals (first | go_big_quiet_step (first | (go_at_call 12; exact Gives.at HR.out _ _ _) | (go_at_call 13; exact Gives.at HH.out _ _ _)) | quiet_step (first | (go_at_call 12; exact Gives.at HR.out _ _ _) | (go_at_call 13; exact Gives.at HH.out _ _ _))))
            refine wpQuiet_nil ?_
            clear kg
            intro w3 hb3
            obtain ⟨hc3, hf3⟩ := bcell hb3
            have hw3 : Below w.heap.size w w3 := by
              refine Below.trans ?_ (hb3.mono ?_)
              · go_grown
              · first | omega | go_size
            have hown := own_below hown hb3
            have d0 := (hc3 _ _ (by omega)).trans d0
            have d1 := (hc3 _ _ (by omega)).trans d1
            have d2 := (hc3 _ _ (by omega)).trans d2
            have b0 := (hc3 _ _ (by omega)).trans b0
            have b1 := (hc3 _ _ (by omega)).trans b1
            have a0 := (hc3 _ _ (by omega)).trans a0
            have a1 := (hc3 _ _ (by omega)).trans a1
            have a2 := (hc3 _ _ (by omega)).trans a2
            have hg := Nat.lt_of_lt_of_le hg hb3.size
            have z2 := Nat.lt_of_lt_of_le z2 hb3.size
            have wz1 := Nat.lt_of_lt_of_le wz1 hb3.size
            have hw2 := hw3
            clear hw3 hb3 hc3 hf3
            go_wp2_with fail
            have kg := cell_grow
            refine region_whole (by kernel_rfl) (by kernel_rfl) ?_
            repeat (any_goals (first | go_big_quiet_step ((go_at_call 13; exact Gives.at HB.out _ _ _)) | quiet_step ((go_at_call 13; exact Gives.at HB.out _ _ _))))
            refine wpQuiet_nil ?_
            clear kg
            intro w4 hb4
            obtain ⟨hc4, hf4⟩ := bcell hb4
            have hw4 : Below w.heap.size w w4 := by
              refine Below.trans ?_ (hb4.mono ?_)
              · go_grown
              · first | omega | go_size
            have hown := own_below hown hb4
            have d0 := (hc4 _ _ (by omega)).trans d0
            have d1 := (hc4 _ _ (by omega)).trans d1
            have d2 := (hc4 _ _ (by omega)).trans d2
            have b0 := (hc4 _ _ (by omega)).trans b0
            have b1 := (hc4 _ _ (by omega)).trans b1
            have a0 := (hc4 _ _ (by omega)).trans a0
            have a1 := (hc4 _ _ (by omega)).trans a1
            have a2 := (hc4 _ _ (by omega)).trans a2
            have hg := Nat.lt_of_lt_of_le hg hb4.size
            have z2 := Nat.lt_of_lt_of_le z2 hb4.size
            have wz1 := Nat.lt_of_lt_of_le wz1 hb4.size
            have hw2 := hw4
            clear hw4 hb4 hc4 hf4
            go_wp2
            go_roundw
            case rel =>
              have R : Hid (c + 1 = ((Z.take (j + 1)).filter f).length) := Lib.hid (by rw [HCS.out]; simp)
              exact ⟨j + 1, c + 1, by omega, by go_num, by go_num, by omega, R, hown, hw2, z2, d0, d1, d2, b0, b1⟩
            case measure => simp [intOf]; omega
      · have hc2 := hcv.out
        rw [List.take_of_length_le (by omega), HCNT.out] at hc2
        have hpp := HP.out
        have wz1 : w.heap.size + 1 < wr.heap.size := by omega
        clear hcv
        cases hq : hasB x u n bh bl
        · rw [hq] at hpp hc2
          obtain rfl : c = 0 := by simpa using hc2
          have HPP := Lib.hid hpp
          clear hpp hq hc2
          go_wp2_with fail
          refine (HPP.out _).mono ?_
          rintro e w5 ⟨rfl, hb5⟩
          have hw5 := hw2.trans (hb5.mono hw2.size)
          go_wp2
          go_ret
          exact ⟨rfl, hw5⟩
        · rw [hq] at hpp hc2
          obtain rfl : c = 1 := by simpa using hc2
          have HPP := Lib.hid hpp
          clear hpp hq hc2
          go_wp2_with fail
          refine (HPP.out _).mono ?_
          rintro e w5 ⟨rfl, hb5⟩
          have hw5 := hw2.trans (hb5.mono hw2.size)
          go_wp2
          go_ret
          exact ⟨rfl, hw5⟩
  · by_cases v0 : 0 ≤ n
    · by_cases v1 : 0 ≤ m
      · by_cases v2 : m ≤ 8
        · have v3 : 128 - m < n := by omega
          clear hv
          go_enter Try.func4, Try.ntmps4
          go_wp2_with fail
          refine (HA.out _).mono ?_
          rintro e0 w0 ⟨rfl, hb0⟩
          have hw0 : Below w.heap.size w w0 := by
            refine Below.trans ?_ (hb0.mono ?_)
            · go_grown
            · go_size
          go_wp2
          all_goals
            go_ret
            exact ⟨rfl, by go_grown⟩
        · clear hv
          go_enter Try.func4, Try.ntmps4
          go_wp2_with fail
          refine (HA.out _).mono ?_
          rintro e0 w0 ⟨rfl, hb0⟩
          have hw0 : Below w.heap.size w w0 := by
            refine Below.trans ?_ (hb0.mono ?_)
            · go_grown
            · go_size
          go_wp2
          all_goals
            go_ret
            exact ⟨rfl, by go_grown⟩
      · clear hv
        go_enter Try.func4, Try.ntmps4
        go_wp2_with fail
        refine (HA.out _).mono ?_
        rintro e0 w0 ⟨rfl, hb0⟩
        have hw0 : Below w.heap.size w w0 := by
          refine Below.trans ?_ (hb0.mono ?_)
          · go_grown
          · go_size
        go_wp2
        all_goals
          go_ret
          exact ⟨rfl, by go_grown⟩
    · clear hv
      go_enter Try.func4, Try.ntmps4
      go_wp2_with fail
      refine (HA.out _).mono ?_
      rintro e0 w0 ⟨rfl, hb0⟩
      have hw0 : Below w.heap.size w w0 := by
        refine Below.trans ?_ (hb0.mono ?_)
        · go_grown
        · go_size
      go_wp2
      all_goals
        go_ret
        exact ⟨rfl, by go_grown⟩
end Go.Proofs.Ytjpgdcccnlnmfaa
