/-
  The given laws of chapter 4 as walks, continued: SpreadHalves hands back true, for every input. No condition but that the words are words of 64 bits.
-/
import Derived.Test.YtjpgdcccnlnmfaaL4
set_option linter.unusedSimpArgs false
set_option linter.unusedVariables false
namespace Go.Proofs.Ytjpgdcccnlnmfaa
open Go.RowKit Go.Sort M

theorem pcond (V : Nat) (n m : Int) (hV : W128 V) (h0 : 0 ≤ n) (h1 : 0 ≤ m) (h8 : m ≤ 8) (h2 : n + m ≤ 128) (hd : 2 ^ (128 - n.toNat) ∣ V) : rightB (hiW V) (loW V) n = true ∧ n ≤ n + m ∧ n + m ≤ 128 ∧ n + m - n ≤ 8 := by
  refine ⟨?_, by omega, h2, by omega⟩
  rw [rightB_val _ _ _ W128.lo, val_hl]
  exact ⟨h0, by omega, hd⟩
theorem keysV_val (V : Nat) (n m : Int) (hV : W128 V) (h0 : 0 ≤ n) (h1 : 0 ≤ m) (h8 : m ≤ 8) (h2 : n + m ≤ 128) (hd : 2 ^ (128 - n.toNat) ∣ V) : keysV (hiW V) (loW V) n (n + m) = pfs (keysN V n.toNat (n + m).toNat) (n + m) := by
  rw [keysV_some (pcond V n m hV h0 h1 h8 h2 hd), val_hl]
theorem halves (hi lo : Nat) (n m : Int) (ha : W64 hi) (hb : W64 lo) (h0 : 0 ≤ n) (h1 : 1 ≤ m) (h8 : m ≤ 8) (h2 : n + m ≤ 128) :
    ∃ (x u x2 u2 : Nat) (L1 L2 : List Pf), x = cutW hi n.toNat ∧ u = cutW lo (n.toNat - 64) ∧ W64 x ∧ W64 u ∧ W64 x2 ∧ W64 u2 ∧ onHi x n.toNat = x2 ∧ onLo u n.toNat = u2 ∧ keysV x u (n + 1) (n + m) = L1 ∧ keysV x2 u2 (n + 1) (n + m) = L2 ∧ keysV x u n (n + m) = L1 ++ L2 ∧ L1.length = L2.length ∧ 0 < L1.length ∧ L1.length ≤ 128 ∧ cntN x u n (n + m) = 2 * L1.length := by
  have hx := ha.cut n.toNat
  have hu := hb.cut (n.toNat - 64)
  have hv := val_cut hi lo n.toNat hb (by omega)
  generalize cutW hi n.toNat = x at *
  generalize cutW lo (n.toNat - 64) = u at *
  have hVw : W128 (val x u) := hx.val hu
  have hd : 2 ^ (128 - n.toNat) ∣ val x u := by rw [hv]; exact Nat.dvd_mul_left _ _
  have e1 := hi_val x u hu
  have e2 := lo_val x u hu
  generalize val x u = V at *
  clear hv
  obtain ⟨w1, w2, w3⟩ := on_words V n.toNat (by omega) hVw hd
  have hp : (2 : Nat) ^ (128 - n.toNat) = 2 * 2 ^ (127 - n.toNat) := by rw [← Nat.pow_succ']; congr 1; omega
  have hd1 : 2 ^ (128 - (n + 1).toNat) ∣ V := by
    rw [show 128 - (n + 1).toNat = 127 - n.toNat by omega]
    exact Nat.dvd_trans ⟨2, by rw [hp, Nat.mul_comm]⟩ hd
  have hd2 : 2 ^ (128 - (n + 1).toNat) ∣ V + 2 ^ (127 - n.toNat) := by
    refine Nat.dvd_add hd1 ?_
    rw [show 128 - (n + 1).toNat = 127 - n.toNat by omega]
    exact Nat.dvd_refl _
  have k1 := keysV_val V (n + 1) (m - 1) hVw (by omega) (by omega) (by omega) (by omega) hd1
  have k2 := keysV_val (V + 2 ^ (127 - n.toNat)) (n + 1) (m - 1) w3 (by omega) (by omega) (by omega) (by omega) hd2
  have k3 := keysV_val V n m hVw (by omega) (by omega) (by omega) (by omega) hd
  have hc := cnt_some (pcond V n m hVw (by omega) (by omega) (by omega) (by omega) hd)
  have em : n + 1 + (m - 1) = n + m := by omega
  rw [em] at k1 k2
  rw [e1, e2] at k1 k3 hc
  rw [e1] at w1
  rw [e2] at w2
  refine ⟨x, u, hiW (V + 2 ^ (127 - n.toNat)), loW (V + 2 ^ (127 - n.toNat)), _, _, rfl, rfl, hx, hu, w3.hi, W128.lo, ?_, ?_, k1, k2, ?_, ?_, ?_, ?_, ?_⟩
  · unfold onHi; rw [← w1]
  · unfold onLo; rw [← w2]
  · rw [k3, keys_halves V n.toNat (n + m).toNat (by omega) (by omega), pfs_append, show n.toNat + 1 = (n + 1).toNat by omega]
  · rw [pfs_len, pfs_len, keys_len, keys_len]
  · rw [pfs_len, keys_len]; exact Nat.two_pow_pos _
  · rw [pfs_len, keys_len]; exact Nat.pow_le_pow_right (by decide) (by omega : (n + m).toNat - (n + 1).toNat ≤ 7)
  · rw [hc, pfs_len, keys_len, ← Nat.pow_succ']
    congr 1
    omega
set_option maxHeartbeats 2000000 in
theorem spreadHalves_walk (hi lo : Nat) (n m : Int) (ha : W64 hi) (hb : W64 lo) :
    Gives Try.prog 5 #[.agg #[.int .u64 hi, .int .u64 lo], .int .i64 n, .int .i64 m] (.bool true) := by
  intro w
  have HA := Lib.hid alive4_any
  by_cases hv : 0 ≤ n ∧ 1 ≤ m ∧ m ≤ 8 ∧ n + m ≤ 128
  · obtain ⟨v0, v1, v2, v3⟩ := hv
    have hcut := rcut_any hi lo n ha hb
    obtain ⟨x, u, x2, u2, L1, L2, ex, eu, wx, wu, wx2, wu2, eo1, eo2, ek1, ek2, ek3, hl, hl0, hl1, hcn⟩ := halves hi lo n m ha hb v0 v1 v2 v3
    rw [← ex, ← eu] at hcut
    have hwith := with_any x u n.toNat wx wu (by omega)
    rw [eo1, eo2, show ((n.toNat : Nat) : Int) = n by omega] at hwith
    have h1 := keys_any x u (n + 1) (n + m) wx wu
    have h2 := keys_any x2 u2 (n + 1) (n + m) wx2 wu2
    have h3 := keys_any x u n (n + m) wx wu
    have h4 := count_any x u n (n + m) wx wu
    rw [ek1] at h1
    rw [ek2] at h2
    obtain ⟨L3, el3⟩ : ∃ L3, L3 = L1 ++ L2 := ⟨_, rfl⟩
    rw [ek3, ← el3] at h3
    rw [hcn] at h4
    have hl3 : L3.length = L1.length + L2.length := by rw [el3, List.length_append]
    have hl3' : L3.length ≤ 256 := by omega
    have HL3 := Lib.hid (And.intro el3 hl3)
    have HC := Lib.hid hcut
    have HW := Lib.hid hwith
    have H1 := Lib.hid h1
    have H2 := Lib.hid h2
    have H3 := Lib.hid h3
    have H4 := Lib.hid h4
    have hlI : (L1.length : Int) = L2.length := by omega
    have hl2 : L2.length ≤ 128 := by omega
    have hl20 : 0 < L2.length := by omega
    have HL := Lib.hid (And.intro hl hlI)
    have hle : ((L1.length : Int) == (L2.length : Int)) = true := by simp [hl]
    obtain ⟨j0, hj0, jz0, jz1, jz2⟩ := info_parts infoP
    clear hl hlI
    clear hcut hwith h1 h2 h3 h4 ex eu eo1 eo2 ek1 ek2 ek3 hcn el3 hl3
    have v4 : n ≤ 128 - m := by omega
    go_enter Try.func5, Try.ntmps5
    go_wp2_with fail
    refine (HA.out _).mono ?_
    rintro e0 w0 ⟨rfl, hb0⟩
    have hw0 : Below w.heap.size w w0 := by
      refine Below.trans ?_ (hb0.mono ?_)
      · go_grown
      · go_size
    have c0 : w0.cell? ⟨w.heap.size, 0, none⟩ = some (.int .u64 hi) := by
      rw [hb0.cell (by simp <;> omega)]
      first | assumption | (simp [go_sem]; done) | (simp [go_sem, *]; done)
    have c1 : w0.cell? ⟨w.heap.size, 1, none⟩ = some (.int .u64 lo) := by
      rw [hb0.cell (by simp <;> omega)]
      first | assumption | (simp [go_sem]; done) | (simp [go_sem, *]; done)
    have z0 : w.heap.size < w0.heap.size := by
      have hs := hb0.size
      try simp only [World.size_alloc, World.size_setCell] at hs
      omega
    go_wp2_with fail
    refine (HC.out _).mono ?_
    rintro e1 w1 ⟨rfl, hb1⟩
    have hw1 : Below w.heap.size w w1 := by
      refine Below.trans ?_ (hb1.mono ?_)
      · go_grown
      · go_size
    have z1 : w.heap.size < w1.heap.size := by
      have hs := hb1.size
      try simp only [World.size_alloc, World.size_setCell] at hs
      omega
    go_wp2_with fail
    refine (H1.out _).mono ?_
    rintro e w2 ⟨p1, k1, rfl, hown1, hb2⟩
    have hw2 : Below w.heap.size w w2 := by
      refine Below.trans ?_ (hb2.mono ?_)
      · go_grown
      · go_size
    have d0 : w2.cell? ⟨w1.heap.size, 0, none⟩ = some (.int .u64 x) := by
      rw [hb2.cell (by simp <;> omega)]
      first | assumption | (simp [go_sem]; done) | (simp [go_sem, *]; done)
    have d1 : w2.cell? ⟨w1.heap.size, 1, none⟩ = some (.int .u64 u) := by
      rw [hb2.cell (by simp <;> omega)]
      first | assumption | (simp [go_sem]; done) | (simp [go_sem, *]; done)
    have d2 : w2.cell? ⟨w1.heap.size, 2, none⟩ = some (.int .i64 n) := by
      rw [hb2.cell (by simp <;> omega)]
      first | assumption | (simp [go_sem]; done) | (simp [go_sem, *]; done)
    have z2 : w1.heap.size < w2.heap.size := by
      have hs := hb2.size
      try simp only [World.size_alloc, World.size_setCell] at hs
      omega
    obtain ⟨g1, q1, e1, -, -⟩ := hown1.form hl0
    injection e1 with e1 e2 e3
    subst e1 e3
    clear e2 hb2
    go_wp2_with fail
    refine (HW.out _).mono ?_
    rintro e w3 ⟨rfl, hb3⟩
    have hown1 := own_below hown1 hb3
    obtain ⟨hc3, hf3⟩ := bcell hb3
    have d0 := (hc3 _ _ (by omega)).trans d0
    have d1 := (hc3 _ _ (by omega)).trans d1
    have d2 := (hc3 _ _ (by omega)).trans d2
    have hw2 := Below.trans hw2 (hb3.mono (by omega))
    have z2 := Nat.lt_of_lt_of_le z2 hb3.size
    clear hc3 hf3 hb3
    go_wp2_with fail
    refine (H2.out _).mono ?_
    rintro e w4 ⟨p2, k2, rfl, hown2, hb4⟩
    have hown1 := own_below hown1 hb4
    obtain ⟨g2, q2, e1, -, -⟩ := hown2.form hl20
    injection e1 with e1 e2 e3
    subst e1 e3
    clear e2
    obtain ⟨hc4, hf4⟩ := bcell hb4
    have d0 := (hc4 _ _ (by omega)).trans d0
    have d1 := (hc4 _ _ (by omega)).trans d1
    have d2 := (hc4 _ _ (by omega)).trans d2
    have hw2 := Below.trans hw2 (hb4.mono (by omega))
    have z2 := Nat.lt_of_lt_of_le z2 hb4.size
    clear hc4 hf4 hb4
    go_wp2_with fail
    refine (H3.out _).mono ?_
    rintro e w5 ⟨p3, k3, rfl, hown3, hb5⟩
    have hown1 := own_below hown1 hb5
    have hown2 := own_below hown2 hb5
    obtain ⟨hc5, hf5⟩ := bcell hb5
    have d0 := (hc5 _ _ (by omega)).trans d0
    have d1 := (hc5 _ _ (by omega)).trans d1
    have d2 := (hc5 _ _ (by omega)).trans d2
    have hw2 := Below.trans hw2 (hb5.mono (by omega))
    have z2 := Nat.lt_of_lt_of_le z2 hb5.size
    clear hc5 hf5 hb5
    have hz5 := hw2.size
    go_wp2_with (at_builtin; go_loud (refine wpList_append_own _ rfl _ (.tmp 63) 28 rfl w5.heap.size 26 j0 _ 3 24 Try.underlying28 hj0 jz0 jz1 jz2 rfl (by decide) (.slice none 0 0) 0 [] rfl (World.ownsRow_nil _ _ _ _) ⟨g1, 0, none⟩ L1.length k1 (pcs L1) rfl (pcs_len L1) (hown1.cells rfl) (pcs_one' L1) (by unfold maxLen; omega) (by omega) (Nat.le_refl _) ?_))
    intro v6 w6 hown6 hg6 _
    have hb6 : Below w5.heap.size w5 w6 := (Below.refl _ _).grown hg6 (Nat.le_refl _) (fun j hj => by simp [Value.ownBlock] at hj)
    obtain ⟨p6, k6, rfl⟩ := own_slice hown6
    have hown2 := own_below hown2 hb6
    clear hown1 hg6
    go_wp2_with (at_builtin; go_loud (refine wpList_append_own _ rfl (.tmp 64) (.tmp 65) 28 rfl w5.heap.size 26 j0 _ 3 24 Try.underlying28 hj0 jz0 jz1 jz2 rfl (by decide) _ _ _ rfl hown6 ⟨g2, 0, none⟩ L2.length k2 (pcs L2) rfl (pcs_len L2) (hown2.cells rfl) (pcs_one' L2) (by unfold maxLen; omega) (by omega) hb6.size ?_))
    intro v7 w7 hown7 hg7 _
    have hb7 : Below w5.heap.size w5 w7 := hb6.grown hg7 hb6.size (fun j hj => (hown6.lt j hj).1)
    have hown7 : w7.ownsRow w5.heap.size 26 3 v7 L3.length (pcs L3) := by
      rw [HL3.out.2, HL3.out.1, pcs_append]; exact hown7
    obtain ⟨p7, k7, rfl⟩ := own_slice hown7
    have hown3 := own_below hown3 hb7
    clear hown6 hown2 hg7 hb6
    obtain ⟨hc7, hf7⟩ := bcell hb7
    have d0 := (hc7 _ _ (by omega)).trans d0
    have d1 := (hc7 _ _ (by omega)).trans d1
    have d2 := (hc7 _ _ (by omega)).trans d2
    have hw2 := Below.trans hw2 (hb7.mono (by omega))
    have z2 := Nat.lt_of_lt_of_le z2 hb7.size
    clear hc7 hf7 hb7
    go_wp2_with fail
    refine (same_any p3 p7 k3 k7 L3 L3 _ (by omega) (by omega) (Row.of_own hown3) (Row.of_own hown7)).mono ?_
    rintro e w8 ⟨rfl, hb8⟩
    obtain ⟨hc8, hf8⟩ := bcell hb8
    have d0 := (hc8 _ _ (by omega)).trans d0
    have d1 := (hc8 _ _ (by omega)).trans d1
    have d2 := (hc8 _ _ (by omega)).trans d2
    have hw2 := Below.trans hw2 (hb8.mono (by omega))
    have z2 := Nat.lt_of_lt_of_le z2 hb8.size
    clear hc8 hf8 hb8
    rw [show decide (L3 = L3) = true by simp]
    go_wp2_with fail
    refine (H4.out _).mono ?_
    rintro e w9 ⟨rfl, hb9⟩
    have hw9 : Below w.heap.size w w9 := hw2.trans (hb9.mono hw2.size)
    have hdb : (((2 * L1.length : Nat) : Int) == (2 : Int) * (L1.length : Int)) = true := by simp
    go_wp2
    go_ret
    exact ⟨rfl, hw9⟩
  · by_cases v0 : 0 ≤ n
    · by_cases v1 : 1 ≤ m
      · by_cases v2 : m ≤ 8
        · have v3 : 128 - m < n := by omega
          clear hv
          go_enter Try.func5, Try.ntmps5
          go_wp2_with fail
          refine (HA.out _).mono ?_
          rintro e0 w0 ⟨rfl, hb0⟩
          have hw0 : Below w.heap.size w w0 := by
            refine Below.trans ?_ (hb0.mono ?_)
            · go_grown
            · go_size
          go_wp2
          all_goals
            go_ret
            exact ⟨rfl, by go_grown⟩
        · clear hv
          go_enter Try.func5, Try.ntmps5
          go_wp2_with fail
          refine (HA.out _).mono ?_
          rintro e0 w0 ⟨rfl, hb0⟩
          have hw0 : Below w.heap.size w w0 := by
            refine Below.trans ?_ (hb0.mono ?_)
            · go_grown
            · go_size
          go_wp2
          all_goals
            go_ret
            exact ⟨rfl, by go_grown⟩
      · clear hv
        go_enter Try.func5, Try.ntmps5
        go_wp2_with fail
        refine (HA.out _).mono ?_
        rintro e0 w0 ⟨rfl, hb0⟩
        have hw0 : Below w.heap.size w w0 := by
          refine Below.trans ?_ (hb0.mono ?_)
          · go_grown
          · go_size
        go_wp2
        all_goals
          go_ret
          exact ⟨rfl, by go_grown⟩
    · clear hv
      go_enter Try.func5, Try.ntmps5
      go_wp2_with fail
      refine (HA.out _).mono ?_
      rintro e0 w0 ⟨rfl, hb0⟩
      have hw0 : Below w.heap.size w w0 := by
        refine Below.trans ?_ (hb0.mono ?_)
        · go_grown
        · go_size
      go_wp2
      all_goals
        go_ret
        exact ⟨rfl, by go_grown⟩
end Go.Proofs.Ytjpgdcccnlnmfaa
