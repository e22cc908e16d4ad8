/-
  cover.between and cover.Hop: whether a route is of a level's lengths; the hop of a key. No condition but that the routes lie in memory, and their words are words.
-/
import Derived.Test.YtmdjbdhnenpjeaaM18c
import Derived.Test.YtmdjbdhnenpjeaaM18b
import Derived.Deep.DeepCutAuto
set_option linter.unusedSimpArgs false
set_option linter.unusedVariables false
namespace Go.Proofs.Ytmdjbdhnenpjeaa
open Go Go.RowKit Go.Sort M

theorem between_any (kh kl : Nat) (kn v low high : Int) :
    Gives Try.prog 16 #[.agg #[.int .u64 (kh : Int), .int .u64 (kl : Int), .int .i64 kn, .int .i64 v], .int .i64 low, .int .i64 high] (.bool (decide (low < kn) && decide (kn ≤ high))) := by
  intro w
  by_cases h1 : low < kn
  · by_cases h2 : kn ≤ high
    · rw [decide_eq_true h1, decide_eq_true h2]
      go_enter Try.func16, Try.ntmps16
      go_wp2
      go_ret
      exact ⟨rfl, by go_grown⟩
    · rw [decide_eq_true h1, decide_eq_false h2]
      go_enter Try.func16, Try.ntmps16
      go_wp2
      go_ret
      exact ⟨rfl, by go_grown⟩
  · rw [decide_eq_false h1, Bool.false_and]
    go_enter Try.func16, Try.ntmps16
    go_wp2
    go_ret
    exact ⟨rfl, by go_grown⟩
theorem hop_step (N : List Rt) (c : Rt → Bool) (i : Nat) (h : i < N.length) : hopF c (N.take (i + 1)) = hopStep c (hopF c (N.take i)) N[i] := by
  rw [List.take_succ_eq_append_getElem h, hopF_snoc]
set_option maxRecDepth 100000 in
set_option maxHeartbeats 4000000 in
theorem hop_ok : HopC := by
  intro p c L k low w hR hg hk hp hcap hl
  have hA : hopA (sortR L) low k = .tuple #[.int .i64 (hopF (candB k.h k.l low k.n) L).1.v, .bool (hopF (candB k.h k.l low k.n) L).2] := by
    unfold hopA
    rw [(hopF_is L low k).1, (hopF_is L low k).2]
  rw [hA]
  obtain ⟨kh, kl, kn⟩ := k
  unfold kyA
  have hkw := hk
  simp only at hkw ⊢
  obtain ⟨hk1, hk2⟩ : W64 kh ∧ W64 kl := hkw
  have HR := Lib.hid hR
  have HG := Lib.hid hg
  obtain ⟨F, hF⟩ : ∃ F : Nat → Rt × Bool, F = fun i => hopF (candB kh kl low kn) (L.take i) := ⟨_, rfl⟩
  have hF0 : F 0 = (⟨⟨0, 0, 0⟩, 0⟩, false) := by rw [hF]; rfl
  have hFL : hopF (candB kh kl low kn) L = F L.length := by
    rw [hF]
    simp only
    rw [List.take_of_length_le (Nat.le_refl _)]
  have hFs : ∀ i (h : i < L.length), F (i + 1) = hopStep (candB kh kl low kn) (F i) L[i] := fun i h => by
    rw [hF]
    exact hop_step L _ i h
  rw [hFL]
  have HF0 := Lib.hid hF0
  have HFS := Lib.hid hFs
  clear hF0 hFs hFL hF hA hR hg hk hp
  have hbt := between_any
  have HBT := Lib.hid hbt
  clear hbt
  go_enter Try.func6, Try.ntmps6
  go_wp2
  go_loopg [9, 14] L.length (fun kx s9 s14 wr => ∃ (i : Nat) (b : Rt) (f : Bool), s14 = .int .i64 (i : Int) ∧ s9 = .bool f ∧ L.length - i ≤ kx ∧ i ≤ L.length ∧ Hid ((b, f) = F i) ∧
    wr.cell? ⟨w.heap.size, 0, none⟩ = some (.int .u64 (kh : Int)) ∧ wr.cell? ⟨w.heap.size, 1, none⟩ = some (.int .u64 (kl : Int)) ∧ wr.cell? ⟨w.heap.size, 2, none⟩ = some (.int .i64 kn) ∧
    wr.cell? ⟨w.heap.size + 1, 0, none⟩ = some (.int .u64 (b.k.h : Int)) ∧ wr.cell? ⟨w.heap.size + 1, 1, none⟩ = some (.int .u64 (b.k.l : Int)) ∧ wr.cell? ⟨w.heap.size + 1, 2, none⟩ = some (.int .i64 b.k.n) ∧ wr.cell? ⟨w.heap.size + 1, 3, none⟩ = some (.int .i64 b.v) ∧
    (∀ j, wr.frozen? ⟨w.heap.size + 1, j, none⟩ = false) ∧ w.heap.size + 1 < wr.heap.size ∧ Below w.heap.size w wr)
  case atStart =>
    refine ⟨0, ⟨⟨0, 0, 0⟩, 0⟩, false, rfl, rfl, by omega, by omega, Lib.hid HF0.out.symm, ?_, ?_, ?_, ?_, ?_, ?_, ?_, ?_, ?_, by go_grown⟩
    all_goals simp [go_sem]
  case round =>
    obtain ⟨i, b, f, rfl, rfl, h1, h2, HX, k0, k1, k2, b0, b1, b2, b3, fb, hz, hb⟩ := hrel
    by_cases hi : i < L.length
    · obtain ⟨g, o, rfl, hgs, x0, x1, x2, x3⟩ := (HR.out.below hb).rt hi
      have hgd := HG.out _ (List.getElem_mem hi)
      have hs := HFS.out i hi
      rw [← HX.out] at hs
      generalize L[i] = r at *
      obtain ⟨⟨rh, rl, rn⟩, rv⟩ := r
      simp only at x0 x1 x2 x3
      obtain ⟨hr1, hr2⟩ : W64 rh ∧ W64 rl := hgd
      have hbt := HBT.out rh rl rn rv low kn
      have hhas := has_any rh rl rn kh kl hr1 hr2 hk1 hk2
      have i1 : (0 : Int) ≤ (i : Int) := by omega
      have i2 : (i : Int) < (L.length : Int) := by omega
      have hz' : w.heap.size < wr.heap.size := by omega
      unfold hopStep candB at hs
      simp only at hs
      obtain ⟨bk, bv⟩ := b
      obtain ⟨bh', bl', bn⟩ := bk
      simp only at b0 b1 b2 b3 hs
      by_cases c1 : bn ≤ rn
      · by_cases c2 : low < rn ∧ rn ≤ kn
        · have hbt : Gives Try.prog 16 #[.agg #[.int .u64 (rh : Int), .int .u64 (rl : Int), .int .i64 rn, .int .i64 rv], .int .i64 low, .int .i64 kn] (.bool true) := by
            rw [decide_eq_true c2.1, decide_eq_true c2.2] at hbt
            exact hbt
          have HB := Lib.hid hbt
          cases hh : hasB rh rl rn kh kl with
          | true =>
            rw [hh] at hhas
            have HH := Lib.hid hhas
            have hs2 : F (i + 1) = (⟨⟨rh, rl, rn⟩, rv⟩, true) := by rw [hs, if_pos ⟨c1, by simp [c2, hh]⟩]
            have HS := Lib.hid hs2
            clear hs hs2 hh hbt hhas HX
            go_wp2_with fail
            refine (HB.out _).mono ?_
            rintro e w1 ⟨rfl, hb1⟩
            have hw1 : Below wr.heap.size wr w1 := Below.trans (by go_grown) (hb1.mono (by simp))
            obtain ⟨kc, kf⟩ := bcell hw1
            obtain ⟨nc, nf⟩ := bcell hb1
            have r0 := (nc wr.heap.size 0 (by simp)).trans (show _ = some (Value.int .u64 (rh : Int)) by simp [go_sem])
            have r1 := (nc wr.heap.size 1 (by simp)).trans (show _ = some (Value.int .u64 (rl : Int)) by simp [go_sem])
            have r2 := (nc wr.heap.size 2 (by simp)).trans (show _ = some (Value.int .i64 rn) by simp [go_sem])
            have r3 := (nc wr.heap.size 3 (by simp)).trans (show _ = some (Value.int .i64 rv) by simp [go_sem])
            have hz1 : wr.heap.size < w1.heap.size := by have := hb1.size; simp at this; omega
            have k0 := (kc _ _ hz').trans k0
            have k1 := (kc _ _ hz').trans k1
            have k2 := (kc _ _ hz').trans k2
            have b0 := (kc _ _ hz).trans b0
            have b1 := (kc _ _ hz).trans b1
            have b2 := (kc _ _ hz).trans b2
            have b3 := (kc _ _ hz).trans b3
            have fb := fun j => (kf _ j hz).trans (fb j)
            have hb := hb.trans (hw1.mono hb.size)
            have hzw := hb.size
            have hz'1 : w.heap.size < w1.heap.size := by omega
            have hz1' : w.heap.size + 1 < w1.heap.size := by omega
            clear kc kf nc nf hw1 hb1 x0 x1 x2 x3
            go_wp2_with fail
            refine (HH.out _).mono ?_
            rintro e w2 ⟨rfl, hb2⟩
            obtain ⟨kc, kf⟩ := bcell hb2
            have r0 := (kc _ _ hz1).trans r0
            have r1 := (kc _ _ hz1).trans r1
            have r2 := (kc _ _ hz1).trans r2
            have r3 := (kc _ _ hz1).trans r3
            have k0 := (kc _ _ hz'1).trans k0
            have k1 := (kc _ _ hz'1).trans k1
            have k2 := (kc _ _ hz'1).trans k2
            have b0 := (kc _ _ hz1').trans b0
            have b1 := (kc _ _ hz1').trans b1
            have b2 := (kc _ _ hz1').trans b2
            have b3 := (kc _ _ hz1').trans b3
            have fb := fun j => (kf _ j hz1').trans (fb j)
            have hb := hb.trans (hb2.mono hb.size)
            have hz2' : w.heap.size + 1 < w2.heap.size := Nat.lt_of_lt_of_le hz1' hb2.size
            clear kc kf hb2
            go_wp2
            go_roundg (L.length - (i + 1))
            case measure => omega
            case rel =>
              refine ⟨i + 1, ⟨⟨rh, rl, rn⟩, rv⟩, true, by go_num, rfl, by omega, by omega, Lib.hid HS.out.symm, ?_, ?_, ?_, ?_, ?_, ?_, ?_, ?_, by simpa [go_sem] using hz2', by go_grown⟩
              all_goals simp [go_sem, k0, k1, k2, b0, b1, b2, b3, fb]
          | false =>
            rw [hh] at hhas
            have HH := Lib.hid hhas
            have hs2 : F (i + 1) = (⟨⟨bh', bl', bn⟩, bv⟩, f) := by rw [hs, if_neg (by simp [hh])]
            have HS := Lib.hid hs2
            clear hs hs2 hh hbt hhas HX
            go_wp2_with fail
            refine (HB.out _).mono ?_
            rintro e w1 ⟨rfl, hb1⟩
            have hw1 : Below wr.heap.size wr w1 := Below.trans (by go_grown) (hb1.mono (by simp))
            obtain ⟨kc, kf⟩ := bcell hw1
            obtain ⟨nc, nf⟩ := bcell hb1
            have r0 := (nc wr.heap.size 0 (by simp)).trans (show _ = some (Value.int .u64 (rh : Int)) by simp [go_sem])
            have r1 := (nc wr.heap.size 1 (by simp)).trans (show _ = some (Value.int .u64 (rl : Int)) by simp [go_sem])
            have r2 := (nc wr.heap.size 2 (by simp)).trans (show _ = some (Value.int .i64 rn) by simp [go_sem])
            have r3 := (nc wr.heap.size 3 (by simp)).trans (show _ = some (Value.int .i64 rv) by simp [go_sem])
            have hz1 : wr.heap.size < w1.heap.size := by have := hb1.size; simp at this; omega
            have k0 := (kc _ _ hz').trans k0
            have k1 := (kc _ _ hz').trans k1
            have k2 := (kc _ _ hz').trans k2
            have b0 := (kc _ _ hz).trans b0
            have b1 := (kc _ _ hz).trans b1
            have b2 := (kc _ _ hz).trans b2
            have b3 := (kc _ _ hz).trans b3
            have fb := fun j => (kf _ j hz).trans (fb j)
            have hb := hb.trans (hw1.mono hb.size)
            have hzw := hb.size
            have hz'1 : w.heap.size < w1.heap.size := by omega
            have hz1' : w.heap.size + 1 < w1.heap.size := by omega
            clear kc kf nc nf hw1 hb1 x0 x1 x2 x3
            go_wp2_with fail
            refine (HH.out _).mono ?_
            rintro e w2 ⟨rfl, hb2⟩
            obtain ⟨kc, kf⟩ := bcell hb2
            have r0 := (kc _ _ hz1).trans r0
            have r1 := (kc _ _ hz1).trans r1
            have r2 := (kc _ _ hz1).trans r2
            have r3 := (kc _ _ hz1).trans r3
            have k0 := (kc _ _ hz'1).trans k0
            have k1 := (kc _ _ hz'1).trans k1
            have k2 := (kc _ _ hz'1).trans k2
            have b0 := (kc _ _ hz1').trans b0
            have b1 := (kc _ _ hz1').trans b1
            have b2 := (kc _ _ hz1').trans b2
            have b3 := (kc _ _ hz1').trans b3
            have fb := fun j => (kf _ j hz1').trans (fb j)
            have hb := hb.trans (hb2.mono hb.size)
            have hz2' : w.heap.size + 1 < w2.heap.size := Nat.lt_of_lt_of_le hz1' hb2.size
            clear kc kf hb2
            go_wp2
            go_roundg (L.length - (i + 1))
            case measure => omega
            case rel =>
              refine ⟨i + 1, ⟨⟨bh', bl', bn⟩, bv⟩, f, by go_num, rfl, by omega, by omega, Lib.hid HS.out.symm, ?_, ?_, ?_, ?_, ?_, ?_, ?_, ?_, by (first | exact hz2' | exact hz1' | (simpa [go_sem] using (by omega : w.heap.size + 1 < wr.heap.size + 1)) | (simp; omega)), by go_grown⟩
              all_goals simp [go_sem, k0, k1, k2, b0, b1, b2, b3, fb, hz, hz']
        · have hbt : Gives Try.prog 16 #[.agg #[.int .u64 (rh : Int), .int .u64 (rl : Int), .int .i64 rn, .int .i64 rv], .int .i64 low, .int .i64 kn] (.bool false) := by
            have e : (decide (low < rn) && decide (rn ≤ kn)) = false := by
              rw [Bool.eq_false_iff]
              simp only [ne_eq, Bool.and_eq_true, decide_eq_true_eq]
              exact c2
            rw [e] at hbt
            exact hbt
          have HB := Lib.hid hbt
          have hs2 : F (i + 1) = (⟨⟨bh', bl', bn⟩, bv⟩, f) := by
            rw [hs, if_neg]
            rintro ⟨-, h⟩
            simp only [Bool.and_eq_true, decide_eq_true_eq] at h
            exact c2 ⟨h.1, h.2.1⟩
          have HS := Lib.hid hs2
          clear hs hs2 hbt hhas HX c2
          go_wp2_with fail
          refine (HB.out _).mono ?_
          rintro e w1 ⟨rfl, hb1⟩
          have hw1 : Below wr.heap.size wr w1 := Below.trans (by go_grown) (hb1.mono (by simp))
          obtain ⟨kc, kf⟩ := bcell hw1
          obtain ⟨nc, nf⟩ := bcell hb1
          have r0 := (nc wr.heap.size 0 (by simp)).trans (show _ = some (Value.int .u64 (rh : Int)) by simp [go_sem])
          have r1 := (nc wr.heap.size 1 (by simp)).trans (show _ = some (Value.int .u64 (rl : Int)) by simp [go_sem])
          have r2 := (nc wr.heap.size 2 (by simp)).trans (show _ = some (Value.int .i64 rn) by simp [go_sem])
          have r3 := (nc wr.heap.size 3 (by simp)).trans (show _ = some (Value.int .i64 rv) by simp [go_sem])
          have hz1 : wr.heap.size < w1.heap.size := by have := hb1.size; simp at this; omega
          have k0 := (kc _ _ hz').trans k0
          have k1 := (kc _ _ hz').trans k1
          have k2 := (kc _ _ hz').trans k2
          have b0 := (kc _ _ hz).trans b0
          have b1 := (kc _ _ hz).trans b1
          have b2 := (kc _ _ hz).trans b2
          have b3 := (kc _ _ hz).trans b3
          have fb := fun j => (kf _ j hz).trans (fb j)
          have hb := hb.trans (hw1.mono hb.size)
          have hzw := hb.size
          have hz'1 : w.heap.size < w1.heap.size := by omega
          have hz1' : w.heap.size + 1 < w1.heap.size := by omega
          clear kc kf nc nf hw1 hb1 x0 x1 x2 x3
          go_wp2
          go_roundg (L.length - (i + 1))
          case measure => omega
          case rel =>
            refine ⟨i + 1, ⟨⟨bh', bl', bn⟩, bv⟩, f, by go_num, rfl, by omega, by omega, Lib.hid HS.out.symm, ?_, ?_, ?_, ?_, ?_, ?_, ?_, ?_, by (first | exact hz2' | exact hz1' | (simpa [go_sem] using (by omega : w.heap.size + 1 < wr.heap.size + 1)) | (simp; omega)), by go_grown⟩
            all_goals simp [go_sem, k0, k1, k2, b0, b1, b2, b3, fb, hz, hz']
      · have hs2 : F (i + 1) = (⟨⟨bh', bl', bn⟩, bv⟩, f) := by
          rw [hs, if_neg]
          exact fun h => c1 h.1
        have HS := Lib.hid hs2
        clear hs hs2 hbt hhas HX
        go_wp2
        go_roundg (L.length - (i + 1))
        case measure => omega
        case rel =>
          refine ⟨i + 1, ⟨⟨bh', bl', bn⟩, bv⟩, f, by go_num, rfl, by omega, by omega, Lib.hid HS.out.symm, ?_, ?_, ?_, ?_, ?_, ?_, ?_, ?_, by (first | exact hz2' | exact hz1' | (simpa [go_sem] using (by omega : w.heap.size + 1 < wr.heap.size + 1)) | (simp; omega)), by go_grown⟩
          all_goals simp [go_sem, k0, k1, k2, b0, b1, b2, b3, fb, hz, hz']
    · have hil : i = L.length := by omega
      have hx := HX.out
      rw [hil] at hx
      have HXX := Lib.hid hx
      clear hx HX
      go_wp2
      go_ret2
      refine ⟨?_, hb⟩
      rw [← HXX.out]
      rfl
end Go.Proofs.Ytmdjbdhnenpjeaa
