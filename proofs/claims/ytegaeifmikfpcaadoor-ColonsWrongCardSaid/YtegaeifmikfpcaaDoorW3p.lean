/-
  What the reference's ReadColons hands back. It asks that the text is no longer than a hundred thousand bytes.
-/
import Derived.Test.YtegaeifmikfpcaaDoorW3o
import Derived.Test.YtegaeifmikfpcaaDoorW3g
set_option linter.unusedSimpArgs false
set_option linter.unusedVariables false
namespace Go.Proofs.YtegaeifmikfpcaaDoor
open Go.RowKit Go.Sort M

theorem readK_two {l a t : List UInt8} (h : splitB 47 l = [a, t]) : readK l = fin6 (numR 128 t) (wordsV a) := by unfold readK; rw [h]
theorem readK_not {l : List UInt8} (h : (splitB 47 l).length ≠ 2) : readK l = (0, 0, 0, 2) := by
  unfold readK
  match splitB 47 l, h with
  | [], _ => rfl
  | [_], _ => rfl
  | [_, _], h => exact absurd rfl h
  | _ :: _ :: _ :: _, _ => rfl
theorem eight_cells {w : World} {g : Nat} {a b c d e f k i : Nat} (h : ∀ j u, (([a, b, c, d, e, f, k, i] : List Nat).map intV)[j]? = some u → w.cell? ⟨g, j, none⟩ = some u) :
    w.cell? ⟨g, 0, none⟩ = some (.int .i64 a) ∧ w.cell? ⟨g, 1, none⟩ = some (.int .i64 b) ∧ w.cell? ⟨g, 2, none⟩ = some (.int .i64 c) ∧ w.cell? ⟨g, 3, none⟩ = some (.int .i64 d) ∧
    w.cell? ⟨g, 4, none⟩ = some (.int .i64 e) ∧ w.cell? ⟨g, 5, none⟩ = some (.int .i64 f) ∧ w.cell? ⟨g, 6, none⟩ = some (.int .i64 k) ∧ w.cell? ⟨g, 7, none⟩ = some (.int .i64 i) :=
  ⟨h 0 _ rfl, h 1 _ rfl, h 2 _ rfl, h 3 _ rfl, h 4 _ rfl, h 5 _ rfl, h 6 _ rfl, h 7 _ rfl⟩
set_option maxHeartbeats 4000000 in
set_option maxRecDepth 100000 in
theorem rreadK_any (l : List UInt8) (hl : l.length ≤ 100000) : Gives Tryd.prog 9 #[.string ⟨l.toArray⟩] (pre6 (readK l)) := by
  intro w
  have hsp : ∀ w', Calls Tryd.prog 18 #[.string ⟨l.toArray⟩, .int .u8 47] w' fun e w'' => ∃ v, e = .returned v ∧ w''.ownsRow w'.heap.size 9 1 v (splitB 47 l).length ((splitB 47 l).map strV) ∧ Below w'.heap.size w' w'' := fun w' => rsplit_l l 47 (by omega) w'
  have hne := List.length_pos_iff.2 (splitB_ne 47 l)
  by_cases h2 : (splitB 47 l).length = 2
  · obtain ⟨a, t, hab⟩ : ∃ a t, splitB 47 l = [a, t] := by
      match splitB 47 l, h2 with
      | [a, b], _ => exact ⟨a, b, rfl⟩
    obtain ⟨t', hlt, -, hsb⟩ := splitB_cons hab
    obtain ⟨rfl, -⟩ := splitB_one hsb
    have hla : a.length ≤ 100000 := by rw [hlt] at hl; simp at hl; omega
    have hlb : t'.length ≤ 100000 := by rw [hlt] at hl; simp at hl; omega
    rw [readK_two hab]
    rw [hab] at hsp
    have HSP := Lib.hid hsp
    have hne : 0 < [a, t'].length := by simp
    have hN : Gives Tryd.prog 19 #[.string ⟨t'.toArray⟩, .int .i64 128] (.int .i64 (numI (numR 128 t'))) :=
      rnum_any ⟨t'.toArray⟩ 128 (by omega) (by show t'.toArray.size ≤ _; unfold maxLen; rw [List.size_toArray]; omega)
    have hW : ∀ w', Calls Tryd.prog 20 #[.string ⟨a.toArray⟩] w' fun e w'' => ∃ v, e = .returned (.tuple #[v, .bool (wordsV a).isSome]) ∧ (∀ L, wordsV a = some L → w''.ownsRow w'.heap.size 3 1 v L.length (L.map intV)) ∧ Below w'.heap.size w' w'' :=
      fun w' => rreadWords_any ⟨a.toArray⟩ (by show a.toArray.size ≤ _; rw [List.size_toArray]; omega) w'
    clear hsp h2 hab hlt hsb hla hlb hl
    cases hn : numR 128 t' with
    | none =>
      rw [hn] at hN
      rw [fin6_none]
      have HN : Hid (Gives Tryd.prog 19 #[.string ⟨t'.toArray⟩, .int .i64 128] (.int .i64 (-1))) := hN
      have HW := Lib.hid hW
      clear hN hW hn
      go_enter Tryd.func9, Tryd.ntmps9
      go_wp2_with fail
      refine (HSP.out _).mono ?_
      rintro e w1 ⟨v, rfl, hown, hb1⟩
      obtain ⟨g, cap, rfl, hg, hgs, hnc, hcm, hcells⟩ := own_form hown hne
      have hw0 : Below w.heap.size w w1 := Below.trans (by go_grown) (hb1.mono (by go_size))
      have hz : w.heap.size < w1.heap.size := by have := hb1.size; simp at this; omega
      have c0 : w1.cell? ⟨w.heap.size, 0, none⟩ = some (.int .u64 0) := by
        rw [hb1.cell (by simp <;> omega)]
        first | assumption | (simp [go_sem]; done) | (simp [go_sem, *]; done)
      have c1 : w1.cell? ⟨w.heap.size, 1, none⟩ = some (.int .u64 0) := by
        rw [hb1.cell (by simp <;> omega)]
        first | assumption | (simp [go_sem]; done) | (simp [go_sem, *]; done)
      have c2 : w1.cell? ⟨w.heap.size, 2, none⟩ = some (.int .i64 0) := by
        rw [hb1.cell (by simp <;> omega)]
        first | assumption | (simp [go_sem]; done) | (simp [go_sem, *]; done)
      have f0 : w1.frozen? ⟨w.heap.size, 0, none⟩ = false := by
        rw [hb1.frozen (by simp <;> omega)]
        first | assumption | (simp [go_sem]; done) | (simp [go_sem, *]; done)
      have f1 : w1.frozen? ⟨w.heap.size, 1, none⟩ = false := by
        rw [hb1.frozen (by simp <;> omega)]
        first | assumption | (simp [go_sem]; done) | (simp [go_sem, *]; done)
      have f2 : w1.frozen? ⟨w.heap.size, 2, none⟩ = false := by
        rw [hb1.frozen (by simp <;> omega)]
        first | assumption | (simp [go_sem]; done) | (simp [go_sem, *]; done)
      clear hb1 hown
      have a0 : w1.cell? ⟨g, 0, none⟩ = some (.string ⟨a.toArray⟩) := hcells 0 _ rfl
      have a1 : w1.cell? ⟨g, 1, none⟩ = some (.string ⟨t'.toArray⟩) := hcells 1 _ rfl
      clear hcells
      go_wp2_with fail
      refine (HN.out _).mono ?_
      rintro e w2 ⟨rfl, hb2⟩
      have hgs2 := Nat.lt_of_lt_of_le hgs hb2.size
      obtain ⟨hc2, hf2⟩ := bcell hb2
      have a0 := (hc2 _ _ (by omega)).trans a0
      have c0 := (hc2 _ _ (by omega)).trans c0
      have c1 := (hc2 _ _ (by omega)).trans c1
      have c2 := (hc2 _ _ (by omega)).trans c2
      have f0 := (hf2 _ _ (by omega)).trans f0
      have f1 := (hf2 _ _ (by omega)).trans f1
      have f2 := (hf2 _ _ (by omega)).trans f2
      have hw0 := Below.trans hw0 (hb2.mono (by omega))
      have hz := Nat.lt_of_lt_of_le hz hb2.size
      clear hc2 hf2 hb2
      clear hgs
      go_wp2_with fail
      refine (HW.out _).mono ?_
      rintro e w3 ⟨v2, rfl, hl2, hb3⟩
      have hgs3 := Nat.lt_of_lt_of_le hgs2 hb3.size
      obtain ⟨hc3, hf3⟩ := bcell hb3
      have c0 := (hc3 _ _ (by omega)).trans c0
      have c1 := (hc3 _ _ (by omega)).trans c1
      have c2 := (hc3 _ _ (by omega)).trans c2
      have f0 := (hf3 _ _ (by omega)).trans f0
      have f1 := (hf3 _ _ (by omega)).trans f1
      have f2 := (hf3 _ _ (by omega)).trans f2
      have hw0 := Below.trans hw0 (hb3.mono (by omega))
      have hz := Nat.lt_of_lt_of_le hz hb3.size
      clear hc3 hf3 hb3
      go_wp2
      refine bodyPost_ret (by simp [results, Tryd.results9, go_sem, c0, c1, c2, f0, f1, f2, hz]; try rfl) rfl ?_
      exact ⟨rfl, by go_grown⟩
    | some n =>
      rw [hn] at hN
      have HN : Hid (Gives Tryd.prog 19 #[.string ⟨t'.toArray⟩, .int .i64 128] (.int .i64 (n : Int))) := hN
      clear hN hn
      cases hx : wordsV a with
      | none =>
        rw [hx] at hW
        rw [show fin6 (some n) none = (0, 0, 0, 2) from rfl]
        have HW := Lib.hid hW
        clear hW hx
        go_enter Tryd.func9, Tryd.ntmps9
        go_wp2_with fail
        refine (HSP.out _).mono ?_
        rintro e w1 ⟨v, rfl, hown, hb1⟩
        obtain ⟨g, cap, rfl, hg, hgs, hnc, hcm, hcells⟩ := own_form hown hne
        have hw0 : Below w.heap.size w w1 := Below.trans (by go_grown) (hb1.mono (by go_size))
        have hz : w.heap.size < w1.heap.size := by have := hb1.size; simp at this; omega
        have c0 : w1.cell? ⟨w.heap.size, 0, none⟩ = some (.int .u64 0) := by
          rw [hb1.cell (by simp <;> omega)]
          first | assumption | (simp [go_sem]; done) | (simp [go_sem, *]; done)
        have c1 : w1.cell? ⟨w.heap.size, 1, none⟩ = some (.int .u64 0) := by
          rw [hb1.cell (by simp <;> omega)]
          first | assumption | (simp [go_sem]; done) | (simp [go_sem, *]; done)
        have c2 : w1.cell? ⟨w.heap.size, 2, none⟩ = some (.int .i64 0) := by
          rw [hb1.cell (by simp <;> omega)]
          first | assumption | (simp [go_sem]; done) | (simp [go_sem, *]; done)
        have f0 : w1.frozen? ⟨w.heap.size, 0, none⟩ = false := by
          rw [hb1.frozen (by simp <;> omega)]
          first | assumption | (simp [go_sem]; done) | (simp [go_sem, *]; done)
        have f1 : w1.frozen? ⟨w.heap.size, 1, none⟩ = false := by
          rw [hb1.frozen (by simp <;> omega)]
          first | assumption | (simp [go_sem]; done) | (simp [go_sem, *]; done)
        have f2 : w1.frozen? ⟨w.heap.size, 2, none⟩ = false := by
          rw [hb1.frozen (by simp <;> omega)]
          first | assumption | (simp [go_sem]; done) | (simp [go_sem, *]; done)
        clear hb1 hown
        have a0 : w1.cell? ⟨g, 0, none⟩ = some (.string ⟨a.toArray⟩) := hcells 0 _ rfl
        have a1 : w1.cell? ⟨g, 1, none⟩ = some (.string ⟨t'.toArray⟩) := hcells 1 _ rfl
        clear hcells
        go_wp2_with fail
        refine (HN.out _).mono ?_
        rintro e w2 ⟨rfl, hb2⟩
        have hgs2 := Nat.lt_of_lt_of_le hgs hb2.size
        obtain ⟨hc2, hf2⟩ := bcell hb2
        have a0 := (hc2 _ _ (by omega)).trans a0
        have c0 := (hc2 _ _ (by omega)).trans c0
        have c1 := (hc2 _ _ (by omega)).trans c1
        have c2 := (hc2 _ _ (by omega)).trans c2
        have f0 := (hf2 _ _ (by omega)).trans f0
        have f1 := (hf2 _ _ (by omega)).trans f1
        have f2 := (hf2 _ _ (by omega)).trans f2
        have hw0 := Below.trans hw0 (hb2.mono (by omega))
        have hz := Nat.lt_of_lt_of_le hz hb2.size
        clear hc2 hf2 hb2
        clear hgs
        go_wp2_with fail
        refine (HW.out _).mono ?_
        rintro e w3 ⟨v2, rfl, hl2, hb3⟩
        have hgs3 := Nat.lt_of_lt_of_le hgs2 hb3.size
        obtain ⟨hc3, hf3⟩ := bcell hb3
        have c0 := (hc3 _ _ (by omega)).trans c0
        have c1 := (hc3 _ _ (by omega)).trans c1
        have c2 := (hc3 _ _ (by omega)).trans c2
        have f0 := (hf3 _ _ (by omega)).trans f0
        have f1 := (hf3 _ _ (by omega)).trans f1
        have f2 := (hf3 _ _ (by omega)).trans f2
        have hw0 := Below.trans hw0 (hb3.mono (by omega))
        have hz := Nat.lt_of_lt_of_le hz hb3.size
        clear hc3 hf3 hb3
        go_wp2
        refine bodyPost_ret (by simp [results, Tryd.results9, go_sem, c0, c1, c2, f0, f1, f2, hz]; try rfl) rfl ?_
        exact ⟨rfl, by go_grown⟩
      | some L =>
        obtain ⟨hL8, hLt⟩ := wordsV_8 hx
        rw [hx] at hW
        have HW := Lib.hid hW
        clear hW hx
        obtain ⟨l0, l1, l2, l3, l4, l5, l6, l7, rfl⟩ := eight_of hL8
        have b0 : l0 < 65536 := hLt _ (by simp)
        have b1 : l1 < 65536 := hLt _ (by simp)
        have b2 : l2 < 65536 := hLt _ (by simp)
        have b3 : l3 < 65536 := hLt _ (by simp)
        have b4 : l4 < 65536 := hLt _ (by simp)
        have b5 : l5 < 65536 := hLt _ (by simp)
        have b6 : l6 < 65536 := hLt _ (by simp)
        have b7 : l7 < 65536 := hLt _ (by simp)
        clear hL8 hLt
        go_enter Tryd.func9, Tryd.ntmps9
        go_wp2_with fail
        refine (HSP.out _).mono ?_
        rintro e w1 ⟨v, rfl, hown, hb1⟩
        obtain ⟨g, cap, rfl, hg, hgs, hnc, hcm, hcells⟩ := own_form hown hne
        have hw0 : Below w.heap.size w w1 := Below.trans (by go_grown) (hb1.mono (by go_size))
        have hz : w.heap.size < w1.heap.size := by have := hb1.size; simp at this; omega
        have c0 : w1.cell? ⟨w.heap.size, 0, none⟩ = some (.int .u64 0) := by
          rw [hb1.cell (by simp <;> omega)]
          first | assumption | (simp [go_sem]; done) | (simp [go_sem, *]; done)
        have c1 : w1.cell? ⟨w.heap.size, 1, none⟩ = some (.int .u64 0) := by
          rw [hb1.cell (by simp <;> omega)]
          first | assumption | (simp [go_sem]; done) | (simp [go_sem, *]; done)
        have c2 : w1.cell? ⟨w.heap.size, 2, none⟩ = some (.int .i64 0) := by
          rw [hb1.cell (by simp <;> omega)]
          first | assumption | (simp [go_sem]; done) | (simp [go_sem, *]; done)
        have f0 : w1.frozen? ⟨w.heap.size, 0, none⟩ = false := by
          rw [hb1.frozen (by simp <;> omega)]
          first | assumption | (simp [go_sem]; done) | (simp [go_sem, *]; done)
        have f1 : w1.frozen? ⟨w.heap.size, 1, none⟩ = false := by
          rw [hb1.frozen (by simp <;> omega)]
          first | assumption | (simp [go_sem]; done) | (simp [go_sem, *]; done)
        have f2 : w1.frozen? ⟨w.heap.size, 2, none⟩ = false := by
          rw [hb1.frozen (by simp <;> omega)]
          first | assumption | (simp [go_sem]; done) | (simp [go_sem, *]; done)
        clear hb1 hown
        have a0 : w1.cell? ⟨g, 0, none⟩ = some (.string ⟨a.toArray⟩) := hcells 0 _ rfl
        have a1 : w1.cell? ⟨g, 1, none⟩ = some (.string ⟨t'.toArray⟩) := hcells 1 _ rfl
        clear hcells
        go_wp2_with fail
        refine (HN.out _).mono ?_
        rintro e w2 ⟨rfl, hb2⟩
        have hgs2 := Nat.lt_of_lt_of_le hgs hb2.size
        obtain ⟨hc2, hf2⟩ := bcell hb2
        have a0 := (hc2 _ _ (by omega)).trans a0
        have c0 := (hc2 _ _ (by omega)).trans c0
        have c1 := (hc2 _ _ (by omega)).trans c1
        have c2 := (hc2 _ _ (by omega)).trans c2
        have f0 := (hf2 _ _ (by omega)).trans f0
        have f1 := (hf2 _ _ (by omega)).trans f1
        have f2 := (hf2 _ _ (by omega)).trans f2
        have hw0 := Below.trans hw0 (hb2.mono (by omega))
        have hz := Nat.lt_of_lt_of_le hz hb2.size
        clear hc2 hf2 hb2
        clear hgs
        go_wp2_with fail
        refine (HW.out _).mono ?_
        rintro e w3 ⟨v2, rfl, hl2, hb3⟩
        have hgs3 := Nat.lt_of_lt_of_le hgs2 hb3.size
        obtain ⟨hc3, hf3⟩ := bcell hb3
        have c0 := (hc3 _ _ (by omega)).trans c0
        have c1 := (hc3 _ _ (by omega)).trans c1
        have c2 := (hc3 _ _ (by omega)).trans c2
        have f0 := (hf3 _ _ (by omega)).trans f0
        have f1 := (hf3 _ _ (by omega)).trans f1
        have f2 := (hf3 _ _ (by omega)).trans f2
        have hw0 := Below.trans hw0 (hb3.mono (by omega))
        have hz := Nat.lt_of_lt_of_le hz hb3.size
        clear hc3 hf3 hb3
        obtain ⟨g2, cap2, rfl, hg2, hgs4, hnc2, hcm2, hcells⟩ := own_form (hl2 _ rfl) (by simp)
        have HC := Lib.hid (eight_cells hcells)
        clear hl2 hcells
        go_wp2
        go_loopw [9] (fun i wr => ∃ k h gg : Nat, k ≤ 4 ∧ i = .int .i64 k ∧ h < 65536 ^ k ∧ gg < 65536 ^ k ∧ Hid (h = packGo 0 ([l0, l1, l2, l3].take k)) ∧ Hid (gg = packGo 0 ([l4, l5, l6, l7].take k)) ∧ Below w.heap.size w wr ∧ w3.heap.size < wr.heap.size ∧
            wr.cell? ⟨w3.heap.size, 0, none⟩ = some (.int .u64 h) ∧ wr.cell? ⟨w3.heap.size, 1, none⟩ = some (.int .u64 gg) ∧ wr.frozen? ⟨w3.heap.size, 0, none⟩ = false ∧ wr.frozen? ⟨w3.heap.size, 1, none⟩ = false ∧
            wr.cell? ⟨w.heap.size, 0, none⟩ = some (.int .u64 0) ∧ wr.cell? ⟨w.heap.size, 1, none⟩ = some (.int .u64 0) ∧ wr.cell? ⟨w.heap.size, 2, none⟩ = some (.int .i64 0) ∧
            wr.frozen? ⟨w.heap.size, 0, none⟩ = false ∧ wr.frozen? ⟨w.heap.size, 1, none⟩ = false ∧ wr.frozen? ⟨w.heap.size, 2, none⟩ = false ∧
            wr.cell? ⟨g2, 0, none⟩ = some (.int .i64 l0) ∧ wr.cell? ⟨g2, 1, none⟩ = some (.int .i64 l1) ∧ wr.cell? ⟨g2, 2, none⟩ = some (.int .i64 l2) ∧ wr.cell? ⟨g2, 3, none⟩ = some (.int .i64 l3) ∧
            wr.cell? ⟨g2, 4, none⟩ = some (.int .i64 l4) ∧ wr.cell? ⟨g2, 5, none⟩ = some (.int .i64 l5) ∧ wr.cell? ⟨g2, 6, none⟩ = some (.int .i64 l6) ∧ wr.cell? ⟨g2, 7, none⟩ = some (.int .i64 l7)) (fun i _ => 4 - (intOf i).toNat)
        case atStart =>
          obtain ⟨x0, x1, x2, x3, x4, x5, x6, x7⟩ := HC.out
          refine ⟨0, 0, 0, by omega, rfl, by decide, by decide, Lib.hid rfl, Lib.hid rfl, by go_grown, by go_size, ?_⟩
          simp [go_sem, c0, c1, c2, f0, f1, f2, x0, x1, x2, x3, x4, x5, x6, x7, hgs4, hz]
        case round =>
          clear hw0 hz c0 c1 c2 f0 f1 f2
          obtain ⟨k, h, gg, hk, rfl, hh, hgg, HH, HG, hw0, hz, d0, d1, e0, e1, c0, c1, c2, f0, f1, f2, x0, x1, x2, x3, x4, x5, x6, x7⟩ := hrel
          by_cases hlt : k < 4
          · obtain rfl | rfl | rfl | rfl : k = 0 ∨ k = 1 ∨ k = 2 ∨ k = 3 := by omega
            ·
              have hh2 := pow16 hh (by omega)
              have hg2 := pow16 hgg (by omega)
              have h1 := step16 hh b0
              have g1 := step16 hgg b4
              have HH1 := Lib.hid h1
              have HG1 := Lib.hid g1
              clear h1 g1 hh hgg
              go_wp2_with fail
              go_region
              go_wp2_with fail
              go_region
              go_wp2
              rw [or16 h l0 hh2 b0, or16 gg l4 hg2 b4]
              go_roundw
              case rel =>
                refine ⟨0 + 1, h * 65536 + l0, gg * 65536 + l4, by omega, by go_num, HH1.out, HG1.out, Lib.hid ?_, Lib.hid ?_, by go_grown, by go_size, ?_⟩
                · rw [HH.out]; rfl
                · rw [HG.out]; rfl
                · simp [go_sem, x0, x1, x2, x3, x4, x5, x6, x7, c0, c1, c2, f0, f1, f2, d0, d1, e0, e1, hz, hgs4]
              case measure => simp [intOf]
            ·
              have hh2 := pow16 hh (by omega)
              have hg2 := pow16 hgg (by omega)
              have h1 := step16 hh b1
              have g1 := step16 hgg b5
              have HH1 := Lib.hid h1
              have HG1 := Lib.hid g1
              clear h1 g1 hh hgg
              go_wp2_with fail
              go_region
              go_wp2_with fail
              go_region
              go_wp2
              rw [or16 h l1 hh2 b1, or16 gg l5 hg2 b5]
              go_roundw
              case rel =>
                refine ⟨1 + 1, h * 65536 + l1, gg * 65536 + l5, by omega, by go_num, HH1.out, HG1.out, Lib.hid ?_, Lib.hid ?_, by go_grown, by go_size, ?_⟩
                · rw [HH.out]; rfl
                · rw [HG.out]; rfl
                · simp [go_sem, x0, x1, x2, x3, x4, x5, x6, x7, c0, c1, c2, f0, f1, f2, d0, d1, e0, e1, hz, hgs4]
              case measure => simp [intOf]
            ·
              have hh2 := pow16 hh (by omega)
              have hg2 := pow16 hgg (by omega)
              have h1 := step16 hh b2
              have g1 := step16 hgg b6
              have HH1 := Lib.hid h1
              have HG1 := Lib.hid g1
              clear h1 g1 hh hgg
              go_wp2_with fail
              go_region
              go_wp2_with fail
              go_region
              go_wp2
              rw [or16 h l2 hh2 b2, or16 gg l6 hg2 b6]
              go_roundw
              case rel =>
                refine ⟨2 + 1, h * 65536 + l2, gg * 65536 + l6, by omega, by go_num, HH1.out, HG1.out, Lib.hid ?_, Lib.hid ?_, by go_grown, by go_size, ?_⟩
                · rw [HH.out]; rfl
                · rw [HG.out]; rfl
                · simp [go_sem, x0, x1, x2, x3, x4, x5, x6, x7, c0, c1, c2, f0, f1, f2, d0, d1, e0, e1, hz, hgs4]
              case measure => simp [intOf]
            ·
              have hh2 := pow16 hh (by omega)
              have hg2 := pow16 hgg (by omega)
              have h1 := step16 hh b3
              have g1 := step16 hgg b7
              have HH1 := Lib.hid h1
              have HG1 := Lib.hid g1
              clear h1 g1 hh hgg
              go_wp2_with fail
              go_region
              go_wp2_with fail
              go_region
              go_wp2
              rw [or16 h l3 hh2 b3, or16 gg l7 hg2 b7]
              go_roundw
              case rel =>
                refine ⟨3 + 1, h * 65536 + l3, gg * 65536 + l7, by omega, by go_num, HH1.out, HG1.out, Lib.hid ?_, Lib.hid ?_, by go_grown, by go_size, ?_⟩
                · rw [HH.out]; rfl
                · rw [HG.out]; rfl
                · simp [go_sem, x0, x1, x2, x3, x4, x5, x6, x7, c0, c1, c2, f0, f1, f2, d0, d1, e0, e1, hz, hgs4]
              case measure => simp [intOf]
          · obtain rfl : k = 4 := by omega
            have hwh : W64 h := W64.mk hh
            have hwg : W64 gg := W64.mk hgg
            have hwn := whole_any h gg (n : Int) hwh hwg
            have hfin : pre6 (fin6 (some n) (some [l0, l1, l2, l3, l4, l5, l6, l7])) = wholeV h gg (n : Int) := by
              have e1 : hiOf [l0, l1, l2, l3, l4, l5, l6, l7] = h := HH.out.symm
              have e2 : loOf [l0, l1, l2, l3, l4, l5, l6, l7] = gg := HG.out.symm
              simp only [fin6, e1, e2, wholeV]
              split <;> rfl
            unfold wholeV at hwn hfin
            cases hB : rightB h gg (n : Int)
            all_goals
              rw [hB] at hwn hfin
              have HWN := Lib.hid hwn
              have HFIN := Lib.hid hfin
              clear hwn hfin hB hh hgg hwh hwg
              go_wp2_with fail
              refine (HWN.out _).mono ?_
              rintro e w5 ⟨rfl, hb5⟩
              obtain ⟨hc5, hf5⟩ := bcell hb5
              have c0 := (hc5 _ _ (by omega)).trans c0
              have c1 := (hc5 _ _ (by omega)).trans c1
              have c2 := (hc5 _ _ (by omega)).trans c2
              have f0 := (hf5 _ _ (by omega)).trans f0
              have f1 := (hf5 _ _ (by omega)).trans f1
              have f2 := (hf5 _ _ (by omega)).trans f2
              have hw0 := Below.trans hw0 (hb5.mono (by omega))
              have hz := Nat.lt_of_lt_of_le hz hb5.size
              clear hc5 hf5 hb5
              go_wp2
              refine bodyPost_ret (by simp [results, Tryd.results9, go_sem, c0, c1, c2, f0, f1, f2, hz]; try rfl) rfl ?_
              exact ⟨by rw [HFIN.out]; rfl, by go_grown⟩
  · rw [readK_not h2]
    have h2' : (((splitB 47 l).length : Int) != 2) = true := by simp; omega
    generalize splitB 47 l = Q at hsp hne h2'
    have HSP := Lib.hid hsp
    clear hsp h2
    go_enter Tryd.func9, Tryd.ntmps9
    go_wp2_with fail
    refine (HSP.out _).mono ?_
    rintro e w1 ⟨v, rfl, hown, hb1⟩
    obtain ⟨g, cap, rfl, hg, hgs, hnc, hcm, hcells⟩ := own_form hown hne
    have hw0 : Below w.heap.size w w1 := Below.trans (by go_grown) (hb1.mono (by go_size))
    have hz : w.heap.size < w1.heap.size := by have := hb1.size; simp at this; omega
    have c0 : w1.cell? ⟨w.heap.size, 0, none⟩ = some (.int .u64 0) := by
      rw [hb1.cell (by simp <;> omega)]
      first | assumption | (simp [go_sem]; done) | (simp [go_sem, *]; done)
    have c1 : w1.cell? ⟨w.heap.size, 1, none⟩ = some (.int .u64 0) := by
      rw [hb1.cell (by simp <;> omega)]
      first | assumption | (simp [go_sem]; done) | (simp [go_sem, *]; done)
    have c2 : w1.cell? ⟨w.heap.size, 2, none⟩ = some (.int .i64 0) := by
      rw [hb1.cell (by simp <;> omega)]
      first | assumption | (simp [go_sem]; done) | (simp [go_sem, *]; done)
    have f0 : w1.frozen? ⟨w.heap.size, 0, none⟩ = false := by
      rw [hb1.frozen (by simp <;> omega)]
      first | assumption | (simp [go_sem]; done) | (simp [go_sem, *]; done)
    have f1 : w1.frozen? ⟨w.heap.size, 1, none⟩ = false := by
      rw [hb1.frozen (by simp <;> omega)]
      first | assumption | (simp [go_sem]; done) | (simp [go_sem, *]; done)
    have f2 : w1.frozen? ⟨w.heap.size, 2, none⟩ = false := by
      rw [hb1.frozen (by simp <;> omega)]
      first | assumption | (simp [go_sem]; done) | (simp [go_sem, *]; done)
    clear hb1 hown
    go_wp2
    refine bodyPost_ret (by simp [results, Tryd.results9, go_sem, c0, c1, c2, f0, f1, f2, hz]; try rfl) rfl ?_
    exact ⟨rfl, by go_grown⟩
end Go.Proofs.YtegaeifmikfpcaaDoor
