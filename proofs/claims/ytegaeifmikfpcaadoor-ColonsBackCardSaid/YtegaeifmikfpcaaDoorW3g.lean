/-
  What colons.Read hands back. It asks what Kit tells of the library's variables, and that the text is no longer than a million bytes.
-/
import Derived.Test.YtegaeifmikfpcaaDoorW3f
set_option linter.unusedSimpArgs false
set_option linter.unusedVariables false
namespace Go.Proofs.YtegaeifmikfpcaaDoor
open Go.RowKit Go.Sort M

/-- A prefix of two words and an error. -/
def pre6 (x : Nat × Nat × Nat × Nat) : Value := .tuple #[.agg #[.int .u64 x.1, .int .u64 x.2.1, .int .i64 x.2.2.1], .int .i64 x.2.2.2]
theorem pack_lt4 {l : List Nat} (h : ∀ z ∈ l, z < 65536) (h4 : l.length ≤ 4) : packGo 0 l < 18446744073709551616 := by
  have : ∀ (l : List Nat) (a k : Nat), (∀ z ∈ l, z < 65536) → a < 65536 ^ k → packGo a l < 65536 ^ (k + l.length) := by
    intro l
    induction l with
    | nil => intro a k _ ha; exact ha
    | cons x l ih =>
      intro a k hl ha
      have := ih (a * 65536 + x) (k + 1) (fun z hz => hl z (by simp [hz])) (step16 ha (hl x (by simp)))
      rw [List.length_cons, show k + (l.length + 1) = k + 1 + l.length by omega]
      exact this
  exact Nat.lt_of_lt_of_le (this l 0 0 h (by decide)) (Nat.le_trans (Nat.pow_le_pow_right (by omega) (show 0 + l.length ≤ 4 by omega)) (by decide))
theorem words_64 {l : List UInt8} {x : List Nat} (h : wordsP l = some x) : W64 (hiOf x) ∧ W64 (loOf x) := by
  rw [wordsP_eq] at h
  obtain ⟨h8, hlt⟩ := wordsV_8 h
  exact ⟨W64.mk (pack_lt4 (fun z hz => hlt z (List.mem_of_mem_take hz)) (by simp; omega)), W64.mk (pack_lt4 (fun z hz => hlt z (List.mem_of_mem_drop hz)) (by simp; omega))⟩
set_option maxHeartbeats 2000000 in
theorem kread_any (l : List UInt8) (hl : l.length ≤ 1000000) : GivesK 8 #[.string ⟨l.toArray⟩] (pre6 (readP l)) := by
  intro w hk
  unfold readP
  obtain ⟨d, r, f, hc⟩ : ∃ d r f, cutB 47 l = (d, r, f) := ⟨_, _, _, rfl⟩
  obtain ⟨hld, -, hlr⟩ := cutB_less hc
  have hC := scut_l (by unfold maxLen; omega) hc
  rw [hc]
  have HC := Lib.hid hC
  have HK := Lib.hid hk
  clear hC hk hc
  cases f
  · clear hld hlr hl
    go_enter Tryd.func8, Tryd.ntmps8
    go_wp2_with fail
    refine (HC.out _).mono ?_
    rintro e w1 ⟨rfl, hb1⟩
    have hw0 : Below w.heap.size w w1 := Below.trans (by go_grown) (hb1.mono (by go_size))
    have hz : w.heap.size < w1.heap.size := by have := hb1.size; simp at this; omega
    have c0 : w1.cell? ⟨w.heap.size, 0, none⟩ = some (.int .u64 0) := by
      rw [hb1.cell (by simp <;> omega)]
      first | assumption | (simp [go_sem]; done) | (simp [go_sem, *]; done)
    have c1 : w1.cell? ⟨w.heap.size, 1, none⟩ = some (.int .u64 0) := by
      rw [hb1.cell (by simp <;> omega)]
      first | assumption | (simp [go_sem]; done) | (simp [go_sem, *]; done)
    have c2 : w1.cell? ⟨w.heap.size, 2, none⟩ = some (.int .i64 0) := by
      rw [hb1.cell (by simp <;> omega)]
      first | assumption | (simp [go_sem]; done) | (simp [go_sem, *]; done)
    have f0 : w1.frozen? ⟨w.heap.size, 0, none⟩ = false := by
      rw [hb1.frozen (by simp <;> omega)]
      first | assumption | (simp [go_sem]; done) | (simp [go_sem, *]; done)
    have f1 : w1.frozen? ⟨w.heap.size, 1, none⟩ = false := by
      rw [hb1.frozen (by simp <;> omega)]
      first | assumption | (simp [go_sem]; done) | (simp [go_sem, *]; done)
    have f2 : w1.frozen? ⟨w.heap.size, 2, none⟩ = false := by
      rw [hb1.frozen (by simp <;> omega)]
      first | assumption | (simp [go_sem]; done) | (simp [go_sem, *]; done)
    clear hb1
    go_wp2
    refine bodyPost_ret (by simp [results, Tryd.results8, go_sem, c0, c1, c2, f0, f1, f2, hz]; try rfl) rfl ?_
    exact ⟨rfl, by go_grown⟩
  · simp only [if_true]
    cases hn : numC 128 r with
    | none =>
      have hN := clength_none (by omega) hn
      have HN := Lib.hid hN
      rw [fin6_none]
      clear hN hn hld hlr hl
      go_enter Tryd.func8, Tryd.ntmps8
      go_wp2_with fail
      refine (HC.out _).mono ?_
      rintro e w1 ⟨rfl, hb1⟩
      have hw0 : Below w.heap.size w w1 := Below.trans (by go_grown) (hb1.mono (by go_size))
      have hz : w.heap.size < w1.heap.size := by have := hb1.size; simp at this; omega
      have c0 : w1.cell? ⟨w.heap.size, 0, none⟩ = some (.int .u64 0) := by
        rw [hb1.cell (by simp <;> omega)]
        first | assumption | (simp [go_sem]; done) | (simp [go_sem, *]; done)
      have c1 : w1.cell? ⟨w.heap.size, 1, none⟩ = some (.int .u64 0) := by
        rw [hb1.cell (by simp <;> omega)]
        first | assumption | (simp [go_sem]; done) | (simp [go_sem, *]; done)
      have c2 : w1.cell? ⟨w.heap.size, 2, none⟩ = some (.int .i64 0) := by
        rw [hb1.cell (by simp <;> omega)]
        first | assumption | (simp [go_sem]; done) | (simp [go_sem, *]; done)
      have f0 : w1.frozen? ⟨w.heap.size, 0, none⟩ = false := by
        rw [hb1.frozen (by simp <;> omega)]
        first | assumption | (simp [go_sem]; done) | (simp [go_sem, *]; done)
      have f1 : w1.frozen? ⟨w.heap.size, 1, none⟩ = false := by
        rw [hb1.frozen (by simp <;> omega)]
        first | assumption | (simp [go_sem]; done) | (simp [go_sem, *]; done)
      have f2 : w1.frozen? ⟨w.heap.size, 2, none⟩ = false := by
        rw [hb1.frozen (by simp <;> omega)]
        first | assumption | (simp [go_sem]; done) | (simp [go_sem, *]; done)
      clear hb1
      go_wp2_with fail
      refine (HN.out _ (HK.out.up hw0)).mono ?_
      rintro e w2 ⟨rfl, hb2⟩
      obtain ⟨hc2, hf2⟩ := bcell hb2
      have c0 := (hc2 _ _ (by omega)).trans c0
      have c1 := (hc2 _ _ (by omega)).trans c1
      have c2 := (hc2 _ _ (by omega)).trans c2
      have f0 := (hf2 _ _ (by omega)).trans f0
      have f1 := (hf2 _ _ (by omega)).trans f1
      have f2 := (hf2 _ _ (by omega)).trans f2
      have hw0 := Below.trans hw0 (hb2.mono (by omega))
      have hz := Nat.lt_of_lt_of_le hz hb2.size
      clear hc2 hf2 hb2
      go_wp2
      refine bodyPost_ret (by simp [results, Tryd.results8, go_sem, c0, c1, c2, f0, f1, f2, hz]; try rfl) rfl ?_
      exact ⟨rfl, by go_grown⟩
    | some n =>
      have hN := clength_some (by omega) hn
      have h128 := numC_le hn
      have HN := Lib.hid hN
      have hA := caddress_any d (by omega)
      cases hx : wordsP d with
      | none =>
        rw [hx] at hA
        have HA : Hid (GivesK 16 #[.string ⟨d.toArray⟩] (.tuple #[.agg #[.int .u64 0, .int .u64 0], .bool false])) := hA
        rw [show fin6 (some n) none = (0, 0, 0, 2) from rfl]
        clear hN hn hld hlr hl hA hx
        go_enter Tryd.func8, Tryd.ntmps8
        go_wp2_with fail
        refine (HC.out _).mono ?_
        rintro e w1 ⟨rfl, hb1⟩
        have hw0 : Below w.heap.size w w1 := Below.trans (by go_grown) (hb1.mono (by go_size))
        have hz : w.heap.size < w1.heap.size := by have := hb1.size; simp at this; omega
        have c0 : w1.cell? ⟨w.heap.size, 0, none⟩ = some (.int .u64 0) := by
          rw [hb1.cell (by simp <;> omega)]
          first | assumption | (simp [go_sem]; done) | (simp [go_sem, *]; done)
        have c1 : w1.cell? ⟨w.heap.size, 1, none⟩ = some (.int .u64 0) := by
          rw [hb1.cell (by simp <;> omega)]
          first | assumption | (simp [go_sem]; done) | (simp [go_sem, *]; done)
        have c2 : w1.cell? ⟨w.heap.size, 2, none⟩ = some (.int .i64 0) := by
          rw [hb1.cell (by simp <;> omega)]
          first | assumption | (simp [go_sem]; done) | (simp [go_sem, *]; done)
        have f0 : w1.frozen? ⟨w.heap.size, 0, none⟩ = false := by
          rw [hb1.frozen (by simp <;> omega)]
          first | assumption | (simp [go_sem]; done) | (simp [go_sem, *]; done)
        have f1 : w1.frozen? ⟨w.heap.size, 1, none⟩ = false := by
          rw [hb1.frozen (by simp <;> omega)]
          first | assumption | (simp [go_sem]; done) | (simp [go_sem, *]; done)
        have f2 : w1.frozen? ⟨w.heap.size, 2, none⟩ = false := by
          rw [hb1.frozen (by simp <;> omega)]
          first | assumption | (simp [go_sem]; done) | (simp [go_sem, *]; done)
        clear hb1
        go_wp2_with fail
        refine (HN.out _ (HK.out.up hw0)).mono ?_
        rintro e w2 ⟨rfl, hb2⟩
        obtain ⟨hc2, hf2⟩ := bcell hb2
        have c0 := (hc2 _ _ (by omega)).trans c0
        have c1 := (hc2 _ _ (by omega)).trans c1
        have c2 := (hc2 _ _ (by omega)).trans c2
        have f0 := (hf2 _ _ (by omega)).trans f0
        have f1 := (hf2 _ _ (by omega)).trans f1
        have f2 := (hf2 _ _ (by omega)).trans f2
        have hw0 := Below.trans hw0 (hb2.mono (by omega))
        have hz := Nat.lt_of_lt_of_le hz hb2.size
        clear hc2 hf2 hb2
        go_wp2_with fail
        refine (HA.out _ (HK.out.up hw0)).mono ?_
        rintro e w3 ⟨rfl, hb3⟩
        obtain ⟨hc3, hf3⟩ := bcell hb3
        have c0 := (hc3 _ _ (by omega)).trans c0
        have c1 := (hc3 _ _ (by omega)).trans c1
        have c2 := (hc3 _ _ (by omega)).trans c2
        have f0 := (hf3 _ _ (by omega)).trans f0
        have f1 := (hf3 _ _ (by omega)).trans f1
        have f2 := (hf3 _ _ (by omega)).trans f2
        have hw0 := Below.trans hw0 (hb3.mono (by omega))
        have hz := Nat.lt_of_lt_of_le hz hb3.size
        clear hc3 hf3 hb3
        go_wp2
        refine bodyPost_ret (by simp [results, Tryd.results8, go_sem, c0, c1, c2, f0, f1, f2, hz]; try rfl) rfl ?_
        exact ⟨rfl, by go_grown⟩
      | some x =>
        obtain ⟨wh, wl⟩ := words_64 hx
        have hr := right_any (hiOf x) (loOf x) n wh wl
        rw [hx] at hA
        rw [show fin6 (some n) (some x) = if rightB (hiOf x) (loOf x) n = true then (hiOf x, loOf x, n, 0) else (0, 0, 0, 3) from rfl]
        have hA : GivesK 16 #[.string ⟨d.toArray⟩] (.tuple #[.agg #[.int .u64 (hiOf x : Nat), .int .u64 (loOf x : Nat)], .bool true]) := hA
        generalize hiOf x = hi at *
        generalize loOf x = lo at *
        have HA := Lib.hid hA
        cases hB : rightB hi lo n
        all_goals
          rw [hB] at hr
          have HR := Lib.hid hr
          clear hN hn hld hlr hl hA hx hr hB
          go_enter Tryd.func8, Tryd.ntmps8
          go_wp2_with fail
          refine (HC.out _).mono ?_
          rintro e w1 ⟨rfl, hb1⟩
          have hw0 : Below w.heap.size w w1 := Below.trans (by go_grown) (hb1.mono (by go_size))
          have hz : w.heap.size < w1.heap.size := by have := hb1.size; simp at this; omega
          have c0 : w1.cell? ⟨w.heap.size, 0, none⟩ = some (.int .u64 0) := by
            rw [hb1.cell (by simp <;> omega)]
            first | assumption | (simp [go_sem]; done) | (simp [go_sem, *]; done)
          have c1 : w1.cell? ⟨w.heap.size, 1, none⟩ = some (.int .u64 0) := by
            rw [hb1.cell (by simp <;> omega)]
            first | assumption | (simp [go_sem]; done) | (simp [go_sem, *]; done)
          have c2 : w1.cell? ⟨w.heap.size, 2, none⟩ = some (.int .i64 0) := by
            rw [hb1.cell (by simp <;> omega)]
            first | assumption | (simp [go_sem]; done) | (simp [go_sem, *]; done)
          have f0 : w1.frozen? ⟨w.heap.size, 0, none⟩ = false := by
            rw [hb1.frozen (by simp <;> omega)]
            first | assumption | (simp [go_sem]; done) | (simp [go_sem, *]; done)
          have f1 : w1.frozen? ⟨w.heap.size, 1, none⟩ = false := by
            rw [hb1.frozen (by simp <;> omega)]
            first | assumption | (simp [go_sem]; done) | (simp [go_sem, *]; done)
          have f2 : w1.frozen? ⟨w.heap.size, 2, none⟩ = false := by
            rw [hb1.frozen (by simp <;> omega)]
            first | assumption | (simp [go_sem]; done) | (simp [go_sem, *]; done)
          clear hb1
          go_wp2_with fail
          refine (HN.out _ (HK.out.up hw0)).mono ?_
          rintro e w2 ⟨rfl, hb2⟩
          obtain ⟨hc2, hf2⟩ := bcell hb2
          have c0 := (hc2 _ _ (by omega)).trans c0
          have c1 := (hc2 _ _ (by omega)).trans c1
          have c2 := (hc2 _ _ (by omega)).trans c2
          have f0 := (hf2 _ _ (by omega)).trans f0
          have f1 := (hf2 _ _ (by omega)).trans f1
          have f2 := (hf2 _ _ (by omega)).trans f2
          have hw0 := Below.trans hw0 (hb2.mono (by omega))
          have hz := Nat.lt_of_lt_of_le hz hb2.size
          clear hc2 hf2 hb2
          go_wp2_with fail
          refine (HA.out _ (HK.out.up hw0)).mono ?_
          rintro e w3 ⟨rfl, hb3⟩
          obtain ⟨hc3, hf3⟩ := bcell hb3
          have c0 := (hc3 _ _ (by omega)).trans c0
          have c1 := (hc3 _ _ (by omega)).trans c1
          have c2 := (hc3 _ _ (by omega)).trans c2
          have f0 := (hf3 _ _ (by omega)).trans f0
          have f1 := (hf3 _ _ (by omega)).trans f1
          have f2 := (hf3 _ _ (by omega)).trans f2
          have hw0 := Below.trans hw0 (hb3.mono (by omega))
          have hz := Nat.lt_of_lt_of_le hz hb3.size
          clear hc3 hf3 hb3
          go_wp2_with fail
          refine (HR.out _).mono ?_
          rintro e w4 ⟨rfl, hb4⟩
          have hw4 : Below w3.heap.size w3 w4 := Below.trans (by go_grown) (hb4.mono (by go_size))
          have d0 : w4.cell? ⟨w3.heap.size + 1, 0, none⟩ = some (.int .u64 hi) := by
            rw [hb4.cell (by simp <;> omega)]
            first | assumption | (simp [go_sem]; done) | (simp [go_sem, *]; done)
          have d1 : w4.cell? ⟨w3.heap.size + 1, 1, none⟩ = some (.int .u64 lo) := by
            rw [hb4.cell (by simp <;> omega)]
            first | assumption | (simp [go_sem]; done) | (simp [go_sem, *]; done)
          have d2 : w4.cell? ⟨w3.heap.size + 1, 2, none⟩ = some (.int .i64 n) := by
            rw [hb4.cell (by simp <;> omega)]
            first | assumption | (simp [go_sem]; done) | (simp [go_sem, *]; done)
          obtain ⟨hc4, hf4⟩ := bcell hw4
          have c0 := (hc4 _ _ (by omega)).trans c0
          have c1 := (hc4 _ _ (by omega)).trans c1
          have c2 := (hc4 _ _ (by omega)).trans c2
          have f0 := (hf4 _ _ (by omega)).trans f0
          have f1 := (hf4 _ _ (by omega)).trans f1
          have f2 := (hf4 _ _ (by omega)).trans f2
          have z3 := hw0.size
          have hw5 := hw0.trans (hw4.mono z3)
          clear hc4 hf4 hb4
          go_wp2
          refine bodyPost_ret (by simp [results, Tryd.results8, go_sem, c0, c1, c2, f0, f1, f2, d0, d1, d2]; try rfl) rfl ?_
          exact ⟨rfl, by go_grown⟩
end Go.Proofs.YtegaeifmikfpcaaDoor
