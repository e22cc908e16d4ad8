/-
  What cidr.Read hands back: by plain lists. No condition but that a text is one that a machine holds.
-/
import Derived.Test.YtmcageenjlbacaaDoorW2
set_option linter.unusedSimpArgs false
set_option linter.unusedVariables false
namespace Go.Proofs.YtmcageenjlbacaaDoor
open Go.RowKit Go.Sort M

theorem scut_l {l d r : List UInt8} {c : UInt8} {f : Bool} (hl : l.length ≤ maxLen) (h : cutB c l = (d, r, f)) :
    Gives Tryd.prog 13 #[.string ⟨l.toArray⟩, .string ⟨#[c]⟩] (.tuple #[.string ⟨d.toArray⟩, .string ⟨r.toArray⟩, .bool f]) := by
  have := scut_any ⟨l.toArray⟩ c (by show l.toArray.size ≤ _; simpa using hl)
  simpa [h] using this
theorem cnum_some {d : List UInt8} {m n : Nat} (hl : d.length ≤ maxLen) (hm : m ≤ 1000) (h : numC m d = some n) :
    Gives Tryd.prog 15 #[.string ⟨d.toArray⟩, .int .i64 (m : Int)] (.tuple #[.int .i64 n, .bool true]) := by
  have := cnum_any ⟨d.toArray⟩ m hm (by show d.toArray.size ≤ _; simpa using hl)
  simpa [h, optV] using this
theorem cnum_none {d : List UInt8} {m : Nat} (hl : d.length ≤ maxLen) (hm : m ≤ 1000) (h : numC m d = none) :
    Gives Tryd.prog 15 #[.string ⟨d.toArray⟩, .int .i64 (m : Int)] (.tuple #[.int .i64 0, .bool false]) := by
  have := cnum_any ⟨d.toArray⟩ m hm (by show d.toArray.size ≤ _; simpa using hl)
  simpa [h, optV] using this
theorem cutB_len {c : UInt8} {l d r : List UInt8} {f : Bool} (h : cutB c l = (d, r, f)) : d.length ≤ l.length ∧ r.length ≤ l.length := by
  rcases parts_of c l with h1 | ⟨a, t, rfl, h1⟩
  · rw [cutB_none h1] at h
    simp only [Prod.mk.injEq] at h
    obtain ⟨rfl, rfl, -⟩ := h
    simp
  · rw [cutB_at h1] at h
    simp only [Prod.mk.injEq] at h
    obtain ⟨rfl, rfl, -⟩ := h
    simp; omega
/-- A prefix and an error. -/
def preV (x : Nat × Nat × Nat) : Value := .tuple #[.agg #[.int .u64 x.1, .int .u64 0, .int .i64 x.2.1], .int .i64 x.2.2]
theorem readGo_bad {f k wd : Nat} {l d r : List UInt8} {b : Bool} {R : Option (Nat × List UInt8)} (h : Hid (readGo (f + 1) k wd l = R)) (hc : cutB (markB k) l = (d, r, b)) (hn : numC 255 d = none ∨ b = false) : R = none := by
  rw [← h.out, readGo, hc]
  rcases hn with hn | rfl
  · simp [hn]
  · simp only [Bool.false_eq_true, if_false]
    cases numC 255 d <;> rfl
theorem readGo_on {f k wd n : Nat} {l d r : List UInt8} {R : Option (Nat × List UInt8)} (h : Hid (readGo (f + 1) k wd l = R)) (hc : cutB (markB k) l = (d, r, true)) (hn : numC 255 d = some n) : Hid (readGo f (k + 1) (wd * 256 + n) r = R) := by
  have := h.out
  rw [readGo, hc, hn] at this
  exact Lib.hid (by simpa using this)
theorem shl8_or (wd n : Nat) (h : wd < 4294967296) (hn : n ≤ 255) : bits BinOp.or IntKind.u64 (IntKind.u64.wrap ((wd : Int) * 256)) (n : Int) = ((wd * 256 + n : Nat) : Int) := by
  rw [IntKind.wrap_u64, show ((wd : Int) * 256) % 18446744073709551616 = ((wd * 256 : Nat) : Int) by omega, bits_or_u64_nat _ _ (by omega) (by omega)]
  have := Nat.two_pow_add_eq_or_of_lt (i := 8) (b := n) (by omega) wd
  rw [show 2 ^ 8 * wd = wd * 256 by omega] at this
  rw [this]
theorem pow256 {k n : Nat} (h : n < 256 ^ k) (hk : k ≤ 4) : n < 4294967296 :=
  Nat.lt_of_lt_of_le h (Nat.le_trans (Nat.pow_le_pow_right (by omega) hk) (by decide))
theorem shl32 (wd : Nat) (h : wd < 4294967296) : IntKind.u64.wrap ((wd : Int) * 4294967296) = ((wd * 2 ^ 32 : Nat) : Int) := by
  rw [IntKind.wrap_u64]; omega

set_option maxHeartbeats 1000000 in
theorem cread_any (l : List UInt8) (hl : l.length ≤ maxLen) :
    Gives Tryd.prog 7 #[.string ⟨l.toArray⟩] (preV (readC l)) := by
  intro w
  generalize hR : readGo 4 0 0 l = R
  have hR' := Lib.hid hR
  clear hR
  go_enter Tryd.func7, Tryd.ntmps7
  go_wp2
  go_loopw [0, 4, 14] (fun s0 wd i wr => ∃ (k wn : Nat) (t : List UInt8), k ≤ 4 ∧ i = .int .i64 k ∧ wd = .int .u64 wn ∧ s0 = .string ⟨t.toArray⟩ ∧ t.length ≤ maxLen ∧ wn < 256 ^ k ∧ Hid (readGo (4 - k) k wn t = R) ∧
      Below w.heap.size w wr ∧ w.heap.size < wr.heap.size ∧
      wr.cell? ⟨w.heap.size, 0, none⟩ = some (.int .u64 0) ∧ wr.cell? ⟨w.heap.size, 1, none⟩ = some (.int .u64 0) ∧ wr.cell? ⟨w.heap.size, 2, none⟩ = some (.int .i64 0) ∧
      wr.frozen? ⟨w.heap.size, 0, none⟩ = false ∧ wr.frozen? ⟨w.heap.size, 1, none⟩ = false ∧ wr.frozen? ⟨w.heap.size, 2, none⟩ = false) (fun _ _ i _ => 4 - (intOf i).toNat)
  case atStart =>
    refine ⟨0, 0, l, by omega, rfl, rfl, rfl, hl, by decide, hR', by go_grown, by go_size, ?_⟩
    simp [go_sem]
  case round =>
    obtain ⟨k, wn, t, hk, rfl, rfl, rfl, ht, hwn, hrest, hw0, hz, c0, c1, c2, f0, f1, f2⟩ := hrel
    by_cases hlt : k < 4
    · obtain ⟨f, hf⟩ : ∃ f, 4 - k = f + 1 := ⟨3 - k, by omega⟩
      rw [hf] at hrest
      obtain ⟨d, r, b, hc⟩ : ∃ d r b, cutB (markB k) t = (d, r, b) := ⟨_, _, _, rfl⟩
      obtain ⟨hld, hlr⟩ := cutB_len hc
      have hC := scut_l ht hc
      cases hn : numC 255 d with
      | none =>
        have hN := cnum_none (Nat.le_trans hld ht) (by omega) hn
        have HX := Lib.hid (readGo_bad hrest hc (Or.inl hn))
        have HC := Lib.hid hC
        have HN := Lib.hid hN
        clear hrest hC hN hc hn hf
        cases b
        all_goals
          go_wp2_with fail
          refine (mark_any k _).mono ?_
          rintro e w1 ⟨rfl, rfl⟩
          go_wp2_with fail
          refine (HC.out _).mono ?_
          rintro e w1 ⟨rfl, hb1⟩
          obtain ⟨hc1, hf1⟩ := bcell hb1
          have c0 := (hc1 _ _ (by omega)).trans c0
          have c1 := (hc1 _ _ (by omega)).trans c1
          have c2 := (hc1 _ _ (by omega)).trans c2
          have f0 := (hf1 _ _ (by omega)).trans f0
          have f1 := (hf1 _ _ (by omega)).trans f1
          have f2 := (hf1 _ _ (by omega)).trans f2
          have hw0 := Below.trans hw0 (hb1.mono (by omega))
          have hz := Nat.lt_of_lt_of_le hz hb1.size
          clear hc1 hf1 hb1
          go_wp2_with fail
          refine (HN.out _).mono ?_
          rintro e w2 ⟨rfl, hb2⟩
          obtain ⟨hc2, hf2⟩ := bcell hb2
          have c0 := (hc2 _ _ (by omega)).trans c0
          have c1 := (hc2 _ _ (by omega)).trans c1
          have c2 := (hc2 _ _ (by omega)).trans c2
          have f0 := (hf2 _ _ (by omega)).trans f0
          have f1 := (hf2 _ _ (by omega)).trans f1
          have f2 := (hf2 _ _ (by omega)).trans f2
          have hw0 := Below.trans hw0 (hb2.mono (by omega))
          have hz := Nat.lt_of_lt_of_le hz hb2.size
          clear hc2 hf2 hb2
          go_wp2
          refine bodyPost_ret (by simp [results, Tryd.results7, go_sem, c0, c1, c2, f0, f1, f2]; try rfl) rfl ?_
          refine ⟨?_, by go_grown⟩
          unfold readC
          rw [hR'.out, HX.out]
          rfl
      | some n =>
        have hN := cnum_some (Nat.le_trans hld ht) (by omega) hn
        have hn255 := numC_le hn
        cases b
        · have HX := Lib.hid (readGo_bad hrest hc (Or.inr rfl))
          have HC := Lib.hid hC
          have HN := Lib.hid hN
          clear hrest hC hN hc hn hf
          go_wp2_with fail
          refine (mark_any k _).mono ?_
          rintro e w1 ⟨rfl, rfl⟩
          go_wp2_with fail
          refine (HC.out _).mono ?_
          rintro e w1 ⟨rfl, hb1⟩
          obtain ⟨hc1, hf1⟩ := bcell hb1
          have c0 := (hc1 _ _ (by omega)).trans c0
          have c1 := (hc1 _ _ (by omega)).trans c1
          have c2 := (hc1 _ _ (by omega)).trans c2
          have f0 := (hf1 _ _ (by omega)).trans f0
          have f1 := (hf1 _ _ (by omega)).trans f1
          have f2 := (hf1 _ _ (by omega)).trans f2
          have hw0 := Below.trans hw0 (hb1.mono (by omega))
          have hz := Nat.lt_of_lt_of_le hz hb1.size
          clear hc1 hf1 hb1
          go_wp2_with fail
          refine (HN.out _).mono ?_
          rintro e w2 ⟨rfl, hb2⟩
          obtain ⟨hc2, hf2⟩ := bcell hb2
          have c0 := (hc2 _ _ (by omega)).trans c0
          have c1 := (hc2 _ _ (by omega)).trans c1
          have c2 := (hc2 _ _ (by omega)).trans c2
          have f0 := (hf2 _ _ (by omega)).trans f0
          have f1 := (hf2 _ _ (by omega)).trans f1
          have f2 := (hf2 _ _ (by omega)).trans f2
          have hw0 := Below.trans hw0 (hb2.mono (by omega))
          have hz := Nat.lt_of_lt_of_le hz hb2.size
          clear hc2 hf2 hb2
          go_wp2
          refine bodyPost_ret (by simp [results, Tryd.results7, go_sem, c0, c1, c2, f0, f1, f2]; try rfl) rfl ?_
          refine ⟨?_, by go_grown⟩
          unfold readC
          rw [hR'.out, HX.out]
          rfl
        · have HX := readGo_on hrest hc hn
          have HC := Lib.hid hC
          have HN := Lib.hid hN
          clear hrest hC hN hc hn
          go_wp2_with fail
          refine (mark_any k _).mono ?_
          rintro e w1 ⟨rfl, rfl⟩
          go_wp2_with fail
          refine (HC.out _).mono ?_
          rintro e w1 ⟨rfl, hb1⟩
          obtain ⟨hc1, hf1⟩ := bcell hb1
          have c0 := (hc1 _ _ (by omega)).trans c0
          have c1 := (hc1 _ _ (by omega)).trans c1
          have c2 := (hc1 _ _ (by omega)).trans c2
          have f0 := (hf1 _ _ (by omega)).trans f0
          have f1 := (hf1 _ _ (by omega)).trans f1
          have f2 := (hf1 _ _ (by omega)).trans f2
          have hw0 := Below.trans hw0 (hb1.mono (by omega))
          have hz := Nat.lt_of_lt_of_le hz hb1.size
          clear hc1 hf1 hb1
          go_wp2_with fail
          refine (HN.out _).mono ?_
          rintro e w2 ⟨rfl, hb2⟩
          obtain ⟨hc2, hf2⟩ := bcell hb2
          have c0 := (hc2 _ _ (by omega)).trans c0
          have c1 := (hc2 _ _ (by omega)).trans c1
          have c2 := (hc2 _ _ (by omega)).trans c2
          have f0 := (hf2 _ _ (by omega)).trans f0
          have f1 := (hf2 _ _ (by omega)).trans f1
          have f2 := (hf2 _ _ (by omega)).trans f2
          have hw0 := Below.trans hw0 (hb2.mono (by omega))
          have hz := Nat.lt_of_lt_of_le hz hb2.size
          clear hc2 hf2 hb2
          go_wp2
          rw [shl8_or wn n (pow256 hwn (by omega)) hn255]
          go_roundw
          case rel =>
            refine ⟨k + 1, wn * 256 + n, r, by omega, by go_num, rfl, rfl, Nat.le_trans hlr ht, ?_, ?_, hw0, hz, c0, c1, c2, f0, f1, f2⟩
            · rw [Nat.pow_succ]; omega
            · rw [show 4 - (k + 1) = f by omega]; exact HX
          case measure => simp [intOf]; omega
    · obtain rfl : k = 4 := by omega
      have hwn' := pow256 hwn (Nat.le_refl _)
      have HR : Hid (R = some (wn, t)) := Lib.hid hrest.out.symm
      clear hrest hwn
      cases hn : numC 32 t with
      | none =>
        have hN := cnum_none ht (by omega) hn
        have HX := Lib.hid hn
        have HN := Lib.hid hN
        clear hn hN
        go_wp2_with fail
        refine (HN.out _).mono ?_
        rintro e w2 ⟨rfl, hb2⟩
        obtain ⟨hc2, hf2⟩ := bcell hb2
        have c0 := (hc2 _ _ (by omega)).trans c0
        have c1 := (hc2 _ _ (by omega)).trans c1
        have c2 := (hc2 _ _ (by omega)).trans c2
        have f0 := (hf2 _ _ (by omega)).trans f0
        have f1 := (hf2 _ _ (by omega)).trans f1
        have f2 := (hf2 _ _ (by omega)).trans f2
        have hw0 := Below.trans hw0 (hb2.mono (by omega))
        have hz := Nat.lt_of_lt_of_le hz hb2.size
        clear hc2 hf2 hb2
        go_wp2
        refine bodyPost_ret (by simp [results, Tryd.results7, go_sem, c0, c1, c2, f0, f1, f2]; try rfl) rfl ?_
        refine ⟨?_, by go_grown⟩
        unfold readC
        rw [hR'.out, HR.out]
        show _ = Ending.returned (preV (match numC 32 t with | none => _ | some n => _))
        rw [HX.out]
        rfl
      | some n =>
        have hN := cnum_some ht (by omega) hn
        have hn32 := numC_le hn
        have HX := Lib.hid hn
        have HN := Lib.hid hN
        have hw32 : wn * 2 ^ 32 < 18446744073709551616 := by omega
        have hr := right_any (wn * 2 ^ 32) 0 n (W64.mk hw32) (W64.mk (by decide))
        clear hn hN hw32
        have HE := Lib.hid (show ((wn * 2 ^ 32 : Nat) : Int) = (wn : Int) * 4294967296 by omega)
        rw [HE.out] at hr
        cases hB : rightB (wn * 2 ^ 32) 0 n
        all_goals
          rw [hB] at hr
          have HB := Lib.hid hB
          have HRR := Lib.hid hr
          clear hB hr
          go_wp2_with fail
          refine (HN.out _).mono ?_
          rintro e w2 ⟨rfl, hb2⟩
          obtain ⟨hc2, hf2⟩ := bcell hb2
          have c0 := (hc2 _ _ (by omega)).trans c0
          have c1 := (hc2 _ _ (by omega)).trans c1
          have c2 := (hc2 _ _ (by omega)).trans c2
          have f0 := (hf2 _ _ (by omega)).trans f0
          have f1 := (hf2 _ _ (by omega)).trans f1
          have f2 := (hf2 _ _ (by omega)).trans f2
          have hw0 := Below.trans hw0 (hb2.mono (by omega))
          have hz := Nat.lt_of_lt_of_le hz hb2.size
          clear hc2 hf2 hb2
          go_wp2_with fail
          refine (HRR.out _).mono ?_
          rintro e w3 ⟨rfl, hb3⟩
          have d0 : w3.cell? ⟨w2.heap.size, 0, none⟩ = some (.int .u64 ((wn : Int) * 4294967296)) := by
            rw [hb3.cell (by simp <;> omega)]
            first | assumption | (simp [go_sem]; done) | (simp [go_sem, *]; done)
          have d1 : w3.cell? ⟨w2.heap.size, 1, none⟩ = some (.int .u64 0) := by
            rw [hb3.cell (by simp <;> omega)]
            first | assumption | (simp [go_sem]; done) | (simp [go_sem, *]; done)
          have d2 : w3.cell? ⟨w2.heap.size, 2, none⟩ = some (.int .i64 n) := by
            rw [hb3.cell (by simp <;> omega)]
            first | assumption | (simp [go_sem]; done) | (simp [go_sem, *]; done)
          have hk3 : Below w2.heap.size w2 w3 := Below.trans (by go_grown) (hb3.mono (by go_size))
          obtain ⟨hc3, hf3⟩ := bcell hk3
          have c0 := (hc3 _ _ (by omega)).trans c0
          have c1 := (hc3 _ _ (by omega)).trans c1
          have c2 := (hc3 _ _ (by omega)).trans c2
          have f0 := (hf3 _ _ (by omega)).trans f0
          have f1 := (hf3 _ _ (by omega)).trans f1
          have f2 := (hf3 _ _ (by omega)).trans f2
          have hw0 := Below.trans hw0 (hk3.mono (by omega))
          have hz := Nat.lt_of_lt_of_le hz hk3.size
          clear hc3 hf3 hk3 hb3
          go_wp2
          refine bodyPost_ret (by simp [results, Tryd.results7, go_sem, c0, c1, c2, f0, f1, f2]; try rfl) rfl ?_
          refine ⟨?_, by go_grown⟩
          unfold readC
          rw [hR'.out, HR.out]
          show _ = Ending.returned (preV (match numC 32 t with | none => _ | some n => _))
          rw [HX.out]
          show _ = Ending.returned (preV (if rightB (wn * 2 ^ 32) 0 n = true then _ else _))
          rw [HB.out]
          first | rfl | (show _ = Ending.returned (.tuple #[.agg #[.int .u64 ((wn * 2 ^ 32 : Nat) : Int), .int .u64 ((0 : Nat) : Int), .int .i64 n], .int .i64 ((0 : Nat) : Int)]); rw [HE.out]; rfl)
end Go.Proofs.YtmcageenjlbacaaDoor
