/-
  What Get, Put and Take of a bucket hand back, and what the bucket is then. No condition but that the bucket's cells lie in memory.
-/
import Derived.Test.YtoihkbanmnagkaaGreatMade
import Derived.Test.YtoihkbanmnagkaaGreatM12f
import Derived.Test.YtoihkbanmnagkaaGreatM18
import Derived.Test.YtoihkbanmnagkaaGreatRBkt
/-
  What the small calls of the reference's table hand back: NewTable, other, Size. No condition but that its cells lie in memory, that it has from one to 65536 buckets, and that words are words of 64 bits.
-/
set_option linter.unusedSimpArgs false
set_option linter.unusedVariables false
namespace Go.Proofs.YtoihkbanmnagkaaGreat
open Go.RowKit Go.Sort M

set_option maxRecDepth 100000 in
set_option maxHeartbeats 1000000 in
theorem newtab_bad (s : Nat) (n : Int) (w : World) (h : n < 1 ∨ 65536 < n) :
    Calls Tryz.prog 26 #[.int .u64 (s : Int), .int .i64 n] w fun e w' => e = .returned (.tuple #[.pointer none, .int .i64 1]) ∧ Below w.heap.size w w' := by
  rcases h with h | h
  · go_enter Tryz.func26, Tryz.ntmps26
    go_wp2
    go_ret2
    exact ⟨rfl, by go_grown⟩
  · have h2 : ¬ n < 1 := by omega
    go_enter Tryz.func26, Tryz.ntmps26
    go_wp2
    go_ret2
    exact ⟨rfl, by go_grown⟩
set_option maxRecDepth 100000 in
set_option maxHeartbeats 1000000 in
theorem newtab_any (s n : Nat) (w : World) (h1 : 1 ≤ n) (h2 : n ≤ 65536) :
    Calls Tryz.prog 26 #[.int .u64 (s : Int), .int .i64 (n : Int)] w fun e w' => ∃ t, e = .returned (.tuple #[.pointer (some ⟨t, 0, none⟩), .int .i64 0]) ∧ ∃ g, Tb RBk w' t g (.slice none 0 0) (emptyT s n) ∧ Below w.heap.size w w' ∧ w.heap.size ≤ t ∧ w.heap.size ≤ g := by
  have PLA := fun w => make_row Tryz.underlying81 infoRB n (by omega) (by unfold maxLen; omega) w
  have h3 : ¬ ((n : Int) < 1) := by omega
  have h4 : ¬ ((65536 : Int) < n) := by omega
  generalize hM : madeCells zR.cells (n * 20) = M at PLA
  go_enter Tryz.func26, Tryz.ntmps26
  go_wp2
  go_ret2
  refine ⟨w.heap.size + 1, rfl, w.heap.size, Tb.fresh (fun i hi => made_rbk (t := 87) (n := n) ?_ hi) (by simp; omega) (by simp) (by simp [go_sem]) (by simp [go_sem]) (by simp [go_sem]) (fun j => by simp [go_sem]) (by omega), by go_grown, by omega, Nat.le_refl _⟩
  rw [hM]
  rw [heap_alloc_old _ _ (by simp)]
  exact heap_alloc_new w _
/-- A key's two buckets. -/
theorem rtwo_fact (T : Tab) (k : Ky) (h : Num T) (hk : k.good) : Gives Tryz.prog 51 #[.int .u64 (T.s : Int), .agg #[.int .u64 (k.h : Int), .int .u64 (k.l : Int), .int .i64 k.n], .int .i64 (T.B.length : Int)] (.tuple #[.int .i64 (T.x1 k : Int), .int .i64 (T.x2 k : Int)]) := by
  have hB := rbuck_any T.s k.h k.l k.n (T.B.length : Int) h.word hk.1 hk.2 (by have := h.hi; omega)
  rw [b1_int h.lo, b2_int h.lo] at hB
  exact hB
set_option maxRecDepth 100000 in
set_option maxHeartbeats 1000000 in
theorem rother_any (t g : Nat) (v : Value) (T : Tab) (k : Ky) (b : Nat) (w : World) (H : Tb RBk w t g v T) (h : Num T) (hk : k.good) :
    Calls Tryz.prog 55 #[.pointer (some ⟨t, 0, none⟩), kyV k, .int .i64 (b : Int)] w fun e w' => e = .returned (.int .i64 (T.other k b : Int)) ∧ Below w.heap.size w w' := by
  have c0 := H.c0
  have c1 := H.c1
  have hl := H.tlt
  have HB := Lib.hid (rtwo_fact T k h hk)
  have HE : Hid (T.other k b = if b = T.x1 k then T.x2 k else T.x1 k) := rfl
  generalize T.x1 k = x1 at *
  generalize T.x2 k = x2 at *
  generalize T.other k b = o at *
  clear H h
  unfold kyV at *
  by_cases hb : b = x1
  · subst hb
    have hE := HE.out
    rw [if_pos rfl] at hE
    subst hE
    clear HE
    go_enter Tryz.func55, Tryz.ntmps55
    go_wp2_with fail
    have kg := cell_grow
    refine region_whole (by kernel_rfl) (by kernel_rfl) ?_
    repeat (any_goals (first | go_big_quiet_step ((exact HB.out.at _ _ _)) | quiet_step ((exact HB.out.at _ _ _))))
    refine wpQuiet_nil ?_
    clear kg
    intro w1 hb1
    obtain ⟨hc1, hf1⟩ := bcell hb1
    have hw1 : Below w.heap.size w w1 := by
      refine Below.trans ?_ (hb1.mono ?_)
      · go_grown
      · first | omega | go_size
    go_wp2
    go_ret
    exact ⟨rfl, hw1⟩
  · have hE := HE.out
    rw [if_neg hb] at hE
    subst hE
    have hbi : ((b : Int) == (o : Int)) = false := by simp; omega
    clear HE hb
    go_enter Tryz.func55, Tryz.ntmps55
    go_wp2_with fail
    have kg := cell_grow
    refine region_whole (by kernel_rfl) (by kernel_rfl) ?_
    repeat (any_goals (first | go_big_quiet_step ((exact HB.out.at _ _ _)) | quiet_step ((exact HB.out.at _ _ _))))
    refine wpQuiet_nil ?_
    clear kg
    intro w1 hb1
    obtain ⟨hc1, hf1⟩ := bcell hb1
    have hw1 : Below w.heap.size w w1 := by
      refine Below.trans ?_ (hb1.mono ?_)
      · go_grown
      · first | omega | go_size
    go_wp2
    go_ret
    exact ⟨rfl, hw1⟩
end Go.Proofs.YtoihkbanmnagkaaGreat
/-
  What a search by halves hands back; where a key lies in a table's stash. No condition but that the table's cells lie in memory, and that its stash is in order and has fewer than 2^20 keys.
-/
set_option linter.unusedSimpArgs false
set_option linter.unusedVariables false
namespace Go.Proofs.YtoihkbanmnagkaaGreat
open Go.RowKit Go.Sort M

set_option maxRecDepth 100000 in
set_option maxHeartbeats 1000000 in
/-- sort.Search, of a test that says 'from number b on'. -/
theorem search_any (F : Nat) (p q : Value) (n b : Nat) (hb : b ≤ n) (hn : n < 4611686018427387904) (w : World) (eg : ∀ args w, (callFunc F args).run Tryz.prog w = .ok (.enter F args) w)
    (hf : ∀ wx (i : Nat), Below w.heap.size w wx → i < n → Calls Tryz.prog F #[.int .i64 (i : Int), p, q] wx fun e w' => e = .returned (.bool (decide (b ≤ i))) ∧ Below wx.heap.size wx w') :
    Calls Tryz.prog 105 #[.int .i64 (n : Int), .func (.func F) #[] #[p, q]] w fun e w' => e = .returned (.int .i64 (b : Int)) ∧ Below w.heap.size w w' := by
  have HF := Lib.hid hf
  clear hf
  go_enter Tryz.func105, Tryz.ntmps105
  go_wp2
  go_loopw [5, 6] (fun s5 s6 wr => ∃ (lo hi : Nat), s5 = .int .i64 (lo : Int) ∧ s6 = .int .i64 (hi : Int) ∧ lo ≤ b ∧ b ≤ hi ∧ hi ≤ n ∧ Below w.heap.size w wr) (fun s5 s6 _ => (intOf s6).toNat - (intOf s5).toNat)
  case atStart => exact ⟨0, n, rfl, rfl, Nat.zero_le _, hb, Nat.le_refl _, by go_grown⟩
  case round =>
    obtain ⟨lo, hi, rfl, rfl, h1, h2, h3, hw⟩ := hrel
    by_cases hlt : lo < hi
    · have hc := HF.out wr ((lo + hi) / 2) hw (by omega)
      rw [show (((lo + hi) / 2 : Nat) : Int) = ((lo : Int) + (hi : Int)) / 2 by omega] at hc
      by_cases ht : b ≤ (lo + hi) / 2
      · rw [decide_eq_true ht] at hc
        go_wp2_with (go_at_fn F; refine hc.mono ?_; rintro e w1 ⟨rfl, hb1⟩)
        go_roundw
        case rel => exact ⟨lo, (lo + hi) / 2, rfl, by rw [show ((lo : Int) + (hi : Int)) / 2 = (((lo + hi) / 2 : Nat) : Int) by omega], h1, ht, by omega, hw.trans (hb1.mono hw.size)⟩
        case measure => simp [intOf]; omega
      · rw [decide_eq_false ht] at hc
        go_wp2_with (go_at_fn F; refine hc.mono ?_; rintro e w1 ⟨rfl, hb1⟩)
        go_roundw
        case rel => exact ⟨(lo + hi) / 2 + 1, hi, by rw [show ((lo : Int) + (hi : Int)) / 2 + 1 = (((lo + hi) / 2 + 1 : Nat) : Int) by omega], rfl, by omega, h2, h3, hw.trans (hb1.mono hw.size)⟩
        case measure => simp [intOf]; omega
    · obtain rfl : lo = b := by omega
      go_wp2
      go_ret
      exact ⟨rfl, hw⟩
set_option maxRecDepth 100000 in
set_option maxHeartbeats 1000000 in
/-- The test of a search in a stash. -/
theorem test_any (t g : Nat) (v : Value) (T : Tab) (m : Int) (k : Ky) (b0 b1 i : Nat) (w : World) (H : CT w t g v T m) (hs : Sorted T.st) (hi : i < T.st.length) (l0 : b0 < w.heap.size) (l1 : b1 < w.heap.size)
    (k0 : w.cell? ⟨b0, 0, none⟩ = some (.pointer (some ⟨t, 0, none⟩))) (d0 : w.cell? ⟨b1, 0, none⟩ = some (.int .u64 (k.h : Int))) (d1 : w.cell? ⟨b1, 1, none⟩ = some (.int .u64 (k.l : Int))) (d2 : w.cell? ⟨b1, 2, none⟩ = some (.int .i64 k.n)) :
    Calls Tryz.prog 106 #[.int .i64 (i : Int), .pointer (some ⟨b0, 0, none⟩), .pointer (some ⟨b1, 0, none⟩)] w fun e w' => e = .returned (.bool (decide (bh T.st k ≤ i))) ∧ Below w.heap.size w w' := by
  have hl := H.tb.tlt
  obtain ⟨p, c, rfl⟩ := own_slice H.tb.own
  have c2 := H.tb.c2
  obtain ⟨gr, o, rfl, hgr, r0, r1, r2, -⟩ := (Row.of_own H.tb.own).rt hi
  have hT := bh_test T.st k hs i hi
  have HL := less_any T.st[i].k.h T.st[i].k.l T.st[i].k.n k.h k.l k.n
  change Gives _ _ _ (.bool (lessK T.st[i].k k)) at HL
  have HL := Lib.hid HL
  have i1 : (0 : Int) ≤ (i : Int) := by omega
  have i2 : (i : Int) < (T.st.length : Int) := by omega
  generalize lessK T.st[i].k k = ls at *
  generalize decide (bh T.st k ≤ i) = ds at *
  subst hT
  generalize T.st[i].k = q at *
  generalize T.st.length = n at *
  clear H hs
  go_enter Tryz.func106, Tryz.ntmps106
  go_wp2_with fail
  have kg := cell_grow
  refine region_whole (by kernel_rfl) (by kernel_rfl) ?_
  repeat (any_goals (first | go_big_quiet_step ((exact HL.out.at _ _ _)) | quiet_step ((exact HL.out.at _ _ _))))
  refine wpQuiet_nil ?_
  clear kg
  intro w1 hb1
  obtain ⟨hc1, hf1⟩ := bcell hb1
  have hw1 : Below w.heap.size w w1 := by
    refine Below.trans ?_ (hb1.mono ?_)
    · go_grown
    · first | omega | go_size
  go_wp2
  go_ret
  exact ⟨rfl, hw1⟩
set_option maxRecDepth 100000 in
set_option maxHeartbeats 1000000 in
theorem behind_any (t g : Nat) (v : Value) (T : Tab) (m : Int) (k : Ky) (w : World) (H : CT w t g v T m) (hs : Sorted T.st) (hf : T.st.length < 1048576) :
    Calls Tryz.prog 80 #[.pointer (some ⟨t, 0, none⟩), kyV k] w fun e w' => e = .returned (.int .i64 (bh T.st k : Int)) ∧ Below w.heap.size w w' := by
  have HH := Lib.hid H
  have hl := H.tb.tlt
  obtain ⟨p, c, rfl⟩ := own_slice H.tb.own
  have c2 := H.tb.c2
  have eg := enters_of Tryz.func106 (by kernel_rfl) rfl
  have hS : ∀ W, Below w.heap.size w W → W.heap.size = w.heap.size + 2 → W.cell? ⟨w.heap.size, 0, none⟩ = some (.pointer (some ⟨t, 0, none⟩)) → W.cell? ⟨w.heap.size + 1, 0, none⟩ = some (.int .u64 (k.h : Int)) → W.cell? ⟨w.heap.size + 1, 1, none⟩ = some (.int .u64 (k.l : Int)) → W.cell? ⟨w.heap.size + 1, 2, none⟩ = some (.int .i64 k.n) →
      Calls Tryz.prog 105 #[.int .i64 (T.st.length : Int), .func (.func 106) #[] #[.pointer (some ⟨w.heap.size, 0, none⟩), .pointer (some ⟨w.heap.size + 1, 0, none⟩)]] W fun e w' => e = .returned (.int .i64 (bh T.st k : Int)) ∧ Below W.heap.size W w' := by
    intro W hW hz e0 e1 e2 e3
    refine search_any _ _ _ _ _ (bh_le T.st k) (by omega) W eg fun wx i hx hi => ?_
    refine test_any t g _ T m k w.heap.size (w.heap.size + 1) i wx (HH.out.below (hW.trans (hx.mono hW.size))) hs hi (by have := hx.size; omega) (by have := hx.size; omega) ?_ ?_ ?_ ?_
    · exact (hx.cell (p := ⟨w.heap.size, 0, none⟩) (by show w.heap.size < _; omega)).trans e0
    · exact (hx.cell (p := ⟨w.heap.size + 1, 0, none⟩) (by show w.heap.size + 1 < _; omega)).trans e1
    · exact (hx.cell (p := ⟨w.heap.size + 1, 1, none⟩) (by show w.heap.size + 1 < _; omega)).trans e2
    · exact (hx.cell (p := ⟨w.heap.size + 1, 2, none⟩) (by show w.heap.size + 1 < _; omega)).trans e3
  have HS := Lib.hid hS
  generalize bh T.st k = b at *
  generalize T.st.length = n at *
  clear H hs hS
  unfold kyV
  go_enter Tryz.func80, Tryz.ntmps80
  go_wp2_with fail
  refine (HS.out _ (by go_grown) (by simp) (by simp [go_sem]) (by simp [go_sem]) (by simp [go_sem]) (by simp [go_sem])).mono ?_
  rintro e w1 ⟨rfl, hb1⟩
  have hw1 : Below w.heap.size w w1 := Below.trans (by go_grown) (hb1.mono (by go_size))
  clear hb1
  go_wp2
  go_ret
  exact ⟨rfl, hw1⟩
theorem neqK (a b : Nat) (n : Int) (c d : Nat) (m : Int) (w : World) : (binOp .neq 38 (.agg #[.int .u64 a, .int .u64 b, .int .i64 n]) (.agg #[.int .u64 c, .int .u64 d, .int .i64 m])).run Tryz.prog w =
    .ok (.bool (!decide (a = c ∧ b = d ∧ n = m))) w := by
  have e1 : decide (a = c ∧ b = d ∧ n = m) = (decide ((a : Int) = c) && (decide ((b : Int) = d) && decide (n = m))) := by
    rw [← Bool.decide_and, ← Bool.decide_and, decide_eq_decide]; omega
  rw [e1]
  by_cases h1 : (a : Int) = c <;> by_cases h2 : (b : Int) = d <;> by_cases h3 : n = m <;> simp [go_sem, h1, h2, h3]
theorem ky_eq (a b : Ky) : (a.h = b.h ∧ a.l = b.l ∧ a.n = b.n) ↔ a = b := by
  cases a; cases b; simp
set_option maxRecDepth 100000 in
set_option maxHeartbeats 1000000 in
theorem stashed_any (t g : Nat) (v : Value) (T : Tab) (m : Int) (k : Ky) (w : World) (H : CT w t g v T m) (hs : Sorted T.st) (hf : T.st.length < 1048576) :
    Calls Tryz.prog 66 #[.pointer (some ⟨t, 0, none⟩), kyV k] w fun e w' => e = .returned (.int .i64 (stI T.st k)) ∧ Below w.heap.size w w' := by
  have HH := Lib.hid H
  have hl := H.tb.tlt
  obtain ⟨p, c, rfl⟩ := own_slice H.tb.own
  have c2 := H.tb.c2
  have HB := Lib.hid (fun w (H : CT w t g (.slice p T.st.length c) T m) => behind_any t g _ T m k w H hs hf)
  have hle := bh_le T.st k
  have hfd := findS_bh T.st k hs
  by_cases hb : bh T.st k < T.st.length
  · obtain ⟨gr, o, rfl, hgr, r0, r1, r2, -⟩ := (Row.of_own H.tb.own).rt hb
    have hN := neqK T.st[bh T.st k].k.h T.st[bh T.st k].k.l T.st[bh T.st k].k.n k.h k.l k.n
    have hg1 : ((bh T.st k : Int) == (T.st.length : Int)) = false := by simp; omega
    have i1 : (0 : Int) ≤ (bh T.st k : Int) := by omega
    have i2 : (bh T.st k : Int) < (T.st.length : Int) := by omega
    by_cases hk : T.st[bh T.st k].k = k
    · have hE : stI T.st k = (bh T.st k : Int) := by
        cases e : findS T.st k with
        | none => exact absurd hk (hfd.2 e hb)
        | some i => rw [stI_some e, (hfd.1 i e).1]
      rw [decide_eq_true ((ky_eq _ _).2 hk)] at hN
      rw [hE]
      clear H hs hfd hk hE hle
      generalize T.st[bh T.st k].k = q at *
      generalize bh T.st k = b at *
      generalize T.st.length = n at *
      clear hb
      unfold kyV at *
      go_enter Tryz.func66, Tryz.ntmps66
      go_wp2_with fail
      refine (HB.out _ (HH.out.below (by go_grown))).mono ?_
      rintro e w1 ⟨rfl, hb1⟩
      have hw1 : Below w.heap.size w w1 := Below.trans (by go_grown) (hb1.mono (by go_size))
      have d0 : w1.cell? ⟨w.heap.size, 0, none⟩ = some (.int .u64 (k.h : Int)) := by
        rw [hb1.cell (by simp <;> omega)]
        first | assumption | (simp [go_sem]; done) | (simp [go_sem, *]; done)
      have d1 : w1.cell? ⟨w.heap.size, 1, none⟩ = some (.int .u64 (k.l : Int)) := by
        rw [hb1.cell (by simp <;> omega)]
        first | assumption | (simp [go_sem]; done) | (simp [go_sem, *]; done)
      have d2 : w1.cell? ⟨w.heap.size, 2, none⟩ = some (.int .i64 k.n) := by
        rw [hb1.cell (by simp <;> omega)]
        first | assumption | (simp [go_sem]; done) | (simp [go_sem, *]; done)
      have hz1 : w.heap.size < w1.heap.size := by
        have hs := hb1.size
        try simp only [World.size_alloc, World.size_setCell] at hs
        omega
      have c2 := (hw1.cell (p := ⟨t, 2, none⟩) hl).trans c2
      have r0 := (hw1.cell (p := ⟨gr, o + b * 4, none⟩) hgr).trans r0
      have r1 := (hw1.cell (p := ⟨gr, o + b * 4 + 1, none⟩) hgr).trans r1
      have r2 := (hw1.cell (p := ⟨gr, o + b * 4 + 2, none⟩) hgr).trans r2
      have hl1 := Nat.lt_of_lt_of_le hl hw1.size
      have hgr1 := Nat.lt_of_lt_of_le hgr hw1.size
      clear hb1
      go_wp2_with fail
      have kg := cell_grow
      refine region_whole (by kernel_rfl) (by kernel_rfl) ?_
      repeat (any_goals (first | go_big_quiet_step (fail) | quiet_step (fail)))
      refine wpQuiet_nil ?_
      clear kg
      intro w2 hb2
      obtain ⟨hc2, hf2⟩ := bcell hb2
      have hw2 : Below w.heap.size w w2 := by
        refine Below.trans ?_ (hb2.mono ?_)
        · go_grown
        · first | omega | go_size
      go_wp2
      go_ret
      exact ⟨rfl, hw1.trans (hb2.mono hw1.size)⟩
    · have hE : stI T.st k = -1 := by
        cases e : findS T.st k with
        | none => rw [stI_none e]
        | some i =>
          obtain ⟨e1, h1, h2⟩ := hfd.1 i e
          subst e1
          exact absurd h2 hk
      rw [decide_eq_false (fun h => hk ((ky_eq _ _).1 h))] at hN
      rw [hE]
      clear H hs hfd hk hE hle
      generalize T.st[bh T.st k].k = q at *
      generalize bh T.st k = b at *
      generalize T.st.length = n at *
      clear hb
      unfold kyV at *
      go_enter Tryz.func66, Tryz.ntmps66
      go_wp2_with fail
      refine (HB.out _ (HH.out.below (by go_grown))).mono ?_
      rintro e w1 ⟨rfl, hb1⟩
      have hw1 : Below w.heap.size w w1 := Below.trans (by go_grown) (hb1.mono (by go_size))
      have d0 : w1.cell? ⟨w.heap.size, 0, none⟩ = some (.int .u64 (k.h : Int)) := by
        rw [hb1.cell (by simp <;> omega)]
        first | assumption | (simp [go_sem]; done) | (simp [go_sem, *]; done)
      have d1 : w1.cell? ⟨w.heap.size, 1, none⟩ = some (.int .u64 (k.l : Int)) := by
        rw [hb1.cell (by simp <;> omega)]
        first | assumption | (simp [go_sem]; done) | (simp [go_sem, *]; done)
      have d2 : w1.cell? ⟨w.heap.size, 2, none⟩ = some (.int .i64 k.n) := by
        rw [hb1.cell (by simp <;> omega)]
        first | assumption | (simp [go_sem]; done) | (simp [go_sem, *]; done)
      have hz1 : w.heap.size < w1.heap.size := by
        have hs := hb1.size
        try simp only [World.size_alloc, World.size_setCell] at hs
        omega
      have c2 := (hw1.cell (p := ⟨t, 2, none⟩) hl).trans c2
      have r0 := (hw1.cell (p := ⟨gr, o + b * 4, none⟩) hgr).trans r0
      have r1 := (hw1.cell (p := ⟨gr, o + b * 4 + 1, none⟩) hgr).trans r1
      have r2 := (hw1.cell (p := ⟨gr, o + b * 4 + 2, none⟩) hgr).trans r2
      have hl1 := Nat.lt_of_lt_of_le hl hw1.size
      have hgr1 := Nat.lt_of_lt_of_le hgr hw1.size
      clear hb1
      go_wp2_with fail
      have kg := cell_grow
      refine region_whole (by kernel_rfl) (by kernel_rfl) ?_
      repeat (any_goals (first | go_big_quiet_step (fail) | quiet_step (fail)))
      refine wpQuiet_nil ?_
      clear kg
      intro w2 hb2
      obtain ⟨hc2, hf2⟩ := bcell hb2
      have hw2 : Below w.heap.size w w2 := by
        refine Below.trans ?_ (hb2.mono ?_)
        · go_grown
        · first | omega | go_size
      go_wp2
      go_ret
      exact ⟨rfl, hw1.trans (hb2.mono hw1.size)⟩
  · have hbe : bh T.st k = T.st.length := by omega
    have hE : stI T.st k = -1 := by
      cases e : findS T.st k with
      | none => rw [stI_none e]
      | some i =>
        obtain ⟨e1, h1, h2⟩ := hfd.1 i e
        omega
    rw [hE]
    rw [hbe] at HB
    clear H hs hfd hE hb hle hbe
    generalize T.st.length = n at *
    have hg1 : ((n : Int) == (n : Int)) = true := by simp
    unfold kyV at *
    go_enter Tryz.func66, Tryz.ntmps66
    go_wp2_with fail
    refine (HB.out _ (HH.out.below (by go_grown))).mono ?_
    rintro e w1 ⟨rfl, hb1⟩
    have hw1 : Below w.heap.size w w1 := Below.trans (by go_grown) (hb1.mono (by go_size))
    have c2 := (hw1.cell (p := ⟨t, 2, none⟩) hl).trans c2
    have hl1 := Nat.lt_of_lt_of_le hl hw1.size
    have hz1 := hw1.size
    clear hb1
    go_wp2_with fail
    have kg := cell_grow
    refine region_whole (by kernel_rfl) (by kernel_rfl) ?_
    repeat (any_goals (first | go_big_quiet_step (fail) | quiet_step (fail)))
    refine wpQuiet_nil ?_
    clear kg
    intro w2 hb2
    obtain ⟨hc2, hf2⟩ := bcell hb2
    have hw2 : Below w.heap.size w w2 := by
      refine Below.trans ?_ (hb2.mono ?_)
      · go_grown
      · first | omega | go_size
    go_wp2
    go_ret
    exact ⟨rfl, hw1.trans (hb2.mono hw1.size)⟩
end Go.Proofs.YtoihkbanmnagkaaGreat
/-
  What Get, Put and Take of a bucket hand back, and what the bucket is then. No condition but that the bucket's cells lie in memory.
-/
set_option linter.unusedSimpArgs false
set_option linter.unusedVariables false
namespace Go.Proofs.YtoihkbanmnagkaaGreat
open Go.RowKit Go.Sort M

set_option maxHeartbeats 1000000 in
set_option maxRecDepth 100000 in
theorem get11_any (g o : Nat) (C : List Pl) (k : Ky) (w : World) (H : Bkt w g o C) :
    Calls Tryz.prog 65 #[.pointer (some ⟨g, o, none⟩), kyV k] w fun e w' => e = .returned (.tuple #[.int .i64 ((getC C k).getD 0), .bool (getC C k).isSome]) ∧ Below w.heap.size w w' := by
  have HF := Lib.hid (fun w H => find_any g o C k w H)
  have HH := Lib.hid H
  have h4 := H.four
  rcases idx_cases (hasK k) C with ⟨i, hi, h1, h2, h3⟩ | ⟨h1, h2⟩
  · rw [getC_hit hi h1 h3]
    rw [h2] at HF
    clear h1 h2 h3 H
    have hi4 : i < 4 := by omega
    unfold kyV at *
    go_enter Tryz.func65, Tryz.ntmps65
    go_wp2_with fail
    refine (HF.out _ (HH.out.below (by go_grown))).mono ?_
    rintro e w1 ⟨rfl, hb1⟩
    have hw1 : Below w.heap.size w w1 := Below.trans (by go_grown) (hb1.mono (by go_size))
    obtain ⟨c0, c1, c2, c3, c4⟩ := (HH.out.below hw1).at i hi
    have hz1 := hw1.size
    have hl := HH.out.lt
    clear hb1
    go_wp2
    go_ret2
    exact ⟨rfl, by go_grown⟩
  · rw [getC_miss h1]
    rw [h2] at HF
    clear h1 h2 H
    unfold kyV at *
    go_enter Tryz.func65, Tryz.ntmps65
    go_wp2_with fail
    refine (HF.out _ (HH.out.below (by go_grown))).mono ?_
    rintro e w1 ⟨rfl, hb1⟩
    have hw1 : Below w.heap.size w w1 := Below.trans (by go_grown) (hb1.mono (by go_size))
    clear hb1
    go_wp2
    go_ret2
    exact ⟨rfl, by go_grown⟩
set_option maxHeartbeats 1000000 in
set_option maxRecDepth 100000 in
theorem take11_any (g o : Nat) (C : List Pl) (k : Ky) (w : World) (H : Bkt w g o C) :
    Calls Tryz.prog 71 #[.pointer (some ⟨g, o, none⟩), kyV k] w fun e w' => e = .returned (.bool (takeC C k).isSome) ∧ Bkt w' g o ((takeC C k).getD C) ∧ Turn w w' g o 20 := by
  have HF := Lib.hid (fun w H => find_any g o C k w H)
  have HH := Lib.hid H
  have h4 := H.four
  rcases idx_cases (hasK k) C with ⟨i, hi, h1, h2, h3⟩ | ⟨h1, h2⟩
  · rw [show takeC C k = some (C.set i none) by unfold takeC; rw [h1]]
    rw [h2] at HF
    clear h1 h2 h3 H
    have hi4 : i < 4 := by omega
    unfold kyV at *
    go_enter Tryz.func71, Tryz.ntmps71
    go_wp2_with fail
    refine (HF.out _ (HH.out.below (by go_grown))).mono ?_
    rintro e w1 ⟨rfl, hb1⟩
    have hw1 : Below w.heap.size w w1 := Below.trans (by go_grown) (hb1.mono (by go_size))
    have H1 := HH.out.below hw1
    obtain ⟨c0, c1, c2, c3, c4⟩ := H1.at i hi
    have f0 := H1.free (i * 5) (by omega)
    have f1 := H1.free (i * 5 + 1) (by omega)
    have f2 := H1.free (i * 5 + 2) (by omega)
    have f3 := H1.free (i * 5 + 3) (by omega)
    have f4 := H1.free (i * 5 + 4) (by omega)
    have hz1 := hw1.size
    have hl := HH.out.lt
    simp only [← Nat.add_assoc] at f1 f2 f3 f4
    clear hb1 H1
    go_wp2
    go_ret
    have hP := (HH.out.below hw1).put i hi none
    exact ⟨rfl, hP.1, (Turn.of_below hl hw1).trans hP.2⟩
  · rw [show takeC C k = none by unfold takeC; rw [h1]]
    rw [h2] at HF
    clear h1 h2 H
    unfold kyV at *
    go_enter Tryz.func71, Tryz.ntmps71
    go_wp2_with fail
    refine (HF.out _ (HH.out.below (by go_grown))).mono ?_
    rintro e w1 ⟨rfl, hb1⟩
    have hw1 : Below w.heap.size w w1 := Below.trans (by go_grown) (hb1.mono (by go_size))
    have hl := HH.out.lt
    clear hb1
    go_wp2
    go_ret
    exact ⟨rfl, HH.out.below hw1, Turn.of_below hl hw1⟩
set_option maxHeartbeats 1000000 in
set_option maxRecDepth 100000 in
theorem put11_any (g o : Nat) (C : List Pl) (k : Ky) (v : Int) (w : World) (H : Bkt w g o C) :
    Calls Tryz.prog 77 #[.pointer (some ⟨g, o, none⟩), kyV k, .int .i64 v] w fun e w' => e = .returned (.bool (putC C k v).isSome) ∧ Bkt w' g o ((putC C k v).getD C) ∧ Turn w w' g o 20 := by
  have HF := Lib.hid (fun w H => find_any g o C k w H)
  have HE := Lib.hid (fun w H => empty_any g o C w H)
  have HH := Lib.hid H
  have h4 := H.four
  rcases idx_cases (hasK k) C with ⟨i, hi, h1, h2, h3⟩ | ⟨h1, h2⟩
  · rw [show putC C k v = some (C.set i (some ⟨k, v⟩)) by unfold putC; rw [h1]]
    rw [h2] at HF
    clear h1 h2 h3 H HE
    have hi4 : i < 4 := by omega
    unfold kyV at *
    go_enter Tryz.func77, Tryz.ntmps77
    go_wp2_with fail
    refine (HF.out _ (HH.out.below (by go_grown))).mono ?_
    rintro e w1 ⟨rfl, hb1⟩
    have hw1 : Below w.heap.size w w1 := Below.trans (by go_grown) (hb1.mono (by go_size))
    have b0 : w1.cell? ⟨w.heap.size, 0, none⟩ = some (.int .u64 (k.h : Int)) := by
      rw [hb1.cell (by simp <;> omega)]
      first | assumption | (simp [go_sem]; done) | (simp [go_sem, *]; done)
    have b1 : w1.cell? ⟨w.heap.size, 1, none⟩ = some (.int .u64 (k.l : Int)) := by
      rw [hb1.cell (by simp <;> omega)]
      first | assumption | (simp [go_sem]; done) | (simp [go_sem, *]; done)
    have b2 : w1.cell? ⟨w.heap.size, 2, none⟩ = some (.int .i64 k.n) := by
      rw [hb1.cell (by simp <;> omega)]
      first | assumption | (simp [go_sem]; done) | (simp [go_sem, *]; done)
    have H1 := HH.out.below hw1
    obtain ⟨c0, c1, c2, c3, c4⟩ := H1.at i hi
    have f0 := H1.free (i * 5) (by omega)
    have f1 := H1.free (i * 5 + 1) (by omega)
    have f2 := H1.free (i * 5 + 2) (by omega)
    have f3 := H1.free (i * 5 + 3) (by omega)
    have f4 := H1.free (i * 5 + 4) (by omega)
    have hz1 := hw1.size
    have hl := HH.out.lt
    simp only [← Nat.add_assoc] at f1 f2 f3 f4
    clear hb1 H1
    go_wp2_with fail
    go_region
    go_wp2
    go_ret
    have hP := HH.out.put_drew hw1 i hi (some ⟨k, v⟩)
    exact ⟨rfl, hP.1, hP.2⟩
  · rcases idx_cases Option.isNone C with ⟨i, hi, h5, h6, h7⟩ | ⟨h5, h6⟩
    · rw [show putC C k v = some (C.set i (some ⟨k, v⟩)) by unfold putC; rw [h1]; simp only; rw [h5]]
      rw [h2] at HF
      rw [h6] at HE
      clear h1 h2 h5 h6 h7 H
      have hi4 : i < 4 := by omega
      unfold kyV at *
      go_enter Tryz.func77, Tryz.ntmps77
      go_wp2_with fail
      refine (HF.out _ (HH.out.below (by go_grown))).mono ?_
      rintro e w2 ⟨rfl, hb2⟩
      have hw2 : Below w.heap.size w w2 := Below.trans (by go_grown) (hb2.mono (by go_size))
      have d0 : w2.cell? ⟨w.heap.size, 0, none⟩ = some (.int .u64 (k.h : Int)) := by
        rw [hb2.cell (by simp <;> omega)]
        first | assumption | (simp [go_sem]; done) | (simp [go_sem, *]; done)
      have d1 : w2.cell? ⟨w.heap.size, 1, none⟩ = some (.int .u64 (k.l : Int)) := by
        rw [hb2.cell (by simp <;> omega)]
        first | assumption | (simp [go_sem]; done) | (simp [go_sem, *]; done)
      have d2 : w2.cell? ⟨w.heap.size, 2, none⟩ = some (.int .i64 k.n) := by
        rw [hb2.cell (by simp <;> omega)]
        first | assumption | (simp [go_sem]; done) | (simp [go_sem, *]; done)
      have hz2 : w.heap.size < w2.heap.size := by
        have hs := hb2.size
        try simp only [World.size_alloc, World.size_setCell] at hs
        omega
      clear hb2
      go_wp2_with fail
      refine (HE.out _ (HH.out.below hw2)).mono ?_
      rintro e w1 ⟨rfl, hb1⟩
      have hw1 := hw2.trans (hb1.mono hw2.size)
      have b0 := (hb1.cell (p := ⟨w.heap.size, 0, none⟩) hz2).trans d0
      have b1 := (hb1.cell (p := ⟨w.heap.size, 1, none⟩) hz2).trans d1
      have b2 := (hb1.cell (p := ⟨w.heap.size, 2, none⟩) hz2).trans d2
      have hz3 := Nat.lt_of_lt_of_le hz2 hb1.size
      clear d0 d1 d2 hw2 hz2 hb1
      have H1 := HH.out.below hw1
      obtain ⟨c0, c1, c2, c3, c4⟩ := H1.at i hi
      have f0 := H1.free (i * 5) (by omega)
      have f1 := H1.free (i * 5 + 1) (by omega)
      have f2 := H1.free (i * 5 + 2) (by omega)
      have f3 := H1.free (i * 5 + 3) (by omega)
      have f4 := H1.free (i * 5 + 4) (by omega)
      have hz1 := hw1.size
      have hl := HH.out.lt
      simp only [← Nat.add_assoc] at f1 f2 f3 f4
      clear H1
      go_wp2_with fail
      go_region
      go_wp2
      go_ret
      have hP := HH.out.put_drew hw1 i hi (some ⟨k, v⟩)
      exact ⟨rfl, hP.1, hP.2⟩
    · rw [show putC C k v = none by unfold putC; rw [h1]; simp only; rw [h5]]
      rw [h2] at HF
      rw [h6] at HE
      clear h1 h2 h5 h6 H
      unfold kyV at *
      go_enter Tryz.func77, Tryz.ntmps77
      go_wp2_with fail
      refine (HF.out _ (HH.out.below (by go_grown))).mono ?_
      rintro e w2 ⟨rfl, hb2⟩
      have hw2 : Below w.heap.size w w2 := Below.trans (by go_grown) (hb2.mono (by go_size))
      clear hb2
      go_wp2_with fail
      refine (HE.out _ (HH.out.below hw2)).mono ?_
      rintro e w1 ⟨rfl, hb1⟩
      have hw1 := hw2.trans (hb1.mono hw2.size)
      have hl := HH.out.lt
      clear hb1
      go_wp2
      go_ret
      exact ⟨rfl, HH.out.below hw1, Turn.of_below hl hw1⟩
end Go.Proofs.YtoihkbanmnagkaaGreat
