/-
  What a search by halves hands back; where a key lies in a table's stash. No condition but that the table's cells lie in memory, and that its stash is in order and has fewer than 2^20 keys.
-/
import Derived.Test.YtlglppfkpieabaaW11d
import Derived.Test.YtlglppfkpieabaaRts
import Derived.Test.YtlglppfkpieabaaW6b
import Derived.Test.YtlglppfkpieabaaRBkt2
/-
  What Swap of a bucket hands back, and what the bucket is then. No condition but that its cells lie in memory.
-/
set_option linter.unusedSimpArgs false
set_option linter.unusedVariables false
namespace Go.Proofs.Ytlglppfkpieabaa
open Go.RowKit Go.Sort M

set_option maxHeartbeats 1000000 in
set_option maxRecDepth 100000 in
theorem swap11_any (g o : Nat) (C : List Pl) (i : Int) (k : Ky) (v : Int) (w : World) (H : Bkt w g o C) :
    Calls Try.prog 59 #[.pointer (some ⟨g, o, none⟩), .int .i64 i, kyV k, .int .i64 v] w fun e w' => e = .returned (outV (swapC C i k v)) ∧ Bkt w' g o (((swapC C i k v).map Prod.snd).getD C) ∧ Turn w w' g o 20 := by
  have HH := Lib.hid H
  have h4 := H.four
  have hg := H.lt
  rcases swapC_cases h4 i k v with ⟨j, hj, r, rfl, hr, hs⟩ | ⟨j, hj, rfl, hr, hs⟩ | ⟨hn, hs⟩
  · rw [hs, outV_some]
    obtain ⟨r0, r1, r2, r3, r4⟩ := H.at j hj
    rw [hr] at r0 r1 r2 r3 r4
    simp only [xh, xl, xn, xv, Option.isSome_some] at r0 r1 r2 r3 r4
    have f0 := H.free (j * 5) (by omega)
    have f1 := H.free (j * 5 + 1) (by omega)
    have f2 := H.free (j * 5 + 2) (by omega)
    have f3 := H.free (j * 5 + 3) (by omega)
    have f4 := H.free (j * 5 + 4) (by omega)
    simp only [← Nat.add_assoc] at f1 f2 f3 f4
    have hj4 : j < 4 := by omega
    clear hs hr H
    unfold kyV at *
    go_enter Try.func59, Try.ntmps59
    go_wp2
    have hT := three_new w k [.int .u64 (r.k.h : Int), .int .u64 (r.k.l : Int), .int .i64 r.k.n, .int .i64 r.v, .bool true] 27 27 70
    simp only [List.toArray] at hT
    generalize ((w.alloc (.cells #[.int .u64 (k.h : Int), .int .u64 (k.l : Int), .int .i64 k.n] 27)).alloc (.cells #[.int .u64 0, .int .u64 0, .int .i64 0] 27)).alloc (.cells #[.int .u64 (r.k.h : Int), .int .u64 (r.k.l : Int), .int .i64 r.k.n, .int .i64 r.v, .bool true] 70) = w3 at hT ⊢
    have hz3 := hT.size
    have hl3 : g < w3.heap.size := by omega
    have hP := HH.out.put_drew hT.below j hj (some ⟨k, v⟩)
    have ht := (turn_put5 w3 g (o + j * 5) (some ⟨k, v⟩)).drew hl3
    have hq0 := (ht.far (b := w.heap.size + 1 + 1) (by omega) (by omega) 0).1.trans (hT.q 0 _ rfl)
    have hq1 := (ht.far (b := w.heap.size + 1 + 1) (by omega) (by omega) 1).1.trans (hT.q 1 _ rfl)
    have hq2 := (ht.far (b := w.heap.size + 1 + 1) (by omega) (by omega) 2).1.trans (hT.q 2 _ rfl)
    have hq3 := (ht.far (b := w.heap.size + 1 + 1) (by omega) (by omega) 3).1.trans (hT.q 3 _ rfl)
    have ho0 := (ht.far (b := w.heap.size + 1) (by omega) (by omega) 0).1.trans hT.o0
    have ho1 := (ht.far (b := w.heap.size + 1) (by omega) (by omega) 1).1.trans hT.o1
    have ho2 := (ht.far (b := w.heap.size + 1) (by omega) (by omega) 2).1.trans hT.o2
    have hp0 := (ht.far (b := w.heap.size + 1) (by omega) (by omega) 0).2.trans hT.p0
    have hp1 := (ht.far (b := w.heap.size + 1) (by omega) (by omega) 1).2.trans hT.p1
    have hp2 := (ht.far (b := w.heap.size + 1) (by omega) (by omega) 2).2.trans hT.p2
    have hz5 := ht.grown.size
    have H3 := HH.out.below hT.below
    obtain ⟨c0, c1, c2, c3, c4⟩ := H3.at j hj
    have b0 := hT.b0
    have b1 := hT.b1
    have b2 := hT.b2
    have f0 := H3.free (j * 5) (by omega)
    have f1 := H3.free (j * 5 + 1) (by omega)
    have f2 := H3.free (j * 5 + 2) (by omega)
    have f3 := H3.free (j * 5 + 3) (by omega)
    have f4 := H3.free (j * 5 + 4) (by omega)
    simp only [← Nat.add_assoc] at f1 f2 f3 f4
    have HP := Lib.hid (And.intro hP (And.intro hq0 (And.intro hq1 (And.intro hq2 (And.intro hq3 (And.intro ho0 (And.intro ho1 (And.intro ho2 (And.intro hp0 (And.intro hp1 (And.intro hp2 hz5)))))))))))
    clear hP hq0 hq1 hq2 hq3 ho0 ho1 ho2 hp0 hp1 hp2 hz5 ht hT H3 r0 r1 r2 r3 r4
    go_region
    go_wp2_with fail
    show Code.wp _ _ _ _ (put5 w3 g (o + j * 5) (some ⟨k, v⟩)).drew
    obtain ⟨hP, hq0, hq1, hq2, hq3, ho0, ho1, ho2, hp0, hp1, hp2, hz5⟩ := HP.out
    clear HP c0 c1 c2 c3 c4 b0 b1 b2 f0 f1 f2 f3 f4
    generalize (put5 w3 g (o + j * 5) (some ⟨k, v⟩)).drew = w5 at *
    go_region
    show Exit.then _ _ _ _ (give3 w5 (w.heap.size + 1) r.k).drew
    obtain ⟨e0, e1, e2⟩ := give3_cells (k := r.k) (by omega) ho0 ho1 ho2
    have hT7 := give3_turn hP.2 hg r.k (b := w.heap.size + 1) (by omega)
    have hR7 := give3_bkt hP.1 r.k (b := w.heap.size + 1) (by omega)
    have HP := Lib.hid (And.intro hR7 hT7)
    clear hP hq0 hq1 hq2 hq3 ho0 ho1 ho2 hp0 hp1 hp2 hR7 hT7
    generalize (give3 w5 (w.heap.size + 1) r.k).drew = w7 at *
    go_wp2
    refine bodyPost_ret (by simp [results, Try.results59, go_sem, e0, e1, e2]; try rfl) rfl ?_
    exact ⟨rfl, HP.out.1, HP.out.2⟩
  · rw [hs, outV_none]
    obtain ⟨r0, r1, r2, r3, hon⟩ := H.at j hj
    rw [hr] at hon
    simp only [Option.isSome_none] at hon
    have hj4 : j < 4 := by omega
    clear hs hr H r0 r1 r2 r3
    unfold kyV at *
    go_enter Try.func59, Try.ntmps59
    go_wp2
    refine bodyPost_ret (by simp [results, Try.results59, go_sem]; try rfl) rfl ?_
    exact ⟨rfl, HH.out.below (by go_grown), Turn.of_below hg (by go_grown)⟩
  · rw [hs, outV_none]
    by_cases h0 : i < 0
    · clear hs hn H
      unfold kyV at *
      go_enter Try.func59, Try.ntmps59
      go_wp2
      refine bodyPost_ret (by simp [results, Try.results59, go_sem]; try rfl) rfl ?_
      exact ⟨rfl, HH.out.below (by go_grown), Turn.of_below hg (by go_grown)⟩
    · have h3 : 4 ≤ i := by omega
      clear hs hn H
      unfold kyV at *
      go_enter Try.func59, Try.ntmps59
      go_wp2
      refine bodyPost_ret (by simp [results, Try.results59, go_sem]; try rfl) rfl ?_
      exact ⟨rfl, HH.out.below (by go_grown), Turn.of_below hg (by go_grown)⟩
end Go.Proofs.Ytlglppfkpieabaa
/-
  What addr.Right, Has, Common and Less hand back, for every prefix and address. No condition but that the words are words of 64 bits.
-/
set_option linter.unusedSimpArgs false
set_option linter.unusedVariables false
namespace Go.Proofs.Ytlglppfkpieabaa
open Go.RowKit Go.Sort M

/-- Two addresses are held against each other word by word. -/
theorem eql_addr (a b c d : Nat) (w : World) : (binOp .eql 25 (.agg #[.int .u64 a, .int .u64 b]) (.agg #[.int .u64 c, .int .u64 d])).run Try.prog w = .ok (.bool (decide (a = c) && decide (b = d))) w := by
  have e1 : decide (a = c) = decide ((a : Int) = c) := by rw [decide_eq_decide]; omega
  have e2 : decide (b = d) = decide ((b : Int) = d) := by rw [decide_eq_decide]; omega
  rw [e1, e2]
  by_cases h1 : (a : Int) = c <;> by_cases h2 : (b : Int) = d <;> simp [go_sem, h1, h2]

set_option maxHeartbeats 400000 in
theorem less_any (h1 l1 : Nat) (n1 : Int) (h2 l2 : Nat) (n2 : Int) :
    Gives Try.prog 48 #[.agg #[.int .u64 h1, .int .u64 l1, .int .i64 n1], .agg #[.int .u64 h2, .int .u64 l2, .int .i64 n2]] (.bool (lessB h1 l1 n1 h2 l2 n2)) := by
  intro w
  by_cases e1 : h1 = h2
  · by_cases e2 : l1 = l2
    · subst e1 e2
      go_enter Try.func48, Try.ntmps48
      go_wp2
      go_ret
      refine ⟨ret_bool ?_, by go_grown⟩
      simp [lessB]
    · subst e1
      go_enter Try.func48, Try.ntmps48
      go_wp2
      go_ret
      refine ⟨ret_bool ?_, by go_grown⟩
      simp [lessB, e2]
  · go_enter Try.func48, Try.ntmps48
    go_wp2
    go_ret
    refine ⟨ret_bool ?_, by go_grown⟩
    simp [lessB, e1]

end Go.Proofs.Ytlglppfkpieabaa
/-
  What a search by halves hands back; where a key lies in a table's stash. No condition but that the table's cells lie in memory, and that its stash is in order and has fewer than 2^20 keys.
-/
set_option linter.unusedSimpArgs false
set_option linter.unusedVariables false
namespace Go.Proofs.Ytlglppfkpieabaa
open Go.RowKit Go.Sort M

set_option maxRecDepth 100000 in
set_option maxHeartbeats 1000000 in
/-- sort.Search, of a test that says 'from number b on'. -/
theorem search_any (F : Nat) (p q : Value) (n b : Nat) (hb : b ≤ n) (hn : n < 4611686018427387904) (w : World) (eg : ∀ args w, (callFunc F args).run Try.prog w = .ok (.enter F args) w)
    (hf : ∀ wx (i : Nat), Below w.heap.size w wx → i < n → Calls Try.prog F #[.int .i64 (i : Int), p, q] wx fun e w' => e = .returned (.bool (decide (b ≤ i))) ∧ Below wx.heap.size wx w') :
    Calls Try.prog 63 #[.int .i64 (n : Int), .func (.func F) #[] #[p, q]] w fun e w' => e = .returned (.int .i64 (b : Int)) ∧ Below w.heap.size w w' := by
  have HF := Lib.hid hf
  clear hf
  go_enter Try.func63, Try.ntmps63
  go_wp2
  go_loopw [5, 6] (fun s5 s6 wr => ∃ (lo hi : Nat), s5 = .int .i64 (lo : Int) ∧ s6 = .int .i64 (hi : Int) ∧ lo ≤ b ∧ b ≤ hi ∧ hi ≤ n ∧ Below w.heap.size w wr) (fun s5 s6 _ => (intOf s6).toNat - (intOf s5).toNat)
  case atStart => exact ⟨0, n, rfl, rfl, Nat.zero_le _, hb, Nat.le_refl _, by go_grown⟩
  case round =>
    obtain ⟨lo, hi, rfl, rfl, h1, h2, h3, hw⟩ := hrel
    by_cases hlt : lo < hi
    · have hc := HF.out wr ((lo + hi) / 2) hw (by omega)
      rw [show (((lo + hi) / 2 : Nat) : Int) = ((lo : Int) + (hi : Int)) / 2 by omega] at hc
      by_cases ht : b ≤ (lo + hi) / 2
      · rw [decide_eq_true ht] at hc
        go_wp2_with (go_at_fn F; refine hc.mono ?_; rintro e w1 ⟨rfl, hb1⟩)
        go_roundw
        case rel => exact ⟨lo, (lo + hi) / 2, rfl, by rw [show ((lo : Int) + (hi : Int)) / 2 = (((lo + hi) / 2 : Nat) : Int) by omega], h1, ht, by omega, hw.trans (hb1.mono hw.size)⟩
        case measure => simp [intOf]; omega
      · rw [decide_eq_false ht] at hc
        go_wp2_with (go_at_fn F; refine hc.mono ?_; rintro e w1 ⟨rfl, hb1⟩)
        go_roundw
        case rel => exact ⟨(lo + hi) / 2 + 1, hi, by rw [show ((lo : Int) + (hi : Int)) / 2 + 1 = (((lo + hi) / 2 + 1 : Nat) : Int) by omega], rfl, by omega, h2, h3, hw.trans (hb1.mono hw.size)⟩
        case measure => simp [intOf]; omega
    · obtain rfl : lo = b := by omega
      go_wp2
      go_ret
      exact ⟨rfl, hw⟩
set_option maxRecDepth 100000 in
set_option maxHeartbeats 1000000 in
/-- The test of a search in a stash. -/
theorem test_any (t g : Nat) (v : Value) (T : Tab) (m : Int) (k : Ky) (b0 b1 i : Nat) (w : World) (H : CT w t g v T m) (hs : Sorted T.st) (hi : i < T.st.length) (l0 : b0 < w.heap.size) (l1 : b1 < w.heap.size)
    (k0 : w.cell? ⟨b0, 0, none⟩ = some (.pointer (some ⟨t, 0, none⟩))) (d0 : w.cell? ⟨b1, 0, none⟩ = some (.int .u64 (k.h : Int))) (d1 : w.cell? ⟨b1, 1, none⟩ = some (.int .u64 (k.l : Int))) (d2 : w.cell? ⟨b1, 2, none⟩ = some (.int .i64 k.n)) :
    Calls Try.prog 64 #[.int .i64 (i : Int), .pointer (some ⟨b0, 0, none⟩), .pointer (some ⟨b1, 0, none⟩)] w fun e w' => e = .returned (.bool (decide (bh T.st k ≤ i))) ∧ Below w.heap.size w w' := by
  have hl := H.tb.tlt
  obtain ⟨p, c, rfl⟩ := own_slice H.tb.own
  have c2 := H.tb.c2
  obtain ⟨gr, o, rfl, hgr, r0, r1, r2, -⟩ := (Row.of_own H.tb.own).rt hi
  have hT := bh_test T.st k hs i hi
  have HL := less_any T.st[i].k.h T.st[i].k.l T.st[i].k.n k.h k.l k.n
  change Gives _ _ _ (.bool (lessK T.st[i].k k)) at HL
  have HL := Lib.hid HL
  have i1 : (0 : Int) ≤ (i : Int) := by omega
  have i2 : (i : Int) < (T.st.length : Int) := by omega
  generalize lessK T.st[i].k k = ls at *
  generalize decide (bh T.st k ≤ i) = ds at *
  subst hT
  generalize T.st[i].k = q at *
  generalize T.st.length = n at *
  clear H hs
  go_enter Try.func64, Try.ntmps64
  go_wp2_with fail
  have kg := cell_grow
  refine region_whole (by kernel_rfl) (by kernel_rfl) ?_
  repeat (any_goals (first | go_big_quiet_step ((exact HL.out.at _ _ _)) | quiet_step ((exact HL.out.at _ _ _))))
  refine wpQuiet_nil ?_
  clear kg
  intro w1 hb1
  obtain ⟨hc1, hf1⟩ := bcell hb1
  have hw1 : Below w.heap.size w w1 := by
    refine Below.trans ?_ (hb1.mono ?_)
    · go_grown
    · first | omega | go_size
  go_wp2
  go_ret
  exact ⟨rfl, hw1⟩
set_option maxRecDepth 100000 in
set_option maxHeartbeats 1000000 in
theorem behind_any (t g : Nat) (v : Value) (T : Tab) (m : Int) (k : Ky) (w : World) (H : CT w t g v T m) (hs : Sorted T.st) (hf : T.st.length < 1048576) :
    Calls Try.prog 37 #[.pointer (some ⟨t, 0, none⟩), kyV k] w fun e w' => e = .returned (.int .i64 (bh T.st k : Int)) ∧ Below w.heap.size w w' := by
  have HH := Lib.hid H
  have hl := H.tb.tlt
  obtain ⟨p, c, rfl⟩ := own_slice H.tb.own
  have c2 := H.tb.c2
  have eg := enters_of Try.func64 (by kernel_rfl) rfl
  have hS : ∀ W, Below w.heap.size w W → W.heap.size = w.heap.size + 2 → W.cell? ⟨w.heap.size, 0, none⟩ = some (.pointer (some ⟨t, 0, none⟩)) → W.cell? ⟨w.heap.size + 1, 0, none⟩ = some (.int .u64 (k.h : Int)) → W.cell? ⟨w.heap.size + 1, 1, none⟩ = some (.int .u64 (k.l : Int)) → W.cell? ⟨w.heap.size + 1, 2, none⟩ = some (.int .i64 k.n) →
      Calls Try.prog 63 #[.int .i64 (T.st.length : Int), .func (.func 64) #[] #[.pointer (some ⟨w.heap.size, 0, none⟩), .pointer (some ⟨w.heap.size + 1, 0, none⟩)]] W fun e w' => e = .returned (.int .i64 (bh T.st k : Int)) ∧ Below W.heap.size W w' := by
    intro W hW hz e0 e1 e2 e3
    refine search_any _ _ _ _ _ (bh_le T.st k) (by omega) W eg fun wx i hx hi => ?_
    refine test_any t g _ T m k w.heap.size (w.heap.size + 1) i wx (HH.out.below (hW.trans (hx.mono hW.size))) hs hi (by have := hx.size; omega) (by have := hx.size; omega) ?_ ?_ ?_ ?_
    · exact (hx.cell (p := ⟨w.heap.size, 0, none⟩) (by show w.heap.size < _; omega)).trans e0
    · exact (hx.cell (p := ⟨w.heap.size + 1, 0, none⟩) (by show w.heap.size + 1 < _; omega)).trans e1
    · exact (hx.cell (p := ⟨w.heap.size + 1, 1, none⟩) (by show w.heap.size + 1 < _; omega)).trans e2
    · exact (hx.cell (p := ⟨w.heap.size + 1, 2, none⟩) (by show w.heap.size + 1 < _; omega)).trans e3
  have HS := Lib.hid hS
  generalize bh T.st k = b at *
  generalize T.st.length = n at *
  clear H hs hS
  unfold kyV
  go_enter Try.func37, Try.ntmps37
  go_wp2_with fail
  refine (HS.out _ (by go_grown) (by simp) (by simp [go_sem]) (by simp [go_sem]) (by simp [go_sem]) (by simp [go_sem])).mono ?_
  rintro e w1 ⟨rfl, hb1⟩
  have hw1 : Below w.heap.size w w1 := Below.trans (by go_grown) (hb1.mono (by go_size))
  clear hb1
  go_wp2
  go_ret
  exact ⟨rfl, hw1⟩
theorem neqK (a b : Nat) (n : Int) (c d : Nat) (m : Int) (w : World) : (binOp .neq 27 (.agg #[.int .u64 a, .int .u64 b, .int .i64 n]) (.agg #[.int .u64 c, .int .u64 d, .int .i64 m])).run Try.prog w =
    .ok (.bool (!decide (a = c ∧ b = d ∧ n = m))) w := by
  have e1 : decide (a = c ∧ b = d ∧ n = m) = (decide ((a : Int) = c) && (decide ((b : Int) = d) && decide (n = m))) := by
    rw [← Bool.decide_and, ← Bool.decide_and, decide_eq_decide]; omega
  rw [e1]
  by_cases h1 : (a : Int) = c <;> by_cases h2 : (b : Int) = d <;> by_cases h3 : n = m <;> simp [go_sem, h1, h2, h3]
theorem ky_eq (a b : Ky) : (a.h = b.h ∧ a.l = b.l ∧ a.n = b.n) ↔ a = b := by
  cases a; cases b; simp
set_option maxRecDepth 100000 in
set_option maxHeartbeats 1000000 in
theorem stashed_any (t g : Nat) (v : Value) (T : Tab) (m : Int) (k : Ky) (w : World) (H : CT w t g v T m) (hs : Sorted T.st) (hf : T.st.length < 1048576) :
    Calls Try.prog 50 #[.pointer (some ⟨t, 0, none⟩), kyV k] w fun e w' => e = .returned (.int .i64 (stI T.st k)) ∧ Below w.heap.size w w' := by
  have HH := Lib.hid H
  have hl := H.tb.tlt
  obtain ⟨p, c, rfl⟩ := own_slice H.tb.own
  have c2 := H.tb.c2
  have HB := Lib.hid (fun w (H : CT w t g (.slice p T.st.length c) T m) => behind_any t g _ T m k w H hs hf)
  have hle := bh_le T.st k
  have hfd := findS_bh T.st k hs
  by_cases hb : bh T.st k < T.st.length
  · obtain ⟨gr, o, rfl, hgr, r0, r1, r2, -⟩ := (Row.of_own H.tb.own).rt hb
    have hN := neqK T.st[bh T.st k].k.h T.st[bh T.st k].k.l T.st[bh T.st k].k.n k.h k.l k.n
    have hg1 : ((bh T.st k : Int) == (T.st.length : Int)) = false := by simp; omega
    have i1 : (0 : Int) ≤ (bh T.st k : Int) := by omega
    have i2 : (bh T.st k : Int) < (T.st.length : Int) := by omega
    by_cases hk : T.st[bh T.st k].k = k
    · have hE : stI T.st k = (bh T.st k : Int) := by
        cases e : findS T.st k with
        | none => exact absurd hk (hfd.2 e hb)
        | some i => rw [stI_some e, (hfd.1 i e).1]
      rw [decide_eq_true ((ky_eq _ _).2 hk)] at hN
      rw [hE]
      clear H hs hfd hk hE hle
      generalize T.st[bh T.st k].k = q at *
      generalize bh T.st k = b at *
      generalize T.st.length = n at *
      clear hb
      unfold kyV at *
      go_enter Try.func50, Try.ntmps50
      go_wp2_with fail
      refine (HB.out _ (HH.out.below (by go_grown))).mono ?_
      rintro e w1 ⟨rfl, hb1⟩
      have hw1 : Below w.heap.size w w1 := Below.trans (by go_grown) (hb1.mono (by go_size))
      have d0 : w1.cell? ⟨w.heap.size, 0, none⟩ = some (.int .u64 (k.h : Int)) := by
        rw [hb1.cell (by simp <;> omega)]
        first | assumption | (simp [go_sem]; done) | (simp [go_sem, *]; done)
      have d1 : w1.cell? ⟨w.heap.size, 1, none⟩ = some (.int .u64 (k.l : Int)) := by
        rw [hb1.cell (by simp <;> omega)]
        first | assumption | (simp [go_sem]; done) | (simp [go_sem, *]; done)
      have d2 : w1.cell? ⟨w.heap.size, 2, none⟩ = some (.int .i64 k.n) := by
        rw [hb1.cell (by simp <;> omega)]
        first | assumption | (simp [go_sem]; done) | (simp [go_sem, *]; done)
      have hz1 : w.heap.size < w1.heap.size := by
        have hs := hb1.size
        try simp only [World.size_alloc, World.size_setCell] at hs
        omega
      have c2 := (hw1.cell (p := ⟨t, 2, none⟩) hl).trans c2
      have r0 := (hw1.cell (p := ⟨gr, o + b * 4, none⟩) hgr).trans r0
      have r1 := (hw1.cell (p := ⟨gr, o + b * 4 + 1, none⟩) hgr).trans r1
      have r2 := (hw1.cell (p := ⟨gr, o + b * 4 + 2, none⟩) hgr).trans r2
      have hl1 := Nat.lt_of_lt_of_le hl hw1.size
      have hgr1 := Nat.lt_of_lt_of_le hgr hw1.size
      clear hb1
      go_wp2_with fail
      have kg := cell_grow
      refine region_whole (by kernel_rfl) (by kernel_rfl) ?_
      repeat (any_goals (first | go_big_quiet_step (fail) | quiet_step (fail)))
      refine wpQuiet_nil ?_
      clear kg
      intro w2 hb2
      obtain ⟨hc2, hf2⟩ := bcell hb2
      have hw2 : Below w.heap.size w w2 := by
        refine Below.trans ?_ (hb2.mono ?_)
        · go_grown
        · first | omega | go_size
      go_wp2
      go_ret
      exact ⟨rfl, hw1.trans (hb2.mono hw1.size)⟩
    · have hE : stI T.st k = -1 := by
        cases e : findS T.st k with
        | none => rw [stI_none e]
        | some i =>
          obtain ⟨e1, h1, h2⟩ := hfd.1 i e
          subst e1
          exact absurd h2 hk
      rw [decide_eq_false (fun h => hk ((ky_eq _ _).1 h))] at hN
      rw [hE]
      clear H hs hfd hk hE hle
      generalize T.st[bh T.st k].k = q at *
      generalize bh T.st k = b at *
      generalize T.st.length = n at *
      clear hb
      unfold kyV at *
      go_enter Try.func50, Try.ntmps50
      go_wp2_with fail
      refine (HB.out _ (HH.out.below (by go_grown))).mono ?_
      rintro e w1 ⟨rfl, hb1⟩
      have hw1 : Below w.heap.size w w1 := Below.trans (by go_grown) (hb1.mono (by go_size))
      have d0 : w1.cell? ⟨w.heap.size, 0, none⟩ = some (.int .u64 (k.h : Int)) := by
        rw [hb1.cell (by simp <;> omega)]
        first | assumption | (simp [go_sem]; done) | (simp [go_sem, *]; done)
      have d1 : w1.cell? ⟨w.heap.size, 1, none⟩ = some (.int .u64 (k.l : Int)) := by
        rw [hb1.cell (by simp <;> omega)]
        first | assumption | (simp [go_sem]; done) | (simp [go_sem, *]; done)
      have d2 : w1.cell? ⟨w.heap.size, 2, none⟩ = some (.int .i64 k.n) := by
        rw [hb1.cell (by simp <;> omega)]
        first | assumption | (simp [go_sem]; done) | (simp [go_sem, *]; done)
      have hz1 : w.heap.size < w1.heap.size := by
        have hs := hb1.size
        try simp only [World.size_alloc, World.size_setCell] at hs
        omega
      have c2 := (hw1.cell (p := ⟨t, 2, none⟩) hl).trans c2
      have r0 := (hw1.cell (p := ⟨gr, o + b * 4, none⟩) hgr).trans r0
      have r1 := (hw1.cell (p := ⟨gr, o + b * 4 + 1, none⟩) hgr).trans r1
      have r2 := (hw1.cell (p := ⟨gr, o + b * 4 + 2, none⟩) hgr).trans r2
      have hl1 := Nat.lt_of_lt_of_le hl hw1.size
      have hgr1 := Nat.lt_of_lt_of_le hgr hw1.size
      clear hb1
      go_wp2_with fail
      have kg := cell_grow
      refine region_whole (by kernel_rfl) (by kernel_rfl) ?_
      repeat (any_goals (first | go_big_quiet_step (fail) | quiet_step (fail)))
      refine wpQuiet_nil ?_
      clear kg
      intro w2 hb2
      obtain ⟨hc2, hf2⟩ := bcell hb2
      have hw2 : Below w.heap.size w w2 := by
        refine Below.trans ?_ (hb2.mono ?_)
        · go_grown
        · first | omega | go_size
      go_wp2
      go_ret
      exact ⟨rfl, hw1.trans (hb2.mono hw1.size)⟩
  · have hbe : bh T.st k = T.st.length := by omega
    have hE : stI T.st k = -1 := by
      cases e : findS T.st k with
      | none => rw [stI_none e]
      | some i =>
        obtain ⟨e1, h1, h2⟩ := hfd.1 i e
        omega
    rw [hE]
    rw [hbe] at HB
    clear H hs hfd hE hb hle hbe
    generalize T.st.length = n at *
    have hg1 : ((n : Int) == (n : Int)) = true := by simp
    unfold kyV at *
    go_enter Try.func50, Try.ntmps50
    go_wp2_with fail
    refine (HB.out _ (HH.out.below (by go_grown))).mono ?_
    rintro e w1 ⟨rfl, hb1⟩
    have hw1 : Below w.heap.size w w1 := Below.trans (by go_grown) (hb1.mono (by go_size))
    have c2 := (hw1.cell (p := ⟨t, 2, none⟩) hl).trans c2
    have hl1 := Nat.lt_of_lt_of_le hl hw1.size
    have hz1 := hw1.size
    clear hb1
    go_wp2_with fail
    have kg := cell_grow
    refine region_whole (by kernel_rfl) (by kernel_rfl) ?_
    repeat (any_goals (first | go_big_quiet_step (fail) | quiet_step (fail)))
    refine wpQuiet_nil ?_
    clear kg
    intro w2 hb2
    obtain ⟨hc2, hf2⟩ := bcell hb2
    have hw2 : Below w.heap.size w w2 := by
      refine Below.trans ?_ (hb2.mono ?_)
      · go_grown
      · first | omega | go_size
    go_wp2
    go_ret
    exact ⟨rfl, hw1.trans (hb2.mono hw1.size)⟩
end Go.Proofs.Ytlglppfkpieabaa
