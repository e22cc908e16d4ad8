/-
  What addr.Right, Has, Common and Less hand back, for every prefix and address. No condition but that the words are words of 64 bits.
-/
import Derived.Test.YtlglppfkpieabaaW11d
import Derived.Test.YtlglppfkpieabaaM11
import Derived.Test.YtlglppfkpieabaaShelf
/-
  What Swap of a bucket hands back, and what the bucket is then. No condition but that its cells lie in memory.
-/
set_option linter.unusedSimpArgs false
set_option linter.unusedVariables false
namespace Go.Proofs.Ytlglppfkpieabaa
open Go.RowKit Go.Sort M

set_option maxHeartbeats 1000000 in
set_option maxRecDepth 100000 in
theorem swap11_any (g o : Nat) (C : List Pl) (i : Int) (k : Ky) (v : Int) (w : World) (H : Bkt w g o C) :
    Calls Try.prog 59 #[.pointer (some ⟨g, o, none⟩), .int .i64 i, kyV k, .int .i64 v] w fun e w' => e = .returned (outV (swapC C i k v)) ∧ Bkt w' g o (((swapC C i k v).map Prod.snd).getD C) ∧ Turn w w' g o 20 := by
  have HH := Lib.hid H
  have h4 := H.four
  have hg := H.lt
  rcases swapC_cases h4 i k v with ⟨j, hj, r, rfl, hr, hs⟩ | ⟨j, hj, rfl, hr, hs⟩ | ⟨hn, hs⟩
  · rw [hs, outV_some]
    obtain ⟨r0, r1, r2, r3, r4⟩ := H.at j hj
    rw [hr] at r0 r1 r2 r3 r4
    simp only [xh, xl, xn, xv, Option.isSome_some] at r0 r1 r2 r3 r4
    have f0 := H.free (j * 5) (by omega)
    have f1 := H.free (j * 5 + 1) (by omega)
    have f2 := H.free (j * 5 + 2) (by omega)
    have f3 := H.free (j * 5 + 3) (by omega)
    have f4 := H.free (j * 5 + 4) (by omega)
    simp only [← Nat.add_assoc] at f1 f2 f3 f4
    have hj4 : j < 4 := by omega
    clear hs hr H
    unfold kyV at *
    go_enter Try.func59, Try.ntmps59
    go_wp2
    have hT := three_new w k [.int .u64 (r.k.h : Int), .int .u64 (r.k.l : Int), .int .i64 r.k.n, .int .i64 r.v, .bool true] 27 27 70
    simp only [List.toArray] at hT
    generalize ((w.alloc (.cells #[.int .u64 (k.h : Int), .int .u64 (k.l : Int), .int .i64 k.n] 27)).alloc (.cells #[.int .u64 0, .int .u64 0, .int .i64 0] 27)).alloc (.cells #[.int .u64 (r.k.h : Int), .int .u64 (r.k.l : Int), .int .i64 r.k.n, .int .i64 r.v, .bool true] 70) = w3 at hT ⊢
    have hz3 := hT.size
    have hl3 : g < w3.heap.size := by omega
    have hP := HH.out.put_drew hT.below j hj (some ⟨k, v⟩)
    have ht := (turn_put5 w3 g (o + j * 5) (some ⟨k, v⟩)).drew hl3
    have hq0 := (ht.far (b := w.heap.size + 1 + 1) (by omega) (by omega) 0).1.trans (hT.q 0 _ rfl)
    have hq1 := (ht.far (b := w.heap.size + 1 + 1) (by omega) (by omega) 1).1.trans (hT.q 1 _ rfl)
    have hq2 := (ht.far (b := w.heap.size + 1 + 1) (by omega) (by omega) 2).1.trans (hT.q 2 _ rfl)
    have hq3 := (ht.far (b := w.heap.size + 1 + 1) (by omega) (by omega) 3).1.trans (hT.q 3 _ rfl)
    have ho0 := (ht.far (b := w.heap.size + 1) (by omega) (by omega) 0).1.trans hT.o0
    have ho1 := (ht.far (b := w.heap.size + 1) (by omega) (by omega) 1).1.trans hT.o1
    have ho2 := (ht.far (b := w.heap.size + 1) (by omega) (by omega) 2).1.trans hT.o2
    have hp0 := (ht.far (b := w.heap.size + 1) (by omega) (by omega) 0).2.trans hT.p0
    have hp1 := (ht.far (b := w.heap.size + 1) (by omega) (by omega) 1).2.trans hT.p1
    have hp2 := (ht.far (b := w.heap.size + 1) (by omega) (by omega) 2).2.trans hT.p2
    have hz5 := ht.grown.size
    have H3 := HH.out.below hT.below
    obtain ⟨c0, c1, c2, c3, c4⟩ := H3.at j hj
    have b0 := hT.b0
    have b1 := hT.b1
    have b2 := hT.b2
    have f0 := H3.free (j * 5) (by omega)
    have f1 := H3.free (j * 5 + 1) (by omega)
    have f2 := H3.free (j * 5 + 2) (by omega)
    have f3 := H3.free (j * 5 + 3) (by omega)
    have f4 := H3.free (j * 5 + 4) (by omega)
    simp only [← Nat.add_assoc] at f1 f2 f3 f4
    have HP := Lib.hid (And.intro hP (And.intro hq0 (And.intro hq1 (And.intro hq2 (And.intro hq3 (And.intro ho0 (And.intro ho1 (And.intro ho2 (And.intro hp0 (And.intro hp1 (And.intro hp2 hz5)))))))))))
    clear hP hq0 hq1 hq2 hq3 ho0 ho1 ho2 hp0 hp1 hp2 hz5 ht hT H3 r0 r1 r2 r3 r4
    go_region
    go_wp2_with fail
    show Code.wp _ _ _ _ (put5 w3 g (o + j * 5) (some ⟨k, v⟩)).drew
    obtain ⟨hP, hq0, hq1, hq2, hq3, ho0, ho1, ho2, hp0, hp1, hp2, hz5⟩ := HP.out
    clear HP c0 c1 c2 c3 c4 b0 b1 b2 f0 f1 f2 f3 f4
    generalize (put5 w3 g (o + j * 5) (some ⟨k, v⟩)).drew = w5 at *
    go_region
    show Exit.then _ _ _ _ (give3 w5 (w.heap.size + 1) r.k).drew
    obtain ⟨e0, e1, e2⟩ := give3_cells (k := r.k) (by omega) ho0 ho1 ho2
    have hT7 := give3_turn hP.2 hg r.k (b := w.heap.size + 1) (by omega)
    have hR7 := give3_bkt hP.1 r.k (b := w.heap.size + 1) (by omega)
    have HP := Lib.hid (And.intro hR7 hT7)
    clear hP hq0 hq1 hq2 hq3 ho0 ho1 ho2 hp0 hp1 hp2 hR7 hT7
    generalize (give3 w5 (w.heap.size + 1) r.k).drew = w7 at *
    go_wp2
    refine bodyPost_ret (by simp [results, Try.results59, go_sem, e0, e1, e2]; try rfl) rfl ?_
    exact ⟨rfl, HP.out.1, HP.out.2⟩
  · rw [hs, outV_none]
    obtain ⟨r0, r1, r2, r3, hon⟩ := H.at j hj
    rw [hr] at hon
    simp only [Option.isSome_none] at hon
    have hj4 : j < 4 := by omega
    clear hs hr H r0 r1 r2 r3
    unfold kyV at *
    go_enter Try.func59, Try.ntmps59
    go_wp2
    refine bodyPost_ret (by simp [results, Try.results59, go_sem]; try rfl) rfl ?_
    exact ⟨rfl, HH.out.below (by go_grown), Turn.of_below hg (by go_grown)⟩
  · rw [hs, outV_none]
    by_cases h0 : i < 0
    · clear hs hn H
      unfold kyV at *
      go_enter Try.func59, Try.ntmps59
      go_wp2
      refine bodyPost_ret (by simp [results, Try.results59, go_sem]; try rfl) rfl ?_
      exact ⟨rfl, HH.out.below (by go_grown), Turn.of_below hg (by go_grown)⟩
    · have h3 : 4 ≤ i := by omega
      clear hs hn H
      unfold kyV at *
      go_enter Try.func59, Try.ntmps59
      go_wp2
      refine bodyPost_ret (by simp [results, Try.results59, go_sem]; try rfl) rfl ?_
      exact ⟨rfl, HH.out.below (by go_grown), Turn.of_below hg (by go_grown)⟩
end Go.Proofs.Ytlglppfkpieabaa
/-
  What addr.Right, Has, Common and Less hand back, for every prefix and address. No condition but that the words are words of 64 bits.
-/
set_option linter.unusedSimpArgs false
set_option linter.unusedVariables false
namespace Go.Proofs.Ytlglppfkpieabaa
open Go.RowKit Go.Sort M

/-- Two addresses are held against each other word by word. -/
theorem eql_addr (a b c d : Nat) (w : World) : (binOp .eql 25 (.agg #[.int .u64 a, .int .u64 b]) (.agg #[.int .u64 c, .int .u64 d])).run Try.prog w = .ok (.bool (decide (a = c) && decide (b = d))) w := by
  have e1 : decide (a = c) = decide ((a : Int) = c) := by rw [decide_eq_decide]; omega
  have e2 : decide (b = d) = decide ((b : Int) = d) := by rw [decide_eq_decide]; omega
  rw [e1, e2]
  by_cases h1 : (a : Int) = c <;> by_cases h2 : (b : Int) = d <;> simp [go_sem, h1, h2]

set_option maxHeartbeats 400000 in
theorem less_any (h1 l1 : Nat) (n1 : Int) (h2 l2 : Nat) (n2 : Int) :
    Gives Try.prog 48 #[.agg #[.int .u64 h1, .int .u64 l1, .int .i64 n1], .agg #[.int .u64 h2, .int .u64 l2, .int .i64 n2]] (.bool (lessB h1 l1 n1 h2 l2 n2)) := by
  intro w
  by_cases e1 : h1 = h2
  · by_cases e2 : l1 = l2
    · subst e1 e2
      go_enter Try.func48, Try.ntmps48
      go_wp2
      go_ret
      refine ⟨ret_bool ?_, by go_grown⟩
      simp [lessB]
    · subst e1
      go_enter Try.func48, Try.ntmps48
      go_wp2
      go_ret
      refine ⟨ret_bool ?_, by go_grown⟩
      simp [lessB, e2]
  · go_enter Try.func48, Try.ntmps48
    go_wp2
    go_ret
    refine ⟨ret_bool ?_, by go_grown⟩
    simp [lessB, e1]

end Go.Proofs.Ytlglppfkpieabaa
