/-
  New buckets in memory, as 'make' lays them; a new table; what New hands back. No condition but those that stand in each.
-/
import Derived.Test.YtlglppfkpieabaaShelf
import Derived.Test.YtlglppfkpieabaaW6
import Derived.Test.YtlglppfkpieabaaCT2
/-
  What package pick hands back: the place of a number, the two buckets of a prefix. No condition but that the words are words of 64 bits, and that the count of places is a whole number of 64 bits.
-/
set_option linter.unusedSimpArgs false
set_option linter.unusedVariables false
namespace Go.Proofs.Ytlglppfkpieabaa
open Go.RowKit Go.Sort M

theorem mul64_any (x y : Nat) (hx : W64 x) (hy : W64 y) : Gives Try.prog 95 #[.int .u64 x, .int .u64 y] (.tuple #[.int .u64 (redN x y : Nat), .int .u64 (x * y % 18446744073709551616 : Nat)]) :=
  Gives.still fun w => (Try.bits_Mul64 x y hx.lt hy.lt w).mono fun e w' ⟨he, hw⟩ => ⟨he, hw.symm⟩

set_option maxHeartbeats 1000000 in
theorem red_any (x : Nat) (m : Int) (hx : W64 x) (hm : m ≤ 9223372036854775807) :
    Gives Try.prog 74 #[.int .u64 x, .int .i64 m] (.int .i64 (redI x m)) := by
  intro w
  by_cases h : m < 1
  · rw [redI_none h]
    go_enter Try.func74, Try.ntmps74
    go_wp2
    go_ret
    exact ⟨rfl, by go_grown⟩
  · obtain ⟨k, rfl⟩ := Int.eq_ofNat_of_zero_le (show 0 ≤ m by omega)
    rw [redI_nat x k (by omega)]
    have hlt := redN_lt x k hx (by omega)
    have HM := Lib.hid (mul64_any x k hx (W64.mk (by omega)))
    have HL := Lib.hid (IntWalk.wrap64_in (redN x k : Nat) (by omega))
    clear hlt
    go_enter Try.func74, Try.ntmps74
    go_wp2_with fail
    refine (HM.out _).mono ?_
    rintro e0 w0 ⟨rfl, hb0⟩
    have hw0 : Below w.heap.size w w0 := by
      refine Below.trans ?_ (hb0.mono ?_)
      · go_grown
      · go_size
    go_wp2
    go_ret
    exact ⟨ret_num HL.out, hw0⟩
theorem mixx_any (h i : Nat) (hh : W64 h) (hi : W64 i) : Gives Try.prog 65 #[.int .u64 (bits BinOp.xor IntKind.u64 (h : Int) (i : Int))] (.int .u64 (mixN (h ^^^ i) : Nat)) := by
  have := mix_any (bits BinOp.xor IntKind.u64 (h : Int) (i : Int))
  rw [xor_word h i hh hi, mixZ_nat _ (Nat.xor_lt_two_pow hh hi)] at this
  rwa [xor_word h i hh hi]
set_option maxHeartbeats 1000000 in
theorem buck_any (s h l : Nat) (n m : Int) (hs : W64 s) (hh : W64 h) (hl : W64 l) (hm : m ≤ 9223372036854775807) :
    Gives Try.prog 52 #[.int .u64 s, .agg #[.int .u64 h, .int .u64 l, .int .i64 n], .int .i64 m] (.tuple #[.int .i64 (buckI (hashN s h l (wordZ n)) 1 m), .int .i64 (buckI (hashN s h l (wordZ n)) 2 m)]) := by
  intro w
  have HH := Lib.hid (hash_any s h l n hs hh hl)
  have hw : W64 (hashN s h l (wordZ n)) := mixN_w _
  generalize hashN s h l (wordZ n) = v at HH hw ⊢
  have HM1 := Lib.hid (mixx_any v 1 hw (W64.mk (by omega)))
  have HM2 := Lib.hid (mixx_any v 2 hw (W64.mk (by omega)))
  have HR1 := Lib.hid (red_any (mixN (v ^^^ 1)) m (mixN_w _) hm)
  have HR2 := Lib.hid (red_any (mixN (v ^^^ 2)) m (mixN_w _) hm)
  go_enter Try.func52, Try.ntmps52
  go_wp2_with fail
  refine (HH.out _).mono ?_
  rintro e0 w0 ⟨rfl, hb0⟩
  have hw0 : Below w.heap.size w w0 := by
    refine Below.trans ?_ (hb0.mono ?_)
    · go_grown
    · go_size
  go_wp2_with fail
  refine (HM1.out _).mono ?_
  rintro e w1 ⟨rfl, hb1⟩
  have hw1 := hw0.trans (hb1.mono hw0.size)
  go_wp2_with fail
  refine (HR1.out _).mono ?_
  rintro e w2 ⟨rfl, hb2⟩
  have hw2 := hw1.trans (hb2.mono hw1.size)
  go_wp2_with fail
  refine (HM2.out _).mono ?_
  rintro e w3 ⟨rfl, hb3⟩
  have hw3 := hw2.trans (hb3.mono hw2.size)
  go_wp2_with fail
  refine (HR2.out _).mono ?_
  rintro e w4 ⟨rfl, hb4⟩
  have hw4 := hw3.trans (hb4.mono hw3.size)
  go_wp2
  go_ret2
  exact ⟨rfl, hw4⟩
end Go.Proofs.Ytlglppfkpieabaa
/-
  What the small calls of a table hand back: none, two, other, Len, Size. No condition but that its cells lie in memory, that it has from one to 65536 buckets, and that words are words of 64 bits.
-/
set_option linter.unusedSimpArgs false
set_option linter.unusedVariables false
namespace Go.Proofs.Ytlglppfkpieabaa
open Go.RowKit Go.Sort M

/-- What a walk asks of a table's numbers. -/
structure Num (T : Tab) : Prop where
  lo : 1 ≤ T.B.length
  hi : T.B.length ≤ 65536
  word : W64 T.s
theorem Inv.num {T : Tab} (H : Inv T) : Num T := ⟨H.lo, H.hi, H.word⟩
theorem Num.x1_lt {T : Tab} (H : Num T) (k : Ky) : T.x1 k < T.B.length := b1_lt H.lo
theorem Num.x2_lt {T : Tab} (H : Num T) (k : Ky) : T.x2 k < T.B.length := b2_lt H.lo
theorem Num.set {T : Tab} (H : Num T) (i : Nat) (C : List Pl) : Num (T.set i C) := ⟨by rw [set_len]; exact H.lo, by rw [set_len]; exact H.hi, H.word⟩
set_option maxRecDepth 100000 in
set_option maxHeartbeats 1000000 in
theorem none_any (t g : Nat) (v : Value) (T : Tab) (m : Int) (w : World) (H : CT w t g v T m) (h : Num T) :
    Calls Try.prog 27 #[.pointer (some ⟨t, 0, none⟩)] w fun e w' => e = .returned (.bool false) ∧ Below w.heap.size w w' := by
  have c1 := H.tb.c1
  have hl := H.tb.tlt
  have h1 := h.lo
  generalize T.B.length = n at *
  have hn : ((n : Int) == 0) = false := by simp; omega
  clear H h
  go_enter Try.func27, Try.ntmps27
  go_wp2
  go_ret
  exact ⟨rfl, by go_grown⟩
set_option maxRecDepth 100000 in
set_option maxHeartbeats 1000000 in
theorem two_any (t g : Nat) (v : Value) (T : Tab) (m : Int) (k : Ky) (w : World) (H : CT w t g v T m) (h : Num T) (hk : k.good) :
    Calls Try.prog 28 #[.pointer (some ⟨t, 0, none⟩), kyV k] w fun e w' => e = .returned (.tuple #[.int .i64 (T.x1 k : Int), .int .i64 (T.x2 k : Int)]) ∧ Below w.heap.size w w' := by
  have c0 := H.tb.c0
  have c1 := H.tb.c1
  have hl := H.tb.tlt
  have hB := buck_any T.s k.h k.l k.n (T.B.length : Int) h.word hk.1 hk.2 (by have := h.hi; omega)
  rw [b1_int h.lo, b2_int h.lo] at hB
  change Gives _ _ _ (.tuple #[.int .i64 (T.x1 k : Int), .int .i64 (T.x2 k : Int)]) at hB
  have HB := Lib.hid hB
  generalize T.x1 k = x1 at *
  generalize T.x2 k = x2 at *
  clear H h hB
  unfold kyV
  go_enter Try.func28, Try.ntmps28
  go_wp2_with fail
  have kg := cell_grow
  refine region_whole (by kernel_rfl) (by kernel_rfl) ?_
  repeat (any_goals (first | go_big_quiet_step ((exact HB.out.at _ _ _)) | quiet_step ((exact HB.out.at _ _ _))))
  refine wpQuiet_nil ?_
  clear kg
  intro w1 hb1
  obtain ⟨hc1, hf1⟩ := bcell hb1
  have hw1 : Below w.heap.size w w1 := by
    refine Below.trans ?_ (hb1.mono ?_)
    · go_grown
    · first | omega | go_size
  go_wp2
  go_ret2
  exact ⟨rfl, hw1⟩
set_option maxRecDepth 100000 in
set_option maxHeartbeats 1000000 in
theorem other_any (t g : Nat) (v : Value) (T : Tab) (m : Int) (k : Ky) (b : Nat) (w : World) (H : CT w t g v T m) (h : Num T) (hk : k.good) :
    Calls Try.prog 60 #[.pointer (some ⟨t, 0, none⟩), kyV k, .int .i64 (b : Int)] w fun e w' => e = .returned (.int .i64 (T.other k b : Int)) ∧ Below w.heap.size w w' := by
  have HT := Lib.hid (fun w H => two_any t g v T m k w H h hk)
  have HH := Lib.hid H
  have HE : Hid (T.other k b = if b = T.x1 k then T.x2 k else T.x1 k) := rfl
  generalize T.x1 k = x1 at *
  generalize T.x2 k = x2 at *
  generalize T.other k b = o at *
  clear H h
  unfold kyV at *
  by_cases hb : b = x1
  · subst hb
    have hE := HE.out
    rw [if_pos rfl] at hE
    subst hE
    clear HE
    go_enter Try.func60, Try.ntmps60
    go_wp2_with fail
    refine (HT.out _ (HH.out.below (by go_grown))).mono ?_
    rintro e w1 ⟨rfl, hb1⟩
    have hw1 : Below w.heap.size w w1 := Below.trans (by go_grown) (hb1.mono (by go_size))
    clear hb1
    go_wp2
    go_ret
    exact ⟨rfl, hw1⟩
  · have hE := HE.out
    rw [if_neg hb] at hE
    subst hE
    have hbi : ((b : Int) == (o : Int)) = false := by simp; omega
    clear HE hb
    go_enter Try.func60, Try.ntmps60
    go_wp2_with fail
    refine (HT.out _ (HH.out.below (by go_grown))).mono ?_
    rintro e w1 ⟨rfl, hb1⟩
    have hw1 : Below w.heap.size w w1 := Below.trans (by go_grown) (hb1.mono (by go_size))
    clear hb1
    go_wp2
    go_ret
    exact ⟨rfl, hw1⟩
set_option maxRecDepth 100000 in
set_option maxHeartbeats 1000000 in
theorem len12_any (t g : Nat) (v : Value) (T : Tab) (m : Int) (w : World) (H : CT w t g v T m) :
    Calls Try.prog 20 #[.pointer (some ⟨t, 0, none⟩)] w fun e w' => e = .returned (.int .i64 m) ∧ Below w.heap.size w w' := by
  have c3 := H.c3
  have hl := H.tb.tlt
  clear H
  go_enter Try.func20, Try.ntmps20
  go_wp2
  go_ret
  exact ⟨rfl, by go_grown⟩
set_option maxRecDepth 100000 in
set_option maxHeartbeats 1000000 in
theorem size12_any (t g : Nat) (v : Value) (T : Tab) (m : Int) (w : World) (H : CT w t g v T m) :
    Calls Try.prog 15 #[.pointer (some ⟨t, 0, none⟩)] w fun e w' => e = .returned (.tuple #[.int .u64 (T.s : Int), .int .i64 (T.B.length : Int), .int .i64 (T.st.length : Int)]) ∧ Below w.heap.size w w' := by
  have c0 := H.tb.c0
  have c1 := H.tb.c1
  obtain ⟨p, c, rfl⟩ := own_slice H.tb.own
  have c2 := H.tb.c2
  have hl := H.tb.tlt
  clear H
  go_enter Try.func15, Try.ntmps15
  go_wp2_with fail
  have kg := cell_grow
  refine region_whole (by kernel_rfl) (by kernel_rfl) ?_
  repeat (any_goals (first | go_big_quiet_step (fail) | quiet_step (fail)))
  refine wpQuiet_nil ?_
  clear kg
  intro w1 hb1
  obtain ⟨hc1, hf1⟩ := bcell hb1
  have hw1 : Below w.heap.size w w1 := by
    refine Below.trans ?_ (hb1.mono ?_)
    · go_grown
    · first | omega | go_size
  go_wp2
  go_ret3
  exact ⟨rfl, hw1⟩
end Go.Proofs.Ytlglppfkpieabaa
/-
  New buckets in memory, as 'make' lays them; a new table; what New hands back. No condition but those that stand in each.
-/
set_option linter.unusedSimpArgs false
set_option linter.unusedVariables false
namespace Go.Proofs.Ytlglppfkpieabaa
open Go.RowKit Go.Sort M

def zB : Value := .agg #[.int .u64 0, .int .u64 0, .int .i64 0, .int .i64 0, .bool false, .int .u64 0, .int .u64 0, .int .i64 0, .int .i64 0, .bool false, .int .u64 0, .int .u64 0, .int .i64 0, .int .i64 0, .bool false, .int .u64 0, .int .u64 0, .int .i64 0, .int .i64 0, .bool false]
def zR : Value := .agg #[.int .u64 0, .int .u64 0, .int .i64 0, .int .i64 0, .int .u64 0, .int .u64 0, .int .i64 0, .int .i64 0, .int .u64 0, .int .u64 0, .int .i64 0, .int .i64 0, .int .u64 0, .int .u64 0, .int .i64 0, .int .i64 0, .bool false, .bool false, .bool false, .bool false]
theorem infoB : (Try.prog.info? 73).map (fun i => (i.zero, i.size, i.bytes)) = some (some zB, 20, 160) := by kernel_rfl
theorem infoRB : (Try.prog.info? 78).map (fun i => (i.zero, i.size, i.bytes)) = some (some zR, 20, 136) := by kernel_rfl
theorem made_cell {w : World} {g n i x : Nat} {z : Array Value} {t : TypeId} (hz : z.size = 20) (hg : w.heap[g]? = some (.cells (madeCells z (n * 20)) t (0, 0))) (hi : i < n) (hx : x < 20) : w.cell? ⟨g, i * 20 + x, none⟩ = some z[x]! := by
  rw [cell_of_row w g _ _ t (0, 0) hg]
  unfold madeCells
  rw [Array.getElem?_map, Array.getElem?_range, if_pos (by omega)]
  simp only [Option.map_some, hz]
  rw [show (i * 20 + x) % 20 = x by omega]
theorem made_free {w : World} {g n : Nat} {z : Array Value} {t : TypeId} (hg : w.heap[g]? = some (.cells (madeCells z (n * 20)) t (0, 0))) (j : Nat) : w.frozen? ⟨g, j, none⟩ = false := frozen_of_row w g j _ t hg
theorem made_bkt {w : World} {g n i : Nat} {t : TypeId} (hg : w.heap[g]? = some (.cells (madeCells zB.cells (n * 20)) t (0, 0))) (hi : i < n) : Bkt w g (i * 20) [none, none, none, none] := by
  refine ⟨rfl, (Array.getElem?_eq_some_iff.1 hg).1, fun k hk j u hu => ?_, fun j _ => made_free hg _⟩
  have hj : j < 5 := (List.getElem?_eq_some_iff.1 hu).1
  simp only [List.length_cons, List.length_nil] at hk
  rw [Nat.add_assoc, made_cell (by rfl) hg hi (by omega)]
  rcases (show k = 0 ∨ k = 1 ∨ k = 2 ∨ k = 3 by omega) with rfl | rfl | rfl | rfl <;> rcases (show j = 0 ∨ j = 1 ∨ j = 2 ∨ j = 3 ∨ j = 4 by omega) with rfl | rfl | rfl | rfl | rfl <;> (simp only [x5, List.getElem_cons_zero, List.getElem_cons_succ, List.getElem?_cons_zero, List.getElem?_cons_succ, Option.some.injEq] at hu; subst hu; rfl)
theorem made_rbk {w : World} {g n i : Nat} {t : TypeId} (hg : w.heap[g]? = some (.cells (madeCells zR.cells (n * 20)) t (0, 0))) (hi : i < n) : RBk w g (i * 20) [none, none, none, none] := by
  refine ⟨rfl, (Array.getElem?_eq_some_iff.1 hg).1, fun k hk => ?_, fun k hk => ?_, fun j _ => made_free hg _⟩
  · simp only [List.length_cons, List.length_nil] at hk
    simp only [Nat.add_assoc]
    rw [made_cell (by rfl) hg hi (by omega), made_cell (by rfl) hg hi (by omega), made_cell (by rfl) hg hi (by omega), made_cell (by rfl) hg hi (by omega)]
    rcases (show k = 0 ∨ k = 1 ∨ k = 2 ∨ k = 3 by omega) with rfl | rfl | rfl | rfl <;> exact ⟨rfl, rfl, rfl, rfl⟩
  · simp only [List.length_cons, List.length_nil] at hk
    rw [Nat.add_assoc, made_cell (by rfl) hg hi (by omega)]
    rcases (show k = 0 ∨ k = 1 ∨ k = 2 ∨ k = 3 by omega) with rfl | rfl | rfl | rfl <;> rfl
theorem empty_len (s n : Nat) : (emptyT s n).B.length = n := by simp [emptyT]
theorem Tb.fresh {K : World → Nat → Nat → List Pl → Prop} {w : World} {t g s n : Nat} (hK : ∀ i, i < n → K w g (i * 20) [none, none, none, none]) (hg : g < w.heap.size) (ht : t < w.heap.size) (c0 : w.cell? ⟨t, 0, none⟩ = some (.int .u64 (s : Int))) (c1 : w.cell? ⟨t, 1, none⟩ = some (.slice (some ⟨g, 0, none⟩) n n))
    (c2 : w.cell? ⟨t, 2, none⟩ = some (.slice none 0 0)) (f : ∀ j, w.frozen? ⟨t, j, none⟩ = false) (tg : t ≠ g) : Tb K w t g (.slice none 0 0) (emptyT s n) :=
  ⟨fun i hi => by rw [empty_len] at hi; rw [empty_bk s n i hi]; exact hK i hi, hg, ht, c0, by rw [empty_len]; exact c1, c2, f, World.ownsRow_nil _ _ _ _, tg, by simp [Value.ownBlock], by simp [Value.ownBlock]⟩
set_option maxRecDepth 100000 in
set_option maxHeartbeats 1000000 in
theorem new_bad (s : Nat) (n : Int) (w : World) (h : n < 1 ∨ 65536 < n) :
    Calls Try.prog 8 #[.int .u64 (s : Int), .int .i64 n] w fun e w' => e = .returned (.tuple #[.pointer none, .int .i64 1]) ∧ Below w.heap.size w w' := by
  rcases h with h | h
  · go_enter Try.func8, Try.ntmps8
    go_wp2
    go_ret2
    exact ⟨rfl, by go_grown⟩
  · have h2 : ¬ n < 1 := by omega
    go_enter Try.func8, Try.ntmps8
    go_wp2
    go_ret2
    exact ⟨rfl, by go_grown⟩
set_option maxRecDepth 100000 in
set_option maxHeartbeats 1000000 in
theorem new_any (s n : Nat) (w : World) (h1 : 1 ≤ n) (h2 : n ≤ 65536) :
    Calls Try.prog 8 #[.int .u64 (s : Int), .int .i64 (n : Int)] w fun e w' => ∃ t, e = .returned (.tuple #[.pointer (some ⟨t, 0, none⟩), .int .i64 0]) ∧ ∃ g, CT w' t g (.slice none 0 0) (emptyT s n) 0 ∧ Below w.heap.size w w' ∧ w.heap.size ≤ t ∧ w.heap.size ≤ g := by
  have PLA := fun w => make_row Try.underlying61 infoB n (by omega) (by unfold maxLen; omega) w
  have h3 : ¬ ((n : Int) < 1) := by omega
  have h4 : ¬ ((65536 : Int) < n) := by omega
  generalize hM : madeCells zB.cells (n * 20) = M at PLA
  go_enter Try.func8, Try.ntmps8
  go_wp2
  go_ret2
  refine ⟨w.heap.size + 1, rfl, w.heap.size, ⟨Tb.fresh (fun i hi => made_bkt (t := 73) (n := n) ?_ hi) (by simp; omega) (by simp) (by simp [go_sem]) (by simp [go_sem]) (by simp [go_sem]) (fun j => by simp [go_sem]) (by omega), by simp [go_sem]⟩, by go_grown, by omega, Nat.le_refl _⟩
  rw [hM]
  rw [heap_alloc_old _ _ (by simp)]
  exact heap_alloc_new w _
end Go.Proofs.Ytlglppfkpieabaa
