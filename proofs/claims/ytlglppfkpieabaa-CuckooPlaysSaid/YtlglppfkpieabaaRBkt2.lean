/-
  Put and Take of the reference's bucket: what they hand back, and what it is then. No condition but that its cells lie in memory.
-/
import Derived.Test.YtlglppfkpieabaaCT2
import Derived.Test.YtlglppfkpieabaaW6b
import Derived.Test.YtlglppfkpieabaaW5
/-
  What the small calls of a table hand back: none, two, other, Len, Size. No condition but that its cells lie in memory, that it has from one to 65536 buckets, and that words are words of 64 bits.
-/
set_option linter.unusedSimpArgs false
set_option linter.unusedVariables false
namespace Go.Proofs.Ytlglppfkpieabaa
open Go.RowKit Go.Sort M

/-- What a walk asks of a table's numbers. -/
structure Num (T : Tab) : Prop where
  lo : 1 ≤ T.B.length
  hi : T.B.length ≤ 65536
  word : W64 T.s
theorem Inv.num {T : Tab} (H : Inv T) : Num T := ⟨H.lo, H.hi, H.word⟩
theorem Num.x1_lt {T : Tab} (H : Num T) (k : Ky) : T.x1 k < T.B.length := b1_lt H.lo
theorem Num.x2_lt {T : Tab} (H : Num T) (k : Ky) : T.x2 k < T.B.length := b2_lt H.lo
theorem Num.set {T : Tab} (H : Num T) (i : Nat) (C : List Pl) : Num (T.set i C) := ⟨by rw [set_len]; exact H.lo, by rw [set_len]; exact H.hi, H.word⟩
set_option maxRecDepth 100000 in
set_option maxHeartbeats 1000000 in
theorem none_any (t g : Nat) (v : Value) (T : Tab) (m : Int) (w : World) (H : CT w t g v T m) (h : Num T) :
    Calls Try.prog 27 #[.pointer (some ⟨t, 0, none⟩)] w fun e w' => e = .returned (.bool false) ∧ Below w.heap.size w w' := by
  have c1 := H.tb.c1
  have hl := H.tb.tlt
  have h1 := h.lo
  generalize T.B.length = n at *
  have hn : ((n : Int) == 0) = false := by simp; omega
  clear H h
  go_enter Try.func27, Try.ntmps27
  go_wp2
  go_ret
  exact ⟨rfl, by go_grown⟩
set_option maxRecDepth 100000 in
set_option maxHeartbeats 1000000 in
theorem two_any (t g : Nat) (v : Value) (T : Tab) (m : Int) (k : Ky) (w : World) (H : CT w t g v T m) (h : Num T) (hk : k.good) :
    Calls Try.prog 28 #[.pointer (some ⟨t, 0, none⟩), kyV k] w fun e w' => e = .returned (.tuple #[.int .i64 (T.x1 k : Int), .int .i64 (T.x2 k : Int)]) ∧ Below w.heap.size w w' := by
  have c0 := H.tb.c0
  have c1 := H.tb.c1
  have hl := H.tb.tlt
  have hB := buck_any T.s k.h k.l k.n (T.B.length : Int) h.word hk.1 hk.2 (by have := h.hi; omega)
  rw [b1_int h.lo, b2_int h.lo] at hB
  change Gives _ _ _ (.tuple #[.int .i64 (T.x1 k : Int), .int .i64 (T.x2 k : Int)]) at hB
  have HB := Lib.hid hB
  generalize T.x1 k = x1 at *
  generalize T.x2 k = x2 at *
  clear H h hB
  unfold kyV
  go_enter Try.func28, Try.ntmps28
  go_wp2_with fail
  have kg := cell_grow
  refine region_whole (by kernel_rfl) (by kernel_rfl) ?_
  repeat (any_goals (first | go_big_quiet_step ((exact HB.out.at _ _ _)) | quiet_step ((exact HB.out.at _ _ _))))
  refine wpQuiet_nil ?_
  clear kg
  intro w1 hb1
  obtain ⟨hc1, hf1⟩ := bcell hb1
  have hw1 : Below w.heap.size w w1 := by
    refine Below.trans ?_ (hb1.mono ?_)
    · go_grown
    · first | omega | go_size
  go_wp2
  go_ret2
  exact ⟨rfl, hw1⟩
set_option maxRecDepth 100000 in
set_option maxHeartbeats 1000000 in
theorem other_any (t g : Nat) (v : Value) (T : Tab) (m : Int) (k : Ky) (b : Nat) (w : World) (H : CT w t g v T m) (h : Num T) (hk : k.good) :
    Calls Try.prog 60 #[.pointer (some ⟨t, 0, none⟩), kyV k, .int .i64 (b : Int)] w fun e w' => e = .returned (.int .i64 (T.other k b : Int)) ∧ Below w.heap.size w w' := by
  have HT := Lib.hid (fun w H => two_any t g v T m k w H h hk)
  have HH := Lib.hid H
  have HE : Hid (T.other k b = if b = T.x1 k then T.x2 k else T.x1 k) := rfl
  generalize T.x1 k = x1 at *
  generalize T.x2 k = x2 at *
  generalize T.other k b = o at *
  clear H h
  unfold kyV at *
  by_cases hb : b = x1
  · subst hb
    have hE := HE.out
    rw [if_pos rfl] at hE
    subst hE
    clear HE
    go_enter Try.func60, Try.ntmps60
    go_wp2_with fail
    refine (HT.out _ (HH.out.below (by go_grown))).mono ?_
    rintro e w1 ⟨rfl, hb1⟩
    have hw1 : Below w.heap.size w w1 := Below.trans (by go_grown) (hb1.mono (by go_size))
    clear hb1
    go_wp2
    go_ret
    exact ⟨rfl, hw1⟩
  · have hE := HE.out
    rw [if_neg hb] at hE
    subst hE
    have hbi : ((b : Int) == (o : Int)) = false := by simp; omega
    clear HE hb
    go_enter Try.func60, Try.ntmps60
    go_wp2_with fail
    refine (HT.out _ (HH.out.below (by go_grown))).mono ?_
    rintro e w1 ⟨rfl, hb1⟩
    have hw1 : Below w.heap.size w w1 := Below.trans (by go_grown) (hb1.mono (by go_size))
    clear hb1
    go_wp2
    go_ret
    exact ⟨rfl, hw1⟩
set_option maxRecDepth 100000 in
set_option maxHeartbeats 1000000 in
theorem len12_any (t g : Nat) (v : Value) (T : Tab) (m : Int) (w : World) (H : CT w t g v T m) :
    Calls Try.prog 20 #[.pointer (some ⟨t, 0, none⟩)] w fun e w' => e = .returned (.int .i64 m) ∧ Below w.heap.size w w' := by
  have c3 := H.c3
  have hl := H.tb.tlt
  clear H
  go_enter Try.func20, Try.ntmps20
  go_wp2
  go_ret
  exact ⟨rfl, by go_grown⟩
set_option maxRecDepth 100000 in
set_option maxHeartbeats 1000000 in
theorem size12_any (t g : Nat) (v : Value) (T : Tab) (m : Int) (w : World) (H : CT w t g v T m) :
    Calls Try.prog 15 #[.pointer (some ⟨t, 0, none⟩)] w fun e w' => e = .returned (.tuple #[.int .u64 (T.s : Int), .int .i64 (T.B.length : Int), .int .i64 (T.st.length : Int)]) ∧ Below w.heap.size w w' := by
  have c0 := H.tb.c0
  have c1 := H.tb.c1
  obtain ⟨p, c, rfl⟩ := own_slice H.tb.own
  have c2 := H.tb.c2
  have hl := H.tb.tlt
  clear H
  go_enter Try.func15, Try.ntmps15
  go_wp2_with fail
  have kg := cell_grow
  refine region_whole (by kernel_rfl) (by kernel_rfl) ?_
  repeat (any_goals (first | go_big_quiet_step (fail) | quiet_step (fail)))
  refine wpQuiet_nil ?_
  clear kg
  intro w1 hb1
  obtain ⟨hc1, hf1⟩ := bcell hb1
  have hw1 : Below w.heap.size w w1 := by
    refine Below.trans ?_ (hb1.mono ?_)
    · go_grown
    · first | omega | go_size
  go_wp2
  go_ret3
  exact ⟨rfl, hw1⟩
end Go.Proofs.Ytlglppfkpieabaa
/-
  New buckets in memory, as 'make' lays them; a new table; what New hands back. No condition but those that stand in each.
-/
set_option linter.unusedSimpArgs false
set_option linter.unusedVariables false
namespace Go.Proofs.Ytlglppfkpieabaa
open Go.RowKit Go.Sort M

def zB : Value := .agg #[.int .u64 0, .int .u64 0, .int .i64 0, .int .i64 0, .bool false, .int .u64 0, .int .u64 0, .int .i64 0, .int .i64 0, .bool false, .int .u64 0, .int .u64 0, .int .i64 0, .int .i64 0, .bool false, .int .u64 0, .int .u64 0, .int .i64 0, .int .i64 0, .bool false]
def zR : Value := .agg #[.int .u64 0, .int .u64 0, .int .i64 0, .int .i64 0, .int .u64 0, .int .u64 0, .int .i64 0, .int .i64 0, .int .u64 0, .int .u64 0, .int .i64 0, .int .i64 0, .int .u64 0, .int .u64 0, .int .i64 0, .int .i64 0, .bool false, .bool false, .bool false, .bool false]
theorem infoB : (Try.prog.info? 73).map (fun i => (i.zero, i.size, i.bytes)) = some (some zB, 20, 160) := by kernel_rfl
theorem infoRB : (Try.prog.info? 78).map (fun i => (i.zero, i.size, i.bytes)) = some (some zR, 20, 136) := by kernel_rfl
theorem made_cell {w : World} {g n i x : Nat} {z : Array Value} {t : TypeId} (hz : z.size = 20) (hg : w.heap[g]? = some (.cells (madeCells z (n * 20)) t (0, 0))) (hi : i < n) (hx : x < 20) : w.cell? ⟨g, i * 20 + x, none⟩ = some z[x]! := by
  rw [cell_of_row w g _ _ t (0, 0) hg]
  unfold madeCells
  rw [Array.getElem?_map, Array.getElem?_range, if_pos (by omega)]
  simp only [Option.map_some, hz]
  rw [show (i * 20 + x) % 20 = x by omega]
theorem made_free {w : World} {g n : Nat} {z : Array Value} {t : TypeId} (hg : w.heap[g]? = some (.cells (madeCells z (n * 20)) t (0, 0))) (j : Nat) : w.frozen? ⟨g, j, none⟩ = false := frozen_of_row w g j _ t hg
theorem made_bkt {w : World} {g n i : Nat} {t : TypeId} (hg : w.heap[g]? = some (.cells (madeCells zB.cells (n * 20)) t (0, 0))) (hi : i < n) : Bkt w g (i * 20) [none, none, none, none] := by
  refine ⟨rfl, (Array.getElem?_eq_some_iff.1 hg).1, fun k hk j u hu => ?_, fun j _ => made_free hg _⟩
  have hj : j < 5 := (List.getElem?_eq_some_iff.1 hu).1
  simp only [List.length_cons, List.length_nil] at hk
  rw [Nat.add_assoc, made_cell (by rfl) hg hi (by omega)]
  rcases (show k = 0 ∨ k = 1 ∨ k = 2 ∨ k = 3 by omega) with rfl | rfl | rfl | rfl <;> rcases (show j = 0 ∨ j = 1 ∨ j = 2 ∨ j = 3 ∨ j = 4 by omega) with rfl | rfl | rfl | rfl | rfl <;> (simp only [x5, List.getElem_cons_zero, List.getElem_cons_succ, List.getElem?_cons_zero, List.getElem?_cons_succ, Option.some.injEq] at hu; subst hu; rfl)
theorem made_rbk {w : World} {g n i : Nat} {t : TypeId} (hg : w.heap[g]? = some (.cells (madeCells zR.cells (n * 20)) t (0, 0))) (hi : i < n) : RBk w g (i * 20) [none, none, none, none] := by
  refine ⟨rfl, (Array.getElem?_eq_some_iff.1 hg).1, fun k hk => ?_, fun k hk => ?_, fun j _ => made_free hg _⟩
  · simp only [List.length_cons, List.length_nil] at hk
    simp only [Nat.add_assoc]
    rw [made_cell (by rfl) hg hi (by omega), made_cell (by rfl) hg hi (by omega), made_cell (by rfl) hg hi (by omega), made_cell (by rfl) hg hi (by omega)]
    rcases (show k = 0 ∨ k = 1 ∨ k = 2 ∨ k = 3 by omega) with rfl | rfl | rfl | rfl <;> exact ⟨rfl, rfl, rfl, rfl⟩
  · simp only [List.length_cons, List.length_nil] at hk
    rw [Nat.add_assoc, made_cell (by rfl) hg hi (by omega)]
    rcases (show k = 0 ∨ k = 1 ∨ k = 2 ∨ k = 3 by omega) with rfl | rfl | rfl | rfl <;> rfl
theorem empty_len (s n : Nat) : (emptyT s n).B.length = n := by simp [emptyT]
theorem Tb.fresh {K : World → Nat → Nat → List Pl → Prop} {w : World} {t g s n : Nat} (hK : ∀ i, i < n → K w g (i * 20) [none, none, none, none]) (hg : g < w.heap.size) (ht : t < w.heap.size) (c0 : w.cell? ⟨t, 0, none⟩ = some (.int .u64 (s : Int))) (c1 : w.cell? ⟨t, 1, none⟩ = some (.slice (some ⟨g, 0, none⟩) n n))
    (c2 : w.cell? ⟨t, 2, none⟩ = some (.slice none 0 0)) (f : ∀ j, w.frozen? ⟨t, j, none⟩ = false) (tg : t ≠ g) : Tb K w t g (.slice none 0 0) (emptyT s n) :=
  ⟨fun i hi => by rw [empty_len] at hi; rw [empty_bk s n i hi]; exact hK i hi, hg, ht, c0, by rw [empty_len]; exact c1, c2, f, World.ownsRow_nil _ _ _ _, tg, by simp [Value.ownBlock], by simp [Value.ownBlock]⟩
set_option maxRecDepth 100000 in
set_option maxHeartbeats 1000000 in
theorem new_bad (s : Nat) (n : Int) (w : World) (h : n < 1 ∨ 65536 < n) :
    Calls Try.prog 8 #[.int .u64 (s : Int), .int .i64 n] w fun e w' => e = .returned (.tuple #[.pointer none, .int .i64 1]) ∧ Below w.heap.size w w' := by
  rcases h with h | h
  · go_enter Try.func8, Try.ntmps8
    go_wp2
    go_ret2
    exact ⟨rfl, by go_grown⟩
  · have h2 : ¬ n < 1 := by omega
    go_enter Try.func8, Try.ntmps8
    go_wp2
    go_ret2
    exact ⟨rfl, by go_grown⟩
set_option maxRecDepth 100000 in
set_option maxHeartbeats 1000000 in
theorem new_any (s n : Nat) (w : World) (h1 : 1 ≤ n) (h2 : n ≤ 65536) :
    Calls Try.prog 8 #[.int .u64 (s : Int), .int .i64 (n : Int)] w fun e w' => ∃ t, e = .returned (.tuple #[.pointer (some ⟨t, 0, none⟩), .int .i64 0]) ∧ ∃ g, CT w' t g (.slice none 0 0) (emptyT s n) 0 ∧ Below w.heap.size w w' ∧ w.heap.size ≤ t ∧ w.heap.size ≤ g := by
  have PLA := fun w => make_row Try.underlying61 infoB n (by omega) (by unfold maxLen; omega) w
  have h3 : ¬ ((n : Int) < 1) := by omega
  have h4 : ¬ ((65536 : Int) < n) := by omega
  generalize hM : madeCells zB.cells (n * 20) = M at PLA
  go_enter Try.func8, Try.ntmps8
  go_wp2
  go_ret2
  refine ⟨w.heap.size + 1, rfl, w.heap.size, ⟨Tb.fresh (fun i hi => made_bkt (t := 73) (n := n) ?_ hi) (by simp; omega) (by simp) (by simp [go_sem]) (by simp [go_sem]) (by simp [go_sem]) (fun j => by simp [go_sem]) (by omega), by simp [go_sem]⟩, by go_grown, by omega, Nat.le_refl _⟩
  rw [hM]
  rw [heap_alloc_old _ _ (by simp)]
  exact heap_alloc_new w _
end Go.Proofs.Ytlglppfkpieabaa
/-
  Put and Take of the reference's bucket: what they hand back, and what it is then. No condition but that its cells lie in memory.
-/
set_option linter.unusedSimpArgs false
set_option linter.unusedVariables false
namespace Go.Proofs.Ytlglppfkpieabaa
open Go.RowKit Go.Sort M

/-- The first place of a kind from number j on, or -1. -/
def fromI (p : Pl → Bool) (C : List Pl) (j : Nat) : Int :=
  match (C.drop j).findIdx? p with
  | some i => ((j + i : Nat) : Int)
  | none => -1
theorem fromI_end {p : Pl → Bool} {C : List Pl} {j : Nat} (h : C.length ≤ j) : fromI p C j = -1 := by
  unfold fromI
  rw [List.drop_of_length_le h]
  rfl
theorem fromI_step {p : Pl → Bool} {C : List Pl} {j : Nat} (h : j < C.length) : fromI p C j = if p C[j] = true then (j : Int) else fromI p C (j + 1) := by
  unfold fromI
  rw [List.drop_eq_getElem_cons h, List.findIdx?_cons]
  cases e : p C[j]
  · simp only [Bool.false_eq_true, if_false]
    cases (C.drop (j + 1)).findIdx? p with
    | none => rfl
    | some i => show ((j + (i + 1) : Nat) : Int) = ((j + 1 + i : Nat) : Int); omega
  · simp
theorem fromI_zero (p : Pl → Bool) (C : List Pl) : fromI p C 0 = idxI p C := by
  unfold fromI idxI
  rw [List.drop_zero]
  cases C.findIdx? p with
  | none => rfl
  | some i => show ((0 + i : Nat) : Int) = i; omega
theorem four_drew {w : World} {g p : Nat} {x : Pl} (hl : g < w.heap.size) (h : Four w g p x) : Four w.drew g p x := by
  have hb : Below w.heap.size w w.drew := by go_grown
  obtain ⟨a, b, c, d⟩ := h
  exact ⟨(hb.cell (p := ⟨g, p, none⟩) hl).trans a, (hb.cell (p := ⟨g, p + 1, none⟩) hl).trans b, (hb.cell (p := ⟨g, p + 2, none⟩) hl).trans c, (hb.cell (p := ⟨g, p + 3, none⟩) hl).trans d⟩
theorem on_set {w : World} {g p : Nat} {u v : Value} (h : w.cell? ⟨g, p, none⟩ = some u) : (w.setCell ⟨g, p, none⟩ v).cell? ⟨g, p, none⟩ = some v := World.cell?_setCell_same _ _ _ h
theorem RBk.put_drew {w w1 : World} {g o : Nat} {C : List Pl} (H : RBk w g o C) (hb : Below w.heap.size w w1) {i : Nat} (hi : i < C.length) (x : Pl) :
    RBk (((put4 w1 g (o + i * 4) x).drew).setCell ⟨g, o + 16 + i, none⟩ (.bool x.isSome)) g o (C.set i x) ∧ Turn w (((put4 w1 g (o + i * 4) x).drew).setCell ⟨g, o + 16 + i, none⟩ (.bool x.isSome)) g o 20 := by
  have H1 := H.below hb
  have h4 := H.four
  have t1 := turn_put4 w1 g (o + i * 4) x
  have hl : g < (put4 w1 g (o + i * 4) x).heap.size := Nat.lt_of_lt_of_le H1.lt t1.grown.size
  have t2 := t1.drew H1.lt
  have := H1.turned hi x t2 (four_drew hl (four_put x (H1.rt i hi))) (turn_one _ g (o + 16 + i) 1 (o + 16 + i) _ (Nat.le_refl _) (by omega)) (on_set ((t2.cell _ (by omega)).trans (H1.on i hi)))
  exact ⟨this.1, (Turn.of_below H.lt hb).trans this.2⟩
theorem RBk.put_plain {w w1 : World} {g o : Nat} {C : List Pl} (H : RBk w g o C) (hb : Below w.heap.size w w1) {i : Nat} (hi : i < C.length) (x : Pl) :
    RBk ((put4 w1 g (o + i * 4) x).setCell ⟨g, o + 16 + i, none⟩ (.bool x.isSome)) g o (C.set i x) ∧ Turn w ((put4 w1 g (o + i * 4) x).setCell ⟨g, o + 16 + i, none⟩ (.bool x.isSome)) g o 20 := by
  have H1 := H.below hb
  have h4 := H.four
  have t1 := turn_put4 w1 g (o + i * 4) x
  have := H1.turned hi x t1 (four_put x (H1.rt i hi)) (turn_one _ g (o + 16 + i) 1 (o + 16 + i) _ (Nat.le_refl _) (by omega)) (on_set ((t1.cell _ (by omega)).trans (H1.on i hi)))
  exact ⟨this.1, (Turn.of_below H.lt hb).trans this.2⟩
theorem RBk.put_swap {w w1 : World} {g o : Nat} {C : List Pl} (H : RBk w g o C) (hb : Below w.heap.size w w1) {i : Nat} (hi : i < C.length) (x : Pl) (hx : x.isSome = C[i].isSome) :
    RBk (put4 w1 g (o + i * 4) x).drew g o (C.set i x) ∧ Turn w (put4 w1 g (o + i * 4) x).drew g o 20 := by
  have H1 := H.below hb
  have h4 := H.four
  have t1 := turn_put4 w1 g (o + i * 4) x
  have hl : g < (put4 w1 g (o + i * 4) x).heap.size := Nat.lt_of_lt_of_le H1.lt t1.grown.size
  have t2 := t1.drew H1.lt
  have := H1.turned hi x t2 (four_drew hl (four_put x (H1.rt i hi))) (Turn.of_below (o := o + 16 + i) (n := 1) (Nat.lt_of_lt_of_le H1.lt t2.grown.size) (Below.refl _ _)) (by rw [hx]; exact (t2.cell _ (by omega)).trans (H1.on i hi))
  exact ⟨this.1, (Turn.of_below H.lt hb).trans this.2⟩
set_option maxHeartbeats 1000000 in
set_option maxRecDepth 100000 in
theorem rtake11_any (g o : Nat) (C : List Pl) (k : Ky) (w : World) (H : RBk w g o C) :
    Calls Try.prog 32 #[.pointer (some ⟨g, o, none⟩), kyV k] w fun e w' => e = .returned (.bool (takeC C k).isSome) ∧ RBk w' g o ((takeC C k).getD C) ∧ Turn w w' g o 20 := by
  have HH := Lib.hid H
  have h4 := H.four
  have hg := H.lt
  clear H
  unfold kyV
  go_enter Try.func32, Try.ntmps32
  go_wp2
  go_loopw [5] (fun i wr => ∃ (j : Nat), j ≤ 4 ∧ i = .int .i64 (j : Int) ∧ (∀ x (hx : x < C.length), x < j → hasK k C[x] = false) ∧ wr.cell? ⟨w.heap.size, 0, none⟩ = some (.int .u64 (k.h : Int)) ∧ wr.cell? ⟨w.heap.size, 1, none⟩ = some (.int .u64 (k.l : Int)) ∧ wr.cell? ⟨w.heap.size, 2, none⟩ = some (.int .i64 k.n) ∧ w.heap.size < wr.heap.size ∧ Below w.heap.size w wr) (fun i _ => 4 - (intOf i).toNat)
  case atStart => exact ⟨0, by omega, rfl, fun x _ h => absurd h (by omega), by simp [go_sem], by simp [go_sem], by simp [go_sem], by simp, by go_grown⟩
  case round =>
    obtain ⟨j, hj, rfl, hno, k0, k1, k2, hz, hb⟩ := hrel
    by_cases hlt : j < 4
    · have H1 := HH.out.below hb
      have hno' := Lib.hid hno
      have hon := H1.on j (by omega)
      obtain ⟨r0, r1, r2, r3⟩ := H1.rt j (by omega)
      have hK := Lib.hid (hasK_eq k (C[j]'(by omega)))
      have hl1 := H1.lt
      clear hno H1
      generalize hx : (C[j]'(by omega)) = x at hon r0 r1 r2 r3 hK
      have HX := Lib.hid hx
      have hE := eqlK (xh x) (xl x) (xn x) k.h k.l k.n
      have j0 : (0 : Int) ≤ (j : Int) := by omega
      have j4 : (j : Int) < 4 := by omega
      clear hx
      by_cases hs : x.isSome = true
      · rw [hs] at hon
        by_cases he : xh x = k.h ∧ xl x = k.l ∧ xn x = k.n
        · rw [decide_eq_true he] at hE
          have hm : Hid (hasK k x = true) := by show hasK k x = true; rw [hK.out, hs, decide_eq_true he]; rfl
          clear hs hK he
          go_wp2_with fail
          have kg := cell_grow
          refine region_whole (by kernel_rfl) (by kernel_rfl) ?_
          repeat (any_goals (first | go_big_quiet_step (fail) | quiet_step (fail)))
          refine wpQuiet_nil ?_
          clear kg
          intro w1 hb1
          obtain ⟨hc1, hf1⟩ := bcell hb1
          have hw1 := hb.trans (hb1.mono (by omega))
          have hh := Lib.hid (idx_hit (p := hasK k) (i := j) (C := C) (by omega) (by rw [HX.out]; exact hm.out) hno'.out)
          have hi : j < C.length := by omega
          clear hE hno' hon r0 r1 r2 r3 hf1 hc1 hb1 HX hm
          have i := j
          have H1 := HH.out.below hw1
          obtain ⟨c0, c1, c2, c3⟩ := H1.rt j hi
          have c4 := H1.on j hi
          have f0 := H1.free (j * 4) (by omega)
          have f1 := H1.free (j * 4 + 1) (by omega)
          have f2 := H1.free (j * 4 + 2) (by omega)
          have f3 := H1.free (j * 4 + 3) (by omega)
          have f4 := H1.free (16 + j) (by omega)
          have hl := H1.lt
          simp only [← Nat.add_assoc] at f1 f2 f3 f4
          clear H1
          go_wp2
          go_ret
          rw [show takeC C k = some (C.set j none) by unfold takeC; rw [hh.out]]
          have hP := HH.out.put_plain hw1 hi none
          exact ⟨rfl, hP.1, hP.2⟩
        · rw [decide_eq_false he] at hE
          have hm : Hid (hasK k x = false) := by show hasK k x = false; rw [hK.out, hs, decide_eq_false he]; rfl
          clear hs hK he
          go_wp2_with fail
          have kg := cell_grow
          refine region_whole (by kernel_rfl) (by kernel_rfl) ?_
          repeat (any_goals (first | go_big_quiet_step (fail) | quiet_step (fail)))
          refine wpQuiet_nil ?_
          clear kg
          intro w1 hb1
          obtain ⟨hc1, hf1⟩ := bcell hb1
          go_wp2
          go_roundw
          case rel =>
            refine ⟨j + 1, by omega, by go_num, fun y hy hlt2 => ?_, (hc1 _ _ (by omega)).trans k0, (hc1 _ _ (by omega)).trans k1, (hc1 _ _ (by omega)).trans k2, Nat.lt_of_lt_of_le hz hb1.size, hb.trans (hb1.mono (by omega))⟩
            by_cases e : y = j
            · subst e; rw [HX.out]; exact hm.out
            · exact hno'.out y hy (by omega)
          case measure => simp [intOf]; omega
      · rw [Bool.not_eq_true] at hs
        rw [hs] at hon
        have hm : Hid (hasK k x = false) := by show hasK k x = false; rw [hK.out, hs]; rfl
        clear hs hK hE
        go_wp2_with fail
        have kg := cell_grow
        refine region_whole (by kernel_rfl) (by kernel_rfl) ?_
        repeat (any_goals (first | go_big_quiet_step (fail) | quiet_step (fail)))
        refine wpQuiet_nil ?_
        clear kg
        intro w1 hb1
        obtain ⟨hc1, hf1⟩ := bcell hb1
        go_wp2
        go_roundw
        case rel =>
          refine ⟨j + 1, by omega, by go_num, fun y hy hlt2 => ?_, (hc1 _ _ (by omega)).trans k0, (hc1 _ _ (by omega)).trans k1, (hc1 _ _ (by omega)).trans k2, Nat.lt_of_lt_of_le hz hb1.size, hb.trans (hb1.mono (by omega))⟩
          by_cases e : y = j
          · subst e; rw [HX.out]; exact hm.out
          · exact hno'.out y hy (by omega)
        case measure => simp [intOf]; omega
    · go_wp2
      go_ret
      rw [show takeC C k = none by unfold takeC; rw [idx_miss (fun x hx => hno x hx (by omega))]]
      exact ⟨rfl, HH.out.below hb, Turn.of_below hg hb⟩
end Go.Proofs.Ytlglppfkpieabaa
