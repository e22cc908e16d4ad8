/-
  What the small calls of the reference's table hand back: NewTable, other, Size. No condition but that its cells lie in memory, that it has from one to 65536 buckets, and that words are words of 64 bits.
-/
import Derived.Test.YtoihkbanmnagkaaGreatCopy
import Derived.Test.YtoihkbanmnagkaaGreatW6c
/-
  A table in memory where its stash is written, or is another one. No condition but those that stand in each.
-/
set_option linter.unusedSimpArgs false
set_option linter.unusedVariables false
namespace Go.Proofs.YtoihkbanmnagkaaGreat
open Go.RowKit Go.Sort M

section
variable {K : World → Nat → Nat → List Pl → Prop} {w w1 : World} {t g : Nat} {v v' : Value} {T : Tab} {m : Int}
theorem Tb.newStash (hK : BK K) (H : Tb K w t g v T) {st' : List Rt} (hg : w.grownBy w1 v.ownBlock) (own1 : w1.ownsRow 0 58 4 v' st'.length (rcs st')) (hat : v'.ownBlock = v.ownBlock ∨ ∃ k, v'.ownBlock = some k ∧ w.heap.size ≤ k) :
    Tb K (w1.setCell ⟨t, 2, none⟩ v') t g v' { T with st := st' } ∧ Touch (Blk t g v) w (w1.setCell ⟨t, 2, none⟩ v') ∧ ∀ k, Blk t g v' k → k < w.heap.size → Blk t g v k := by
  have ht1 : w1.heap[t]? = w.heap[t]? := hg.block t H.tlt (fun e => H.tv e.symm)
  have hg1 : w1.heap[g]? = w.heap[g]? := hg.block g H.blt (fun e => H.gv e.symm)
  have hb2 : ∀ k, k ≠ t → (w1.setCell ⟨t, 2, none⟩ v').heap[k]? = w1.heap[k]? := fun k hk => Below.heap_setCell w1 ⟨t, 2, none⟩ v' k (by simpa using hk)
  have hs2 : (w1.setCell ⟨t, 2, none⟩ v').heap.size = w1.heap.size := World.size_setCell _ _ _
  have c0 := (World.cell?_of_block (a := ⟨t, 0, none⟩) ht1).trans H.c0
  have c1 := (World.cell?_of_block (a := ⟨t, 1, none⟩) ht1).trans H.c1
  have c2 := (World.cell?_of_block (a := ⟨t, 2, none⟩) ht1).trans H.c2
  have ne : ∀ j, j ≠ 2 → (w1.setCell ⟨t, 2, none⟩ v').cell? ⟨t, j, none⟩ = w1.cell? ⟨t, j, none⟩ := fun j hj => by
    rw [World.cell?_setCell_other]
    intro e
    injection e with _ e2
    exact hj e2.symm
  have hvt : v'.ownBlock ≠ some t := by
    rcases hat with e | ⟨k, e, hk⟩
    · rw [e]; exact H.tv
    · rw [e]; intro e2; injection e2 with e2; have := H.tlt; omega
  have hvg : v'.ownBlock ≠ some g := by
    rcases hat with e | ⟨k, e, hk⟩
    · rw [e]; exact H.gv
    · rw [e]; intro e2; injection e2 with e2; have := H.blt; omega
  refine ⟨⟨fun i hi => hK.block (H.bk i hi) (by rw [hs2]; exact hg.size) ((hb2 g (fun e => H.tg e.symm)).trans hg1), by rw [hs2]; exact Nat.lt_of_lt_of_le H.blt hg.size, by rw [hs2]; exact Nat.lt_of_lt_of_le H.tlt hg.size,
    (ne 0 (by decide)).trans c0, (ne 1 (by decide)).trans c1, World.cell?_setCell_same _ _ _ c2, fun j => by rw [World.frozen?_setCell, World.frozen?_of_block (a := ⟨t, j, none⟩) ht1]; exact H.f j,
    own_block own1 (fun j e => hb2 j (fun e2 => hvt (e2 ▸ e))), H.tg, hvt, hvg⟩, ⟨hg.os, hg.tape, hg.output, by rw [hs2]; exact hg.size, fun k hk hn => ?_⟩, fun k hk hl => ?_⟩
  · rw [hb2 k (fun e => hn (.inl e))]
    exact hg.block k hk (fun e => hn (.inr (.inr e.symm)))
  · rcases hk with e | e | e
    · exact .inl e
    · exact .inr (.inl e)
    · rcases hat with e2 | ⟨j, e2, hj⟩
      · exact .inr (.inr (e2 ▸ e))
      · rw [e2] at e
        injection e with e
        omega
theorem CT.newStash (H : CT w t g v T m) {st' : List Rt} (hg : w.grownBy w1 v.ownBlock) (own1 : w1.ownsRow 0 58 4 v' st'.length (rcs st')) (hat : v'.ownBlock = v.ownBlock ∨ ∃ k, v'.ownBlock = some k ∧ w.heap.size ≤ k) :
    CT (w1.setCell ⟨t, 2, none⟩ v') t g v' { T with st := st' } m ∧ Touch (Blk t g v) w (w1.setCell ⟨t, 2, none⟩ v') ∧ ∀ k, Blk t g v' k → k < w.heap.size → Blk t g v k := by
  have h := H.tb.newStash bk_bkt hg own1 hat
  have ht1 : w1.heap[t]? = w.heap[t]? := hg.block t H.tb.tlt (fun e => H.tb.tv e.symm)
  refine ⟨⟨h.1, ?_⟩, h.2⟩
  rw [World.cell?_setCell_other]
  · exact (World.cell?_of_block (a := ⟨t, 3, none⟩) ht1).trans H.c3
  · intro e
    injection e with _ e2
    exact absurd e2 (by decide)
theorem Tb.inStash (hK : BK K) (H : Tb K w t g v T) {st' : List Rt} (hg : w.grownBy w1 v.ownBlock) (own1 : w1.ownsRow 0 58 4 v st'.length (rcs st')) : Tb K w1 t g v { T with st := st' } ∧ Touch (Blk t g v) w w1 := by
  have ht1 : w1.heap[t]? = w.heap[t]? := hg.block t H.tlt (fun e => H.tv e.symm)
  have hg1 : w1.heap[g]? = w.heap[g]? := hg.block g H.blt (fun e => H.gv e.symm)
  exact ⟨⟨fun i hi => hK.block (H.bk i hi) hg.size hg1, Nat.lt_of_lt_of_le H.blt hg.size, Nat.lt_of_lt_of_le H.tlt hg.size, (World.cell?_of_block (a := ⟨t, 0, none⟩) ht1).trans H.c0, (World.cell?_of_block (a := ⟨t, 1, none⟩) ht1).trans H.c1,
    (World.cell?_of_block (a := ⟨t, 2, none⟩) ht1).trans H.c2, fun j => (World.frozen?_of_block (a := ⟨t, j, none⟩) ht1).trans (H.f j), own1, H.tg, H.tv, H.gv⟩, Touch.of_grown hg (fun k e => .inr (.inr e.symm))⟩
theorem CT.inStash (H : CT w t g v T m) {st' : List Rt} (hg : w.grownBy w1 v.ownBlock) (own1 : w1.ownsRow 0 58 4 v st'.length (rcs st')) : CT w1 t g v { T with st := st' } m ∧ Touch (Blk t g v) w w1 := by
  have h := H.tb.inStash bk_bkt hg own1
  exact ⟨⟨h.1, (World.cell?_of_block (a := ⟨t, 3, none⟩) (hg.block t H.tb.tlt (fun e => H.tb.tv e.symm))).trans H.c3⟩, h.2⟩
theorem CT.count (H : CT w t g v T m) (m' : Int) : CT (w.setCell ⟨t, 3, none⟩ (.int .i64 m')) t g v T m' ∧ Touch (Blk t g v) w (w.setCell ⟨t, 3, none⟩ (.int .i64 m')) := by
  have hb2 : ∀ k, k ≠ t → (w.setCell ⟨t, 3, none⟩ (.int .i64 m')).heap[k]? = w.heap[k]? := fun k hk => Below.heap_setCell w ⟨t, 3, none⟩ _ k (by simpa using hk)
  have hs2 : (w.setCell ⟨t, 3, none⟩ (.int .i64 m')).heap.size = w.heap.size := World.size_setCell _ _ _
  have ne : ∀ j, j ≠ 3 → (w.setCell ⟨t, 3, none⟩ (.int .i64 m')).cell? ⟨t, j, none⟩ = w.cell? ⟨t, j, none⟩ := fun j hj => by
    rw [World.cell?_setCell_other]
    intro e
    injection e with _ e2
    exact hj e2.symm
  have B := H.tb
  exact ⟨⟨⟨fun i hi => bk_bkt.block (B.bk i hi) (by rw [hs2]; exact Nat.le_refl _) (hb2 g (fun e => B.tg e.symm)), by rw [hs2]; exact B.blt, by rw [hs2]; exact B.tlt, (ne 0 (by decide)).trans B.c0, (ne 1 (by decide)).trans B.c1, (ne 2 (by decide)).trans B.c2, fun j => by rw [World.frozen?_setCell]; exact B.f j,
    own_block B.own (fun j e => hb2 j (fun e2 => B.tv (e2 ▸ e))), B.tg, B.tv, B.gv⟩, World.cell?_setCell_same _ _ _ H.c3⟩, ⟨rfl, rfl, rfl, by rw [hs2]; exact Nat.le_refl _, fun k _ hn => hb2 k (fun e => hn (.inl e))⟩⟩
end
theorem rcs_hop : ∀ (L : List Rt) (i : Nat) (h : i < L.length) (x : Int), (rcs L).set (i * 4 + 3) (.int .i64 x) = rcs (L.set i ⟨L[i].k, x⟩)
  | a :: L, 0, _, x => by
    show (rcell a ++ rcs L).set 3 _ = rcell ⟨a.k, x⟩ ++ rcs L
    rfl
  | a :: L, i + 1, h, x => by
    have ih := rcs_hop L i (by simpa using h) x
    show (rcell a ++ rcs L).set ((i + 1) * 4 + 3) _ = rcell a ++ rcs (L.set i ⟨(L[i]'(by simpa using h)).k, x⟩)
    rw [List.set_append_right _ _ (by simp [rcell]; omega), show (i + 1) * 4 + 3 - (rcell a).length = i * 4 + 3 by simp [rcell]; omega, ih]
theorem put_of_get {C : List Pl} {k : Ky} {v : Int} (h : (getC C k).isSome = true) : (putC C k v).isSome = true := by
  obtain ⟨i, hi, e, -⟩ := getC_some h
  rw [putC_hit e]; rfl
end Go.Proofs.YtoihkbanmnagkaaGreat
/-
  What the small calls of a table hand back: none, two, other, Len, Size. No condition but that its cells lie in memory, that it has from one to 65536 buckets, and that words are words of 64 bits.
-/
set_option linter.unusedSimpArgs false
set_option linter.unusedVariables false
namespace Go.Proofs.YtoihkbanmnagkaaGreat
open Go.RowKit Go.Sort M

structure Num (T : Tab) : Prop where
  lo : 1 ≤ T.B.length
  hi : T.B.length ≤ 65536
  word : W64 T.s
theorem Inv.num {T : Tab} (H : Inv T) : Num T := ⟨H.lo, H.hi, H.word⟩
theorem Num.x1_lt {T : Tab} (H : Num T) (k : Ky) : T.x1 k < T.B.length := b1_lt H.lo
theorem Num.x2_lt {T : Tab} (H : Num T) (k : Ky) : T.x2 k < T.B.length := b2_lt H.lo
theorem Num.set {T : Tab} (H : Num T) (i : Nat) (C : List Pl) : Num (T.set i C) := ⟨by rw [set_len]; exact H.lo, by rw [set_len]; exact H.hi, H.word⟩
set_option maxRecDepth 100000 in
set_option maxHeartbeats 1000000 in
theorem none_any (t g : Nat) (v : Value) (T : Tab) (m : Int) (w : World) (H : CT w t g v T m) (h : Num T) :
    Calls Tryz.prog 63 #[.pointer (some ⟨t, 0, none⟩)] w fun e w' => e = .returned (.bool false) ∧ Below w.heap.size w w' := by
  have c1 := H.tb.c1
  have hl := H.tb.tlt
  have h1 := h.lo
  generalize T.B.length = n at *
  have hn : ((n : Int) == 0) = false := by simp; omega
  clear H h
  go_enter Tryz.func63, Tryz.ntmps63
  go_wp2
  go_ret
  exact ⟨rfl, by go_grown⟩
set_option maxRecDepth 100000 in
set_option maxHeartbeats 1000000 in
theorem two_any (t g : Nat) (v : Value) (T : Tab) (m : Int) (k : Ky) (w : World) (H : CT w t g v T m) (h : Num T) (hk : k.good) :
    Calls Tryz.prog 64 #[.pointer (some ⟨t, 0, none⟩), kyV k] w fun e w' => e = .returned (.tuple #[.int .i64 (T.x1 k : Int), .int .i64 (T.x2 k : Int)]) ∧ Below w.heap.size w w' := by
  have c0 := H.tb.c0
  have c1 := H.tb.c1
  have hl := H.tb.tlt
  have hB := buck_any T.s k.h k.l k.n (T.B.length : Int) h.word hk.1 hk.2 (by have := h.hi; omega)
  rw [b1_int h.lo, b2_int h.lo] at hB
  change Gives _ _ _ (.tuple #[.int .i64 (T.x1 k : Int), .int .i64 (T.x2 k : Int)]) at hB
  have HB := Lib.hid hB
  generalize T.x1 k = x1 at *
  generalize T.x2 k = x2 at *
  clear H h hB
  unfold kyV
  go_enter Tryz.func64, Tryz.ntmps64
  go_wp2_with fail
  have kg := cell_grow
  refine region_whole (by kernel_rfl) (by kernel_rfl) ?_
  repeat (any_goals (first | go_big_quiet_step ((exact HB.out.at _ _ _)) | quiet_step ((exact HB.out.at _ _ _))))
  refine wpQuiet_nil ?_
  clear kg
  intro w1 hb1
  obtain ⟨hc1, hf1⟩ := bcell hb1
  have hw1 : Below w.heap.size w w1 := by
    refine Below.trans ?_ (hb1.mono ?_)
    · go_grown
    · first | omega | go_size
  go_wp2
  go_ret2
  exact ⟨rfl, hw1⟩
set_option maxRecDepth 100000 in
set_option maxHeartbeats 1000000 in
theorem other_any (t g : Nat) (v : Value) (T : Tab) (m : Int) (k : Ky) (b : Nat) (w : World) (H : CT w t g v T m) (h : Num T) (hk : k.good) :
    Calls Tryz.prog 102 #[.pointer (some ⟨t, 0, none⟩), kyV k, .int .i64 (b : Int)] w fun e w' => e = .returned (.int .i64 (T.other k b : Int)) ∧ Below w.heap.size w w' := by
  have HT := Lib.hid (fun w H => two_any t g v T m k w H h hk)
  have HH := Lib.hid H
  have HE : Hid (T.other k b = if b = T.x1 k then T.x2 k else T.x1 k) := rfl
  generalize T.x1 k = x1 at *
  generalize T.x2 k = x2 at *
  generalize T.other k b = o at *
  clear H h
  unfold kyV at *
  by_cases hb : b = x1
  · subst hb
    have hE := HE.out
    rw [if_pos rfl] at hE
    subst hE
    clear HE
    go_enter Tryz.func102, Tryz.ntmps102
    go_wp2_with fail
    refine (HT.out _ (HH.out.below (by go_grown))).mono ?_
    rintro e w1 ⟨rfl, hb1⟩
    have hw1 : Below w.heap.size w w1 := Below.trans (by go_grown) (hb1.mono (by go_size))
    clear hb1
    go_wp2
    go_ret
    exact ⟨rfl, hw1⟩
  · have hE := HE.out
    rw [if_neg hb] at hE
    subst hE
    have hbi : ((b : Int) == (o : Int)) = false := by simp; omega
    clear HE hb
    go_enter Tryz.func102, Tryz.ntmps102
    go_wp2_with fail
    refine (HT.out _ (HH.out.below (by go_grown))).mono ?_
    rintro e w1 ⟨rfl, hb1⟩
    have hw1 : Below w.heap.size w w1 := Below.trans (by go_grown) (hb1.mono (by go_size))
    clear hb1
    go_wp2
    go_ret
    exact ⟨rfl, hw1⟩
end Go.Proofs.YtoihkbanmnagkaaGreat
/-
  New buckets in memory, as 'make' lays them; a new table; what New hands back. No condition but those that stand in each.
-/
set_option linter.unusedSimpArgs false
set_option linter.unusedVariables false
namespace Go.Proofs.YtoihkbanmnagkaaGreat
open Go.RowKit Go.Sort M

def zB : Value := .agg #[.int .u64 0, .int .u64 0, .int .i64 0, .int .i64 0, .bool false, .int .u64 0, .int .u64 0, .int .i64 0, .int .i64 0, .bool false, .int .u64 0, .int .u64 0, .int .i64 0, .int .i64 0, .bool false, .int .u64 0, .int .u64 0, .int .i64 0, .int .i64 0, .bool false]
def zR : Value := .agg #[.int .u64 0, .int .u64 0, .int .i64 0, .int .i64 0, .int .u64 0, .int .u64 0, .int .i64 0, .int .i64 0, .int .u64 0, .int .u64 0, .int .i64 0, .int .i64 0, .int .u64 0, .int .u64 0, .int .i64 0, .int .i64 0, .bool false, .bool false, .bool false, .bool false]
theorem infoB12 : (Tryz.prog.info? 120).map (fun i => (i.zero, i.size, i.bytes)) = some (some zB, 20, 160) := by kernel_rfl
theorem infoRB : (Tryz.prog.info? 87).map (fun i => (i.zero, i.size, i.bytes)) = some (some zR, 20, 136) := by kernel_rfl
theorem made_cell {w : World} {g n i x : Nat} {z : Array Value} {t : TypeId} (hz : z.size = 20) (hg : w.heap[g]? = some (.cells (madeCells z (n * 20)) t (0, 0))) (hi : i < n) (hx : x < 20) : w.cell? ⟨g, i * 20 + x, none⟩ = some z[x]! := by
  rw [cell_of_row w g _ _ t (0, 0) hg]
  unfold madeCells
  rw [Array.getElem?_map, Array.getElem?_range, if_pos (by omega)]
  simp only [Option.map_some, hz]
  rw [show (i * 20 + x) % 20 = x by omega]
theorem made_free {w : World} {g n : Nat} {z : Array Value} {t : TypeId} (hg : w.heap[g]? = some (.cells (madeCells z (n * 20)) t (0, 0))) (j : Nat) : w.frozen? ⟨g, j, none⟩ = false := frozen_of_row w g j _ t hg
theorem made_bkt {w : World} {g n i : Nat} {t : TypeId} (hg : w.heap[g]? = some (.cells (madeCells zB.cells (n * 20)) t (0, 0))) (hi : i < n) : Bkt w g (i * 20) [none, none, none, none] := by
  refine ⟨rfl, (Array.getElem?_eq_some_iff.1 hg).1, fun k hk j u hu => ?_, fun j _ => made_free hg _⟩
  have hj : j < 5 := (List.getElem?_eq_some_iff.1 hu).1
  simp only [List.length_cons, List.length_nil] at hk
  rw [Nat.add_assoc, made_cell (by rfl) hg hi (by omega)]
  rcases (show k = 0 ∨ k = 1 ∨ k = 2 ∨ k = 3 by omega) with rfl | rfl | rfl | rfl <;> rcases (show j = 0 ∨ j = 1 ∨ j = 2 ∨ j = 3 ∨ j = 4 by omega) with rfl | rfl | rfl | rfl | rfl <;> (simp only [x5, List.getElem_cons_zero, List.getElem_cons_succ, List.getElem?_cons_zero, List.getElem?_cons_succ, Option.some.injEq] at hu; subst hu; rfl)
theorem made_rbk {w : World} {g n i : Nat} {t : TypeId} (hg : w.heap[g]? = some (.cells (madeCells zR.cells (n * 20)) t (0, 0))) (hi : i < n) : RBk w g (i * 20) [none, none, none, none] := by
  refine ⟨rfl, (Array.getElem?_eq_some_iff.1 hg).1, fun k hk => ?_, fun k hk => ?_, fun j _ => made_free hg _⟩
  · simp only [List.length_cons, List.length_nil] at hk
    simp only [Nat.add_assoc]
    rw [made_cell (by rfl) hg hi (by omega), made_cell (by rfl) hg hi (by omega), made_cell (by rfl) hg hi (by omega), made_cell (by rfl) hg hi (by omega)]
    rcases (show k = 0 ∨ k = 1 ∨ k = 2 ∨ k = 3 by omega) with rfl | rfl | rfl | rfl <;> exact ⟨rfl, rfl, rfl, rfl⟩
  · simp only [List.length_cons, List.length_nil] at hk
    rw [Nat.add_assoc, made_cell (by rfl) hg hi (by omega)]
    rcases (show k = 0 ∨ k = 1 ∨ k = 2 ∨ k = 3 by omega) with rfl | rfl | rfl | rfl <;> rfl
theorem empty_len (s n : Nat) : (emptyT s n).B.length = n := by simp [emptyT]
theorem Tb.fresh {K : World → Nat → Nat → List Pl → Prop} {w : World} {t g s n : Nat} (hK : ∀ i, i < n → K w g (i * 20) [none, none, none, none]) (hg : g < w.heap.size) (ht : t < w.heap.size) (c0 : w.cell? ⟨t, 0, none⟩ = some (.int .u64 (s : Int))) (c1 : w.cell? ⟨t, 1, none⟩ = some (.slice (some ⟨g, 0, none⟩) n n))
    (c2 : w.cell? ⟨t, 2, none⟩ = some (.slice none 0 0)) (f : ∀ j, w.frozen? ⟨t, j, none⟩ = false) (tg : t ≠ g) : Tb K w t g (.slice none 0 0) (emptyT s n) :=
  ⟨fun i hi => by rw [empty_len] at hi; rw [empty_bk s n i hi]; exact hK i hi, hg, ht, c0, by rw [empty_len]; exact c1, c2, f, World.ownsRow_nil _ _ _ _, tg, by simp [Value.ownBlock], by simp [Value.ownBlock]⟩
set_option maxRecDepth 100000 in
set_option maxHeartbeats 1000000 in
theorem new_bad (s : Nat) (n : Int) (w : World) (h : n < 1 ∨ 65536 < n) :
    Calls Tryz.prog 23 #[.int .u64 (s : Int), .int .i64 n] w fun e w' => e = .returned (.tuple #[.pointer none, .int .i64 1]) ∧ Below w.heap.size w w' := by
  rcases h with h | h
  · go_enter Tryz.func23, Tryz.ntmps23
    go_wp2
    go_ret2
    exact ⟨rfl, by go_grown⟩
  · have h2 : ¬ n < 1 := by omega
    go_enter Tryz.func23, Tryz.ntmps23
    go_wp2
    go_ret2
    exact ⟨rfl, by go_grown⟩
set_option maxRecDepth 100000 in
set_option maxHeartbeats 1000000 in
theorem cnew_any (s n : Nat) (w : World) (h1 : 1 ≤ n) (h2 : n ≤ 65536) :
    Calls Tryz.prog 23 #[.int .u64 (s : Int), .int .i64 (n : Int)] w fun e w' => ∃ t, e = .returned (.tuple #[.pointer (some ⟨t, 0, none⟩), .int .i64 0]) ∧ ∃ g, CT w' t g (.slice none 0 0) (emptyT s n) 0 ∧ Below w.heap.size w w' ∧ w.heap.size ≤ t ∧ w.heap.size ≤ g := by
  have PLA := fun w => make_row Tryz.underlying97 infoB12 n (by omega) (by unfold maxLen; omega) w
  have h3 : ¬ ((n : Int) < 1) := by omega
  have h4 : ¬ ((65536 : Int) < n) := by omega
  generalize hM : madeCells zB.cells (n * 20) = M at PLA
  go_enter Tryz.func23, Tryz.ntmps23
  go_wp2
  go_ret2
  refine ⟨w.heap.size + 1, rfl, w.heap.size, ⟨Tb.fresh (fun i hi => made_bkt (t := 120) (n := n) ?_ hi) (by simp; omega) (by simp) (by simp [go_sem]) (by simp [go_sem]) (by simp [go_sem]) (fun j => by simp [go_sem]) (by omega), by simp [go_sem]⟩, by go_grown, by omega, Nat.le_refl _⟩
  rw [hM]
  rw [heap_alloc_old _ _ (by simp)]
  exact heap_alloc_new w _
end Go.Proofs.YtoihkbanmnagkaaGreat
/-
  What the small calls of the reference's table hand back: NewTable, other, Size. No condition but that its cells lie in memory, that it has from one to 65536 buckets, and that words are words of 64 bits.
-/
set_option linter.unusedSimpArgs false
set_option linter.unusedVariables false
namespace Go.Proofs.YtoihkbanmnagkaaGreat
open Go.RowKit Go.Sort M

set_option maxRecDepth 100000 in
set_option maxHeartbeats 1000000 in
theorem newtab_bad (s : Nat) (n : Int) (w : World) (h : n < 1 ∨ 65536 < n) :
    Calls Tryz.prog 26 #[.int .u64 (s : Int), .int .i64 n] w fun e w' => e = .returned (.tuple #[.pointer none, .int .i64 1]) ∧ Below w.heap.size w w' := by
  rcases h with h | h
  · go_enter Tryz.func26, Tryz.ntmps26
    go_wp2
    go_ret2
    exact ⟨rfl, by go_grown⟩
  · have h2 : ¬ n < 1 := by omega
    go_enter Tryz.func26, Tryz.ntmps26
    go_wp2
    go_ret2
    exact ⟨rfl, by go_grown⟩
set_option maxRecDepth 100000 in
set_option maxHeartbeats 1000000 in
theorem newtab_any (s n : Nat) (w : World) (h1 : 1 ≤ n) (h2 : n ≤ 65536) :
    Calls Tryz.prog 26 #[.int .u64 (s : Int), .int .i64 (n : Int)] w fun e w' => ∃ t, e = .returned (.tuple #[.pointer (some ⟨t, 0, none⟩), .int .i64 0]) ∧ ∃ g, Tb RBk w' t g (.slice none 0 0) (emptyT s n) ∧ Below w.heap.size w w' ∧ w.heap.size ≤ t ∧ w.heap.size ≤ g := by
  have PLA := fun w => make_row Tryz.underlying81 infoRB n (by omega) (by unfold maxLen; omega) w
  have h3 : ¬ ((n : Int) < 1) := by omega
  have h4 : ¬ ((65536 : Int) < n) := by omega
  generalize hM : madeCells zR.cells (n * 20) = M at PLA
  go_enter Tryz.func26, Tryz.ntmps26
  go_wp2
  go_ret2
  refine ⟨w.heap.size + 1, rfl, w.heap.size, Tb.fresh (fun i hi => made_rbk (t := 87) (n := n) ?_ hi) (by simp; omega) (by simp) (by simp [go_sem]) (by simp [go_sem]) (by simp [go_sem]) (fun j => by simp [go_sem]) (by omega), by go_grown, by omega, Nat.le_refl _⟩
  rw [hM]
  rw [heap_alloc_old _ _ (by simp)]
  exact heap_alloc_new w _
theorem rtwo_fact (T : Tab) (k : Ky) (h : Num T) (hk : k.good) : Gives Tryz.prog 51 #[.int .u64 (T.s : Int), .agg #[.int .u64 (k.h : Int), .int .u64 (k.l : Int), .int .i64 k.n], .int .i64 (T.B.length : Int)] (.tuple #[.int .i64 (T.x1 k : Int), .int .i64 (T.x2 k : Int)]) := by
  have hB := rbuck_any T.s k.h k.l k.n (T.B.length : Int) h.word hk.1 hk.2 (by have := h.hi; omega)
  rw [b1_int h.lo, b2_int h.lo] at hB
  exact hB
set_option maxRecDepth 100000 in
set_option maxHeartbeats 1000000 in
theorem rother_any (t g : Nat) (v : Value) (T : Tab) (k : Ky) (b : Nat) (w : World) (H : Tb RBk w t g v T) (h : Num T) (hk : k.good) :
    Calls Tryz.prog 55 #[.pointer (some ⟨t, 0, none⟩), kyV k, .int .i64 (b : Int)] w fun e w' => e = .returned (.int .i64 (T.other k b : Int)) ∧ Below w.heap.size w w' := by
  have c0 := H.c0
  have c1 := H.c1
  have hl := H.tlt
  have HB := Lib.hid (rtwo_fact T k h hk)
  have HE : Hid (T.other k b = if b = T.x1 k then T.x2 k else T.x1 k) := rfl
  generalize T.x1 k = x1 at *
  generalize T.x2 k = x2 at *
  generalize T.other k b = o at *
  clear H h
  unfold kyV at *
  by_cases hb : b = x1
  · subst hb
    have hE := HE.out
    rw [if_pos rfl] at hE
    subst hE
    clear HE
    go_enter Tryz.func55, Tryz.ntmps55
    go_wp2_with fail
    have kg := cell_grow
    refine region_whole (by kernel_rfl) (by kernel_rfl) ?_
    repeat (any_goals (first | go_big_quiet_step ((exact HB.out.at _ _ _)) | quiet_step ((exact HB.out.at _ _ _))))
    refine wpQuiet_nil ?_
    clear kg
    intro w1 hb1
    obtain ⟨hc1, hf1⟩ := bcell hb1
    have hw1 : Below w.heap.size w w1 := by
      refine Below.trans ?_ (hb1.mono ?_)
      · go_grown
      · first | omega | go_size
    go_wp2
    go_ret
    exact ⟨rfl, hw1⟩
  · have hE := HE.out
    rw [if_neg hb] at hE
    subst hE
    have hbi : ((b : Int) == (o : Int)) = false := by simp; omega
    clear HE hb
    go_enter Tryz.func55, Tryz.ntmps55
    go_wp2_with fail
    have kg := cell_grow
    refine region_whole (by kernel_rfl) (by kernel_rfl) ?_
    repeat (any_goals (first | go_big_quiet_step ((exact HB.out.at _ _ _)) | quiet_step ((exact HB.out.at _ _ _))))
    refine wpQuiet_nil ?_
    clear kg
    intro w1 hb1
    obtain ⟨hc1, hf1⟩ := bcell hb1
    have hw1 : Below w.heap.size w w1 := by
      refine Below.trans ?_ (hb1.mono ?_)
      · go_grown
      · first | omega | go_size
    go_wp2
    go_ret
    exact ⟨rfl, hw1⟩
end Go.Proofs.YtoihkbanmnagkaaGreat
