/-
  copy between rows of elements of several cells, where the block that is written is known whole: its run, and as a step of a walk. No condition on the program.
-/
import Derived.Test.YtoihkbanmnagkaaGreatW11c
import Derived.Test.YtoihkbanmnagkaaGreatM5
import Derived.Test.YtoihkbanmnagkaaGreatM12d
import Derived.Laws.CopyOwn
import Derived.Lib.AppendZerosOnto
/-
  The reference's bucket in memory: twenty cells of a block, from an offset on: four routes, and which of them are there; what its calls hand back, and what it is then. No condition but that its cells lie in memory.
-/
set_option linter.unusedSimpArgs false
set_option linter.unusedVariables false
namespace Go.Proofs.YtoihkbanmnagkaaGreat
open Go.RowKit Go.Sort M

structure RBk (w : World) (g o : Nat) (C : List Pl) : Prop where
  four : C.length = 4
  lt : g < w.heap.size
  rt : ∀ (i : Nat) (hi : i < C.length), w.cell? ⟨g, o + i * 4, none⟩ = some (.int .u64 (xh C[i] : Int)) ∧ w.cell? ⟨g, o + i * 4 + 1, none⟩ = some (.int .u64 (xl C[i] : Int)) ∧ w.cell? ⟨g, o + i * 4 + 2, none⟩ = some (.int .i64 (xn C[i])) ∧ w.cell? ⟨g, o + i * 4 + 3, none⟩ = some (.int .i64 (xv C[i]))
  on : ∀ (i : Nat) (hi : i < C.length), w.cell? ⟨g, o + 16 + i, none⟩ = some (.bool C[i].isSome)
  free : ∀ j, j < 20 → w.frozen? ⟨g, o + j, none⟩ = false
theorem RBk.kept {w w' : World} {g o : Nat} {C : List Pl} (H : RBk w g o C) (hs : w.heap.size ≤ w'.heap.size) (h : ∀ x, x < 20 → w'.cell? ⟨g, o + x, none⟩ = w.cell? ⟨g, o + x, none⟩ ∧ w'.frozen? ⟨g, o + x, none⟩ = w.frozen? ⟨g, o + x, none⟩) : RBk w' g o C := by
  have h4 := H.four
  refine ⟨H.four, Nat.lt_of_lt_of_le H.lt hs, fun i hi => ?_, fun i hi => ?_, fun j hj => (h j hj).2.trans (H.free j hj)⟩
  · obtain ⟨a, b, c, d⟩ := H.rt i hi
    simp only [Nat.add_assoc] at *
    exact ⟨(h _ (by omega)).1.trans a, (h _ (by omega)).1.trans b, (h _ (by omega)).1.trans c, (h _ (by omega)).1.trans d⟩
  · have := H.on i hi
    rw [Nat.add_assoc] at *
    exact (h _ (by omega)).1.trans this
theorem RBk.below {w w' : World} {g o : Nat} {C : List Pl} (H : RBk w g o C) (hb : Below w.heap.size w w') : RBk w' g o C :=
  H.kept hb.size fun x _ => ⟨hb.cell (p := ⟨g, o + x, none⟩) H.lt, hb.frozen (p := ⟨g, o + x, none⟩) H.lt⟩
theorem RBk.apart {w w' : World} {g o g' o' n : Nat} {C : List Pl} (H : RBk w g o C) (h : Turn w w' g' o' n) (hne : g ≠ g' ∨ o + 20 ≤ o' ∨ o' + n ≤ o) : RBk w' g o C := by
  refine H.kept h.grown.size fun x hx => ?_
  by_cases e : g = g'
  · subst e
    exact ⟨h.cell _ (by omega), h.frozen _⟩
  · have hb := h.grown.block g H.lt (by simpa using e)
    exact ⟨World.cell?_of_block hb, by unfold World.frozen?; rw [hb]⟩
def put4 (w : World) (g p : Nat) (x : Pl) : World :=
  (((w.setCell ⟨g, p, none⟩ (.int .u64 (xh x : Int))).setCell ⟨g, p + 1, none⟩ (.int .u64 (xl x : Int))).setCell ⟨g, p + 2, none⟩ (.int .i64 (xn x))).setCell ⟨g, p + 3, none⟩ (.int .i64 (xv x))
theorem turn_put4 (w : World) (g p : Nat) (x : Pl) : Turn w (put4 w g p x) g p 4 :=
  (((turn_one w g p 4 p _ (by omega) (by omega)).trans (turn_one _ g p 4 (p + 1) _ (by omega) (by omega))).trans (turn_one _ g p 4 (p + 2) _ (by omega) (by omega))).trans (turn_one _ g p 4 (p + 3) _ (by omega) (by omega))
def Four (w : World) (g p : Nat) (x : Pl) : Prop := w.cell? ⟨g, p, none⟩ = some (.int .u64 (xh x : Int)) ∧ w.cell? ⟨g, p + 1, none⟩ = some (.int .u64 (xl x : Int)) ∧ w.cell? ⟨g, p + 2, none⟩ = some (.int .i64 (xn x)) ∧ w.cell? ⟨g, p + 3, none⟩ = some (.int .i64 (xv x))
theorem four_put {w : World} {g p : Nat} (x : Pl) {y : Pl} (h : Four w g p y) : Four (put4 w g p x) g p x := by
  obtain ⟨a, b, c, d⟩ := h
  unfold put4
  refine ⟨?_, ?_, ?_, ?_⟩ <;> simp [go_sem, a, b, c, d]
theorem RBk.turned {w : World} {g o : Nat} {C : List Pl} (H : RBk w g o C) {i : Nat} (hi : i < C.length) (x : Pl) {wa wb : World} (h1 : Turn w wa g (o + i * 4) 4) (hc : Four wa g (o + i * 4) x) (h2 : Turn wa wb g (o + 16 + i) 1)
    (hd : wb.cell? ⟨g, o + 16 + i, none⟩ = some (.bool x.isSome)) : RBk wb g o (C.set i x) ∧ Turn w wb g o 20 := by
  have h4 := H.four
  refine ⟨⟨by simpa using h4, Nat.lt_of_lt_of_le H.lt (Nat.le_trans h1.grown.size h2.grown.size), fun k hk => ?_, fun k hk => ?_, fun j hj => (h2.frozen _).trans ((h1.frozen _).trans (H.free j hj))⟩, (h1.mono (by omega) (by omega)).trans (h2.mono (by omega) (by omega))⟩
  · rw [List.length_set] at hk
    by_cases e : i = k
    · subst e
      rw [List.getElem_set_self]
      obtain ⟨a, b, c, d⟩ := hc
      exact ⟨(h2.cell _ (by omega)).trans a, (h2.cell _ (by omega)).trans b, (h2.cell _ (by omega)).trans c, (h2.cell _ (by omega)).trans d⟩
    · rw [List.getElem_set_ne e]
      obtain ⟨a, b, c, d⟩ := H.rt k hk
      exact ⟨((h2.cell _ (by omega)).trans (h1.cell _ (by omega))).trans a, ((h2.cell _ (by omega)).trans (h1.cell _ (by omega))).trans b, ((h2.cell _ (by omega)).trans (h1.cell _ (by omega))).trans c, ((h2.cell _ (by omega)).trans (h1.cell _ (by omega))).trans d⟩
  · rw [List.length_set] at hk
    by_cases e : i = k
    · subst e
      rw [List.getElem_set_self]
      exact hd
    · rw [List.getElem_set_ne e]
      exact ((h2.cell _ (by omega)).trans (h1.cell _ (by omega))).trans (H.on k hk)
set_option maxHeartbeats 1000000 in
set_option maxRecDepth 100000 in
theorem rget11_any (g o : Nat) (C : List Pl) (k : Ky) (w : World) (H : RBk w g o C) :
    Calls Tryz.prog 52 #[.pointer (some ⟨g, o, none⟩), kyV k] w fun e w' => e = .returned (.tuple #[.int .i64 ((getC C k).getD 0), .bool (getC C k).isSome]) ∧ Below w.heap.size w w' := by
  have HH := Lib.hid H
  have h4 := H.four
  have hg := H.lt
  clear H
  unfold kyV
  go_enter Tryz.func52, Tryz.ntmps52
  go_wp2
  go_loopw [6] (fun i wr => ∃ (j : Nat), j ≤ 4 ∧ i = .int .i64 (j : Int) ∧ (∀ x (hx : x < C.length), x < j → hasK k C[x] = false) ∧ wr.cell? ⟨w.heap.size, 0, none⟩ = some (.int .u64 (k.h : Int)) ∧ wr.cell? ⟨w.heap.size, 1, none⟩ = some (.int .u64 (k.l : Int)) ∧ wr.cell? ⟨w.heap.size, 2, none⟩ = some (.int .i64 k.n) ∧ w.heap.size < wr.heap.size ∧ Below w.heap.size w wr) (fun i _ => 4 - (intOf i).toNat)
  case atStart => exact ⟨0, by omega, rfl, fun x _ h => absurd h (by omega), by simp [go_sem], by simp [go_sem], by simp [go_sem], by simp, by go_grown⟩
  case round =>
    obtain ⟨j, hj, rfl, hno, k0, k1, k2, hz, hb⟩ := hrel
    by_cases hlt : j < 4
    · have H1 := HH.out.below hb
      have hno' := Lib.hid hno
      have hon := H1.on j (by omega)
      obtain ⟨r0, r1, r2, r3⟩ := H1.rt j (by omega)
      have hK := Lib.hid (hasK_eq k (C[j]'(by omega)))
      have hl1 := H1.lt
      clear hno H1
      generalize hx : (C[j]'(by omega)) = x at hon r0 r1 r2 r3 hK
      have HX := Lib.hid hx
      have hE := eqlK (xh x) (xl x) (xn x) k.h k.l k.n
      have j0 : (0 : Int) ≤ (j : Int) := by omega
      have j4 : (j : Int) < 4 := by omega
      clear hx
      by_cases hs : x.isSome = true
      · rw [hs] at hon
        by_cases he : xh x = k.h ∧ xl x = k.l ∧ xn x = k.n
        · rw [decide_eq_true he] at hE
          have hm : Hid (hasK k x = true) := by show hasK k x = true; rw [hK.out, hs, decide_eq_true he]; rfl
          clear hs hK he
          go_wp2_with fail
          have kg := cell_grow
          refine region_whole (by kernel_rfl) (by kernel_rfl) ?_
          repeat (any_goals (first | go_big_quiet_step (fail) | quiet_step (fail)))
          refine wpQuiet_nil ?_
          clear kg
          intro w1 hb1
          obtain ⟨hc1, hf1⟩ := bcell hb1
          have r3 := (hc1 _ _ (by omega)).trans r3
          go_wp2
          go_ret2
          have hh := idx_hit (p := hasK k) (i := j) (C := C) (by omega) (by rw [HX.out]; exact hm.out) hno'.out
          rw [getC_hit (by omega) hh (by rw [HX.out]; exact hm.out), HX.out]
          exact ⟨rfl, hb.trans (hb1.mono (by omega))⟩
        · rw [decide_eq_false he] at hE
          have hm : Hid (hasK k x = false) := by show hasK k x = false; rw [hK.out, hs, decide_eq_false he]; rfl
          clear hs hK he
          go_wp2_with fail
          have kg := cell_grow
          refine region_whole (by kernel_rfl) (by kernel_rfl) ?_
          repeat (any_goals (first | go_big_quiet_step (fail) | quiet_step (fail)))
          refine wpQuiet_nil ?_
          clear kg
          intro w1 hb1
          obtain ⟨hc1, hf1⟩ := bcell hb1
          go_wp2
          go_roundw
          case rel =>
            refine ⟨j + 1, by omega, by go_num, fun y hy hlt2 => ?_, (hc1 _ _ (by omega)).trans k0, (hc1 _ _ (by omega)).trans k1, (hc1 _ _ (by omega)).trans k2, Nat.lt_of_lt_of_le hz hb1.size, hb.trans (hb1.mono (by omega))⟩
            by_cases e : y = j
            · subst e; rw [HX.out]; exact hm.out
            · exact hno'.out y hy (by omega)
          case measure => simp [intOf]; omega
      · rw [Bool.not_eq_true] at hs
        rw [hs] at hon
        have hm : Hid (hasK k x = false) := by show hasK k x = false; rw [hK.out, hs]; rfl
        clear hs hK hE
        go_wp2_with fail
        have kg := cell_grow
        refine region_whole (by kernel_rfl) (by kernel_rfl) ?_
        repeat (any_goals (first | go_big_quiet_step (fail) | quiet_step (fail)))
        refine wpQuiet_nil ?_
        clear kg
        intro w1 hb1
        obtain ⟨hc1, hf1⟩ := bcell hb1
        go_wp2
        go_roundw
        case rel =>
          refine ⟨j + 1, by omega, by go_num, fun y hy hlt2 => ?_, (hc1 _ _ (by omega)).trans k0, (hc1 _ _ (by omega)).trans k1, (hc1 _ _ (by omega)).trans k2, Nat.lt_of_lt_of_le hz hb1.size, hb.trans (hb1.mono (by omega))⟩
          by_cases e : y = j
          · subst e; rw [HX.out]; exact hm.out
          · exact hno'.out y hy (by omega)
        case measure => simp [intOf]; omega
    · go_wp2
      go_ret2
      rw [getC_miss (idx_miss (fun x hx => hno x hx (by omega)))]
      exact ⟨rfl, hb⟩
end Go.Proofs.YtoihkbanmnagkaaGreat
/-
  A table of buckets in memory: its struct, its row of buckets, its stash; what is kept of it while others are written, and what it is where one of its buckets is written. No condition but those that stand in each.
-/
set_option linter.unusedSimpArgs false
set_option linter.unusedVariables false
namespace Go.Proofs.YtoihkbanmnagkaaGreat
open Go.RowKit Go.Sort M

structure BK (K : World → Nat → Nat → List Pl → Prop) : Prop where
  lt : ∀ {w g o C}, K w g o C → g < w.heap.size
  turn : ∀ {w w' g o o' n C}, K w g o C → Turn w w' g o' n → (o + 20 ≤ o' ∨ o' + n ≤ o) → K w' g o C
  block : ∀ {w w' g o C}, K w g o C → w.heap.size ≤ w'.heap.size → w'.heap[g]? = w.heap[g]? → K w' g o C
theorem bk_bkt : BK Bkt where
  lt := Bkt.lt
  turn := fun H h hne => H.kept h (.inr hne)
  block := fun {w w' g o C} H hs hb => by
    have hc : ∀ x, w'.cell? ⟨g, x, none⟩ = w.cell? ⟨g, x, none⟩ ∧ w'.frozen? ⟨g, x, none⟩ = w.frozen? ⟨g, x, none⟩ := fun x => ⟨World.cell?_of_block (a := ⟨g, x, none⟩) hb, World.frozen?_of_block (a := ⟨g, x, none⟩) hb⟩
    exact ⟨H.four, Nat.lt_of_lt_of_le H.lt hs, fun i hi j u hu => (hc _).1.trans (H.cell i hi j u hu), fun j hj => (hc _).2.trans (H.free j hj)⟩
theorem bk_rbk : BK RBk where
  lt := RBk.lt
  turn := fun H h hne => H.apart h (.inr hne)
  block := fun {w w' g o C} H hs hb => H.kept hs fun x _ => ⟨World.cell?_of_block (a := ⟨g, o + x, none⟩) hb, World.frozen?_of_block (a := ⟨g, o + x, none⟩) hb⟩
def Blk (t g : Nat) (v : Value) (k : Nat) : Prop := k = t ∨ k = g ∨ v.ownBlock = some k
structure Tb (K : World → Nat → Nat → List Pl → Prop) (w : World) (t g : Nat) (v : Value) (T : Tab) : Prop where
  bk : ∀ i, i < T.B.length → K w g (i * 20) (T.bk i)
  blt : g < w.heap.size
  tlt : t < w.heap.size
  c0 : w.cell? ⟨t, 0, none⟩ = some (.int .u64 (T.s : Int))
  c1 : w.cell? ⟨t, 1, none⟩ = some (.slice (some ⟨g, 0, none⟩) T.B.length T.B.length)
  c2 : w.cell? ⟨t, 2, none⟩ = some v
  f : ∀ j, w.frozen? ⟨t, j, none⟩ = false
  own : w.ownsRow 0 58 4 v T.st.length (rcs T.st)
  tg : t ≠ g
  tv : v.ownBlock ≠ some t
  gv : v.ownBlock ≠ some g
section
variable {K : World → Nat → Nat → List Pl → Prop} {w w' : World} {t g : Nat} {v : Value} {T : Tab}
theorem Tb.blk (H : Tb K w t g v T) : ∀ k, Blk t g v k → k < w.heap.size := by
  intro k h
  rcases h with rfl | rfl | h
  · exact H.tlt
  · exact H.blt
  · exact (H.own.lt k h).2
theorem own_block {w w' : World} {B n k : Nat} {e : TypeId} {v : Value} {xs : List Value} (h : w.ownsRow B e k v n xs) (hb : ∀ j, v.ownBlock = some j → w'.heap[j]? = w.heap[j]?) : w'.ownsRow B e k v n xs := by
  refine ⟨h.1, ?_⟩
  rcases h.2 with hx | ⟨g, cap, cur, rfl, hb2, hgg, rest⟩
  · exact .inl hx
  · exact .inr ⟨g, cap, cur, rfl, hb2, (hb g rfl).trans hgg, rest⟩
theorem Tb.blocks (hK : BK K) (H : Tb K w t g v T) (hs : w.heap.size ≤ w'.heap.size) (hb : ∀ k, Blk t g v k → w'.heap[k]? = w.heap[k]?) : Tb K w' t g v T := by
  have ht := hb t (.inl rfl)
  have hg := hb g (.inr (.inl rfl))
  exact ⟨fun i hi => hK.block (H.bk i hi) hs hg, Nat.lt_of_lt_of_le H.blt hs, Nat.lt_of_lt_of_le H.tlt hs, (World.cell?_of_block (a := ⟨t, 0, none⟩) ht).trans H.c0, (World.cell?_of_block (a := ⟨t, 1, none⟩) ht).trans H.c1,
    (World.cell?_of_block (a := ⟨t, 2, none⟩) ht).trans H.c2, fun j => (World.frozen?_of_block (a := ⟨t, j, none⟩) ht).trans (H.f j), own_block H.own (fun j e => hb j (.inr (.inr e))), H.tg, H.tv, H.gv⟩
theorem Tb.below (hK : BK K) (H : Tb K w t g v T) (hb : Below w.heap.size w w') : Tb K w' t g v T := H.blocks hK hb.size fun k hk => hb.block k (H.blk k hk)
theorem Tb.touched (hK : BK K) (H : Tb K w t g v T) {S : Nat → Prop} (ht : Touch S w w') (hn : ∀ k, Blk t g v k → ¬ S k) : Tb K w' t g v T := H.blocks hK ht.size fun k hk => ht.block k (H.blk k hk) (hn k hk)
theorem Turn.touch {o n : Nat} {S : Nat → Prop} (h : Turn w w' g o n) (hS : S g) : Touch S w w' := Touch.of_grown h.grown fun k e => by injection e with e; exact e ▸ hS
theorem Tb.turn (hK : BK K) (H : Tb K w t g v T) {i : Nat} (hi : i < T.B.length) {C : List Pl} (h : Turn w w' g (i * 20) 20) (hC : K w' g (i * 20) C) : Tb K w' t g v (T.set i C) ∧ Touch (Blk t g v) w w' := by
  have ht : w'.heap[t]? = w.heap[t]? := h.grown.block t H.tlt (by intro e; injection e with e; exact H.tg e)
  refine ⟨⟨fun k hk => ?_, Nat.lt_of_lt_of_le H.blt h.grown.size, Nat.lt_of_lt_of_le H.tlt h.grown.size, (World.cell?_of_block (a := ⟨t, 0, none⟩) ht).trans H.c0, ?_, (World.cell?_of_block (a := ⟨t, 2, none⟩) ht).trans H.c2,
    fun j => (World.frozen?_of_block (a := ⟨t, j, none⟩) ht).trans (H.f j), own_block H.own (fun j e => h.grown.block j (H.own.lt j e).2 (fun e2 => H.gv (e.trans e2))), H.tg, H.tv, H.gv⟩, h.touch (.inr (.inl rfl))⟩
  · rw [set_len] at hk
    rw [bk_set T i hi]
    split
    · rename_i e; subst e; exact hC
    · rename_i e
      exact hK.turn (H.bk k hk) h (by omega)
  · rw [set_len]
    exact (World.cell?_of_block (a := ⟨t, 1, none⟩) ht).trans H.c1
end
structure CT (w : World) (t g : Nat) (v : Value) (T : Tab) (m : Int) : Prop where
  tb : Tb Bkt w t g v T
  c3 : w.cell? ⟨t, 3, none⟩ = some (.int .i64 m)
section
variable {w w' : World} {t g : Nat} {v : Value} {T : Tab} {m : Int}
theorem CT.blocks (H : CT w t g v T m) (hs : w.heap.size ≤ w'.heap.size) (hb : ∀ k, Blk t g v k → w'.heap[k]? = w.heap[k]?) : CT w' t g v T m :=
  ⟨H.tb.blocks bk_bkt hs hb, (World.cell?_of_block (a := ⟨t, 3, none⟩) (hb t (.inl rfl))).trans H.c3⟩
theorem CT.below (H : CT w t g v T m) (hb : Below w.heap.size w w') : CT w' t g v T m := H.blocks hb.size fun k hk => hb.block k (H.tb.blk k hk)
theorem CT.touched (H : CT w t g v T m) {S : Nat → Prop} (ht : Touch S w w') (hn : ∀ k, Blk t g v k → ¬ S k) : CT w' t g v T m := H.blocks ht.size fun k hk => ht.block k (H.tb.blk k hk) (hn k hk)
theorem CT.turn (H : CT w t g v T m) {i : Nat} (hi : i < T.B.length) {C : List Pl} (h : Turn w w' g (i * 20) 20) (hC : Bkt w' g (i * 20) C) : CT w' t g v (T.set i C) m ∧ Touch (Blk t g v) w w' := by
  have ht : w'.heap[t]? = w.heap[t]? := h.grown.block t H.tb.tlt (by intro e; injection e with e; exact H.tb.tg e)
  have := H.tb.turn bk_bkt hi h hC
  exact ⟨⟨this.1, (World.cell?_of_block (a := ⟨t, 3, none⟩) ht).trans H.c3⟩, this.2⟩
end
def CStep (w w' : World) (t g : Nat) (v : Value) (T' : Tab) (m' : Int) : Prop := ∃ g' v', CT w' t g' v' T' m' ∧ Touch (Blk t g v) w w' ∧ ∀ k, Blk t g' v' k → k < w.heap.size → Blk t g v k
def RStep (w w' : World) (t g : Nat) (v : Value) (T' : Tab) : Prop := ∃ g' v', Tb RBk w' t g' v' T' ∧ Touch (Blk t g v) w w' ∧ ∀ k, Blk t g' v' k → k < w.heap.size → Blk t g v k
theorem Touch.then {a b c : World} {t g g' : Nat} {v v' : Value} (h : Touch (Blk t g v) a b) (hs : ∀ k, Blk t g' v' k → k < a.heap.size → Blk t g v k) (k : Touch (Blk t g' v') b c) : Touch (Blk t g v) a c :=
  ⟨k.os.trans h.os, k.tape.trans h.tape, k.output.trans h.output, Nat.le_trans h.size k.size, fun i hi hn => (k.block i (Nat.lt_of_lt_of_le hi h.size) (fun x => hn (hs i x hi))).trans (h.block i hi hn)⟩
theorem CStep.trans {a b c : World} {t g g' : Nat} {v v' : Value} {T' : Tab} {m' : Int} (h : Touch (Blk t g v) a b) (hs : ∀ k, Blk t g' v' k → k < a.heap.size → Blk t g v k) (k : CStep b c t g' v' T' m') : CStep a c t g v T' m' := by
  obtain ⟨g2, v2, h1, h2, h3⟩ := k
  exact ⟨g2, v2, h1, h.then hs h2, fun k hk hl => hs k (h3 k hk (Nat.lt_of_lt_of_le hl h.size)) hl⟩
theorem RStep.trans {a b c : World} {t g g' : Nat} {v v' : Value} {T' : Tab} (h : Touch (Blk t g v) a b) (hs : ∀ k, Blk t g' v' k → k < a.heap.size → Blk t g v k) (k : RStep b c t g' v' T') : RStep a c t g v T' := by
  obtain ⟨g2, v2, h1, h2, h3⟩ := k
  exact ⟨g2, v2, h1, h.then hs h2, fun k hk hl => hs k (h3 k hk (Nat.lt_of_lt_of_le hl h.size)) hl⟩
theorem CStep.quiet {a b : World} {t g : Nat} {v : Value} {T : Tab} {m : Int} (H : CT a t g v T m) (h : Below a.heap.size a b) : CStep a b t g v T m := ⟨g, v, H.below h, Touch.quiet h, fun _ h _ => h⟩
theorem RStep.quiet {a b : World} {t g : Nat} {v : Value} {T : Tab} (H : Tb RBk a t g v T) (h : Below a.heap.size a b) : RStep a b t g v T := ⟨g, v, H.below bk_rbk h, Touch.quiet h, fun _ h _ => h⟩
theorem CStep.same {a b : World} {t g : Nat} {v : Value} {T : Tab} {m : Int} (H : CT b t g v T m) (h : Touch (Blk t g v) a b) : CStep a b t g v T m := ⟨g, v, H, h, fun _ h _ => h⟩
theorem RStep.same {a b : World} {t g : Nat} {v : Value} {T : Tab} (H : Tb RBk b t g v T) (h : Touch (Blk t g v) a b) : RStep a b t g v T := ⟨g, v, H, h, fun _ h _ => h⟩
end Go.Proofs.YtoihkbanmnagkaaGreat
/-
  copy between rows of elements of several cells, where the block that is written is known whole: its run, and as a step of a walk. No condition on the program.
-/
set_option linter.unusedSimpArgs false
set_option linter.unusedVariables false
namespace Go.Proofs.YtoihkbanmnagkaaGreat
open Go Go.RowKit Go.Sort

section
variable {P : Program}
theorem run_copy_k (w : World) (dT sT ty elem : TypeId) (i0 : TypeInfo) (hu : P.underlying dT = some (.slice elem)) (hi : P.info? elem = some i0) (k : Nat) (hk : i0.size = k) (g o dLen dCap : Nat) (a : Addr) (sLen sCap : Nat) (cur : Array Value) (t : TypeId) (cs : List Value)
    (m : Nat) (hm : Nat.min sLen dLen = m) (hn : cs.length = m * k) (hg : w.heap[g]? = some (.cells cur t (0, 0))) (hsrc : ∀ j v, cs[j]? = some v → w.cell? (a.add j) = some v) (hfit : o + cs.length ≤ cur.size) (h1 : ∀ v ∈ cs, v.oneCell' = true) :
    (Builtin.copy_ #[dT, sT] ty #[.slice (some ⟨g, o, none⟩) dLen dCap, .slice (some a) sLen sCap]).run P w = .ok (goInt m) (w.setRow g (splice cur.toList o cs).toArray) := by
  have hl := run_firstCells_some (P := P) w k m a sLen sCap cs hn hsrc
  have hst := run_storeCells_at P g o t cs 0 cur w hg (by simpa using hfit) h1
  simp [Builtin.copy_, run_underlying hu, Builtin.lenOf, sizeOf, typeInfo, hi, hk, hm, hl, hst, splice]
theorem grown_setRow (w : World) (g : Nat) (cs : Array Value) : w.grownBy (w.setRow g cs) (some g) :=
  ⟨rfl, rfl, rfl, by simp [World.setRow], fun k _ hk => setRow_other w g k cs (fun e => hk (by rw [e]))⟩
theorem wp_copy_rt {o : Oper} {a : Act} {w : World} {K : Act → World → Prop} {Q : Exit → Act → World → Prop} (d s : Operand) (dT sT : TypeId)
    (ho : o.op = .call { callee := .builtin .copy, args := #[d, s], argTypes := #[dT, sT] }) (elem : TypeId) (i0 : TypeInfo) (hu : P.underlying dT = some (.slice elem)) (hi : P.info? elem = some i0) (k : Nat) (hk : i0.size = k)
    (g off dLen dCap : Nat) (ad : Addr) (sLen sCap : Nat) (hd : a.eval d = .slice (some ⟨g, off, none⟩) dLen dCap) (hs : a.eval s = .slice (some ad) sLen sCap)
    (cur : Array Value) (t : TypeId) (hg : w.heap[g]? = some (.cells cur t (0, 0))) (cs : List Value) (m : Nat) (hm : Nat.min sLen dLen = m) (hn : cs.length = m * k)
    (hsrc : ∀ j v, cs[j]? = some v → w.cell? (ad.add j) = some v) (hfit : off + cs.length ≤ cur.size) (h1 : ∀ v ∈ cs, v.oneCell' = true)
    (h : ∀ w', Hid (w'.heap[g]? = some (.cells (splice cur.toList off cs).toArray t (0, 0))) → w.grownBy w' (some g) → K (a.put o.dst (goInt m)) w') : o.wp P a w K Q := by
  have hr := run_copy_k (P := P) w dT sT o.type elem i0 hu hi k hk g off dLen dCap ad sLen sCap cur t cs m hm hn hg hsrc hfit h1
  unfold Oper.wp execOp
  simp only [ho, resolve, invoke, builtin, Sem.run_bind, Sem.run_pure, Result.andThen_ok, List.map_toArray, List.map_cons, List.map_nil, hd, hs, hr]
  exact h _ (show _ = _ from setRow_heap w g cur _ t _ hg) (grown_setRow w g _)
theorem wpList_copy_rt {ops : Array Oper} {rest : List Oper} {o : Oper} {a : Act} {w : World} {Q : Exit → Act → World → Prop} (hgd : o.guard = none) (d s : Operand) (dT sT : TypeId)
    (ho : o.op = .call { callee := .builtin .copy, args := #[d, s], argTypes := #[dT, sT] }) (elem : TypeId) (i0 : TypeInfo) (hu : P.underlying dT = some (.slice elem)) (hi : P.info? elem = some i0) (k : Nat) (hk : i0.size = k)
    (g off dLen dCap : Nat) (ad : Addr) (sLen sCap : Nat) (hd : a.eval d = .slice (some ⟨g, off, none⟩) dLen dCap) (hs : a.eval s = .slice (some ad) sLen sCap)
    (cur : Array Value) (t : TypeId) (hg : w.heap[g]? = some (.cells cur t (0, 0))) (cs : List Value) (m : Nat) (hm : Nat.min sLen dLen = m) (hn : cs.length = m * k)
    (hsrc : ∀ j v, cs[j]? = some v → w.cell? (ad.add j) = some v) (hfit : off + cs.length ≤ cur.size) (h1 : ∀ v ∈ cs, v.oneCell' = true)
    (h : ∀ w', Hid (w'.heap[g]? = some (.cells (splice cur.toList off cs).toArray t (0, 0))) → w.grownBy w' (some g) → wpList P ops Q rest (a.put o.dst (goInt m)) w') : wpList P ops Q (o :: rest) a w :=
  wpList_plain hgd fun _ hK => wp_copy_rt d s dT sT ho elem i0 hu hi k hk g off dLen dCap ad sLen sCap hd hs cur t hg cs m hm hn hsrc hfit h1 fun w' h2 h3 => hK _ _ (h w' h2 h3)
theorem step_copy_rt {ops : Array Oper} {o : Oper} {a : Act} {w : World} {K : Act → World → Prop} {Q : Exit → Act → World → Prop} {E : Prop} (hgd : o.guard = none) (d s : Operand) (dT sT : TypeId)
    (ho : o.op = .call { callee := .builtin .copy, args := #[d, s], argTypes := #[dT, sT] }) (elem : TypeId) (i0 : TypeInfo) (hu : P.underlying dT = some (.slice elem)) (hi : P.info? elem = some i0) (k : Nat) (hk : i0.size = k)
    (g off dLen dCap : Nat) (ad : Addr) (sLen sCap : Nat) (hd : a.eval d = .slice (some ⟨g, off, none⟩) dLen dCap) (hs : a.eval s = .slice (some ad) sLen sCap)
    (cur : Array Value) (t : TypeId) (hg : w.heap[g]? = some (.cells cur t (0, 0))) (cs : List Value) (m : Nat) (hm : Nat.min sLen dLen = m) (hn : cs.length = m * k)
    (hsrc : ∀ j v, cs[j]? = some v → w.cell? (ad.add j) = some v) (hfit : off + cs.length ≤ cur.size) (h1 : ∀ v ∈ cs, v.oneCell' = true)
    (h : ∀ w', Hid (w'.heap[g]? = some (.cells (splice cur.toList off cs).toArray t (0, 0))) → w.grownBy w' (some g) → K (a.put o.dst (goInt m)) w') :
    if Region.wanted o (yielded ops a.tmps) = true then Oper.wp P o a w K Q else E := by
  have hw : Region.wanted o (yielded ops a.tmps) = true := by simp [Region.wanted, hgd]
  rw [if_pos hw]
  exact wp_copy_rt d s dT sT ho elem i0 hu hi k hk g off dLen dCap ad sLen sCap hd hs cur t hg cs m hm hn hsrc hfit h1 h
end
theorem own_whole {w : World} {B n k : Nat} {e : TypeId} {v : Value} {xs : List Value} (h : w.ownsRow B e k v n xs) (hn : 0 < n) :
    ∃ g cap cur, v = .slice (some ⟨g, 0, none⟩) n cap ∧ B ≤ g ∧ g < w.heap.size ∧ w.heap[g]? = some (.cells cur e (0, 0)) ∧ n ≤ cap ∧ cap ≤ maxLen ∧ cur.size = cap * k ∧ cur.toList.take (n * k) = xs := by
  rcases h.2 with ⟨-, h0⟩ | ⟨g, cap, cur, rfl, hB, hg, h1, h2, h3, h4⟩
  · omega
  · exact ⟨g, cap, cur, rfl, hB, (Array.getElem?_eq_some_iff.1 hg).1, hg, h1, h2, h3, h4⟩
theorem own_made {w : World} {B n k g cap : Nat} {e : TypeId} {cur : Array Value} {xs : List Value} (hB : B ≤ g) (hg : w.heap[g]? = some (.cells cur e (0, 0))) (h1 : n ≤ cap) (h2 : cap ≤ maxLen) (h3 : cur.size = cap * k) (h4 : cur.toList.take (n * k) = xs) :
    w.ownsRow B e k (.slice (some ⟨g, 0, none⟩) n cap) n xs :=
  ⟨by rw [← h4, List.length_take, Array.length_toList, h3]; exact Nat.min_eq_left (Nat.mul_le_mul_right _ h1), .inr ⟨g, cap, cur, rfl, hB, hg, h1, h2, h3, h4⟩⟩
theorem rcs_take (L : List Rt) (i : Nat) : (rcs L).take (i * 4) = rcs (L.take i) := by
  by_cases h : i ≤ L.length
  · have e : rcs L = rcs (L.take i) ++ rcs (L.drop i) := by rw [← rcs_append, List.take_append_drop]
    rw [e, List.take_append_of_le_length (by rw [rcs_len, List.length_take]; omega), List.take_of_length_le (by rw [rcs_len, List.length_take]; omega)]
  · rw [List.take_of_length_le (by rw [rcs_len]; omega), List.take_of_length_le (by omega)]
theorem rcs_drop (L : List Rt) (i : Nat) : (rcs L).drop (i * 4) = rcs (L.drop i) := by
  by_cases h : i ≤ L.length
  · have e : rcs L = rcs (L.take i) ++ rcs (L.drop i) := by rw [← rcs_append, List.take_append_drop]
    rw [e, List.drop_append, List.drop_eq_nil_of_le (by rw [rcs_len, List.length_take]; omega), rcs_len, List.length_take, Nat.min_eq_left h, Nat.sub_self]
    simp
  · rw [List.drop_eq_nil_of_le (by rw [rcs_len]; omega), List.drop_eq_nil_of_le (by omega)]
    rfl
theorem cells_at {w : World} {g : Nat} {cur : Array Value} {t : TypeId} (hg : w.heap[g]? = some (.cells cur t (0, 0))) (o : Nat) (cs : List Value) (h : (cur.toList.drop o).take cs.length = cs) : ∀ j u, cs[j]? = some u → w.cell? ((⟨g, o, none⟩ : Addr).add j) = some u := by
  intro j u hu
  have hlt := (List.getElem?_eq_some_iff.1 hu).1
  rw [show (⟨g, o, none⟩ : Addr).add j = ⟨g, o + j, none⟩ by unfold Addr.add; split <;> simp_all]
  rw [cell_of_row w g (o + j) cur t (0, 0) hg]
  rw [← h, List.getElem?_take, if_pos hlt, List.getElem?_drop] at hu
  simpa using hu
theorem splice_take {α : Type} (L : List α) (o n : Nat) (cs : List α) (h : n ≤ o) (ho : o ≤ L.length) : (splice L o cs).take n = L.take n := by
  unfold splice
  rw [List.take_append_of_le_length (by rw [List.length_take]; omega), List.take_take, Nat.min_eq_left h]
theorem splice_in {α : Type} (cur X1 Y X2 : List α) (a b c : Nat) (ha : X1.length = a) (hb : Y.length = b) (hc : X2.length = c) (h : cur.take (a + c) = X1 ++ X2) (hl : a + b + c ≤ cur.length) :
    (splice (splice cur (a + b) X2) a Y).take (a + b + c) = X1 ++ Y ++ X2 := by
  subst ha hb hc
  obtain ⟨Z, rfl⟩ : ∃ Z, cur = X1 ++ X2 ++ Z := ⟨cur.drop (X1.length + X2.length), by rw [← h, List.take_append_drop]⟩
  unfold splice
  have e1 : (X1 ++ X2 ++ Z).take (X1.length + Y.length) ++ (X2 ++ (X1 ++ X2 ++ Z).drop (X1.length + Y.length + X2.length)) = X1 ++ ((X2 ++ Z).take Y.length ++ (X2 ++ (X1 ++ X2 ++ Z).drop (X1.length + Y.length + X2.length))) := by
    rw [List.append_assoc X1, List.take_length_add_append, List.append_assoc]
  rw [e1, List.take_left' rfl, List.drop_length_add_append]
  have hlen : Y.length ≤ (X2 ++ Z).length := by simp at hl ⊢; omega
  rw [List.drop_append, List.drop_eq_nil_of_le (by rw [List.length_take]; omega), List.length_take, Nat.min_eq_left hlen, Nat.sub_self, List.drop_zero, List.nil_append]
  rw [← List.append_assoc, ← List.append_assoc]
  exact List.take_left' (by simp; omega)
theorem splice_new {α : Type} (X1 Z Y X2 : List α) (a b c : Nat) (ha : X1.length = a) (hb : Y.length = b) (hc : X2.length = c) (hl : b + c ≤ Z.length) : (splice (splice (X1 ++ Z) a Y) (a + b) X2).take (a + b + c) = X1 ++ Y ++ X2 := by
  subst ha hb hc
  have e1 : splice (X1 ++ Z) X1.length Y = X1 ++ Y ++ Z.drop Y.length := by
    unfold splice
    rw [List.take_left, List.drop_length_add_append, List.append_assoc]
  rw [e1]
  unfold splice
  rw [List.take_left' (l₁ := X1 ++ Y) (by simp), ← List.append_assoc (X1 ++ Y)]
  exact List.take_left' (by simp; omega)
end Go.Proofs.YtoihkbanmnagkaaGreat
