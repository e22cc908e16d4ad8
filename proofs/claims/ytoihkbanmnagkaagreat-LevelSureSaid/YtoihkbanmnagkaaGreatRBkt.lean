/-
  The reference's bucket in memory: twenty cells of a block, from an offset on: four routes, and which of them are there; what its calls hand back, and what it is then. No condition but that its cells lie in memory.
-/
import Derived.Test.YtoihkbanmnagkaaGreatOwn
import Derived.Test.YtoihkbanmnagkaaGreatRow
import Derived.Handy
import Derived.Test.YtoihkbanmnagkaaGreatM12b
import Derived.Deep.MidRow
/-
  A bucket in memory: twenty cells of a block, from an offset on; what is kept of them while others are written. No condition but those that stand in each.
-/
set_option linter.unusedSimpArgs false
set_option linter.unusedVariables false
namespace Go.Proofs.YtoihkbanmnagkaaGreat
open Go.RowKit Go.Sort M

/-- A key as a value. -/
def kyV (k : Ky) : Value := .agg #[.int .u64 (k.h : Int), .int .u64 (k.l : Int), .int .i64 k.n]
/-- The cells of a place. -/
def x5 (x : Pl) : List Value := [.int .u64 (xh x : Int), .int .u64 (xl x : Int), .int .i64 (xn x), .int .i64 (xv x), .bool x.isSome]
/-- A bucket at offset o of block g. -/
structure Bkt (w : World) (g o : Nat) (C : List Pl) : Prop where
  four : C.length = 4
  lt : g < w.heap.size
  cell : ∀ (i : Nat) (hi : i < C.length) (j : Nat) (u : Value), (x5 C[i])[j]? = some u → w.cell? ⟨g, o + i * 5 + j, none⟩ = some u
  free : ∀ j, j < 20 → w.frozen? ⟨g, o + j, none⟩ = false
/-- What is written: nothing but n cells of block g, from offset o on. -/
structure Turn (w w' : World) (g o n : Nat) : Prop where
  grown : w.grownBy w' (some g)
  cell : ∀ x, x < o ∨ o + n ≤ x → w'.cell? ⟨g, x, none⟩ = w.cell? ⟨g, x, none⟩
  frozen : ∀ x, w'.frozen? ⟨g, x, none⟩ = w.frozen? ⟨g, x, none⟩
theorem Turn.of_below {w w' : World} {g o n : Nat} (hg : g < w.heap.size) (hb : Below w.heap.size w w') : Turn w w' g o n :=
  ⟨⟨hb.os, hb.tape, hb.output, hb.size, fun k hk _ => hb.block k hk⟩, fun x _ => hb.cell (p := ⟨g, x, none⟩) hg, fun x => hb.frozen (p := ⟨g, x, none⟩) hg⟩
theorem Turn.trans {a b c : World} {g o n : Nat} (h : Turn a b g o n) (k : Turn b c g o n) : Turn a c g o n :=
  ⟨h.grown.trans k.grown, fun x hx => (k.cell x hx).trans (h.cell x hx), fun x => (k.frozen x).trans (h.frozen x)⟩
theorem Bkt.below {w w' : World} {g o : Nat} {C : List Pl} (H : Bkt w g o C) (hb : Below w.heap.size w w') : Bkt w' g o C :=
  ⟨H.four, Nat.lt_of_lt_of_le H.lt hb.size, fun i hi j u hu => (hb.cell (p := ⟨g, o + i * 5 + j, none⟩) H.lt).trans (H.cell i hi j u hu), fun j hj => (hb.frozen (p := ⟨g, o + j, none⟩) H.lt).trans (H.free j hj)⟩
/-- A bucket's own cells are not written. -/
theorem Bkt.kept {w w' : World} {g o g' o' n : Nat} {C : List Pl} (H : Bkt w g o C) (h : Turn w w' g' o' n) (hne : g ≠ g' ∨ o + 20 ≤ o' ∨ o' + n ≤ o) : Bkt w' g o C := by
  have hc : ∀ x, x < 20 → w'.cell? ⟨g, o + x, none⟩ = w.cell? ⟨g, o + x, none⟩ ∧ w'.frozen? ⟨g, o + x, none⟩ = w.frozen? ⟨g, o + x, none⟩ := by
    intro x hx
    by_cases e : g = g'
    · subst e
      exact ⟨h.cell _ (by omega), h.frozen _⟩
    · have hb := h.grown.block g H.lt (by simpa using e)
      exact ⟨World.cell?_of_block hb, by unfold World.frozen?; rw [hb]⟩
  have h4 := H.four
  refine ⟨H.four, Nat.lt_of_lt_of_le H.lt h.grown.size, fun i hi j u hu => ?_, fun j hj => (hc j hj).2.trans (H.free j hj)⟩
  have hj : j < 5 := (List.getElem?_eq_some_iff.1 hu).1
  rw [Nat.add_assoc, (hc (i * 5 + j) (by omega)).1, ← Nat.add_assoc]
  exact H.cell i hi j u hu
theorem Bkt.at {w : World} {g o : Nat} {C : List Pl} (H : Bkt w g o C) (i : Nat) (hi : i < C.length) :
    w.cell? ⟨g, o + i * 5, none⟩ = some (.int .u64 (xh C[i] : Int)) ∧ w.cell? ⟨g, o + i * 5 + 1, none⟩ = some (.int .u64 (xl C[i] : Int)) ∧ w.cell? ⟨g, o + i * 5 + 2, none⟩ = some (.int .i64 (xn C[i])) ∧ w.cell? ⟨g, o + i * 5 + 3, none⟩ = some (.int .i64 (xv C[i])) ∧ w.cell? ⟨g, o + i * 5 + 4, none⟩ = some (.bool C[i].isSome) :=
  ⟨H.cell i hi 0 _ rfl, H.cell i hi 1 _ rfl, H.cell i hi 2 _ rfl, H.cell i hi 3 _ rfl, H.cell i hi 4 _ rfl⟩
theorem turn_one (w : World) (g o n x : Nat) (u : Value) (h1 : o ≤ x) (h2 : x < o + n) : Turn w (w.setCell ⟨g, x, none⟩ u) g o n := by
  refine ⟨⟨rfl, rfl, rfl, by rw [World.size_setCell]; exact Nat.le_refl _, fun k hk hn => Below.heap_setCell w ⟨g, x, none⟩ u k (by simpa using hn)⟩, fun y hy => ?_, fun y => ?_⟩
  · rw [World.cell?_setCell_other]
    intro e
    injection e with e1 e2
    omega
  · rw [World.frozen?_setCell]
theorem Turn.mono {w w' : World} {g o n o' n' : Nat} (h : Turn w w' g o n) (h1 : o' ≤ o) (h2 : o + n ≤ o' + n') : Turn w w' g o' n' := ⟨h.grown, fun x hx => h.cell x (by omega), h.frozen⟩
/-- The five cells of a place are written. -/
def put5 (w : World) (g p : Nat) (x : Pl) : World :=
  ((((w.setCell ⟨g, p, none⟩ (.int .u64 (xh x : Int))).setCell ⟨g, p + 1, none⟩ (.int .u64 (xl x : Int))).setCell ⟨g, p + 2, none⟩ (.int .i64 (xn x))).setCell ⟨g, p + 3, none⟩ (.int .i64 (xv x))).setCell ⟨g, p + 4, none⟩ (.bool x.isSome)
theorem turn_put5 (w : World) (g p : Nat) (x : Pl) : Turn w (put5 w g p x) g p 5 :=
  ((((turn_one w g p 5 p _ (by omega) (by omega)).trans (turn_one _ g p 5 (p + 1) _ (by omega) (by omega))).trans (turn_one _ g p 5 (p + 2) _ (by omega) (by omega))).trans (turn_one _ g p 5 (p + 3) _ (by omega) (by omega))).trans
    (turn_one _ g p 5 (p + 4) _ (by omega) (by omega))
theorem put5_cell {w : World} {g p : Nat} (x : Pl) (hc : ∀ j, j < 5 → (w.cell? ⟨g, p + j, none⟩).isSome = true) (j : Nat) (u : Value) (hu : (x5 x)[j]? = some u) : (put5 w g p x).cell? ⟨g, p + j, none⟩ = some u := by
  have h0 := hc 0 (by omega)
  have h1 := hc 1 (by omega)
  have h2 := hc 2 (by omega)
  have h3 := hc 3 (by omega)
  have h4 := hc 4 (by omega)
  rw [Nat.add_zero] at h0
  have hj : j < 5 := (List.getElem?_eq_some_iff.1 hu).1
  unfold put5
  rcases (show j = 0 ∨ j = 1 ∨ j = 2 ∨ j = 3 ∨ j = 4 by omega) with rfl | rfl | rfl | rfl | rfl <;> (simp only [x5, List.getElem?_cons_zero, List.getElem?_cons_succ, Option.some.injEq] at hu; subst hu; simp [go_sem, h0, h1, h2, h3, h4])
theorem Bkt.put {w : World} {g o : Nat} {C : List Pl} (H : Bkt w g o C) (i : Nat) (hi : i < C.length) (x : Pl) : Bkt (put5 w g (o + i * 5) x) g o (C.set i x) ∧ Turn w (put5 w g (o + i * 5) x) g o 20 := by
  have h4 := H.four
  have ht := turn_put5 w g (o + i * 5) x
  refine ⟨⟨by simpa using h4, Nat.lt_of_lt_of_le H.lt ht.grown.size, fun k hk j u hu => ?_, fun j hj => (ht.frozen _).trans (H.free j hj)⟩, ht.mono (by omega) (by omega)⟩
  rw [List.length_set] at hk
  have hj : j < 5 := (List.getElem?_eq_some_iff.1 hu).1
  by_cases e : i = k
  · subst e
    rw [List.getElem_set_self] at hu
    exact put5_cell x (fun j hj => by rw [H.cell i hi j _ (List.getElem?_eq_getElem (by simpa [x5] using hj))]; rfl) j u hu
  · rw [List.getElem_set_ne e] at hu
    rw [ht.cell _ (by omega)]
    exact H.cell k hk j u hu
theorem Bkt.drew {w : World} {g o : Nat} {C : List Pl} (H : Bkt w g o C) : Bkt w.drew g o C := H.below (by go_grown)
theorem Turn.drew {w w' : World} {g o n : Nat} (h : Turn w w' g o n) (hl : g < w.heap.size) : Turn w w'.drew g o n := h.trans (Turn.of_below (Nat.lt_of_lt_of_le hl h.grown.size) (by go_grown))
/-- A place is written: behind it, and behind the order that was drawn. -/
theorem Bkt.put_drew {w w1 : World} {g o : Nat} {C : List Pl} (H : Bkt w g o C) (hb : Below w.heap.size w w1) (i : Nat) (hi : i < C.length) (x : Pl) :
    Bkt (put5 w1 g (o + i * 5) x).drew g o (C.set i x) ∧ Turn w (put5 w1 g (o + i * 5) x).drew g o 20 := by
  have hP := (H.below hb).put i hi x
  exact ⟨hP.1.drew, ((Turn.of_below H.lt hb).trans hP.2).drew H.lt⟩
/-- A write to a block that was not there. -/
theorem Turn.fresh {w w1 : World} {g o n : Nat} (h : Turn w w1 g o n) (hl : g < w.heap.size) (b x : Nat) (u : Value) (hb : w.heap.size ≤ b) : Turn w (w1.setCell ⟨b, x, none⟩ u) g o n := by
  refine ⟨⟨h.grown.os, h.grown.tape, h.grown.output, by rw [World.size_setCell]; exact h.grown.size, fun k hk hn => (Below.heap_setCell w1 ⟨b, x, none⟩ u k (by simp; omega)).trans (h.grown.block k hk hn)⟩, fun y hy => ?_, fun y => ?_⟩
  · rw [World.cell?_setCell_other]
    · exact h.cell y hy
    · intro e
      injection e with e1 e2
      omega
  · rw [World.frozen?_setCell]
    exact h.frozen y
theorem Bkt.fresh {w1 : World} {g o : Nat} {C : List Pl} (H : Bkt w1 g o C) (b x : Nat) (u : Value) (hb : g ≠ b) : Bkt (w1.setCell ⟨b, x, none⟩ u) g o C := H.kept (turn_one w1 b x 1 x u (Nat.le_refl _) (by omega)) (.inl hb)
/-- Another block is as it was. -/
theorem Turn.far {w w' : World} {g o n b : Nat} (h : Turn w w' g o n) (hb : b < w.heap.size) (hne : b ≠ g) (x : Nat) : w'.cell? ⟨b, x, none⟩ = w.cell? ⟨b, x, none⟩ ∧ w'.frozen? ⟨b, x, none⟩ = w.frozen? ⟨b, x, none⟩ := by
  have hB := h.grown.block b hb (by simpa using hne)
  exact ⟨World.cell?_of_block hB, by unfold World.frozen?; rw [hB]⟩
end Go.Proofs.YtoihkbanmnagkaaGreat
/-
  What the calls of a bucket hand back, and what they leave in memory: the first place of a key, the first empty one. No condition but that the bucket's cells lie in memory, and that words are words of 64 bits.
-/
set_option linter.unusedSimpArgs false
set_option linter.unusedVariables false
namespace Go.Proofs.YtoihkbanmnagkaaGreat
open Go.RowKit Go.Sort M

/-- The cells of four places. -/
def bcs (C : List Pl) : List Value := C.flatMap x5
theorem bcs_at : ∀ (C : List Pl) (i : Nat) (hi : i < C.length) (j : Nat), j < 5 → (bcs C)[i * 5 + j]? = (x5 C[i])[j]?
  | x :: C, 0, _, j, hj => by
    show (x5 x ++ bcs C)[0 * 5 + j]? = _
    rw [List.getElem?_append_left (by simp [x5]; omega)]
    simp
  | x :: C, i + 1, hi, j, hj => by
    show (x5 x ++ bcs C)[(i + 1) * 5 + j]? = _
    rw [List.getElem?_append_right (by simp [x5]; omega), show (i + 1) * 5 + j - (x5 x).length = i * 5 + j by simp [x5]; omega, bcs_at C i (by simpa using hi) j hj]
    simp
theorem bcs_len (C : List Pl) : (bcs C).length = C.length * 5 := by
  unfold bcs
  induction C with
  | nil => rfl
  | cons x C ih => rw [List.flatMap_cons, List.length_append, ih]; simp [x5]; omega
theorem Bkt.range {w : World} {g o : Nat} {C : List Pl} (H : Bkt w g o C) : w.rangeAt g o (bcs C) := by
  intro j v hv
  have hl : (bcs C).length = 20 := by rw [bcs_len, H.four]
  have hj : j < 20 := by
    have := (List.getElem?_eq_some_iff.1 hv).1
    omega
  have h5 : j / 5 < C.length := by rw [H.four]; omega
  have e := bcs_at C (j / 5) h5 (j % 5) (by omega)
  rw [show j / 5 * 5 + j % 5 = j by omega] at e
  have := H.cell (j / 5) h5 (j % 5) v (e ▸ hv)
  rwa [show o + j / 5 * 5 + j % 5 = o + j by omega] at this
/-- The whole array is read: as the walk meets it. -/
theorem wpList_load_arr {ops : Array Oper} {rest : List Oper} {op : Oper} {a : Act} {w : World} {Q : Exit → Act → World → Prop} (x : Operand) (g o : Nat) (L : List Value) (hgd : op.guard = none) (ho : op.op = .load 118 x)
    (hx : a.eval x = .pointer (some ⟨g, o, none⟩)) (hc : w.rangeAt g o L) (hl : L.length = 20) (h : wpList Tryz.prog ops Q rest (a.put op.dst (.agg L.toArray)) w) : wpList Tryz.prog ops Q (op :: rest) a w :=
  wpList_load_mid hgd 118 x ho g o hx L _ hc Tryz.underlying118 rfl (by rw [hl]; kernel_rfl) h
/-- One of its elements. -/
theorem wpList_index_arr {ops : Array Oper} {rest : List Oper} {op : Oper} {a : Act} {w : World} {Q : Exit → Act → World → Prop} (x y : Operand) (X : Array Value) (i : Int) (v : Value) (hgd : op.guard = none) (ho : op.op = .index 118 x y)
    (hx : a.eval x = .agg X) (hy : a.eval y = .int .i64 i) (hr : ∀ w, (Instr.index 118 (.agg X) (.int .i64 i)).run Tryz.prog w = .ok v w) (h : wpList Tryz.prog ops Q rest (a.put op.dst v) w) : wpList Tryz.prog ops Q (op :: rest) a w :=
  wpList_plain hgd fun _ hK => by
    unfold Oper.wp execOp
    simp only [ho, hx, hy, Sem.run_bind, hr, Result.andThen_ok, Sem.run_pure]
    exact hK _ _ h
set_option maxRecDepth 100000 in
theorem index_arr {C : List Pl} (h4 : C.length = 4) (i : Nat) (hi : i < C.length) (w : World) :
    (Instr.index 118 (.agg (bcs C).toArray) (.int .i64 (i : Int))).run Tryz.prog w = .ok (.agg #[.int .u64 (xh C[i] : Int), .int .u64 (xl C[i] : Int), .int .i64 (xn C[i]), .int .i64 (xv C[i]), .bool C[i].isSome]) w := by
  obtain ⟨a, b, c, d, rfl⟩ : ∃ a b c d, C = [a, b, c, d] := by
    match C, h4 with
    | [a, b, c, d], _ => exact ⟨a, b, c, d, rfl⟩
  simp only [List.length_cons, List.length_nil] at hi
  rcases (show i = 0 ∨ i = 1 ∨ i = 2 ∨ i = 3 by omega) with rfl | rfl | rfl | rfl <;> rfl
theorem eqlK (a b : Nat) (n : Int) (c d : Nat) (m : Int) (w : World) : (binOp .eql 38 (.agg #[.int .u64 a, .int .u64 b, .int .i64 n]) (.agg #[.int .u64 c, .int .u64 d, .int .i64 m])).run Tryz.prog w =
    .ok (.bool (decide (a = c ∧ b = d ∧ n = m))) w := by
  have e1 : decide (a = c ∧ b = d ∧ n = m) = (decide ((a : Int) = c) && (decide ((b : Int) = d) && decide (n = m))) := by
    rw [← Bool.decide_and, ← Bool.decide_and, decide_eq_decide]; omega
  rw [e1]
  by_cases h1 : (a : Int) = c <;> by_cases h2 : (b : Int) = d <;> by_cases h3 : n = m <;> simp [go_sem, h1, h2, h3]
set_option maxHeartbeats 1000000 in
theorem find_any (g o : Nat) (C : List Pl) (k : Ky) (w : World) (H : Bkt w g o C) :
    Calls Tryz.prog 90 #[.pointer (some ⟨g, o, none⟩), kyV k] w fun e w' => e = .returned (.int .i64 (idxI (hasK k) C)) ∧ Below w.heap.size w w' := by
  have hld := (H.below (w' := w.alloc (.cells #[.int .u64 (k.h : Int), .int .u64 (k.l : Int), .int .i64 k.n] 38)) (by go_grown)).range
  have hll : (bcs C).length = 20 := by rw [bcs_len, H.four]
  have HI := Lib.hid (fun i hi => index_arr H.four i hi)
  have h4 := H.four
  have hg := H.lt
  generalize bcs C = X at hld hll HI
  clear H
  unfold kyV
  go_enter Tryz.func90, Tryz.ntmps90
  go_wp2_with (refine wpList_load_arr _ g o X rfl rfl rfl hld hll ?_)
  clear hld hll
  go_loopw [5, 6, 13] (fun s5 s6 i wr => ∃ (j : Nat), j ≤ 4 ∧ i = .int .i64 (j : Int) ∧ (∀ x (hx : x < C.length), x < j → hasK k C[x] = false) ∧ wr.cell? ⟨w.heap.size, 0, none⟩ = some (.int .u64 (k.h : Int)) ∧ wr.cell? ⟨w.heap.size, 1, none⟩ = some (.int .u64 (k.l : Int)) ∧ wr.cell? ⟨w.heap.size, 2, none⟩ = some (.int .i64 k.n) ∧ w.heap.size < wr.heap.size ∧ Below w.heap.size w wr) (fun _ _ i _ => 4 - (intOf i).toNat)
  case atStart => exact ⟨0, by omega, rfl, fun x _ h => absurd h (by omega), by simp [go_sem], by simp [go_sem], by simp [go_sem], by simp, by go_grown⟩
  case round =>
    obtain ⟨j, hj, rfl, hno, k0, k1, k2, hz, hb⟩ := hrel
    by_cases hlt : j < 4
    · have hi := HI.out j (by omega)
      have hK := Lib.hid (hasK_eq k (C[j]'(by omega)))
      have hno' := Lib.hid hno
      clear hno
      generalize hx : (C[j]'(by omega)) = x at hi hK
      have HX := Lib.hid hx
      clear hx
      have hE := eqlK (xh x) (xl x) (xn x) k.h k.l k.n
      by_cases hs : x.isSome = true
      · rw [hs] at hi
        by_cases he : xh x = k.h ∧ xl x = k.l ∧ xn x = k.n
        · rw [decide_eq_true he] at hE
          have hm : Hid (hasK k x = true) := by show hasK k x = true; rw [hK.out, hs, decide_eq_true he]; rfl
          clear hs hK he
          go_wp2_with (refine wpList_index_arr _ _ _ _ _ rfl rfl rfl rfl hi ?_)
          go_ret
          refine ⟨ret_num (idxI_hit (by omega) (by rw [HX.out]; exact hm.out) hno'.out).symm, by go_grown⟩
        · rw [decide_eq_false he] at hE
          have hm : Hid (hasK k x = false) := by show hasK k x = false; rw [hK.out, hs, decide_eq_false he]; rfl
          clear hs hK he
          go_wp2_with (refine wpList_index_arr _ _ _ _ _ rfl rfl rfl rfl hi ?_)
          go_roundw
          case rel =>
            refine ⟨j + 1, by omega, by go_num, fun y hy hlt2 => ?_, (World.cell?_alloc_lt wr _ ⟨w.heap.size, 0, none⟩ hz).trans k0, (World.cell?_alloc_lt wr _ ⟨w.heap.size, 1, none⟩ hz).trans k1, (World.cell?_alloc_lt wr _ ⟨w.heap.size, 2, none⟩ hz).trans k2, by simp; omega, by go_grown⟩
            by_cases e : y = j
            · subst e; rw [HX.out]; exact hm.out
            · exact hno'.out y hy (by omega)
          case measure => simp [intOf]; omega
      · rw [Bool.not_eq_true] at hs
        rw [hs] at hi
        have hm : Hid (hasK k x = false) := by show hasK k x = false; rw [hK.out, hs]; rfl
        clear hs hK hE
        go_wp2_with (refine wpList_index_arr _ _ _ _ _ rfl rfl rfl rfl hi ?_)
        go_roundw
        case rel =>
          refine ⟨j + 1, by omega, by go_num, fun y hy hlt2 => ?_, (World.cell?_alloc_lt wr _ ⟨w.heap.size, 0, none⟩ hz).trans k0, (World.cell?_alloc_lt wr _ ⟨w.heap.size, 1, none⟩ hz).trans k1, (World.cell?_alloc_lt wr _ ⟨w.heap.size, 2, none⟩ hz).trans k2, by simp; omega, by go_grown⟩
          by_cases e : y = j
          · subst e; rw [HX.out]; exact hm.out
          · exact hno'.out y hy (by omega)
        case measure => simp [intOf]; omega
    · go_wp2
      go_ret
      exact ⟨ret_num (idxI_miss (fun x hx => hno x hx (by omega))).symm, hb⟩
set_option maxHeartbeats 1000000 in
theorem empty_any (g o : Nat) (C : List Pl) (w : World) (H : Bkt w g o C) :
    Calls Tryz.prog 100 #[.pointer (some ⟨g, o, none⟩)] w fun e w' => e = .returned (.int .i64 (idxI Option.isNone C)) ∧ Below w.heap.size w w' := by
  have hld := H.range
  have hll : (bcs C).length = 20 := by rw [bcs_len, H.four]
  have HI := Lib.hid (fun i hi => index_arr H.four i hi)
  have h4 := H.four
  have hg := H.lt
  generalize bcs C = X at hld hll HI
  clear H
  go_enter Tryz.func100, Tryz.ntmps100
  go_wp2_with (refine wpList_load_arr _ g o X rfl rfl rfl hld hll ?_)
  clear hld hll
  go_loopw [3, 4, 11] (fun s3 s4 i wr => ∃ (j : Nat), j ≤ 4 ∧ i = .int .i64 (j : Int) ∧ (∀ x (hx : x < C.length), x < j → Option.isNone C[x] = false) ∧ w.heap.size ≤ wr.heap.size ∧ Below w.heap.size w wr) (fun _ _ i _ => 4 - (intOf i).toNat)
  case atStart => exact ⟨0, by omega, rfl, fun x _ h => absurd h (by omega), Nat.le_refl _, by go_grown⟩
  case round =>
    obtain ⟨j, hj, rfl, hno, hz, hb⟩ := hrel
    by_cases hlt : j < 4
    · have hi := HI.out j (by omega)
      have hno' := Lib.hid hno
      clear hno
      generalize hx : (C[j]'(by omega)) = x at hi
      have HX := Lib.hid hx
      clear hx
      by_cases hs : x.isSome = true
      · rw [hs] at hi
        have hm : Hid (Option.isNone x = false) := by show Option.isNone x = false; cases x <;> simp_all
        clear hs
        go_wp2_with (refine wpList_index_arr _ _ _ _ _ rfl rfl rfl rfl hi ?_)
        go_roundw
        case rel =>
          refine ⟨j + 1, by omega, by go_num, fun y hy hlt2 => ?_, by simp; omega, by go_grown⟩
          by_cases e : y = j
          · subst e; rw [HX.out]; exact hm.out
          · exact hno'.out y hy (by omega)
        case measure => simp [intOf]; omega
      · rw [Bool.not_eq_true] at hs
        rw [hs] at hi
        have hm : Hid (Option.isNone x = true) := by show Option.isNone x = true; cases x <;> simp_all
        clear hs
        go_wp2_with (refine wpList_index_arr _ _ _ _ _ rfl rfl rfl rfl hi ?_)
        go_ret
        refine ⟨ret_num (idxI_hit (by omega) (by rw [HX.out]; exact hm.out) hno'.out).symm, by go_grown⟩
    · go_wp2
      go_ret
      exact ⟨ret_num (idxI_miss (fun x hx => hno x hx (by omega))).symm, hb⟩
end Go.Proofs.YtoihkbanmnagkaaGreat
/-
  Rows of routes in memory: a list of keys with their values as cells, four to each; rows of the call's own, and what is read of them. No condition but those that stand in each.
-/
set_option linter.unusedSimpArgs false
set_option linter.unusedVariables false
namespace Go.Proofs.YtoihkbanmnagkaaGreat
open Go.RowKit Go.Sort M

def rcell (r : Rt) : List Value := [.int .u64 (r.k.h : Int), .int .u64 (r.k.l : Int), .int .i64 r.k.n, .int .i64 r.v]
def rcs (L : List Rt) : List Value := L.flatMap rcell
theorem rcs_len (L : List Rt) : (rcs L).length = L.length * 4 := by
  unfold rcs
  induction L with
  | nil => rfl
  | cons x L ih => simp only [List.flatMap_cons, List.length_append, ih, rcell, List.length_cons, List.length_nil]; omega
theorem rcs_append (L M : List Rt) : rcs (L ++ M) = rcs L ++ rcs M := by simp [rcs]
theorem rcs_cons (x : Rt) (L : List Rt) : rcs (x :: L) = rcell x ++ rcs L := rfl
theorem rcs_one (p : Rt) : rcs [p] = rcell p := by simp [rcs]
theorem rcs_cell : ∀ (L : List Rt) (k j : Nat) (h : k < L.length), j < 4 → (rcs L)[k * 4 + j]? = (rcell L[k])[j]?
  | x :: L, 0, j, _, hj => by
    rw [rcs_cons, List.getElem?_append_left (by simp [rcell]; omega)]
    simp
  | x :: L, k + 1, j, h, hj => by
    rw [rcs_cons, List.getElem?_append_right (by simp [rcell]; omega), show (k + 1) * 4 + j - (rcell x).length = k * 4 + j by simp [rcell]; omega]
    rw [rcs_cell L k j (by simpa using h) hj]
    simp
theorem rcs_one' (L : List Rt) : ∀ u ∈ rcs L, u.oneCell' = true := by
  intro u hu
  unfold rcs at hu
  rw [List.mem_flatMap] at hu
  obtain ⟨p, -, hp⟩ := hu
  simp only [rcell, List.mem_cons, List.not_mem_nil, or_false] at hp
  rcases hp with rfl | rfl | rfl | rfl <;> rfl
/-- Number k of a row of routes. -/
theorem Row.rt {w : World} {p : Option Addr} {L : List Rt} (h : Row w p (rcs L)) {k : Nat} (hk : k < L.length) : ∃ g o, p = some ⟨g, o, none⟩ ∧ g < w.heap.size ∧
    w.cell? ⟨g, o + k * 4, none⟩ = some (.int .u64 (L[k].k.h : Int)) ∧ w.cell? ⟨g, o + k * 4 + 1, none⟩ = some (.int .u64 (L[k].k.l : Int)) ∧ w.cell? ⟨g, o + k * 4 + 2, none⟩ = some (.int .i64 L[k].k.n) ∧ w.cell? ⟨g, o + k * 4 + 3, none⟩ = some (.int .i64 L[k].v) := by
  rcases h with h | ⟨g, o, e, hg, hc⟩
  · have := rcs_len L
    rw [h] at this
    simp at this; omega
  · exact ⟨g, o, e, hg, hc (k * 4) _ (rcs_cell L k 0 hk (by omega)), hc (k * 4 + 1) _ (rcs_cell L k 1 hk (by omega)), hc (k * 4 + 2) _ (rcs_cell L k 2 hk (by omega)), hc (k * 4 + 3) _ (rcs_cell L k 3 hk (by omega))⟩
/-- A new row of routes. -/
def NewRts (w w' : World) (e : Ending) (L : List Rt) : Prop := ∃ p c, e = .returned (.slice p L.length c) ∧ w'.ownsRow w.heap.size 58 4 (.slice p L.length c) L.length (rcs L) ∧ Below w.heap.size w w'
theorem infoR : (Tryz.prog.info? 58).map (fun i => (i.zero, i.size, i.bytes)) = some (some (.agg #[.int .u64 0, .int .u64 0, .int .i64 0, .int .i64 0]), 4, 32) := by kernel_rfl
/-- Four new cells, at the head of their block. -/
theorem four_new {w : World} {g : Nat} {a b c d : Value} (h0 : w.cell? ⟨g, 0, none⟩ = some a) (h1 : w.cell? ⟨g, 1, none⟩ = some b) (h2 : w.cell? ⟨g, 2, none⟩ = some c) (h3 : w.cell? ⟨g, 3, none⟩ = some d) :
    ∀ j u, [a, b, c, d][j]? = some u → w.cell? ((⟨g, 0, none⟩ : Addr).add j) = some u := by
  intro j u hj
  have hlt : j < 4 := (List.getElem?_eq_some_iff.1 hj).1
  have he : (⟨g, 0, none⟩ : Addr).add j = ⟨g, j, none⟩ := by unfold Addr.add; split <;> simp_all
  rw [he]
  rcases (show j = 0 ∨ j = 1 ∨ j = 2 ∨ j = 3 by omega) with rfl | rfl | rfl | rfl <;> (simp only [List.getElem?_cons_zero, List.getElem?_cons_succ, Option.some.injEq] at hj; subst hj; assumption)
theorem own_rsnoc {w : World} {B n : Nat} {e : TypeId} {v : Value} {L : List Rt} {x : Rt} (h : w.ownsRow B e 4 v (n + 1) (rcs L ++ rcell x)) (hn : n = L.length) : w.ownsRow B e 4 v (L ++ [x]).length (rcs (L ++ [x])) := by
  rw [rcs_append, rcs_one, List.length_append, ← hn]
  exact h
end Go.Proofs.YtoihkbanmnagkaaGreat
/-
  What All of a bucket hands back: a new row of routes, by place. No condition but that the bucket's cells lie in memory.
-/
set_option linter.unusedSimpArgs false
set_option linter.unusedVariables false
namespace Go.Proofs.YtoihkbanmnagkaaGreat
open Go.RowKit Go.Sort M

set_option maxHeartbeats 1000000 in
set_option maxRecDepth 100000 in
theorem all11_any (g o : Nat) (C : List Pl) (w : World) (H : Bkt w g o C) :
    Calls Tryz.prog 91 #[.pointer (some ⟨g, o, none⟩)] w fun e w' => NewRts w w' e (allC C) := by
  have hld := H.range
  have hll : (bcs C).length = 20 := by rw [bcs_len, H.four]
  have HI := Lib.hid (fun i hi => index_arr H.four i hi)
  have h4 := H.four
  have hg := H.lt
  have HS := Lib.hid (fun i h => allC_snoc C i h)
  have HA := Lib.hid (allC_len C)
  obtain ⟨i0, hi0, iz0, iz1, iz2⟩ := info_parts infoR
  generalize bcs C = X at hld hll HI
  clear H
  go_enter Tryz.func91, Tryz.ntmps91
  go_wp2_with (refine wpList_load_arr _ g o X rfl rfl rfl hld hll ?_)
  clear hld hll
  go_loopw [3, 5, 12] (fun s3 s5 i wr => ∃ (j : Nat) (p : Option Addr) (c : Nat) (L : List Rt), j ≤ 4 ∧ i = .int .i64 (j : Int) ∧ s3 = .slice p L.length c ∧ L.length ≤ 4 ∧ Hid (L = allC (C.take j)) ∧ wr.ownsRow w.heap.size 58 4 (.slice p L.length c) L.length (rcs L) ∧ Below w.heap.size w wr) (fun _ _ i _ => 4 - (intOf i).toNat)
  case atStart => exact ⟨0, none, 0, [], by omega, rfl, rfl, by simp, Lib.hid rfl, World.ownsRow_nil _ _ _ _, by go_grown⟩
  case round =>
    obtain ⟨j, p, c, L, hj, rfl, rfl, hL, hLe, hown, hb⟩ := hrel
    have hz := hb.size
    by_cases hlt : j < 4
    · have hi := HI.out j (by omega)
      have hs := HS.out j (by omega)
      rw [← hLe.out] at hs
      have hle := allC_len (C.take (j + 1))
      rw [hs] at hle
      have hle2 : (C.take (j + 1)).length ≤ 4 := by simp; omega
      have HLE : Hid ((L ++ (C[j]'(by omega)).toList).length ≤ 4) := by show _ ≤ 4; omega
      clear hle hle2
      have HN := Lib.hid hs
      clear hs hLe
      generalize hx : (C[j]'(by omega)) = x at hi HN HLE
      clear hx
      cases x with
      | none =>
        simp only [xh, xl, xn, xv, Option.isSome_none] at hi
        have HN' : Hid (L = allC (C.take (j + 1))) := by show L = _; rw [HN.out]; simp
        clear HN
        go_wp2_with (refine wpList_index_arr _ _ _ _ _ rfl rfl rfl rfl hi ?_)
        go_roundw
        case rel => exact ⟨j + 1, p, c, L, by omega, by go_num, rfl, hL, HN', hown.alloc _, by go_grown⟩
        case measure => simp [intOf]; omega
      | some r =>
        simp only [xh, xl, xn, xv, Option.isSome_some] at hi
        have HN' : Hid (L ++ [r] = allC (C.take (j + 1))) := by show L ++ [r] = _; rw [HN.out]; simp
        have HL' : Hid ((L ++ [r]).length ≤ 4) := by show _ ≤ 4; exact HLE.out
        have hLl : L.length ≤ 3 := by have := HL'.out; simp at this; omega
        clear HN HLE
        go_wp2_with (first
          | (refine wpList_index_arr _ _ _ _ _ rfl rfl rfl rfl hi ?_)
          | (at_builtin; go_loud (refine wpList_append_own _ rfl (.tmp 17) (.tmp 23) 47 rfl w.heap.size 58 i0 _ 4 32 Tryz.underlying47 hi0 iz0 iz1 iz2 rfl (by decide) _ _ _ rfl ((hown.alloc _).alloc _) ⟨wr.heap.size + 1, 0, none⟩ 1 1 (rcell r) rfl rfl (four_new (by simp [go_sem]) (by simp [go_sem]) (by simp [go_sem]) (by simp [go_sem])) (by simp [rcell, Value.oneCell']) (by unfold maxLen; omega) (by omega) (by simp; omega) ?_)))
        intro v3 w3 hown3 hg3 _
        have hown4 := own_rsnoc hown3 rfl
        have hw3 : Below w.heap.size w w3 := ((hb.alloc hz _).alloc (by simp; omega) _).grown hg3 (by simp; omega) (fun j hj => (hown.lt j hj).1)
        obtain ⟨p3, c3, rfl⟩ := own_slice hown4
        clear hown3 hg3 hown hb
        go_wp2
        go_roundw
        case rel => exact ⟨j + 1, p3, c3, L ++ [r], by omega, by go_num, rfl, HL'.out, HN', hown4, hw3⟩
        case measure => simp [intOf]; omega
    · go_wp2
      go_ret
      have he : L = allC C := by have := hLe.out; rwa [List.take_of_length_le (by omega)] at this
      subst he
      exact ⟨p, c, rfl, hown, hb⟩
end Go.Proofs.YtoihkbanmnagkaaGreat
/-
  The reference's bucket in memory: twenty cells of a block, from an offset on: four routes, and which of them are there; what its calls hand back, and what it is then. No condition but that its cells lie in memory.
-/
set_option linter.unusedSimpArgs false
set_option linter.unusedVariables false
namespace Go.Proofs.YtoihkbanmnagkaaGreat
open Go.RowKit Go.Sort M

structure RBk (w : World) (g o : Nat) (C : List Pl) : Prop where
  four : C.length = 4
  lt : g < w.heap.size
  rt : ∀ (i : Nat) (hi : i < C.length), w.cell? ⟨g, o + i * 4, none⟩ = some (.int .u64 (xh C[i] : Int)) ∧ w.cell? ⟨g, o + i * 4 + 1, none⟩ = some (.int .u64 (xl C[i] : Int)) ∧ w.cell? ⟨g, o + i * 4 + 2, none⟩ = some (.int .i64 (xn C[i])) ∧ w.cell? ⟨g, o + i * 4 + 3, none⟩ = some (.int .i64 (xv C[i]))
  on : ∀ (i : Nat) (hi : i < C.length), w.cell? ⟨g, o + 16 + i, none⟩ = some (.bool C[i].isSome)
  free : ∀ j, j < 20 → w.frozen? ⟨g, o + j, none⟩ = false
theorem RBk.kept {w w' : World} {g o : Nat} {C : List Pl} (H : RBk w g o C) (hs : w.heap.size ≤ w'.heap.size) (h : ∀ x, x < 20 → w'.cell? ⟨g, o + x, none⟩ = w.cell? ⟨g, o + x, none⟩ ∧ w'.frozen? ⟨g, o + x, none⟩ = w.frozen? ⟨g, o + x, none⟩) : RBk w' g o C := by
  have h4 := H.four
  refine ⟨H.four, Nat.lt_of_lt_of_le H.lt hs, fun i hi => ?_, fun i hi => ?_, fun j hj => (h j hj).2.trans (H.free j hj)⟩
  · obtain ⟨a, b, c, d⟩ := H.rt i hi
    simp only [Nat.add_assoc] at *
    exact ⟨(h _ (by omega)).1.trans a, (h _ (by omega)).1.trans b, (h _ (by omega)).1.trans c, (h _ (by omega)).1.trans d⟩
  · have := H.on i hi
    rw [Nat.add_assoc] at *
    exact (h _ (by omega)).1.trans this
theorem RBk.below {w w' : World} {g o : Nat} {C : List Pl} (H : RBk w g o C) (hb : Below w.heap.size w w') : RBk w' g o C :=
  H.kept hb.size fun x _ => ⟨hb.cell (p := ⟨g, o + x, none⟩) H.lt, hb.frozen (p := ⟨g, o + x, none⟩) H.lt⟩
theorem RBk.apart {w w' : World} {g o g' o' n : Nat} {C : List Pl} (H : RBk w g o C) (h : Turn w w' g' o' n) (hne : g ≠ g' ∨ o + 20 ≤ o' ∨ o' + n ≤ o) : RBk w' g o C := by
  refine H.kept h.grown.size fun x hx => ?_
  by_cases e : g = g'
  · subst e
    exact ⟨h.cell _ (by omega), h.frozen _⟩
  · have hb := h.grown.block g H.lt (by simpa using e)
    exact ⟨World.cell?_of_block hb, by unfold World.frozen?; rw [hb]⟩
/-- The four cells of a route are written. -/
def put4 (w : World) (g p : Nat) (x : Pl) : World :=
  (((w.setCell ⟨g, p, none⟩ (.int .u64 (xh x : Int))).setCell ⟨g, p + 1, none⟩ (.int .u64 (xl x : Int))).setCell ⟨g, p + 2, none⟩ (.int .i64 (xn x))).setCell ⟨g, p + 3, none⟩ (.int .i64 (xv x))
theorem turn_put4 (w : World) (g p : Nat) (x : Pl) : Turn w (put4 w g p x) g p 4 :=
  (((turn_one w g p 4 p _ (by omega) (by omega)).trans (turn_one _ g p 4 (p + 1) _ (by omega) (by omega))).trans (turn_one _ g p 4 (p + 2) _ (by omega) (by omega))).trans (turn_one _ g p 4 (p + 3) _ (by omega) (by omega))
def Four (w : World) (g p : Nat) (x : Pl) : Prop := w.cell? ⟨g, p, none⟩ = some (.int .u64 (xh x : Int)) ∧ w.cell? ⟨g, p + 1, none⟩ = some (.int .u64 (xl x : Int)) ∧ w.cell? ⟨g, p + 2, none⟩ = some (.int .i64 (xn x)) ∧ w.cell? ⟨g, p + 3, none⟩ = some (.int .i64 (xv x))
theorem four_put {w : World} {g p : Nat} (x : Pl) {y : Pl} (h : Four w g p y) : Four (put4 w g p x) g p x := by
  obtain ⟨a, b, c, d⟩ := h
  unfold put4
  refine ⟨?_, ?_, ?_, ?_⟩ <;> simp [go_sem, a, b, c, d]
theorem RBk.turned {w : World} {g o : Nat} {C : List Pl} (H : RBk w g o C) {i : Nat} (hi : i < C.length) (x : Pl) {wa wb : World} (h1 : Turn w wa g (o + i * 4) 4) (hc : Four wa g (o + i * 4) x) (h2 : Turn wa wb g (o + 16 + i) 1)
    (hd : wb.cell? ⟨g, o + 16 + i, none⟩ = some (.bool x.isSome)) : RBk wb g o (C.set i x) ∧ Turn w wb g o 20 := by
  have h4 := H.four
  refine ⟨⟨by simpa using h4, Nat.lt_of_lt_of_le H.lt (Nat.le_trans h1.grown.size h2.grown.size), fun k hk => ?_, fun k hk => ?_, fun j hj => (h2.frozen _).trans ((h1.frozen _).trans (H.free j hj))⟩, (h1.mono (by omega) (by omega)).trans (h2.mono (by omega) (by omega))⟩
  · rw [List.length_set] at hk
    by_cases e : i = k
    · subst e
      rw [List.getElem_set_self]
      obtain ⟨a, b, c, d⟩ := hc
      exact ⟨(h2.cell _ (by omega)).trans a, (h2.cell _ (by omega)).trans b, (h2.cell _ (by omega)).trans c, (h2.cell _ (by omega)).trans d⟩
    · rw [List.getElem_set_ne e]
      obtain ⟨a, b, c, d⟩ := H.rt k hk
      exact ⟨((h2.cell _ (by omega)).trans (h1.cell _ (by omega))).trans a, ((h2.cell _ (by omega)).trans (h1.cell _ (by omega))).trans b, ((h2.cell _ (by omega)).trans (h1.cell _ (by omega))).trans c, ((h2.cell _ (by omega)).trans (h1.cell _ (by omega))).trans d⟩
  · rw [List.length_set] at hk
    by_cases e : i = k
    · subst e
      rw [List.getElem_set_self]
      exact hd
    · rw [List.getElem_set_ne e]
      exact ((h2.cell _ (by omega)).trans (h1.cell _ (by omega))).trans (H.on k hk)
set_option maxHeartbeats 1000000 in
set_option maxRecDepth 100000 in
theorem rget11_any (g o : Nat) (C : List Pl) (k : Ky) (w : World) (H : RBk w g o C) :
    Calls Tryz.prog 52 #[.pointer (some ⟨g, o, none⟩), kyV k] w fun e w' => e = .returned (.tuple #[.int .i64 ((getC C k).getD 0), .bool (getC C k).isSome]) ∧ Below w.heap.size w w' := by
  have HH := Lib.hid H
  have h4 := H.four
  have hg := H.lt
  clear H
  unfold kyV
  go_enter Tryz.func52, Tryz.ntmps52
  go_wp2
  go_loopw [6] (fun i wr => ∃ (j : Nat), j ≤ 4 ∧ i = .int .i64 (j : Int) ∧ (∀ x (hx : x < C.length), x < j → hasK k C[x] = false) ∧ wr.cell? ⟨w.heap.size, 0, none⟩ = some (.int .u64 (k.h : Int)) ∧ wr.cell? ⟨w.heap.size, 1, none⟩ = some (.int .u64 (k.l : Int)) ∧ wr.cell? ⟨w.heap.size, 2, none⟩ = some (.int .i64 k.n) ∧ w.heap.size < wr.heap.size ∧ Below w.heap.size w wr) (fun i _ => 4 - (intOf i).toNat)
  case atStart => exact ⟨0, by omega, rfl, fun x _ h => absurd h (by omega), by simp [go_sem], by simp [go_sem], by simp [go_sem], by simp, by go_grown⟩
  case round =>
    obtain ⟨j, hj, rfl, hno, k0, k1, k2, hz, hb⟩ := hrel
    by_cases hlt : j < 4
    · have H1 := HH.out.below hb
      have hno' := Lib.hid hno
      have hon := H1.on j (by omega)
      obtain ⟨r0, r1, r2, r3⟩ := H1.rt j (by omega)
      have hK := Lib.hid (hasK_eq k (C[j]'(by omega)))
      have hl1 := H1.lt
      clear hno H1
      generalize hx : (C[j]'(by omega)) = x at hon r0 r1 r2 r3 hK
      have HX := Lib.hid hx
      have hE := eqlK (xh x) (xl x) (xn x) k.h k.l k.n
      have j0 : (0 : Int) ≤ (j : Int) := by omega
      have j4 : (j : Int) < 4 := by omega
      clear hx
      by_cases hs : x.isSome = true
      · rw [hs] at hon
        by_cases he : xh x = k.h ∧ xl x = k.l ∧ xn x = k.n
        · rw [decide_eq_true he] at hE
          have hm : Hid (hasK k x = true) := by show hasK k x = true; rw [hK.out, hs, decide_eq_true he]; rfl
          clear hs hK he
          go_wp2_with fail
          have kg := cell_grow
          refine region_whole (by kernel_rfl) (by kernel_rfl) ?_
          repeat (any_goals (first | go_big_quiet_step (fail) | quiet_step (fail)))
          refine wpQuiet_nil ?_
          clear kg
          intro w1 hb1
          obtain ⟨hc1, hf1⟩ := bcell hb1
          have r3 := (hc1 _ _ (by omega)).trans r3
          go_wp2
          go_ret2
          have hh := idx_hit (p := hasK k) (i := j) (C := C) (by omega) (by rw [HX.out]; exact hm.out) hno'.out
          rw [getC_hit (by omega) hh (by rw [HX.out]; exact hm.out), HX.out]
          exact ⟨rfl, hb.trans (hb1.mono (by omega))⟩
        · rw [decide_eq_false he] at hE
          have hm : Hid (hasK k x = false) := by show hasK k x = false; rw [hK.out, hs, decide_eq_false he]; rfl
          clear hs hK he
          go_wp2_with fail
          have kg := cell_grow
          refine region_whole (by kernel_rfl) (by kernel_rfl) ?_
          repeat (any_goals (first | go_big_quiet_step (fail) | quiet_step (fail)))
          refine wpQuiet_nil ?_
          clear kg
          intro w1 hb1
          obtain ⟨hc1, hf1⟩ := bcell hb1
          go_wp2
          go_roundw
          case rel =>
            refine ⟨j + 1, by omega, by go_num, fun y hy hlt2 => ?_, (hc1 _ _ (by omega)).trans k0, (hc1 _ _ (by omega)).trans k1, (hc1 _ _ (by omega)).trans k2, Nat.lt_of_lt_of_le hz hb1.size, hb.trans (hb1.mono (by omega))⟩
            by_cases e : y = j
            · subst e; rw [HX.out]; exact hm.out
            · exact hno'.out y hy (by omega)
          case measure => simp [intOf]; omega
      · rw [Bool.not_eq_true] at hs
        rw [hs] at hon
        have hm : Hid (hasK k x = false) := by show hasK k x = false; rw [hK.out, hs]; rfl
        clear hs hK hE
        go_wp2_with fail
        have kg := cell_grow
        refine region_whole (by kernel_rfl) (by kernel_rfl) ?_
        repeat (any_goals (first | go_big_quiet_step (fail) | quiet_step (fail)))
        refine wpQuiet_nil ?_
        clear kg
        intro w1 hb1
        obtain ⟨hc1, hf1⟩ := bcell hb1
        go_wp2
        go_roundw
        case rel =>
          refine ⟨j + 1, by omega, by go_num, fun y hy hlt2 => ?_, (hc1 _ _ (by omega)).trans k0, (hc1 _ _ (by omega)).trans k1, (hc1 _ _ (by omega)).trans k2, Nat.lt_of_lt_of_le hz hb1.size, hb.trans (hb1.mono (by omega))⟩
          by_cases e : y = j
          · subst e; rw [HX.out]; exact hm.out
          · exact hno'.out y hy (by omega)
        case measure => simp [intOf]; omega
    · go_wp2
      go_ret2
      rw [getC_miss (idx_miss (fun x hx => hno x hx (by omega)))]
      exact ⟨rfl, hb⟩
end Go.Proofs.YtoihkbanmnagkaaGreat
