/-
  What the calls of a bucket hand back, and what they leave in memory: the first place of a key, the first empty one. No condition but that the bucket's cells lie in memory, and that words are words of 64 bits.
-/
import Derived.Test.YtoihkbanmnagkaaGreatM21
import Derived.Test.YtoihkbanmnagkaaGreatM11
import Derived.Test.YtoihkbanmnagkaaGreatReg
import Derived.Test.YtoihkbanmnagkaaGreatM7b
import Derived.Handy
import Derived.Deep.MidRow
/-
  Plain mathematics of a level, as it is made, and as it is told: what it begins with, its row, that its row is short, the rows behind changes. No condition but those that stand in each.
-/
set_option linter.unusedSimpArgs false
set_option linter.unusedVariables false
namespace Go.Proofs.YtoihkbanmnagkaaGreat
open M

def newV (n : Int) (s : Nat) (k : Int) (m b : Nat) : Lv := ⟨n, s, k, List.replicate m 0, emptyT (mixN s) b⟩
theorem newV_ok (n : Int) (s : Nat) (k : Int) (m b : Nat) (h1 : 1 ≤ b) (h2 : b ≤ 65536) : LvOk (newV n s k m b) [] := by
  refine ⟨Kept.empty (mixN_w s) h1 h2, ?_, ?_, ?_⟩
  · intro c hc
    have hc : c ∈ List.replicate m 0 := hc
    rw [List.eq_of_mem_replicate hc]
    omega
  · intro j hj
    show min 15 (List.count _ (List.flatMap _ [])) ≤ _
    simp
  · intro r hr
    cases hr
def badV (n k m b : Int) : Prop := ¬ (1 ≤ n ∧ n ≤ 128 ∧ (1 ≤ k ∧ k ≤ 16 ∧ 1 ≤ m ∧ m ≤ 65536) ∧ 1 ≤ b ∧ b ≤ 65536)
def rowsT (n : Int) (N : List Rt) (L : List Ch) : List Rt := L.foldl (rowT n) N
theorem rowsT_snoc (n : Int) (N : List Rt) (L : List Ch) (c : Ch) : rowsT n N (L ++ [c]) = rowT n (rowsT n N L) c := by unfold rowsT; rw [List.foldl_append]; rfl
theorem turn_n (V : Lv) (c : Ch) : (V.turn c).n = V.n := by
  unfold Lv.turn
  split
  · split
    · rfl
    · split <;> rfl
  · rfl
theorem turns_n (V : Lv) : ∀ (L : List Ch), (V.turns L).n = V.n := by
  intro L
  induction L generalizing V with
  | nil => rfl
  | cons c L ih =>
    show ((V.turn c).turns L).n = V.n
    rw [ih, turn_n]
theorem rowT_len (n : Int) (N : List Rt) (h : Sorted N) (c : Ch) : (rowT n N c).length ≤ N.length + 1 := by
  unfold rowT stepC
  have h1 : (outS N c.k).length ≤ N.length := List.length_filter_le _ _
  split
  · split
    · have := (intoS_perm ⟨c.k, c.n⟩ h).length_eq
      simp only [List.length_cons] at this
      omega
    · omega
  · omega
theorem LvOk.turns {V : Lv} {N : List Rt} (H : LvOk V N) : ∀ (L : List Ch), (∀ c ∈ L, c.k.good) → LvOk (V.turns L) (rowsT V.n N L) ∧ (rowsT V.n N L).length ≤ N.length + L.length := by
  intro L
  suffices HH : ∀ (m : Nat) (L : List Ch), L.length = m → (∀ c ∈ L, c.k.good) → LvOk (V.turns L) (rowsT V.n N L) ∧ (rowsT V.n N L).length ≤ N.length + L.length from HH L.length L rfl
  intro m
  induction m with
  | zero =>
    intro L hl _
    obtain rfl := List.eq_nil_of_length_eq_zero hl
    exact ⟨H, Nat.le_add_right _ _⟩
  | succ m ih =>
    intro L hl hg
    obtain ⟨L, c, rfl⟩ : ∃ L' c, L = L' ++ [c] := ⟨L.dropLast, L.getLast (by intro e; simp [e] at hl), (List.dropLast_concat_getLast _).symm⟩
    obtain ⟨h1, h2⟩ := ih L (by simpa using hl) (fun x hx => hg x (List.mem_append_left _ hx))
    have hc := hg c (List.mem_append_right _ (by simp))
    rw [Lv.turns_snoc, rowsT_snoc]
    have h3 := h1.turn c hc
    rw [turns_n] at h3
    have h4 := rowT_len V.n _ h1.kept.sort c
    rw [List.length_append, List.length_singleton]
    exact ⟨h3, by omega⟩
theorem cont_le {T : Tab} : T.st.length ≤ (contT T).length := by
  unfold contT
  rw [List.length_append]
  omega
theorem LvOk.st {V : Lv} {N : List Rt} (H : LvOk V N) : V.T.st.length ≤ N.length := by
  have := cont_le (T := V.T)
  rw [H.kept.len] at this
  exact this
theorem LvOk.hitK {V : Lv} {N : List Rt} (H : LvOk V N) {q : Rt} (hq : q ∈ N) (hr : rightB q.k.h q.k.l q.k.n = true) : V.key q.k.h q.k.l = q.k := by
  obtain ⟨r0, r1, r2, r3⟩ := (rightB_iff _ _ _).1 hr
  have hn := H.len q hq
  unfold Lv.key cutK
  rw [← hn, r2, r3]
  obtain ⟨⟨a, b, n⟩, v⟩ := q
  simp only at *
  congr 1
  omega
end Go.Proofs.YtoihkbanmnagkaaGreat
/-
  The reference's filter in memory: its struct and its row of numbers; what its calls hand back, and what is kept of it while other blocks are written. No condition but those that stand in each.
-/
set_option linter.unusedSimpArgs false
set_option linter.unusedVariables false
namespace Go.Proofs.YtoihkbanmnagkaaGreat
open Go.RowKit Go.Sort M

structure RFil (w : World) (lo hi f g s : Nat) (k : Int) (C : List Nat) : Prop where
  c0 : w.cell? ⟨f, 0, none⟩ = some (.int .u64 (s : Int))
  c1 : w.cell? ⟨f, 1, none⟩ = some (.int .i64 k)
  c2 : w.cell? ⟨f, 2, none⟩ = some (.slice (some ⟨g, 0, none⟩) C.length C.length)
  own : w.ownsRow lo 3 1 (.slice (some ⟨g, 0, none⟩) C.length C.length) C.length (iC C)
  small : ∀ c ∈ C, c ≤ 15
  len : C.length ≤ 65536
  top : hi ≤ w.heap.size
  fin : lo ≤ f ∧ f < hi
  gin : g < hi
  ne : f ≠ g
  ws : W64 s
section
variable {w w' : World} {lo hi f g s : Nat} {k : Int} {C : List Nat} {S : Nat → Prop}
theorem RFil.low (H : RFil w lo hi f g s k C) : lo ≤ g := (H.own.lt g rfl).1
theorem RFil.touched (H : RFil w lo hi f g s k C) (ht : Touch S w w') (hn : ∀ j, lo ≤ j → j < hi → ¬ S j) : RFil w' lo hi f g s k C :=
  ⟨ht.cell H.c0 (hn _ H.fin.1 H.fin.2), ht.cell H.c1 (hn _ H.fin.1 H.fin.2), ht.cell H.c2 (hn _ H.fin.1 H.fin.2), Touch.own H.own ht (fun j e => by cases e; exact hn _ H.low H.gin), H.small, H.len, Nat.le_trans H.top ht.size, H.fin, H.gin, H.ne, H.ws⟩
theorem RFil.below (H : RFil w lo hi f g s k C) (hb : Below w.heap.size w w') : RFil w' lo hi f g s k C := H.touched (S := fun _ => False) (Touch.quiet hb) (fun _ _ _ h => h)
theorem RFil.lt (H : RFil w lo hi f g s k C) : f < w.heap.size := Nat.lt_of_lt_of_le H.fin.2 H.top
theorem RFil.lt2 (H : RFil w lo hi f g s k C) : g < w.heap.size := Nat.lt_of_lt_of_le H.gin H.top
end
end Go.Proofs.YtoihkbanmnagkaaGreat
/-
  What May of the reference's filter says. No condition but those that stand in each.
-/
set_option linter.unusedSimpArgs false
set_option linter.unusedVariables false
namespace Go.Proofs.YtoihkbanmnagkaaGreat
open Go.RowKit Go.Sort M

end Go.Proofs.YtoihkbanmnagkaaGreat
/-
  A bucket in memory: twenty cells of a block, from an offset on; what is kept of them while others are written. No condition but those that stand in each.
-/
set_option linter.unusedSimpArgs false
set_option linter.unusedVariables false
namespace Go.Proofs.YtoihkbanmnagkaaGreat
open Go.RowKit Go.Sort M

def kyV (k : Ky) : Value := .agg #[.int .u64 (k.h : Int), .int .u64 (k.l : Int), .int .i64 k.n]
def x5 (x : Pl) : List Value := [.int .u64 (xh x : Int), .int .u64 (xl x : Int), .int .i64 (xn x), .int .i64 (xv x), .bool x.isSome]
structure Bkt (w : World) (g o : Nat) (C : List Pl) : Prop where
  four : C.length = 4
  lt : g < w.heap.size
  cell : ∀ (i : Nat) (hi : i < C.length) (j : Nat) (u : Value), (x5 C[i])[j]? = some u → w.cell? ⟨g, o + i * 5 + j, none⟩ = some u
  free : ∀ j, j < 20 → w.frozen? ⟨g, o + j, none⟩ = false
structure Turn (w w' : World) (g o n : Nat) : Prop where
  grown : w.grownBy w' (some g)
  cell : ∀ x, x < o ∨ o + n ≤ x → w'.cell? ⟨g, x, none⟩ = w.cell? ⟨g, x, none⟩
  frozen : ∀ x, w'.frozen? ⟨g, x, none⟩ = w.frozen? ⟨g, x, none⟩
theorem Turn.of_below {w w' : World} {g o n : Nat} (hg : g < w.heap.size) (hb : Below w.heap.size w w') : Turn w w' g o n :=
  ⟨⟨hb.os, hb.tape, hb.output, hb.size, fun k hk _ => hb.block k hk⟩, fun x _ => hb.cell (p := ⟨g, x, none⟩) hg, fun x => hb.frozen (p := ⟨g, x, none⟩) hg⟩
theorem Turn.trans {a b c : World} {g o n : Nat} (h : Turn a b g o n) (k : Turn b c g o n) : Turn a c g o n :=
  ⟨h.grown.trans k.grown, fun x hx => (k.cell x hx).trans (h.cell x hx), fun x => (k.frozen x).trans (h.frozen x)⟩
theorem Bkt.below {w w' : World} {g o : Nat} {C : List Pl} (H : Bkt w g o C) (hb : Below w.heap.size w w') : Bkt w' g o C :=
  ⟨H.four, Nat.lt_of_lt_of_le H.lt hb.size, fun i hi j u hu => (hb.cell (p := ⟨g, o + i * 5 + j, none⟩) H.lt).trans (H.cell i hi j u hu), fun j hj => (hb.frozen (p := ⟨g, o + j, none⟩) H.lt).trans (H.free j hj)⟩
theorem Bkt.kept {w w' : World} {g o g' o' n : Nat} {C : List Pl} (H : Bkt w g o C) (h : Turn w w' g' o' n) (hne : g ≠ g' ∨ o + 20 ≤ o' ∨ o' + n ≤ o) : Bkt w' g o C := by
  have hc : ∀ x, x < 20 → w'.cell? ⟨g, o + x, none⟩ = w.cell? ⟨g, o + x, none⟩ ∧ w'.frozen? ⟨g, o + x, none⟩ = w.frozen? ⟨g, o + x, none⟩ := by
    intro x hx
    by_cases e : g = g'
    · subst e
      exact ⟨h.cell _ (by omega), h.frozen _⟩
    · have hb := h.grown.block g H.lt (by simpa using e)
      exact ⟨World.cell?_of_block hb, by unfold World.frozen?; rw [hb]⟩
  have h4 := H.four
  refine ⟨H.four, Nat.lt_of_lt_of_le H.lt h.grown.size, fun i hi j u hu => ?_, fun j hj => (hc j hj).2.trans (H.free j hj)⟩
  have hj : j < 5 := (List.getElem?_eq_some_iff.1 hu).1
  rw [Nat.add_assoc, (hc (i * 5 + j) (by omega)).1, ← Nat.add_assoc]
  exact H.cell i hi j u hu
theorem Bkt.at {w : World} {g o : Nat} {C : List Pl} (H : Bkt w g o C) (i : Nat) (hi : i < C.length) :
    w.cell? ⟨g, o + i * 5, none⟩ = some (.int .u64 (xh C[i] : Int)) ∧ w.cell? ⟨g, o + i * 5 + 1, none⟩ = some (.int .u64 (xl C[i] : Int)) ∧ w.cell? ⟨g, o + i * 5 + 2, none⟩ = some (.int .i64 (xn C[i])) ∧ w.cell? ⟨g, o + i * 5 + 3, none⟩ = some (.int .i64 (xv C[i])) ∧ w.cell? ⟨g, o + i * 5 + 4, none⟩ = some (.bool C[i].isSome) :=
  ⟨H.cell i hi 0 _ rfl, H.cell i hi 1 _ rfl, H.cell i hi 2 _ rfl, H.cell i hi 3 _ rfl, H.cell i hi 4 _ rfl⟩
theorem turn_one (w : World) (g o n x : Nat) (u : Value) (h1 : o ≤ x) (h2 : x < o + n) : Turn w (w.setCell ⟨g, x, none⟩ u) g o n := by
  refine ⟨⟨rfl, rfl, rfl, by rw [World.size_setCell]; exact Nat.le_refl _, fun k hk hn => Below.heap_setCell w ⟨g, x, none⟩ u k (by simpa using hn)⟩, fun y hy => ?_, fun y => ?_⟩
  · rw [World.cell?_setCell_other]
    intro e
    injection e with e1 e2
    omega
  · rw [World.frozen?_setCell]
theorem Turn.mono {w w' : World} {g o n o' n' : Nat} (h : Turn w w' g o n) (h1 : o' ≤ o) (h2 : o + n ≤ o' + n') : Turn w w' g o' n' := ⟨h.grown, fun x hx => h.cell x (by omega), h.frozen⟩
def put5 (w : World) (g p : Nat) (x : Pl) : World :=
  ((((w.setCell ⟨g, p, none⟩ (.int .u64 (xh x : Int))).setCell ⟨g, p + 1, none⟩ (.int .u64 (xl x : Int))).setCell ⟨g, p + 2, none⟩ (.int .i64 (xn x))).setCell ⟨g, p + 3, none⟩ (.int .i64 (xv x))).setCell ⟨g, p + 4, none⟩ (.bool x.isSome)
theorem turn_put5 (w : World) (g p : Nat) (x : Pl) : Turn w (put5 w g p x) g p 5 :=
  ((((turn_one w g p 5 p _ (by omega) (by omega)).trans (turn_one _ g p 5 (p + 1) _ (by omega) (by omega))).trans (turn_one _ g p 5 (p + 2) _ (by omega) (by omega))).trans (turn_one _ g p 5 (p + 3) _ (by omega) (by omega))).trans
    (turn_one _ g p 5 (p + 4) _ (by omega) (by omega))
theorem put5_cell {w : World} {g p : Nat} (x : Pl) (hc : ∀ j, j < 5 → (w.cell? ⟨g, p + j, none⟩).isSome = true) (j : Nat) (u : Value) (hu : (x5 x)[j]? = some u) : (put5 w g p x).cell? ⟨g, p + j, none⟩ = some u := by
  have h0 := hc 0 (by omega)
  have h1 := hc 1 (by omega)
  have h2 := hc 2 (by omega)
  have h3 := hc 3 (by omega)
  have h4 := hc 4 (by omega)
  rw [Nat.add_zero] at h0
  have hj : j < 5 := (List.getElem?_eq_some_iff.1 hu).1
  unfold put5
  rcases (show j = 0 ∨ j = 1 ∨ j = 2 ∨ j = 3 ∨ j = 4 by omega) with rfl | rfl | rfl | rfl | rfl <;> (simp only [x5, List.getElem?_cons_zero, List.getElem?_cons_succ, Option.some.injEq] at hu; subst hu; simp [go_sem, h0, h1, h2, h3, h4])
theorem Bkt.put {w : World} {g o : Nat} {C : List Pl} (H : Bkt w g o C) (i : Nat) (hi : i < C.length) (x : Pl) : Bkt (put5 w g (o + i * 5) x) g o (C.set i x) ∧ Turn w (put5 w g (o + i * 5) x) g o 20 := by
  have h4 := H.four
  have ht := turn_put5 w g (o + i * 5) x
  refine ⟨⟨by simpa using h4, Nat.lt_of_lt_of_le H.lt ht.grown.size, fun k hk j u hu => ?_, fun j hj => (ht.frozen _).trans (H.free j hj)⟩, ht.mono (by omega) (by omega)⟩
  rw [List.length_set] at hk
  have hj : j < 5 := (List.getElem?_eq_some_iff.1 hu).1
  by_cases e : i = k
  · subst e
    rw [List.getElem_set_self] at hu
    exact put5_cell x (fun j hj => by rw [H.cell i hi j _ (List.getElem?_eq_getElem (by simpa [x5] using hj))]; rfl) j u hu
  · rw [List.getElem_set_ne e] at hu
    rw [ht.cell _ (by omega)]
    exact H.cell k hk j u hu
theorem Bkt.drew {w : World} {g o : Nat} {C : List Pl} (H : Bkt w g o C) : Bkt w.drew g o C := H.below (by go_grown)
theorem Turn.drew {w w' : World} {g o n : Nat} (h : Turn w w' g o n) (hl : g < w.heap.size) : Turn w w'.drew g o n := h.trans (Turn.of_below (Nat.lt_of_lt_of_le hl h.grown.size) (by go_grown))
theorem Bkt.put_drew {w w1 : World} {g o : Nat} {C : List Pl} (H : Bkt w g o C) (hb : Below w.heap.size w w1) (i : Nat) (hi : i < C.length) (x : Pl) :
    Bkt (put5 w1 g (o + i * 5) x).drew g o (C.set i x) ∧ Turn w (put5 w1 g (o + i * 5) x).drew g o 20 := by
  have hP := (H.below hb).put i hi x
  exact ⟨hP.1.drew, ((Turn.of_below H.lt hb).trans hP.2).drew H.lt⟩
theorem Turn.fresh {w w1 : World} {g o n : Nat} (h : Turn w w1 g o n) (hl : g < w.heap.size) (b x : Nat) (u : Value) (hb : w.heap.size ≤ b) : Turn w (w1.setCell ⟨b, x, none⟩ u) g o n := by
  refine ⟨⟨h.grown.os, h.grown.tape, h.grown.output, by rw [World.size_setCell]; exact h.grown.size, fun k hk hn => (Below.heap_setCell w1 ⟨b, x, none⟩ u k (by simp; omega)).trans (h.grown.block k hk hn)⟩, fun y hy => ?_, fun y => ?_⟩
  · rw [World.cell?_setCell_other]
    · exact h.cell y hy
    · intro e
      injection e with e1 e2
      omega
  · rw [World.frozen?_setCell]
    exact h.frozen y
theorem Bkt.fresh {w1 : World} {g o : Nat} {C : List Pl} (H : Bkt w1 g o C) (b x : Nat) (u : Value) (hb : g ≠ b) : Bkt (w1.setCell ⟨b, x, none⟩ u) g o C := H.kept (turn_one w1 b x 1 x u (Nat.le_refl _) (by omega)) (.inl hb)
theorem Turn.far {w w' : World} {g o n b : Nat} (h : Turn w w' g o n) (hb : b < w.heap.size) (hne : b ≠ g) (x : Nat) : w'.cell? ⟨b, x, none⟩ = w.cell? ⟨b, x, none⟩ ∧ w'.frozen? ⟨b, x, none⟩ = w.frozen? ⟨b, x, none⟩ := by
  have hB := h.grown.block b hb (by simpa using hne)
  exact ⟨World.cell?_of_block hB, by unfold World.frozen?; rw [hB]⟩
end Go.Proofs.YtoihkbanmnagkaaGreat
/-
  What the calls of a bucket hand back, and what they leave in memory: the first place of a key, the first empty one. No condition but that the bucket's cells lie in memory, and that words are words of 64 bits.
-/
set_option linter.unusedSimpArgs false
set_option linter.unusedVariables false
namespace Go.Proofs.YtoihkbanmnagkaaGreat
open Go.RowKit Go.Sort M

def bcs (C : List Pl) : List Value := C.flatMap x5
theorem bcs_at : ∀ (C : List Pl) (i : Nat) (hi : i < C.length) (j : Nat), j < 5 → (bcs C)[i * 5 + j]? = (x5 C[i])[j]?
  | x :: C, 0, _, j, hj => by
    show (x5 x ++ bcs C)[0 * 5 + j]? = _
    rw [List.getElem?_append_left (by simp [x5]; omega)]
    simp
  | x :: C, i + 1, hi, j, hj => by
    show (x5 x ++ bcs C)[(i + 1) * 5 + j]? = _
    rw [List.getElem?_append_right (by simp [x5]; omega), show (i + 1) * 5 + j - (x5 x).length = i * 5 + j by simp [x5]; omega, bcs_at C i (by simpa using hi) j hj]
    simp
theorem bcs_len (C : List Pl) : (bcs C).length = C.length * 5 := by
  unfold bcs
  induction C with
  | nil => rfl
  | cons x C ih => rw [List.flatMap_cons, List.length_append, ih]; simp [x5]; omega
theorem Bkt.range {w : World} {g o : Nat} {C : List Pl} (H : Bkt w g o C) : w.rangeAt g o (bcs C) := by
  intro j v hv
  have hl : (bcs C).length = 20 := by rw [bcs_len, H.four]
  have hj : j < 20 := by
    have := (List.getElem?_eq_some_iff.1 hv).1
    omega
  have h5 : j / 5 < C.length := by rw [H.four]; omega
  have e := bcs_at C (j / 5) h5 (j % 5) (by omega)
  rw [show j / 5 * 5 + j % 5 = j by omega] at e
  have := H.cell (j / 5) h5 (j % 5) v (e ▸ hv)
  rwa [show o + j / 5 * 5 + j % 5 = o + j by omega] at this
theorem wpList_load_arr {ops : Array Oper} {rest : List Oper} {op : Oper} {a : Act} {w : World} {Q : Exit → Act → World → Prop} (x : Operand) (g o : Nat) (L : List Value) (hgd : op.guard = none) (ho : op.op = .load 118 x)
    (hx : a.eval x = .pointer (some ⟨g, o, none⟩)) (hc : w.rangeAt g o L) (hl : L.length = 20) (h : wpList Tryz.prog ops Q rest (a.put op.dst (.agg L.toArray)) w) : wpList Tryz.prog ops Q (op :: rest) a w :=
  wpList_load_mid hgd 118 x ho g o hx L _ hc Tryz.underlying118 rfl (by rw [hl]; kernel_rfl) h
theorem wpList_index_arr {ops : Array Oper} {rest : List Oper} {op : Oper} {a : Act} {w : World} {Q : Exit → Act → World → Prop} (x y : Operand) (X : Array Value) (i : Int) (v : Value) (hgd : op.guard = none) (ho : op.op = .index 118 x y)
    (hx : a.eval x = .agg X) (hy : a.eval y = .int .i64 i) (hr : ∀ w, (Instr.index 118 (.agg X) (.int .i64 i)).run Tryz.prog w = .ok v w) (h : wpList Tryz.prog ops Q rest (a.put op.dst v) w) : wpList Tryz.prog ops Q (op :: rest) a w :=
  wpList_plain hgd fun _ hK => by
    unfold Oper.wp execOp
    simp only [ho, hx, hy, Sem.run_bind, hr, Result.andThen_ok, Sem.run_pure]
    exact hK _ _ h
set_option maxRecDepth 100000 in
theorem index_arr {C : List Pl} (h4 : C.length = 4) (i : Nat) (hi : i < C.length) (w : World) :
    (Instr.index 118 (.agg (bcs C).toArray) (.int .i64 (i : Int))).run Tryz.prog w = .ok (.agg #[.int .u64 (xh C[i] : Int), .int .u64 (xl C[i] : Int), .int .i64 (xn C[i]), .int .i64 (xv C[i]), .bool C[i].isSome]) w := by
  obtain ⟨a, b, c, d, rfl⟩ : ∃ a b c d, C = [a, b, c, d] := by
    match C, h4 with
    | [a, b, c, d], _ => exact ⟨a, b, c, d, rfl⟩
  simp only [List.length_cons, List.length_nil] at hi
  rcases (show i = 0 ∨ i = 1 ∨ i = 2 ∨ i = 3 by omega) with rfl | rfl | rfl | rfl <;> rfl
theorem eqlK (a b : Nat) (n : Int) (c d : Nat) (m : Int) (w : World) : (binOp .eql 38 (.agg #[.int .u64 a, .int .u64 b, .int .i64 n]) (.agg #[.int .u64 c, .int .u64 d, .int .i64 m])).run Tryz.prog w =
    .ok (.bool (decide (a = c ∧ b = d ∧ n = m))) w := by
  have e1 : decide (a = c ∧ b = d ∧ n = m) = (decide ((a : Int) = c) && (decide ((b : Int) = d) && decide (n = m))) := by
    rw [← Bool.decide_and, ← Bool.decide_and, decide_eq_decide]; omega
  rw [e1]
  by_cases h1 : (a : Int) = c <;> by_cases h2 : (b : Int) = d <;> by_cases h3 : n = m <;> simp [go_sem, h1, h2, h3]
set_option maxHeartbeats 1000000 in
theorem find_any (g o : Nat) (C : List Pl) (k : Ky) (w : World) (H : Bkt w g o C) :
    Calls Tryz.prog 90 #[.pointer (some ⟨g, o, none⟩), kyV k] w fun e w' => e = .returned (.int .i64 (idxI (hasK k) C)) ∧ Below w.heap.size w w' := by
  have hld := (H.below (w' := w.alloc (.cells #[.int .u64 (k.h : Int), .int .u64 (k.l : Int), .int .i64 k.n] 38)) (by go_grown)).range
  have hll : (bcs C).length = 20 := by rw [bcs_len, H.four]
  have HI := Lib.hid (fun i hi => index_arr H.four i hi)
  have h4 := H.four
  have hg := H.lt
  generalize bcs C = X at hld hll HI
  clear H
  unfold kyV
  go_enter Tryz.func90, Tryz.ntmps90
  go_wp2_with (refine wpList_load_arr _ g o X rfl rfl rfl hld hll ?_)
  clear hld hll
  go_loopw [5, 6, 13] (fun s5 s6 i wr => ∃ (j : Nat), j ≤ 4 ∧ i = .int .i64 (j : Int) ∧ (∀ x (hx : x < C.length), x < j → hasK k C[x] = false) ∧ wr.cell? ⟨w.heap.size, 0, none⟩ = some (.int .u64 (k.h : Int)) ∧ wr.cell? ⟨w.heap.size, 1, none⟩ = some (.int .u64 (k.l : Int)) ∧ wr.cell? ⟨w.heap.size, 2, none⟩ = some (.int .i64 k.n) ∧ w.heap.size < wr.heap.size ∧ Below w.heap.size w wr) (fun _ _ i _ => 4 - (intOf i).toNat)
  case atStart => exact ⟨0, by omega, rfl, fun x _ h => absurd h (by omega), by simp [go_sem], by simp [go_sem], by simp [go_sem], by simp, by go_grown⟩
  case round =>
    obtain ⟨j, hj, rfl, hno, k0, k1, k2, hz, hb⟩ := hrel
    by_cases hlt : j < 4
    · have hi := HI.out j (by omega)
      have hK := Lib.hid (hasK_eq k (C[j]'(by omega)))
      have hno' := Lib.hid hno
      clear hno
      generalize hx : (C[j]'(by omega)) = x at hi hK
      have HX := Lib.hid hx
      clear hx
      have hE := eqlK (xh x) (xl x) (xn x) k.h k.l k.n
      by_cases hs : x.isSome = true
      · rw [hs] at hi
        by_cases he : xh x = k.h ∧ xl x = k.l ∧ xn x = k.n
        · rw [decide_eq_true he] at hE
          have hm : Hid (hasK k x = true) := by show hasK k x = true; rw [hK.out, hs, decide_eq_true he]; rfl
          clear hs hK he
          go_wp2_with (refine wpList_index_arr _ _ _ _ _ rfl rfl rfl rfl hi ?_)
          go_ret
          refine ⟨ret_num (idxI_hit (by omega) (by rw [HX.out]; exact hm.out) hno'.out).symm, by go_grown⟩
        · rw [decide_eq_false he] at hE
          have hm : Hid (hasK k x = false) := by show hasK k x = false; rw [hK.out, hs, decide_eq_false he]; rfl
          clear hs hK he
          go_wp2_with (refine wpList_index_arr _ _ _ _ _ rfl rfl rfl rfl hi ?_)
          go_roundw
          case rel =>
            refine ⟨j + 1, by omega, by go_num, fun y hy hlt2 => ?_, (World.cell?_alloc_lt wr _ ⟨w.heap.size, 0, none⟩ hz).trans k0, (World.cell?_alloc_lt wr _ ⟨w.heap.size, 1, none⟩ hz).trans k1, (World.cell?_alloc_lt wr _ ⟨w.heap.size, 2, none⟩ hz).trans k2, by simp; omega, by go_grown⟩
            by_cases e : y = j
            · subst e; rw [HX.out]; exact hm.out
            · exact hno'.out y hy (by omega)
          case measure => simp [intOf]; omega
      · rw [Bool.not_eq_true] at hs
        rw [hs] at hi
        have hm : Hid (hasK k x = false) := by show hasK k x = false; rw [hK.out, hs]; rfl
        clear hs hK hE
        go_wp2_with (refine wpList_index_arr _ _ _ _ _ rfl rfl rfl rfl hi ?_)
        go_roundw
        case rel =>
          refine ⟨j + 1, by omega, by go_num, fun y hy hlt2 => ?_, (World.cell?_alloc_lt wr _ ⟨w.heap.size, 0, none⟩ hz).trans k0, (World.cell?_alloc_lt wr _ ⟨w.heap.size, 1, none⟩ hz).trans k1, (World.cell?_alloc_lt wr _ ⟨w.heap.size, 2, none⟩ hz).trans k2, by simp; omega, by go_grown⟩
          by_cases e : y = j
          · subst e; rw [HX.out]; exact hm.out
          · exact hno'.out y hy (by omega)
        case measure => simp [intOf]; omega
    · go_wp2
      go_ret
      exact ⟨ret_num (idxI_miss (fun x hx => hno x hx (by omega))).symm, hb⟩
set_option maxHeartbeats 1000000 in
theorem empty_any (g o : Nat) (C : List Pl) (w : World) (H : Bkt w g o C) :
    Calls Tryz.prog 100 #[.pointer (some ⟨g, o, none⟩)] w fun e w' => e = .returned (.int .i64 (idxI Option.isNone C)) ∧ Below w.heap.size w w' := by
  have hld := H.range
  have hll : (bcs C).length = 20 := by rw [bcs_len, H.four]
  have HI := Lib.hid (fun i hi => index_arr H.four i hi)
  have h4 := H.four
  have hg := H.lt
  generalize bcs C = X at hld hll HI
  clear H
  go_enter Tryz.func100, Tryz.ntmps100
  go_wp2_with (refine wpList_load_arr _ g o X rfl rfl rfl hld hll ?_)
  clear hld hll
  go_loopw [3, 4, 11] (fun s3 s4 i wr => ∃ (j : Nat), j ≤ 4 ∧ i = .int .i64 (j : Int) ∧ (∀ x (hx : x < C.length), x < j → Option.isNone C[x] = false) ∧ w.heap.size ≤ wr.heap.size ∧ Below w.heap.size w wr) (fun _ _ i _ => 4 - (intOf i).toNat)
  case atStart => exact ⟨0, by omega, rfl, fun x _ h => absurd h (by omega), Nat.le_refl _, by go_grown⟩
  case round =>
    obtain ⟨j, hj, rfl, hno, hz, hb⟩ := hrel
    by_cases hlt : j < 4
    · have hi := HI.out j (by omega)
      have hno' := Lib.hid hno
      clear hno
      generalize hx : (C[j]'(by omega)) = x at hi
      have HX := Lib.hid hx
      clear hx
      by_cases hs : x.isSome = true
      · rw [hs] at hi
        have hm : Hid (Option.isNone x = false) := by show Option.isNone x = false; cases x <;> simp_all
        clear hs
        go_wp2_with (refine wpList_index_arr _ _ _ _ _ rfl rfl rfl rfl hi ?_)
        go_roundw
        case rel =>
          refine ⟨j + 1, by omega, by go_num, fun y hy hlt2 => ?_, by simp; omega, by go_grown⟩
          by_cases e : y = j
          · subst e; rw [HX.out]; exact hm.out
          · exact hno'.out y hy (by omega)
        case measure => simp [intOf]; omega
      · rw [Bool.not_eq_true] at hs
        rw [hs] at hi
        have hm : Hid (Option.isNone x = true) := by show Option.isNone x = true; cases x <;> simp_all
        clear hs
        go_wp2_with (refine wpList_index_arr _ _ _ _ _ rfl rfl rfl rfl hi ?_)
        go_ret
        refine ⟨ret_num (idxI_hit (by omega) (by rw [HX.out]; exact hm.out) hno'.out).symm, by go_grown⟩
    · go_wp2
      go_ret
      exact ⟨ret_num (idxI_miss (fun x hx => hno x hx (by omega))).symm, hb⟩
end Go.Proofs.YtoihkbanmnagkaaGreat
