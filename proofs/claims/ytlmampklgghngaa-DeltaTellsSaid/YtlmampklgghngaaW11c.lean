/-
  What All of a bucket hands back: a new row of routes, by place. No condition but that the bucket's cells lie in memory.
-/
import Derived.Test.YtlmampklgghngaaRow
import Derived.Test.YtlmampklgghngaaM6
import Derived.Test.YtlmampklgghngaaReg
import Derived.Test.YtlmampklgghngaaM19
import Derived.Handy
import Derived.Deep.MidRow
/-
  Rows of routes in memory: a list of keys with their values as cells, four to each; rows of the call's own, and what is read of them. No condition but those that stand in each.
-/
set_option linter.unusedSimpArgs false
set_option linter.unusedVariables false
namespace Go.Proofs.Ytlmampklgghngaa
open Go.RowKit Go.Sort M

def rcell (r : Rt) : List Value := [.int .u64 (r.k.h : Int), .int .u64 (r.k.l : Int), .int .i64 r.k.n, .int .i64 r.v]
def rcs (L : List Rt) : List Value := L.flatMap rcell
theorem rcs_len (L : List Rt) : (rcs L).length = L.length * 4 := by
  unfold rcs
  induction L with
  | nil => rfl
  | cons x L ih => simp only [List.flatMap_cons, List.length_append, ih, rcell, List.length_cons, List.length_nil]; omega
theorem rcs_append (L M : List Rt) : rcs (L ++ M) = rcs L ++ rcs M := by simp [rcs]
theorem rcs_cons (x : Rt) (L : List Rt) : rcs (x :: L) = rcell x ++ rcs L := rfl
theorem rcs_one (p : Rt) : rcs [p] = rcell p := by simp [rcs]
theorem rcs_cell : ∀ (L : List Rt) (k j : Nat) (h : k < L.length), j < 4 → (rcs L)[k * 4 + j]? = (rcell L[k])[j]?
  | x :: L, 0, j, _, hj => by
    rw [rcs_cons, List.getElem?_append_left (by simp [rcell]; omega)]
    simp
  | x :: L, k + 1, j, h, hj => by
    rw [rcs_cons, List.getElem?_append_right (by simp [rcell]; omega), show (k + 1) * 4 + j - (rcell x).length = k * 4 + j by simp [rcell]; omega]
    rw [rcs_cell L k j (by simpa using h) hj]
    simp
theorem rcs_one' (L : List Rt) : ∀ u ∈ rcs L, u.oneCell' = true := by
  intro u hu
  unfold rcs at hu
  rw [List.mem_flatMap] at hu
  obtain ⟨p, -, hp⟩ := hu
  simp only [rcell, List.mem_cons, List.not_mem_nil, or_false] at hp
  rcases hp with rfl | rfl | rfl | rfl <;> rfl
/-- Number k of a row of routes. -/
theorem Row.rt {w : World} {p : Option Addr} {L : List Rt} (h : Row w p (rcs L)) {k : Nat} (hk : k < L.length) : ∃ g o, p = some ⟨g, o, none⟩ ∧ g < w.heap.size ∧
    w.cell? ⟨g, o + k * 4, none⟩ = some (.int .u64 (L[k].k.h : Int)) ∧ w.cell? ⟨g, o + k * 4 + 1, none⟩ = some (.int .u64 (L[k].k.l : Int)) ∧ w.cell? ⟨g, o + k * 4 + 2, none⟩ = some (.int .i64 L[k].k.n) ∧ w.cell? ⟨g, o + k * 4 + 3, none⟩ = some (.int .i64 L[k].v) := by
  rcases h with h | ⟨g, o, e, hg, hc⟩
  · have := rcs_len L
    rw [h] at this
    simp at this; omega
  · exact ⟨g, o, e, hg, hc (k * 4) _ (rcs_cell L k 0 hk (by omega)), hc (k * 4 + 1) _ (rcs_cell L k 1 hk (by omega)), hc (k * 4 + 2) _ (rcs_cell L k 2 hk (by omega)), hc (k * 4 + 3) _ (rcs_cell L k 3 hk (by omega))⟩
/-- A new row of routes. -/
def NewRts (w w' : World) (e : Ending) (L : List Rt) : Prop := ∃ p c, e = .returned (.slice p L.length c) ∧ w'.ownsRow w.heap.size 38 4 (.slice p L.length c) L.length (rcs L) ∧ Below w.heap.size w w'
theorem infoR : (Try.prog.info? 38).map (fun i => (i.zero, i.size, i.bytes)) = some (some (.agg #[.int .u64 0, .int .u64 0, .int .i64 0, .int .i64 0]), 4, 32) := by kernel_rfl
/-- Four new cells, at the head of their block. -/
theorem four_new {w : World} {g : Nat} {a b c d : Value} (h0 : w.cell? ⟨g, 0, none⟩ = some a) (h1 : w.cell? ⟨g, 1, none⟩ = some b) (h2 : w.cell? ⟨g, 2, none⟩ = some c) (h3 : w.cell? ⟨g, 3, none⟩ = some d) :
    ∀ j u, [a, b, c, d][j]? = some u → w.cell? ((⟨g, 0, none⟩ : Addr).add j) = some u := by
  intro j u hj
  have hlt : j < 4 := (List.getElem?_eq_some_iff.1 hj).1
  have he : (⟨g, 0, none⟩ : Addr).add j = ⟨g, j, none⟩ := by unfold Addr.add; split <;> simp_all
  rw [he]
  rcases (show j = 0 ∨ j = 1 ∨ j = 2 ∨ j = 3 by omega) with rfl | rfl | rfl | rfl <;> (simp only [List.getElem?_cons_zero, List.getElem?_cons_succ, Option.some.injEq] at hj; subst hj; assumption)
theorem own_rsnoc {w : World} {B n : Nat} {e : TypeId} {v : Value} {L : List Rt} {x : Rt} (h : w.ownsRow B e 4 v (n + 1) (rcs L ++ rcell x)) (hn : n = L.length) : w.ownsRow B e 4 v (L ++ [x]).length (rcs (L ++ [x])) := by
  rw [rcs_append, rcs_one, List.length_append, ← hn]
  exact h
end Go.Proofs.Ytlmampklgghngaa
/-
  Rows of changes in memory: five cells to each; whatever the type's number. No condition but those that stand in each.
-/
set_option linter.unusedSimpArgs false
set_option linter.unusedVariables false
namespace Go.Proofs.Ytlmampklgghngaa
open Go Go.RowKit Go.Sort M

def ccell (c : Ch) : List Value := [.int .u64 (c.k.h : Int), .int .u64 (c.k.l : Int), .int .i64 c.k.n, .int .i64 c.o, .int .i64 c.n]
def ccs (L : List Ch) : List Value := L.flatMap ccell
theorem ccs_len (L : List Ch) : (ccs L).length = L.length * 5 := by
  unfold ccs
  induction L with
  | nil => rfl
  | cons x L ih => simp only [List.flatMap_cons, List.length_append, ih, ccell, List.length_cons, List.length_nil]; omega
theorem ccs_append (L M : List Ch) : ccs (L ++ M) = ccs L ++ ccs M := by simp [ccs]
theorem ccs_cons (x : Ch) (L : List Ch) : ccs (x :: L) = ccell x ++ ccs L := rfl
theorem ccs_one (p : Ch) : ccs [p] = ccell p := by simp [ccs]
theorem ccs_cell : ∀ (L : List Ch) (k j : Nat) (h : k < L.length), j < 5 → (ccs L)[k * 5 + j]? = (ccell L[k])[j]?
  | x :: L, 0, j, _, hj => by
    rw [ccs_cons, List.getElem?_append_left (by simp [ccell]; omega)]
    simp
  | x :: L, k + 1, j, h, hj => by
    rw [ccs_cons, List.getElem?_append_right (by simp [ccell]; omega), show (k + 1) * 5 + j - (ccell x).length = k * 5 + j by simp [ccell]; omega]
    rw [ccs_cell L k j (by simpa using h) hj]
    simp
theorem ccs_one' (L : List Ch) : ∀ u ∈ ccs L, u.oneCell' = true := by
  intro u hu
  unfold ccs at hu
  rw [List.mem_flatMap] at hu
  obtain ⟨p, -, hp⟩ := hu
  simp only [ccell, List.mem_cons, List.not_mem_nil, or_false] at hp
  rcases hp with rfl | rfl | rfl | rfl | rfl <;> rfl
/-- Change k of a row. -/
theorem Row.ch {w : World} {p : Option Addr} {L : List Ch} (h : Row w p (ccs L)) {k : Nat} (hk : k < L.length) : ∃ g o, p = some ⟨g, o, none⟩ ∧ g < w.heap.size ∧
    w.cell? ⟨g, o + k * 5, none⟩ = some (.int .u64 (L[k].k.h : Int)) ∧ w.cell? ⟨g, o + k * 5 + 1, none⟩ = some (.int .u64 (L[k].k.l : Int)) ∧ w.cell? ⟨g, o + k * 5 + 2, none⟩ = some (.int .i64 L[k].k.n) ∧
    w.cell? ⟨g, o + k * 5 + 3, none⟩ = some (.int .i64 L[k].o) ∧ w.cell? ⟨g, o + k * 5 + 4, none⟩ = some (.int .i64 L[k].n) := by
  rcases h with h | ⟨g, o, e, hg, hc⟩
  · have := ccs_len L
    rw [h] at this
    simp at this; omega
  · exact ⟨g, o, e, hg, hc (k * 5) _ (ccs_cell L k 0 hk (by omega)), hc (k * 5 + 1) _ (ccs_cell L k 1 hk (by omega)), hc (k * 5 + 2) _ (ccs_cell L k 2 hk (by omega)), hc (k * 5 + 3) _ (ccs_cell L k 3 hk (by omega)), hc (k * 5 + 4) _ (ccs_cell L k 4 hk (by omega))⟩
/-- A new row of changes, of type t. -/
def NewChs (t : TypeId) (w w' : World) (e : Ending) (L : List Ch) : Prop := ∃ p c, e = .returned (.slice p L.length c) ∧ w'.ownsRow w.heap.size t 5 (.slice p L.length c) L.length (ccs L) ∧ Below w.heap.size w w'
/-- Five new cells, at the head of their block. -/
theorem five_new {w : World} {g : Nat} {c : Ch} (h0 : w.cell? ⟨g, 0, none⟩ = some (.int .u64 (c.k.h : Int))) (h1 : w.cell? ⟨g, 1, none⟩ = some (.int .u64 (c.k.l : Int))) (h2 : w.cell? ⟨g, 2, none⟩ = some (.int .i64 c.k.n)) (h3 : w.cell? ⟨g, 3, none⟩ = some (.int .i64 c.o)) (h4 : w.cell? ⟨g, 4, none⟩ = some (.int .i64 c.n)) :
    ∀ j u, (ccell c)[j]? = some u → w.cell? ((⟨g, 0, none⟩ : Addr).add j) = some u := by
  intro j u hj
  rw [show (⟨g, 0, none⟩ : Addr).add j = ⟨g, j, none⟩ by unfold Addr.add; split <;> simp_all]
  match j, hj with
  | 0, hj => simp [ccell] at hj; subst hj; exact h0
  | 1, hj => simp [ccell] at hj; subst hj; exact h1
  | 2, hj => simp [ccell] at hj; subst hj; exact h2
  | 3, hj => simp [ccell] at hj; subst hj; exact h3
  | 4, hj => simp [ccell] at hj; subst hj; exact h4
theorem own_csnoc {w : World} {B n : Nat} {e : TypeId} {v : Value} {L : List Ch} {x : Ch} (h : w.ownsRow B e 5 v (n + 1) (ccs L ++ ccell x)) (hn : n = L.length) : w.ownsRow B e 5 v (L ++ [x]).length (ccs (L ++ [x])) := by
  rw [ccs_append, ccs_one, List.length_append, ← hn]
  exact h
/-- What a row has of a key, by where it stands. -/
theorem getS_find {N : List Rt} {k : Ky} {i : Nat} (h : findS N k = some i) : ∃ hi : i < N.length, getS N k = some N[i].v := by
  unfold findS at h
  obtain ⟨hi, h1, h2⟩ := List.findIdx?_eq_some_iff_getElem.1 h
  refine ⟨hi, ?_⟩
  unfold getS
  have : N.find? (fun r => decide (r.k = k)) = some N[i] := List.find?_eq_some_iff_getElem.2 ⟨h1, i, hi, rfl, fun j hj => by simpa using h2 j hj⟩
  rw [this]
  rfl
theorem getS_nofind {N : List Rt} {k : Ky} (h : findS N k = none) : getS N k = none := by
  rw [getS_none]
  intro hk
  have := find_is18.2 hk
  rw [h] at this
  cases this
end Go.Proofs.Ytlmampklgghngaa
/-
  A bucket in memory: twenty cells of a block, from an offset on; what is kept of them while others are written. No condition but those that stand in each.
-/
set_option linter.unusedSimpArgs false
set_option linter.unusedVariables false
namespace Go.Proofs.Ytlmampklgghngaa
open Go.RowKit Go.Sort M

/-- A key as a value. -/
def kyV (k : Ky) : Value := .agg #[.int .u64 (k.h : Int), .int .u64 (k.l : Int), .int .i64 k.n]
/-- The cells of a place. -/
def x5 (x : Pl) : List Value := [.int .u64 (xh x : Int), .int .u64 (xl x : Int), .int .i64 (xn x), .int .i64 (xv x), .bool x.isSome]
/-- A bucket at offset o of block g. -/
structure Bkt (w : World) (g o : Nat) (C : List Pl) : Prop where
  four : C.length = 4
  lt : g < w.heap.size
  cell : ∀ (i : Nat) (hi : i < C.length) (j : Nat) (u : Value), (x5 C[i])[j]? = some u → w.cell? ⟨g, o + i * 5 + j, none⟩ = some u
  free : ∀ j, j < 20 → w.frozen? ⟨g, o + j, none⟩ = false
/-- What is written: nothing but n cells of block g, from offset o on. -/
structure Turn (w w' : World) (g o n : Nat) : Prop where
  grown : w.grownBy w' (some g)
  cell : ∀ x, x < o ∨ o + n ≤ x → w'.cell? ⟨g, x, none⟩ = w.cell? ⟨g, x, none⟩
  frozen : ∀ x, w'.frozen? ⟨g, x, none⟩ = w.frozen? ⟨g, x, none⟩
theorem Turn.of_below {w w' : World} {g o n : Nat} (hg : g < w.heap.size) (hb : Below w.heap.size w w') : Turn w w' g o n :=
  ⟨⟨hb.os, hb.tape, hb.output, hb.size, fun k hk _ => hb.block k hk⟩, fun x _ => hb.cell (p := ⟨g, x, none⟩) hg, fun x => hb.frozen (p := ⟨g, x, none⟩) hg⟩
theorem Turn.trans {a b c : World} {g o n : Nat} (h : Turn a b g o n) (k : Turn b c g o n) : Turn a c g o n :=
  ⟨h.grown.trans k.grown, fun x hx => (k.cell x hx).trans (h.cell x hx), fun x => (k.frozen x).trans (h.frozen x)⟩
theorem Bkt.below {w w' : World} {g o : Nat} {C : List Pl} (H : Bkt w g o C) (hb : Below w.heap.size w w') : Bkt w' g o C :=
  ⟨H.four, Nat.lt_of_lt_of_le H.lt hb.size, fun i hi j u hu => (hb.cell (p := ⟨g, o + i * 5 + j, none⟩) H.lt).trans (H.cell i hi j u hu), fun j hj => (hb.frozen (p := ⟨g, o + j, none⟩) H.lt).trans (H.free j hj)⟩
/-- A bucket's own cells are not written. -/
theorem Bkt.kept {w w' : World} {g o g' o' n : Nat} {C : List Pl} (H : Bkt w g o C) (h : Turn w w' g' o' n) (hne : g ≠ g' ∨ o + 20 ≤ o' ∨ o' + n ≤ o) : Bkt w' g o C := by
  have hc : ∀ x, x < 20 → w'.cell? ⟨g, o + x, none⟩ = w.cell? ⟨g, o + x, none⟩ ∧ w'.frozen? ⟨g, o + x, none⟩ = w.frozen? ⟨g, o + x, none⟩ := by
    intro x hx
    by_cases e : g = g'
    · subst e
      exact ⟨h.cell _ (by omega), h.frozen _⟩
    · have hb := h.grown.block g H.lt (by simpa using e)
      exact ⟨World.cell?_of_block hb, by unfold World.frozen?; rw [hb]⟩
  have h4 := H.four
  refine ⟨H.four, Nat.lt_of_lt_of_le H.lt h.grown.size, fun i hi j u hu => ?_, fun j hj => (hc j hj).2.trans (H.free j hj)⟩
  have hj : j < 5 := (List.getElem?_eq_some_iff.1 hu).1
  rw [Nat.add_assoc, (hc (i * 5 + j) (by omega)).1, ← Nat.add_assoc]
  exact H.cell i hi j u hu
theorem Bkt.at {w : World} {g o : Nat} {C : List Pl} (H : Bkt w g o C) (i : Nat) (hi : i < C.length) :
    w.cell? ⟨g, o + i * 5, none⟩ = some (.int .u64 (xh C[i] : Int)) ∧ w.cell? ⟨g, o + i * 5 + 1, none⟩ = some (.int .u64 (xl C[i] : Int)) ∧ w.cell? ⟨g, o + i * 5 + 2, none⟩ = some (.int .i64 (xn C[i])) ∧ w.cell? ⟨g, o + i * 5 + 3, none⟩ = some (.int .i64 (xv C[i])) ∧ w.cell? ⟨g, o + i * 5 + 4, none⟩ = some (.bool C[i].isSome) :=
  ⟨H.cell i hi 0 _ rfl, H.cell i hi 1 _ rfl, H.cell i hi 2 _ rfl, H.cell i hi 3 _ rfl, H.cell i hi 4 _ rfl⟩
theorem turn_one (w : World) (g o n x : Nat) (u : Value) (h1 : o ≤ x) (h2 : x < o + n) : Turn w (w.setCell ⟨g, x, none⟩ u) g o n := by
  refine ⟨⟨rfl, rfl, rfl, by rw [World.size_setCell]; exact Nat.le_refl _, fun k hk hn => Below.heap_setCell w ⟨g, x, none⟩ u k (by simpa using hn)⟩, fun y hy => ?_, fun y => ?_⟩
  · rw [World.cell?_setCell_other]
    intro e
    injection e with e1 e2
    omega
  · rw [World.frozen?_setCell]
theorem Turn.mono {w w' : World} {g o n o' n' : Nat} (h : Turn w w' g o n) (h1 : o' ≤ o) (h2 : o + n ≤ o' + n') : Turn w w' g o' n' := ⟨h.grown, fun x hx => h.cell x (by omega), h.frozen⟩
/-- The five cells of a place are written. -/
def put5 (w : World) (g p : Nat) (x : Pl) : World :=
  ((((w.setCell ⟨g, p, none⟩ (.int .u64 (xh x : Int))).setCell ⟨g, p + 1, none⟩ (.int .u64 (xl x : Int))).setCell ⟨g, p + 2, none⟩ (.int .i64 (xn x))).setCell ⟨g, p + 3, none⟩ (.int .i64 (xv x))).setCell ⟨g, p + 4, none⟩ (.bool x.isSome)
theorem turn_put5 (w : World) (g p : Nat) (x : Pl) : Turn w (put5 w g p x) g p 5 :=
  ((((turn_one w g p 5 p _ (by omega) (by omega)).trans (turn_one _ g p 5 (p + 1) _ (by omega) (by omega))).trans (turn_one _ g p 5 (p + 2) _ (by omega) (by omega))).trans (turn_one _ g p 5 (p + 3) _ (by omega) (by omega))).trans
    (turn_one _ g p 5 (p + 4) _ (by omega) (by omega))
theorem put5_cell {w : World} {g p : Nat} (x : Pl) (hc : ∀ j, j < 5 → (w.cell? ⟨g, p + j, none⟩).isSome = true) (j : Nat) (u : Value) (hu : (x5 x)[j]? = some u) : (put5 w g p x).cell? ⟨g, p + j, none⟩ = some u := by
  have h0 := hc 0 (by omega)
  have h1 := hc 1 (by omega)
  have h2 := hc 2 (by omega)
  have h3 := hc 3 (by omega)
  have h4 := hc 4 (by omega)
  rw [Nat.add_zero] at h0
  have hj : j < 5 := (List.getElem?_eq_some_iff.1 hu).1
  unfold put5
  rcases (show j = 0 ∨ j = 1 ∨ j = 2 ∨ j = 3 ∨ j = 4 by omega) with rfl | rfl | rfl | rfl | rfl <;> (simp only [x5, List.getElem?_cons_zero, List.getElem?_cons_succ, Option.some.injEq] at hu; subst hu; simp [go_sem, h0, h1, h2, h3, h4])
theorem Bkt.put {w : World} {g o : Nat} {C : List Pl} (H : Bkt w g o C) (i : Nat) (hi : i < C.length) (x : Pl) : Bkt (put5 w g (o + i * 5) x) g o (C.set i x) ∧ Turn w (put5 w g (o + i * 5) x) g o 20 := by
  have h4 := H.four
  have ht := turn_put5 w g (o + i * 5) x
  refine ⟨⟨by simpa using h4, Nat.lt_of_lt_of_le H.lt ht.grown.size, fun k hk j u hu => ?_, fun j hj => (ht.frozen _).trans (H.free j hj)⟩, ht.mono (by omega) (by omega)⟩
  rw [List.length_set] at hk
  have hj : j < 5 := (List.getElem?_eq_some_iff.1 hu).1
  by_cases e : i = k
  · subst e
    rw [List.getElem_set_self] at hu
    exact put5_cell x (fun j hj => by rw [H.cell i hi j _ (List.getElem?_eq_getElem (by simpa [x5] using hj))]; rfl) j u hu
  · rw [List.getElem_set_ne e] at hu
    rw [ht.cell _ (by omega)]
    exact H.cell k hk j u hu
theorem Bkt.drew {w : World} {g o : Nat} {C : List Pl} (H : Bkt w g o C) : Bkt w.drew g o C := H.below (by go_grown)
theorem Turn.drew {w w' : World} {g o n : Nat} (h : Turn w w' g o n) (hl : g < w.heap.size) : Turn w w'.drew g o n := h.trans (Turn.of_below (Nat.lt_of_lt_of_le hl h.grown.size) (by go_grown))
/-- A place is written: behind it, and behind the order that was drawn. -/
theorem Bkt.put_drew {w w1 : World} {g o : Nat} {C : List Pl} (H : Bkt w g o C) (hb : Below w.heap.size w w1) (i : Nat) (hi : i < C.length) (x : Pl) :
    Bkt (put5 w1 g (o + i * 5) x).drew g o (C.set i x) ∧ Turn w (put5 w1 g (o + i * 5) x).drew g o 20 := by
  have hP := (H.below hb).put i hi x
  exact ⟨hP.1.drew, ((Turn.of_below H.lt hb).trans hP.2).drew H.lt⟩
/-- A write to a block that was not there. -/
theorem Turn.fresh {w w1 : World} {g o n : Nat} (h : Turn w w1 g o n) (hl : g < w.heap.size) (b x : Nat) (u : Value) (hb : w.heap.size ≤ b) : Turn w (w1.setCell ⟨b, x, none⟩ u) g o n := by
  refine ⟨⟨h.grown.os, h.grown.tape, h.grown.output, by rw [World.size_setCell]; exact h.grown.size, fun k hk hn => (Below.heap_setCell w1 ⟨b, x, none⟩ u k (by simp; omega)).trans (h.grown.block k hk hn)⟩, fun y hy => ?_, fun y => ?_⟩
  · rw [World.cell?_setCell_other]
    · exact h.cell y hy
    · intro e
      injection e with e1 e2
      omega
  · rw [World.frozen?_setCell]
    exact h.frozen y
theorem Bkt.fresh {w1 : World} {g o : Nat} {C : List Pl} (H : Bkt w1 g o C) (b x : Nat) (u : Value) (hb : g ≠ b) : Bkt (w1.setCell ⟨b, x, none⟩ u) g o C := H.kept (turn_one w1 b x 1 x u (Nat.le_refl _) (by omega)) (.inl hb)
/-- Another block is as it was. -/
theorem Turn.far {w w' : World} {g o n b : Nat} (h : Turn w w' g o n) (hb : b < w.heap.size) (hne : b ≠ g) (x : Nat) : w'.cell? ⟨b, x, none⟩ = w.cell? ⟨b, x, none⟩ ∧ w'.frozen? ⟨b, x, none⟩ = w.frozen? ⟨b, x, none⟩ := by
  have hB := h.grown.block b hb (by simpa using hne)
  exact ⟨World.cell?_of_block hB, by unfold World.frozen?; rw [hB]⟩
end Go.Proofs.Ytlmampklgghngaa
/-
  What the calls of a bucket hand back, and what they leave in memory: the first place of a key, the first empty one. No condition but that the bucket's cells lie in memory, and that words are words of 64 bits.
-/
set_option linter.unusedSimpArgs false
set_option linter.unusedVariables false
namespace Go.Proofs.Ytlmampklgghngaa
open Go.RowKit Go.Sort M

/-- The cells of four places. -/
def bcs (C : List Pl) : List Value := C.flatMap x5
theorem bcs_at : ∀ (C : List Pl) (i : Nat) (hi : i < C.length) (j : Nat), j < 5 → (bcs C)[i * 5 + j]? = (x5 C[i])[j]?
  | x :: C, 0, _, j, hj => by
    show (x5 x ++ bcs C)[0 * 5 + j]? = _
    rw [List.getElem?_append_left (by simp [x5]; omega)]
    simp
  | x :: C, i + 1, hi, j, hj => by
    show (x5 x ++ bcs C)[(i + 1) * 5 + j]? = _
    rw [List.getElem?_append_right (by simp [x5]; omega), show (i + 1) * 5 + j - (x5 x).length = i * 5 + j by simp [x5]; omega, bcs_at C i (by simpa using hi) j hj]
    simp
theorem bcs_len (C : List Pl) : (bcs C).length = C.length * 5 := by
  unfold bcs
  induction C with
  | nil => rfl
  | cons x C ih => rw [List.flatMap_cons, List.length_append, ih]; simp [x5]; omega
theorem Bkt.range {w : World} {g o : Nat} {C : List Pl} (H : Bkt w g o C) : w.rangeAt g o (bcs C) := by
  intro j v hv
  have hl : (bcs C).length = 20 := by rw [bcs_len, H.four]
  have hj : j < 20 := by
    have := (List.getElem?_eq_some_iff.1 hv).1
    omega
  have h5 : j / 5 < C.length := by rw [H.four]; omega
  have e := bcs_at C (j / 5) h5 (j % 5) (by omega)
  rw [show j / 5 * 5 + j % 5 = j by omega] at e
  have := H.cell (j / 5) h5 (j % 5) v (e ▸ hv)
  rwa [show o + j / 5 * 5 + j % 5 = o + j by omega] at this
theorem eqlK (a b : Nat) (n : Int) (c d : Nat) (m : Int) (w : World) : (binOp .eql 27 (.agg #[.int .u64 a, .int .u64 b, .int .i64 n]) (.agg #[.int .u64 c, .int .u64 d, .int .i64 m])).run Try.prog w =
    .ok (.bool (decide (a = c ∧ b = d ∧ n = m))) w := by
  have e1 : decide (a = c ∧ b = d ∧ n = m) = (decide ((a : Int) = c) && (decide ((b : Int) = d) && decide (n = m))) := by
    rw [← Bool.decide_and, ← Bool.decide_and, decide_eq_decide]; omega
  rw [e1]
  by_cases h1 : (a : Int) = c <;> by_cases h2 : (b : Int) = d <;> by_cases h3 : n = m <;> simp [go_sem, h1, h2, h3]
end Go.Proofs.Ytlmampklgghngaa
/-
  What All of a bucket hands back: a new row of routes, by place. No condition but that the bucket's cells lie in memory.
-/
set_option linter.unusedSimpArgs false
set_option linter.unusedVariables false
namespace Go.Proofs.Ytlmampklgghngaa
open Go.RowKit Go.Sort M

end Go.Proofs.Ytlmampklgghngaa
