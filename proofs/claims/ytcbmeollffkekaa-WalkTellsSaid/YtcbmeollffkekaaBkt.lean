/-
  A bucket in memory: twenty cells of a block, from an offset on; what is kept of them while others are written. No condition but those that stand in each.
-/
import Derived.Test.YtcbmeollffkekaaReg3
import Derived.Test.YtcbmeollffkekaaOwn
import Derived.Test.YtcbmeollffkekaaSort
import Derived.Handy
import Derived.Test.YtcbmeollffkekaaM11
/-
  One statement whose order is open, with one tail in one order that may write: what only reads, or builds a value, is taken first, wherever it stands. No condition on the program but that it draws orders in the wide manner.
-/
set_option linter.unusedSimpArgs false
set_option linter.unusedVariables false
namespace Go.Proofs.Ytcbmeollffkekaa
open Go Go.RowKit Go.Sort

section
variable {P : Program} {ops : Array Oper} {md : Region.Mode} {C : World → Prop} {Q : Exit → Act → World → Prop} {S : World → Prop} {pre : Nat → Bool}
/-- .. or a value is built. -/
def stillC (o : Oper) : Bool :=
  stillB o || match o.op with
  | .build _ _ => true
  | _ => false
theorem still_valueC {o : Oper} (hs : stillC o = true) {a : Act} {w : World} {v : Value} (h : Oper.quietUpon P C w v ((execOp a.eval o).run P w)) : (execOp a.eval o).run P w = .ok (.value v) w := by
  unfold stillC at hs
  rw [Bool.or_eq_true] at hs
  rcases hs with hs | hs
  · exact still_value hs h
  have key : ∀ n w', (execOp a.eval o).run P w = .ok n w' → ∃ u, n = .value u := by
    intro n w' hr
    unfold execOp at hr
    split at hs
    · rename_i he
      simp only [he] at hr
      exact value_only _ w n w' hr
    · cases hs
  generalize (execOp a.eval o).run P w = r at h key
  cases r with
  | ok n w' =>
    obtain ⟨u, rfl⟩ := key n w' rfl
    obtain ⟨rfl, rfl⟩ := h
    rfl
  | halt x w' => exact h.elim
/-- These may be taken first, one behind the other; behind them F. -/
def takeD (md : Region.Mode) (ops : Array Oper) (ok : Nat → Bool) (F : Array Bool → Bool) : List Nat → Array Bool → Bool
  | [], listed => F listed
  | i :: t, listed => (Region.ready md ops listed).contains i && Region.free md ops listed i && ok i && ((ops[i]?).map stillC).getD false && takeD md ops ok F t (listed.setIfInBounds i true)
theorem anyP_takesC {T : World → Prop} {F : Array Bool → Bool} {ok : Nat → Bool} {Lq : Act → Prop} {g : Nat} {w : World} (hsel : Region.noSelect ops = true) (hQ : ∀ c a w, Q (.panic c) a w → False) (hST : ∀ w, S w → T w) (hok : ∀ i, ok i = true → (laterB md ops pre i = true ∨ ∀ w, T w)) (hS : S w)
    (hL : ∀ listed a, F listed = true → HeadInv md ops ops.size listed → Lq a → anyP P md ops Q S pre g listed a w) :
    ∀ (t : List Nat) (listed : Array Bool) (a : Act), takeD md ops ok F t listed = true → HeadInv md ops ops.size listed → wpQuiet P ops T Lq (pickL ops t) a → anyP P md ops Q S pre (t.length + g) listed a w
  | [], listed, a, hB, inv, h => by rw [List.length_nil, Nat.zero_add]; exact hL listed a hB inv h
  | i :: t, listed, a, hB, inv, h => by
    simp only [takeD, Bool.and_eq_true] at hB
    obtain ⟨⟨⟨⟨hr, hf⟩, ho⟩, hst⟩, hB'⟩ := hB
    have hr' : i ∈ Region.ready md ops listed := by simpa using hr
    obtain ⟨_, oi, hoi, _⟩ := mem_ready.1 hr'
    rw [hoi] at hst
    simp only [Option.map_some, Option.getD_some] at hst
    have hp : pickL ops (i :: t) = oi :: pickL ops t := by unfold pickL; rw [List.filterMap_cons, hoi]
    rw [hp] at h
    have hq : qOp P ops T i (wpQuiet P ops T Lq (pickL ops t)) a := by unfold qOp; simp only [hoi]; exact h
    obtain ⟨v, hy, hK⟩ := yieldsIn_of_qOp hoi hq
    have hy' : YieldsIf P ops T oi v a := hy.imp (fun ⟨hw, hv⟩ => ⟨hw, fun w hw2 => still_valueC hst (hv w hw2)⟩) id
    rw [List.length_cons, show t.length + 1 + g = (t.length + g) + 1 by omega]
    exact anyP_first hoi (Region.noSelect_spec hsel) hQ hST (fun j l1 inv1 hun hj hne => (hok i ho).imp (fun hl => later_spec hl j l1 inv1 hun hj hne) id) _ listed a w inv (Region.free_spec hoi hf) hr' hy' (.inl hS)
      (anyP_takesC hsel hQ hST hok hS hL t _ _ hB' (inv_set inv hr') hK)
def oneB (ops : Array Oper) (tA tB tl : List Nat) : Bool :=
  decide (ops.size = tA.length + (tB.length + tl.length)) &&
  takeD .any ops (fun _ => true) (fun l1 => takeD .any ops (fun i => laterB .any ops (fun j => !tl.contains j) i) (fun l2 => tailB .any ops tl l2) tB l1) tA (Array.replicate ops.size false)
theorem region_one {id : Nat} {a : Act} {w : World} {l : List Oper} (tA tB tl : List Nat) (hm : P.follows .mixedOrders = true) (hQ : ∀ c a w, Q (.panic c) a w → False) (hsel : Region.noSelect l.toArray = true) (hB : oneB l.toArray tA tB tl = true)
    (h : wpQuiet P l.toArray (fun _ => True) (fun a1 => wpQuiet P l.toArray (fun w' => ∃ p : Regrown, w' = grow (redrawn w p.d) p.os) (fun a2 => ∀ w', Below w.heap.size w w' → wpList P l.toArray Q (pickL l.toArray tl) a2 w') (pickL l.toArray tB) a1) (pickL l.toArray tA) a) :
    (Code.region id l.toArray true).wp P Q a w := by
  generalize l.toArray = ops at *
  simp only [oneB, Bool.and_eq_true, decide_eq_true_eq] at hB
  obtain ⟨hsz, hB⟩ := hB
  refine wp_region_any hm ?_
  have inv0 : HeadInv .any ops ops.size (Array.replicate ops.size false) :=
    ⟨by simp, fun j oj _ hl => (by rw [getD_replicate_false] at hl; cases hl), fun t h1 h2 => absurd h2 (by omega)⟩
  have hS0 : Rg w { w with drawn := w.drawn + 1 } := ⟨⟨w.drawn + 1, #[]⟩, by rw [grow_empty]; rfl⟩
  have pre2 : ∀ i ∈ tl, (!tl.contains i) = false := fun i hi => by simp [hi]
  refine wpAny_of_anyP (S := Rg w) (pre := fun j => !tl.contains j) _ _ _ _ ?_
  suffices hh : anyP P .any ops Q (Rg w) (fun j => !tl.contains j) (tA.length + (tB.length + tl.length)) (Array.replicate ops.size false) a { w with drawn := w.drawn + 1 } by
    rw [← hsz] at hh
    exact hh
  refine anyP_takesC (T := fun _ => True) hsel hQ (fun _ _ => trivial) (fun _ _ => .inr (fun _ => trivial)) hS0 (fun l1 a1 hF1 inv1 h1 => ?_) tA _ a hB inv0 h
  refine anyP_takesC (T := fun w' => ∃ p : Regrown, w' = grow (redrawn w p.d) p.os) hsel hQ (fun _ h => h) (fun i hi => .inl hi) hS0 (fun l2 a2 hF2 inv2 h2 => ?_) tB l1 a1 hF1 inv1 h1
  have hb0 : Below w.heap.size w { w with drawn := w.drawn + 1 } := ⟨rfl, rfl, rfl, Nat.le_refl _, fun _ _ => rfl⟩
  exact anyP_tail tl _ a2 _ pre2 hF2 (h2 _ hb0)
theorem anyP_takesF {F : Array Bool → Bool} {Lq : Act → Prop} {g : Nat} {w : World} (hsel : Region.noSelect ops = true) (hQ : ∀ c a w, Q (.panic c) a w → False)
    (hL : ∀ listed a, F listed = true → HeadInv md ops ops.size listed → Lq a → anyP P md ops Q S pre g listed a w) :
    ∀ (t : List Nat) (listed : Array Bool) (a : Act), takeD md ops (fun _ => true) F t listed = true → HeadInv md ops ops.size listed → wpQuiet P ops (fun _ => True) Lq (pickL ops t) a → anyP P md ops Q S pre (t.length + g) listed a w
  | [], listed, a, hB, inv, h => by rw [List.length_nil, Nat.zero_add]; exact hL listed a hB inv h
  | i :: t, listed, a, hB, inv, h => by
    simp only [takeD, Bool.and_eq_true] at hB
    obtain ⟨⟨⟨⟨hr, hf⟩, ho⟩, hst⟩, hB'⟩ := hB
    have hr' : i ∈ Region.ready md ops listed := by simpa using hr
    obtain ⟨_, oi, hoi, _⟩ := mem_ready.1 hr'
    rw [hoi] at hst
    simp only [Option.map_some, Option.getD_some] at hst
    have hp : pickL ops (i :: t) = oi :: pickL ops t := by unfold pickL; rw [List.filterMap_cons, hoi]
    rw [hp] at h
    have hq : qOp P ops (fun _ => True) i (wpQuiet P ops (fun _ => True) Lq (pickL ops t)) a := by unfold qOp; simp only [hoi]; exact h
    obtain ⟨v, hy, hK⟩ := yieldsIn_of_qOp hoi hq
    have hy' : YieldsIf P ops (fun _ => True) oi v a := hy.imp (fun ⟨hw, hv⟩ => ⟨hw, fun w hw2 => still_valueC hst (hv w hw2)⟩) id
    rw [List.length_cons, show t.length + 1 + g = (t.length + g) + 1 by omega]
    exact anyP_first hoi (Region.noSelect_spec hsel) hQ (fun _ _ => trivial) (fun j l1 inv1 hun hj hne => .inr fun _ => trivial) _ listed a w inv (Region.free_spec hoi hf) hr' hy' (.inr fun _ => trivial)
      (anyP_takesF hsel hQ hL t _ _ hB' (inv_set inv hr') hK)
/-- .. one call, behind it what reads no memory, in any order, then the tail. -/
def twoB (ops : Array Oper) (tA tB : List Nat) (x : Nat) (tC tl : List Nat) : Bool :=
  decide (ops.size = tA.length + (tB.length + (tC.length + tl.length + 1))) && (ops[x]?).isSome && !(tA ++ tB).contains x && (tl.all fun i => !(tA ++ tB).contains i) &&
  takeD .any ops (fun _ => true) (fun l1 => takeD .any ops (fun i => laterB .any ops (fun j => (tA ++ tB).contains j) i) (fun l2 =>
    decide (Region.ready .any ops l2 = [x]) && takeD .any ops (fun _ => true) (fun l3 => tailB .any ops tl l3) tC (l2.setIfInBounds x true)) tB l1) tA (Array.replicate ops.size false)
theorem region_two {id : Nat} {a : Act} {w : World} {l : List Oper} (tA tB : List Nat) (x : Nat) (tC tl : List Nat) (hm : P.follows .mixedOrders = true) (hQ : ∀ c a w, Q (.panic c) a w → False) (hsel : Region.noSelect l.toArray = true) (hB : twoB l.toArray tA tB x tC tl = true)
    (h : wpQuiet P l.toArray (fun _ => True) (fun a1 => wpQuiet P l.toArray (fun w' => ∃ p : Regrown, w' = grow (redrawn w p.d) p.os) (fun a2 => ∀ w', Below w.heap.size w w' →
      ∀ K : Act → World → Prop, (∀ a3 w3, wpQuiet P l.toArray (fun _ => True) (fun a4 => wpList P l.toArray Q (pickL l.toArray tl) a4 w3) (pickL l.toArray tC) a3 → K a3 w3) → oneOp P l.toArray Q x K a2 w') (pickL l.toArray tB) a1) (pickL l.toArray tA) a) :
    (Code.region id l.toArray true).wp P Q a w := by
  generalize l.toArray = ops at *
  simp only [twoB, Bool.and_eq_true, decide_eq_true_eq] at hB
  obtain ⟨⟨⟨⟨hsz, hx⟩, hxp⟩, htp⟩, hB⟩ := hB
  refine wp_region_any hm ?_
  have inv0 : HeadInv .any ops ops.size (Array.replicate ops.size false) :=
    ⟨by simp, fun j oj _ hl => (by rw [getD_replicate_false] at hl; cases hl), fun t h1 h2 => absurd h2 (by omega)⟩
  have hS0 : Rg w { w with drawn := w.drawn + 1 } := ⟨⟨w.drawn + 1, #[]⟩, by rw [grow_empty]; rfl⟩
  have pre2 : ∀ i ∈ tl, ((tA ++ tB).contains i) = false := fun i hi => by simpa using List.all_eq_true.1 htp i hi
  refine wpAny_of_anyP (S := Rg w) (pre := fun j => (tA ++ tB).contains j) _ _ _ _ ?_
  suffices hh : anyP P .any ops Q (Rg w) (fun j => (tA ++ tB).contains j) (tA.length + (tB.length + (tC.length + tl.length + 1))) (Array.replicate ops.size false) a { w with drawn := w.drawn + 1 } by
    rw [← hsz] at hh
    exact hh
  refine anyP_takesC (T := fun _ => True) hsel hQ (fun _ _ => trivial) (fun _ _ => .inr (fun _ => trivial)) hS0 (fun l1 a1 hF1 inv1 h1 => ?_) tA _ a hB inv0 h
  refine anyP_takesC (T := fun w' => ∃ p : Regrown, w' = grow (redrawn w p.d) p.os) hsel hQ (fun _ h => h) (fun i hi => .inl hi) hS0 (fun l2 a2 hF2 inv2 h2 => ?_) tB l1 a1 hF1 inv1 h1
  have hb0 : Below w.heap.size w { w with drawn := w.drawn + 1 } := ⟨rfl, rfl, rfl, Nat.le_refl _, fun _ _ => rfl⟩
  simp only [Bool.and_eq_true, decide_eq_true_eq] at hF2
  obtain ⟨r0, hF3⟩ := hF2
  refine ⟨fun h1 => (by rw [r0] at h1; cases h1), fun i hi => ?_⟩
  have hi' := hi
  rw [r0] at hi
  have hix : i = x := by simpa using hi
  subst hix
  refine (h2 _ hb0 _ (fun a3 w3 h3 => ⟨fun hp => ?_, ?_⟩)).wpOp hx
  · have hp2 : (tA ++ tB).contains i = true := hp
    rw [hp2] at hxp
    cases hxp
  · exact anyP_takesF hsel hQ (fun l4 a4 hF4 inv4 h4 => anyP_tail tl l4 a4 w3 pre2 hF4 h4) tC _ a3 hF3 (inv_set inv2 hi') h3
end
end Go.Proofs.Ytcbmeollffkekaa
/-
  A bucket in memory: twenty cells of a block, from an offset on; what is kept of them while others are written. No condition but those that stand in each.
-/
set_option linter.unusedSimpArgs false
set_option linter.unusedVariables false
namespace Go.Proofs.Ytcbmeollffkekaa
open Go.RowKit Go.Sort M

/-- A key as a value. -/
def kyV (k : Ky) : Value := .agg #[.int .u64 (k.h : Int), .int .u64 (k.l : Int), .int .i64 k.n]
/-- The cells of a place. -/
def x5 (x : Pl) : List Value := [.int .u64 (xh x : Int), .int .u64 (xl x : Int), .int .i64 (xn x), .int .i64 (xv x), .bool x.isSome]
/-- A bucket at offset o of block g. -/
structure Bkt (w : World) (g o : Nat) (C : List Pl) : Prop where
  four : C.length = 4
  lt : g < w.heap.size
  cell : ∀ (i : Nat) (hi : i < C.length) (j : Nat) (u : Value), (x5 C[i])[j]? = some u → w.cell? ⟨g, o + i * 5 + j, none⟩ = some u
  free : ∀ j, j < 20 → w.frozen? ⟨g, o + j, none⟩ = false
/-- What is written: nothing but n cells of block g, from offset o on. -/
structure Turn (w w' : World) (g o n : Nat) : Prop where
  grown : w.grownBy w' (some g)
  cell : ∀ x, x < o ∨ o + n ≤ x → w'.cell? ⟨g, x, none⟩ = w.cell? ⟨g, x, none⟩
  frozen : ∀ x, w'.frozen? ⟨g, x, none⟩ = w.frozen? ⟨g, x, none⟩
theorem Turn.of_below {w w' : World} {g o n : Nat} (hg : g < w.heap.size) (hb : Below w.heap.size w w') : Turn w w' g o n :=
  ⟨⟨hb.os, hb.tape, hb.output, hb.size, fun k hk _ => hb.block k hk⟩, fun x _ => hb.cell (p := ⟨g, x, none⟩) hg, fun x => hb.frozen (p := ⟨g, x, none⟩) hg⟩
theorem Turn.trans {a b c : World} {g o n : Nat} (h : Turn a b g o n) (k : Turn b c g o n) : Turn a c g o n :=
  ⟨h.grown.trans k.grown, fun x hx => (k.cell x hx).trans (h.cell x hx), fun x => (k.frozen x).trans (h.frozen x)⟩
theorem Bkt.below {w w' : World} {g o : Nat} {C : List Pl} (H : Bkt w g o C) (hb : Below w.heap.size w w') : Bkt w' g o C :=
  ⟨H.four, Nat.lt_of_lt_of_le H.lt hb.size, fun i hi j u hu => (hb.cell (p := ⟨g, o + i * 5 + j, none⟩) H.lt).trans (H.cell i hi j u hu), fun j hj => (hb.frozen (p := ⟨g, o + j, none⟩) H.lt).trans (H.free j hj)⟩
/-- A bucket's own cells are not written. -/
theorem Bkt.kept {w w' : World} {g o g' o' n : Nat} {C : List Pl} (H : Bkt w g o C) (h : Turn w w' g' o' n) (hne : g ≠ g' ∨ o + 20 ≤ o' ∨ o' + n ≤ o) : Bkt w' g o C := by
  have hc : ∀ x, x < 20 → w'.cell? ⟨g, o + x, none⟩ = w.cell? ⟨g, o + x, none⟩ ∧ w'.frozen? ⟨g, o + x, none⟩ = w.frozen? ⟨g, o + x, none⟩ := by
    intro x hx
    by_cases e : g = g'
    · subst e
      exact ⟨h.cell _ (by omega), h.frozen _⟩
    · have hb := h.grown.block g H.lt (by simpa using e)
      exact ⟨World.cell?_of_block hb, by unfold World.frozen?; rw [hb]⟩
  have h4 := H.four
  refine ⟨H.four, Nat.lt_of_lt_of_le H.lt h.grown.size, fun i hi j u hu => ?_, fun j hj => (hc j hj).2.trans (H.free j hj)⟩
  have hj : j < 5 := (List.getElem?_eq_some_iff.1 hu).1
  rw [Nat.add_assoc, (hc (i * 5 + j) (by omega)).1, ← Nat.add_assoc]
  exact H.cell i hi j u hu
theorem Bkt.at {w : World} {g o : Nat} {C : List Pl} (H : Bkt w g o C) (i : Nat) (hi : i < C.length) :
    w.cell? ⟨g, o + i * 5, none⟩ = some (.int .u64 (xh C[i] : Int)) ∧ w.cell? ⟨g, o + i * 5 + 1, none⟩ = some (.int .u64 (xl C[i] : Int)) ∧ w.cell? ⟨g, o + i * 5 + 2, none⟩ = some (.int .i64 (xn C[i])) ∧ w.cell? ⟨g, o + i * 5 + 3, none⟩ = some (.int .i64 (xv C[i])) ∧ w.cell? ⟨g, o + i * 5 + 4, none⟩ = some (.bool C[i].isSome) :=
  ⟨H.cell i hi 0 _ rfl, H.cell i hi 1 _ rfl, H.cell i hi 2 _ rfl, H.cell i hi 3 _ rfl, H.cell i hi 4 _ rfl⟩
theorem turn_one (w : World) (g o n x : Nat) (u : Value) (h1 : o ≤ x) (h2 : x < o + n) : Turn w (w.setCell ⟨g, x, none⟩ u) g o n := by
  refine ⟨⟨rfl, rfl, rfl, by rw [World.size_setCell]; exact Nat.le_refl _, fun k hk hn => Below.heap_setCell w ⟨g, x, none⟩ u k (by simpa using hn)⟩, fun y hy => ?_, fun y => ?_⟩
  · rw [World.cell?_setCell_other]
    intro e
    injection e with e1 e2
    omega
  · rw [World.frozen?_setCell]
theorem Turn.mono {w w' : World} {g o n o' n' : Nat} (h : Turn w w' g o n) (h1 : o' ≤ o) (h2 : o + n ≤ o' + n') : Turn w w' g o' n' := ⟨h.grown, fun x hx => h.cell x (by omega), h.frozen⟩
/-- The five cells of a place are written. -/
def put5 (w : World) (g p : Nat) (x : Pl) : World :=
  ((((w.setCell ⟨g, p, none⟩ (.int .u64 (xh x : Int))).setCell ⟨g, p + 1, none⟩ (.int .u64 (xl x : Int))).setCell ⟨g, p + 2, none⟩ (.int .i64 (xn x))).setCell ⟨g, p + 3, none⟩ (.int .i64 (xv x))).setCell ⟨g, p + 4, none⟩ (.bool x.isSome)
theorem turn_put5 (w : World) (g p : Nat) (x : Pl) : Turn w (put5 w g p x) g p 5 :=
  ((((turn_one w g p 5 p _ (by omega) (by omega)).trans (turn_one _ g p 5 (p + 1) _ (by omega) (by omega))).trans (turn_one _ g p 5 (p + 2) _ (by omega) (by omega))).trans (turn_one _ g p 5 (p + 3) _ (by omega) (by omega))).trans
    (turn_one _ g p 5 (p + 4) _ (by omega) (by omega))
theorem put5_cell {w : World} {g p : Nat} (x : Pl) (hc : ∀ j, j < 5 → (w.cell? ⟨g, p + j, none⟩).isSome = true) (j : Nat) (u : Value) (hu : (x5 x)[j]? = some u) : (put5 w g p x).cell? ⟨g, p + j, none⟩ = some u := by
  have h0 := hc 0 (by omega)
  have h1 := hc 1 (by omega)
  have h2 := hc 2 (by omega)
  have h3 := hc 3 (by omega)
  have h4 := hc 4 (by omega)
  rw [Nat.add_zero] at h0
  have hj : j < 5 := (List.getElem?_eq_some_iff.1 hu).1
  unfold put5
  rcases (show j = 0 ∨ j = 1 ∨ j = 2 ∨ j = 3 ∨ j = 4 by omega) with rfl | rfl | rfl | rfl | rfl <;> (simp only [x5, List.getElem?_cons_zero, List.getElem?_cons_succ, Option.some.injEq] at hu; subst hu; simp [go_sem, h0, h1, h2, h3, h4])
theorem Bkt.put {w : World} {g o : Nat} {C : List Pl} (H : Bkt w g o C) (i : Nat) (hi : i < C.length) (x : Pl) : Bkt (put5 w g (o + i * 5) x) g o (C.set i x) ∧ Turn w (put5 w g (o + i * 5) x) g o 20 := by
  have h4 := H.four
  have ht := turn_put5 w g (o + i * 5) x
  refine ⟨⟨by simpa using h4, Nat.lt_of_lt_of_le H.lt ht.grown.size, fun k hk j u hu => ?_, fun j hj => (ht.frozen _).trans (H.free j hj)⟩, ht.mono (by omega) (by omega)⟩
  rw [List.length_set] at hk
  have hj : j < 5 := (List.getElem?_eq_some_iff.1 hu).1
  by_cases e : i = k
  · subst e
    rw [List.getElem_set_self] at hu
    exact put5_cell x (fun j hj => by rw [H.cell i hi j _ (List.getElem?_eq_getElem (by simpa [x5] using hj))]; rfl) j u hu
  · rw [List.getElem_set_ne e] at hu
    rw [ht.cell _ (by omega)]
    exact H.cell k hk j u hu
theorem Bkt.drew {w : World} {g o : Nat} {C : List Pl} (H : Bkt w g o C) : Bkt w.drew g o C := H.below (by go_grown)
theorem Turn.drew {w w' : World} {g o n : Nat} (h : Turn w w' g o n) (hl : g < w.heap.size) : Turn w w'.drew g o n := h.trans (Turn.of_below (Nat.lt_of_lt_of_le hl h.grown.size) (by go_grown))
/-- A place is written: behind it, and behind the order that was drawn. -/
theorem Bkt.put_drew {w w1 : World} {g o : Nat} {C : List Pl} (H : Bkt w g o C) (hb : Below w.heap.size w w1) (i : Nat) (hi : i < C.length) (x : Pl) :
    Bkt (put5 w1 g (o + i * 5) x).drew g o (C.set i x) ∧ Turn w (put5 w1 g (o + i * 5) x).drew g o 20 := by
  have hP := (H.below hb).put i hi x
  exact ⟨hP.1.drew, ((Turn.of_below H.lt hb).trans hP.2).drew H.lt⟩
/-- A write to a block that was not there. -/
theorem Turn.fresh {w w1 : World} {g o n : Nat} (h : Turn w w1 g o n) (hl : g < w.heap.size) (b x : Nat) (u : Value) (hb : w.heap.size ≤ b) : Turn w (w1.setCell ⟨b, x, none⟩ u) g o n := by
  refine ⟨⟨h.grown.os, h.grown.tape, h.grown.output, by rw [World.size_setCell]; exact h.grown.size, fun k hk hn => (Below.heap_setCell w1 ⟨b, x, none⟩ u k (by simp; omega)).trans (h.grown.block k hk hn)⟩, fun y hy => ?_, fun y => ?_⟩
  · rw [World.cell?_setCell_other]
    · exact h.cell y hy
    · intro e
      injection e with e1 e2
      omega
  · rw [World.frozen?_setCell]
    exact h.frozen y
theorem Bkt.fresh {w1 : World} {g o : Nat} {C : List Pl} (H : Bkt w1 g o C) (b x : Nat) (u : Value) (hb : g ≠ b) : Bkt (w1.setCell ⟨b, x, none⟩ u) g o C := H.kept (turn_one w1 b x 1 x u (Nat.le_refl _) (by omega)) (.inl hb)
/-- Another block is as it was. -/
theorem Turn.far {w w' : World} {g o n b : Nat} (h : Turn w w' g o n) (hb : b < w.heap.size) (hne : b ≠ g) (x : Nat) : w'.cell? ⟨b, x, none⟩ = w.cell? ⟨b, x, none⟩ ∧ w'.frozen? ⟨b, x, none⟩ = w.frozen? ⟨b, x, none⟩ := by
  have hB := h.grown.block b hb (by simpa using hne)
  exact ⟨World.cell?_of_block hB, by unfold World.frozen?; rw [hB]⟩
end Go.Proofs.Ytcbmeollffkekaa
