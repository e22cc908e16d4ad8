/-
  One statement whose order is open, with calls in a chain each of which leaves old memory as it was, and a tail in one order: what only reads, or builds a value, is taken first, wherever it stands, between the calls too. No condition on the program but that it draws orders in the wide manner.
-/
import Derived.Test.YtoihkbanmnagkaaGreatReg3
/-
  One statement whose order is open, with one tail in one order that may write: what only reads, or builds a value, is taken first, wherever it stands. No condition on the program but that it draws orders in the wide manner.
-/
set_option linter.unusedSimpArgs false
set_option linter.unusedVariables false
namespace Go.Proofs.YtoihkbanmnagkaaGreat
open Go Go.RowKit Go.Sort

section
variable {P : Program} {ops : Array Oper} {md : Region.Mode} {C : World → Prop} {Q : Exit → Act → World → Prop} {S : World → Prop} {pre : Nat → Bool}
/-- .. or a value is built. -/
def stillC (o : Oper) : Bool :=
  stillB o || match o.op with
  | .build _ _ => true
  | _ => false
theorem still_valueC {o : Oper} (hs : stillC o = true) {a : Act} {w : World} {v : Value} (h : Oper.quietUpon P C w v ((execOp a.eval o).run P w)) : (execOp a.eval o).run P w = .ok (.value v) w := by
  unfold stillC at hs
  rw [Bool.or_eq_true] at hs
  rcases hs with hs | hs
  · exact still_value hs h
  have key : ∀ n w', (execOp a.eval o).run P w = .ok n w' → ∃ u, n = .value u := by
    intro n w' hr
    unfold execOp at hr
    split at hs
    · rename_i he
      simp only [he] at hr
      exact value_only _ w n w' hr
    · cases hs
  generalize (execOp a.eval o).run P w = r at h key
  cases r with
  | ok n w' =>
    obtain ⟨u, rfl⟩ := key n w' rfl
    obtain ⟨rfl, rfl⟩ := h
    rfl
  | halt x w' => exact h.elim
/-- These may be taken first, one behind the other; behind them F. -/
def takeD (md : Region.Mode) (ops : Array Oper) (ok : Nat → Bool) (F : Array Bool → Bool) : List Nat → Array Bool → Bool
  | [], listed => F listed
  | i :: t, listed => (Region.ready md ops listed).contains i && Region.free md ops listed i && ok i && ((ops[i]?).map stillC).getD false && takeD md ops ok F t (listed.setIfInBounds i true)
theorem anyP_takesC {T : World → Prop} {F : Array Bool → Bool} {ok : Nat → Bool} {Lq : Act → Prop} {g : Nat} {w : World} (hsel : Region.noSelect ops = true) (hQ : ∀ c a w, Q (.panic c) a w → False) (hST : ∀ w, S w → T w) (hok : ∀ i, ok i = true → (laterB md ops pre i = true ∨ ∀ w, T w)) (hS : S w)
    (hL : ∀ listed a, F listed = true → HeadInv md ops ops.size listed → Lq a → anyP P md ops Q S pre g listed a w) :
    ∀ (t : List Nat) (listed : Array Bool) (a : Act), takeD md ops ok F t listed = true → HeadInv md ops ops.size listed → wpQuiet P ops T Lq (pickL ops t) a → anyP P md ops Q S pre (t.length + g) listed a w
  | [], listed, a, hB, inv, h => by rw [List.length_nil, Nat.zero_add]; exact hL listed a hB inv h
  | i :: t, listed, a, hB, inv, h => by
    simp only [takeD, Bool.and_eq_true] at hB
    obtain ⟨⟨⟨⟨hr, hf⟩, ho⟩, hst⟩, hB'⟩ := hB
    have hr' : i ∈ Region.ready md ops listed := by simpa using hr
    obtain ⟨_, oi, hoi, _⟩ := mem_ready.1 hr'
    rw [hoi] at hst
    simp only [Option.map_some, Option.getD_some] at hst
    have hp : pickL ops (i :: t) = oi :: pickL ops t := by unfold pickL; rw [List.filterMap_cons, hoi]
    rw [hp] at h
    have hq : qOp P ops T i (wpQuiet P ops T Lq (pickL ops t)) a := by unfold qOp; simp only [hoi]; exact h
    obtain ⟨v, hy, hK⟩ := yieldsIn_of_qOp hoi hq
    have hy' : YieldsIf P ops T oi v a := hy.imp (fun ⟨hw, hv⟩ => ⟨hw, fun w hw2 => still_valueC hst (hv w hw2)⟩) id
    rw [List.length_cons, show t.length + 1 + g = (t.length + g) + 1 by omega]
    exact anyP_first hoi (Region.noSelect_spec hsel) hQ hST (fun j l1 inv1 hun hj hne => (hok i ho).imp (fun hl => later_spec hl j l1 inv1 hun hj hne) id) _ listed a w inv (Region.free_spec hoi hf) hr' hy' (.inl hS)
      (anyP_takesC hsel hQ hST hok hS hL t _ _ hB' (inv_set inv hr') hK)
def oneB (ops : Array Oper) (tA tB tl : List Nat) : Bool :=
  decide (ops.size = tA.length + (tB.length + tl.length)) &&
  takeD .any ops (fun _ => true) (fun l1 => takeD .any ops (fun i => laterB .any ops (fun j => !tl.contains j) i) (fun l2 => tailB .any ops tl l2) tB l1) tA (Array.replicate ops.size false)
theorem region_one {id : Nat} {a : Act} {w : World} {l : List Oper} (tA tB tl : List Nat) (hm : P.follows .mixedOrders = true) (hQ : ∀ c a w, Q (.panic c) a w → False) (hsel : Region.noSelect l.toArray = true) (hB : oneB l.toArray tA tB tl = true)
    (h : wpQuiet P l.toArray (fun _ => True) (fun a1 => wpQuiet P l.toArray (fun w' => ∃ p : Regrown, w' = grow (redrawn w p.d) p.os) (fun a2 => ∀ w', Below w.heap.size w w' → wpList P l.toArray Q (pickL l.toArray tl) a2 w') (pickL l.toArray tB) a1) (pickL l.toArray tA) a) :
    (Code.region id l.toArray true).wp P Q a w := by
  generalize l.toArray = ops at *
  simp only [oneB, Bool.and_eq_true, decide_eq_true_eq] at hB
  obtain ⟨hsz, hB⟩ := hB
  refine wp_region_any hm ?_
  have inv0 : HeadInv .any ops ops.size (Array.replicate ops.size false) :=
    ⟨by simp, fun j oj _ hl => (by rw [getD_replicate_false] at hl; cases hl), fun t h1 h2 => absurd h2 (by omega)⟩
  have hS0 : Rg w { w with drawn := w.drawn + 1 } := ⟨⟨w.drawn + 1, #[]⟩, by rw [grow_empty]; rfl⟩
  have pre2 : ∀ i ∈ tl, (!tl.contains i) = false := fun i hi => by simp [hi]
  refine wpAny_of_anyP (S := Rg w) (pre := fun j => !tl.contains j) _ _ _ _ ?_
  suffices hh : anyP P .any ops Q (Rg w) (fun j => !tl.contains j) (tA.length + (tB.length + tl.length)) (Array.replicate ops.size false) a { w with drawn := w.drawn + 1 } by
    rw [← hsz] at hh
    exact hh
  refine anyP_takesC (T := fun _ => True) hsel hQ (fun _ _ => trivial) (fun _ _ => .inr (fun _ => trivial)) hS0 (fun l1 a1 hF1 inv1 h1 => ?_) tA _ a hB inv0 h
  refine anyP_takesC (T := fun w' => ∃ p : Regrown, w' = grow (redrawn w p.d) p.os) hsel hQ (fun _ h => h) (fun i hi => .inl hi) hS0 (fun l2 a2 hF2 inv2 h2 => ?_) tB l1 a1 hF1 inv1 h1
  have hb0 : Below w.heap.size w { w with drawn := w.drawn + 1 } := ⟨rfl, rfl, rfl, Nat.le_refl _, fun _ _ => rfl⟩
  exact anyP_tail tl _ a2 _ pre2 hF2 (h2 _ hb0)
theorem anyP_takesF {F : Array Bool → Bool} {Lq : Act → Prop} {g : Nat} {w : World} (hsel : Region.noSelect ops = true) (hQ : ∀ c a w, Q (.panic c) a w → False)
    (hL : ∀ listed a, F listed = true → HeadInv md ops ops.size listed → Lq a → anyP P md ops Q S pre g listed a w) :
    ∀ (t : List Nat) (listed : Array Bool) (a : Act), takeD md ops (fun _ => true) F t listed = true → HeadInv md ops ops.size listed → wpQuiet P ops (fun _ => True) Lq (pickL ops t) a → anyP P md ops Q S pre (t.length + g) listed a w
  | [], listed, a, hB, inv, h => by rw [List.length_nil, Nat.zero_add]; exact hL listed a hB inv h
  | i :: t, listed, a, hB, inv, h => by
    simp only [takeD, Bool.and_eq_true] at hB
    obtain ⟨⟨⟨⟨hr, hf⟩, ho⟩, hst⟩, hB'⟩ := hB
    have hr' : i ∈ Region.ready md ops listed := by simpa using hr
    obtain ⟨_, oi, hoi, _⟩ := mem_ready.1 hr'
    rw [hoi] at hst
    simp only [Option.map_some, Option.getD_some] at hst
    have hp : pickL ops (i :: t) = oi :: pickL ops t := by unfold pickL; rw [List.filterMap_cons, hoi]
    rw [hp] at h
    have hq : qOp P ops (fun _ => True) i (wpQuiet P ops (fun _ => True) Lq (pickL ops t)) a := by unfold qOp; simp only [hoi]; exact h
    obtain ⟨v, hy, hK⟩ := yieldsIn_of_qOp hoi hq
    have hy' : YieldsIf P ops (fun _ => True) oi v a := hy.imp (fun ⟨hw, hv⟩ => ⟨hw, fun w hw2 => still_valueC hst (hv w hw2)⟩) id
    rw [List.length_cons, show t.length + 1 + g = (t.length + g) + 1 by omega]
    exact anyP_first hoi (Region.noSelect_spec hsel) hQ (fun _ _ => trivial) (fun j l1 inv1 hun hj hne => .inr fun _ => trivial) _ listed a w inv (Region.free_spec hoi hf) hr' hy' (.inr fun _ => trivial)
      (anyP_takesF hsel hQ hL t _ _ hB' (inv_set inv hr') hK)
/-- .. one call, behind it what reads no memory, in any order, then the tail. -/
def twoB (ops : Array Oper) (tA tB : List Nat) (x : Nat) (tC tl : List Nat) : Bool :=
  decide (ops.size = tA.length + (tB.length + (tC.length + tl.length + 1))) && (ops[x]?).isSome && !(tA ++ tB).contains x && (tl.all fun i => !(tA ++ tB).contains i) &&
  takeD .any ops (fun _ => true) (fun l1 => takeD .any ops (fun i => laterB .any ops (fun j => (tA ++ tB).contains j) i) (fun l2 =>
    decide (Region.ready .any ops l2 = [x]) && takeD .any ops (fun _ => true) (fun l3 => tailB .any ops tl l3) tC (l2.setIfInBounds x true)) tB l1) tA (Array.replicate ops.size false)
theorem region_two {id : Nat} {a : Act} {w : World} {l : List Oper} (tA tB : List Nat) (x : Nat) (tC tl : List Nat) (hm : P.follows .mixedOrders = true) (hQ : ∀ c a w, Q (.panic c) a w → False) (hsel : Region.noSelect l.toArray = true) (hB : twoB l.toArray tA tB x tC tl = true)
    (h : wpQuiet P l.toArray (fun _ => True) (fun a1 => wpQuiet P l.toArray (fun w' => ∃ p : Regrown, w' = grow (redrawn w p.d) p.os) (fun a2 => ∀ w', Below w.heap.size w w' →
      ∀ K : Act → World → Prop, (∀ a3 w3, wpQuiet P l.toArray (fun _ => True) (fun a4 => wpList P l.toArray Q (pickL l.toArray tl) a4 w3) (pickL l.toArray tC) a3 → K a3 w3) → oneOp P l.toArray Q x K a2 w') (pickL l.toArray tB) a1) (pickL l.toArray tA) a) :
    (Code.region id l.toArray true).wp P Q a w := by
  generalize l.toArray = ops at *
  simp only [twoB, Bool.and_eq_true, decide_eq_true_eq] at hB
  obtain ⟨⟨⟨⟨hsz, hx⟩, hxp⟩, htp⟩, hB⟩ := hB
  refine wp_region_any hm ?_
  have inv0 : HeadInv .any ops ops.size (Array.replicate ops.size false) :=
    ⟨by simp, fun j oj _ hl => (by rw [getD_replicate_false] at hl; cases hl), fun t h1 h2 => absurd h2 (by omega)⟩
  have hS0 : Rg w { w with drawn := w.drawn + 1 } := ⟨⟨w.drawn + 1, #[]⟩, by rw [grow_empty]; rfl⟩
  have pre2 : ∀ i ∈ tl, ((tA ++ tB).contains i) = false := fun i hi => by simpa using List.all_eq_true.1 htp i hi
  refine wpAny_of_anyP (S := Rg w) (pre := fun j => (tA ++ tB).contains j) _ _ _ _ ?_
  suffices hh : anyP P .any ops Q (Rg w) (fun j => (tA ++ tB).contains j) (tA.length + (tB.length + (tC.length + tl.length + 1))) (Array.replicate ops.size false) a { w with drawn := w.drawn + 1 } by
    rw [← hsz] at hh
    exact hh
  refine anyP_takesC (T := fun _ => True) hsel hQ (fun _ _ => trivial) (fun _ _ => .inr (fun _ => trivial)) hS0 (fun l1 a1 hF1 inv1 h1 => ?_) tA _ a hB inv0 h
  refine anyP_takesC (T := fun w' => ∃ p : Regrown, w' = grow (redrawn w p.d) p.os) hsel hQ (fun _ h => h) (fun i hi => .inl hi) hS0 (fun l2 a2 hF2 inv2 h2 => ?_) tB l1 a1 hF1 inv1 h1
  have hb0 : Below w.heap.size w { w with drawn := w.drawn + 1 } := ⟨rfl, rfl, rfl, Nat.le_refl _, fun _ _ => rfl⟩
  simp only [Bool.and_eq_true, decide_eq_true_eq] at hF2
  obtain ⟨r0, hF3⟩ := hF2
  refine ⟨fun h1 => (by rw [r0] at h1; cases h1), fun i hi => ?_⟩
  have hi' := hi
  rw [r0] at hi
  have hix : i = x := by simpa using hi
  subst hix
  refine (h2 _ hb0 _ (fun a3 w3 h3 => ⟨fun hp => ?_, ?_⟩)).wpOp hx
  · have hp2 : (tA ++ tB).contains i = true := hp
    rw [hp2] at hxp
    cases hxp
  · exact anyP_takesF hsel hQ (fun l4 a4 hF4 inv4 h4 => anyP_tail tl l4 a4 w3 pre2 hF4 h4) tC _ a3 hF3 (inv_set inv2 hi') h3
end
end Go.Proofs.YtoihkbanmnagkaaGreat
/-
  One statement whose order is open, with calls in a chain each of which leaves old memory as it was, and a tail in one order: what only reads, or builds a value, is taken first, wherever it stands, between the calls too. No condition on the program but that it draws orders in the wide manner.
-/
set_option linter.unusedSimpArgs false
set_option linter.unusedVariables false
namespace Go.Proofs.YtoihkbanmnagkaaGreat
open Go Go.RowKit Go.Sort

section
variable {P : Program} {ops : Array Oper} {md : Region.Mode} {C : World → Prop} {Q : Exit → Act → World → Prop} {S : World → Prop} {pre : Nat → Bool}
/-- The calls one behind the other, each leaves the memory of w as it was; behind them the tail. -/
def chainQ (P : Program) (ops : Array Oper) (Q : Exit → Act → World → Prop) (w : World) (tl : List Nat) : List Nat → Act → World → Prop
  | [], a, w' => wpList P ops Q (pickL ops tl) a w'
  | x :: xs, a, w' => ∀ K : Act → World → Prop, (∀ a3 w3, Below w.heap.size w w3 → chainQ P ops Q w tl xs a3 w3 → K a3 w3) → oneOp P ops Q x K a w'
def chainTailB (ops : Array Oper) (tl : List Nat) : List Nat → Array Bool → Bool
  | [], listed => tailB .any ops tl listed
  | x :: xs, listed => decide (Region.ready .any ops listed = [x]) && (ops[x]?).isSome && chainTailB ops tl xs (listed.setIfInBounds x true)
def rowB (ops : Array Oper) (tA tB xs tl : List Nat) : Bool :=
  decide (ops.size = tA.length + (tB.length + (xs.length + tl.length))) &&
  takeD .any ops (fun _ => true) (fun l1 => takeD .any ops (fun i => laterB .any ops (fun j => !tl.contains j) i) (fun l2 => chainTailB ops tl xs l2) tB l1) tA (Array.replicate ops.size false)
theorem anyP_chain {w : World} (tl : List Nat) (pre2 : ∀ i ∈ tl, pre i = false) (rgb : ∀ {w'}, Below w.heap.size w w' → S w') : ∀ (xs : List Nat) (listed : Array Bool) (a : Act) (w' : World), chainTailB ops tl xs listed = true → chainQ P ops Q w tl xs a w' → anyP P .any ops Q S pre (xs.length + tl.length) listed a w'
  | [], listed, a, w', hB, h => by
    rw [List.length_nil, Nat.zero_add]
    exact anyP_tail tl listed a w' pre2 hB h
  | x :: xs, listed, a, w', hB, h => by
    simp only [chainTailB, Bool.and_eq_true, decide_eq_true_eq] at hB
    obtain ⟨⟨r0, hx⟩, ht⟩ := hB
    rw [List.length_cons, show xs.length + 1 + tl.length = (xs.length + tl.length) + 1 by omega]
    refine ⟨fun h1 => (by rw [r0] at h1; cases h1), fun i hi => ?_⟩
    rw [r0] at hi
    have hix : i = x := by simpa using hi
    subst hix
    exact (h _ (fun a3 w3 hb3 h3 => ⟨fun _ _ => rgb hb3, anyP_chain tl pre2 rgb xs _ a3 w3 ht h3⟩)).wpOp hx
theorem region_row {id : Nat} {a : Act} {w : World} {l : List Oper} (tA tB xs tl : List Nat) (hm : P.follows .mixedOrders = true) (hQ : ∀ c a w, Q (.panic c) a w → False) (hsel : Region.noSelect l.toArray = true) (hB : rowB l.toArray tA tB xs tl = true)
    (h : wpQuiet P l.toArray (fun _ => True) (fun a1 => wpQuiet P l.toArray (fun w' => ∃ p : Regrown, w' = grow (redrawn w p.d) p.os) (fun a2 => ∀ w', Below w.heap.size w w' → chainQ P l.toArray Q w tl xs a2 w') (pickL l.toArray tB) a1) (pickL l.toArray tA) a) :
    (Code.region id l.toArray true).wp P Q a w := by
  generalize l.toArray = ops at *
  simp only [rowB, Bool.and_eq_true, decide_eq_true_eq] at hB
  obtain ⟨hsz, hB⟩ := hB
  refine wp_region_any hm ?_
  have inv0 : HeadInv .any ops ops.size (Array.replicate ops.size false) :=
    ⟨by simp, fun j oj _ hl => (by rw [getD_replicate_false] at hl; cases hl), fun t h1 h2 => absurd h2 (by omega)⟩
  have hS0 : Rg w { w with drawn := w.drawn + 1 } := ⟨⟨w.drawn + 1, #[]⟩, by rw [grow_empty]; rfl⟩
  have pre2 : ∀ i ∈ tl, (!tl.contains i) = false := fun i hi => by simp [hi]
  refine wpAny_of_anyP (S := Rg w) (pre := fun j => !tl.contains j) _ _ _ _ ?_
  suffices hh : anyP P .any ops Q (Rg w) (fun j => !tl.contains j) (tA.length + (tB.length + (xs.length + tl.length))) (Array.replicate ops.size false) a { w with drawn := w.drawn + 1 } by
    rw [← hsz] at hh
    exact hh
  refine anyP_takesC (T := fun _ => True) hsel hQ (fun _ _ => trivial) (fun _ _ => .inr (fun _ => trivial)) hS0 (fun l1 a1 hF1 inv1 h1 => ?_) tA _ a hB inv0 h
  refine anyP_takesC (T := fun w' => ∃ p : Regrown, w' = grow (redrawn w p.d) p.os) hsel hQ (fun _ h => h) (fun i hi => .inl hi) hS0 (fun l2 a2 hF2 inv2 h2 => ?_) tB l1 a1 hF1 inv1 h1
  have hb0 : Below w.heap.size w { w with drawn := w.drawn + 1 } := ⟨rfl, rfl, rfl, Nat.le_refl _, fun _ _ => rfl⟩
  exact anyP_chain tl pre2 (fun h => regrown_of_below h) xs l2 a2 _ hF2 (h2 _ hb0)
end
end Go.Proofs.YtoihkbanmnagkaaGreat
