/-
  One statement whose order is open, with calls in a chain each of which leaves old memory as it was, and a tail in one order: what only reads, or builds a value, is taken first, wherever it stands, between the calls too. No condition on the program but that it draws orders in the wide manner.
-/
import Derived.Test.YtlmampklgghngaaReg4
set_option linter.unusedSimpArgs false
set_option linter.unusedVariables false
namespace Go.Proofs.Ytlmampklgghngaa
open Go Go.RowKit Go.Sort

section
variable {P : Program} {ops : Array Oper} {md : Region.Mode} {C : World → Prop} {Q : Exit → Act → World → Prop} {S : World → Prop} {pre : Nat → Bool}
/-- The calls one behind the other, each leaves the memory of w as it was; behind them the tail. -/
def chainQ (P : Program) (ops : Array Oper) (Q : Exit → Act → World → Prop) (w : World) (tl : List Nat) : List Nat → Act → World → Prop
  | [], a, w' => wpList P ops Q (pickL ops tl) a w'
  | x :: xs, a, w' => ∀ K : Act → World → Prop, (∀ a3 w3, Below w.heap.size w w3 → chainQ P ops Q w tl xs a3 w3 → K a3 w3) → oneOp P ops Q x K a w'
def chainTailB (ops : Array Oper) (tl : List Nat) : List Nat → Array Bool → Bool
  | [], listed => tailB .any ops tl listed
  | x :: xs, listed => decide (Region.ready .any ops listed = [x]) && (ops[x]?).isSome && chainTailB ops tl xs (listed.setIfInBounds x true)
def rowB (ops : Array Oper) (tA tB xs tl : List Nat) : Bool :=
  decide (ops.size = tA.length + (tB.length + (xs.length + tl.length))) &&
  takeD .any ops (fun _ => true) (fun l1 => takeD .any ops (fun i => laterB .any ops (fun j => !tl.contains j) i) (fun l2 => chainTailB ops tl xs l2) tB l1) tA (Array.replicate ops.size false)
theorem anyP_chain {w : World} (tl : List Nat) (pre2 : ∀ i ∈ tl, pre i = false) (rgb : ∀ {w'}, Below w.heap.size w w' → S w') : ∀ (xs : List Nat) (listed : Array Bool) (a : Act) (w' : World), chainTailB ops tl xs listed = true → chainQ P ops Q w tl xs a w' → anyP P .any ops Q S pre (xs.length + tl.length) listed a w'
  | [], listed, a, w', hB, h => by
    rw [List.length_nil, Nat.zero_add]
    exact anyP_tail tl listed a w' pre2 hB h
  | x :: xs, listed, a, w', hB, h => by
    simp only [chainTailB, Bool.and_eq_true, decide_eq_true_eq] at hB
    obtain ⟨⟨r0, hx⟩, ht⟩ := hB
    rw [List.length_cons, show xs.length + 1 + tl.length = (xs.length + tl.length) + 1 by omega]
    refine ⟨fun h1 => (by rw [r0] at h1; cases h1), fun i hi => ?_⟩
    rw [r0] at hi
    have hix : i = x := by simpa using hi
    subst hix
    exact (h _ (fun a3 w3 hb3 h3 => ⟨fun _ _ => rgb hb3, anyP_chain tl pre2 rgb xs _ a3 w3 ht h3⟩)).wpOp hx
theorem region_row {id : Nat} {a : Act} {w : World} {l : List Oper} (tA tB xs tl : List Nat) (hm : P.follows .mixedOrders = true) (hQ : ∀ c a w, Q (.panic c) a w → False) (hsel : Region.noSelect l.toArray = true) (hB : rowB l.toArray tA tB xs tl = true)
    (h : wpQuiet P l.toArray (fun _ => True) (fun a1 => wpQuiet P l.toArray (fun w' => ∃ p : Regrown, w' = grow (redrawn w p.d) p.os) (fun a2 => ∀ w', Below w.heap.size w w' → chainQ P l.toArray Q w tl xs a2 w') (pickL l.toArray tB) a1) (pickL l.toArray tA) a) :
    (Code.region id l.toArray true).wp P Q a w := by
  generalize l.toArray = ops at *
  simp only [rowB, Bool.and_eq_true, decide_eq_true_eq] at hB
  obtain ⟨hsz, hB⟩ := hB
  refine wp_region_any hm ?_
  have inv0 : HeadInv .any ops ops.size (Array.replicate ops.size false) :=
    ⟨by simp, fun j oj _ hl => (by rw [getD_replicate_false] at hl; cases hl), fun t h1 h2 => absurd h2 (by omega)⟩
  have hS0 : Rg w { w with drawn := w.drawn + 1 } := ⟨⟨w.drawn + 1, #[]⟩, by rw [grow_empty]; rfl⟩
  have pre2 : ∀ i ∈ tl, (!tl.contains i) = false := fun i hi => by simp [hi]
  refine wpAny_of_anyP (S := Rg w) (pre := fun j => !tl.contains j) _ _ _ _ ?_
  suffices hh : anyP P .any ops Q (Rg w) (fun j => !tl.contains j) (tA.length + (tB.length + (xs.length + tl.length))) (Array.replicate ops.size false) a { w with drawn := w.drawn + 1 } by
    rw [← hsz] at hh
    exact hh
  refine anyP_takesC (T := fun _ => True) hsel hQ (fun _ _ => trivial) (fun _ _ => .inr (fun _ => trivial)) hS0 (fun l1 a1 hF1 inv1 h1 => ?_) tA _ a hB inv0 h
  refine anyP_takesC (T := fun w' => ∃ p : Regrown, w' = grow (redrawn w p.d) p.os) hsel hQ (fun _ h => h) (fun i hi => .inl hi) hS0 (fun l2 a2 hF2 inv2 h2 => ?_) tB l1 a1 hF1 inv1 h1
  have hb0 : Below w.heap.size w { w with drawn := w.drawn + 1 } := ⟨rfl, rfl, rfl, Nat.le_refl _, fun _ _ => rfl⟩
  exact anyP_chain tl pre2 (fun h => regrown_of_below h) xs l2 a2 _ hF2 (h2 _ hb0)
end
end Go.Proofs.Ytlmampklgghngaa
