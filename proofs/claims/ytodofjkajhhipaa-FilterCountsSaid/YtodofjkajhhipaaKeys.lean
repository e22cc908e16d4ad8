/-
  A row of keys that comes in as an argument: opened. No condition.
-/
import Derived.Test.YtodofjkajhhipaaL9
set_option linter.unusedSimpArgs false
set_option linter.unusedVariables false
namespace Go.Proofs.Ytodofjkajhhipaa
open Go.ChangeShapes Go.WideShapes Go.ChangeAt Go.RowKit Go.Joins Go.Deep M

section
variable {H : Type} {enc : TypeId × Value → H} {w : World} {base : Nat} {spare : Nat → Bool} {held : Bool} {r : Reach} {b0 : Nat}
theorem elemKey (n : Nat) (cs : List Value) (x : DataW H × List MemPlace) (h : DataW.trod enc Try.prog w base spare held n 27 cs = some x) : ∃ a : Key, cs = key9 a ∧ Good9 a := by
  obtain ⟨hi, lo, k, e1, w1, w2, -⟩ := open_pfx_cells h
  exact ⟨(hi, lo, k), e1, w1, w2⟩
theorem open_keys {v : Value} {d : DataW H} {p : List MemPlace} (hv : Value.okWide Try.prog w r b0 48 v) (h : DataW.Trod enc Try.prog w base spare held 48 v d p) :
    ∃ (q : Option Addr) (c : Nat) (L : List Key), v = .slice q L.length c ∧ RowA 3 key9 w q L ∧ (∀ a ∈ L, Good9 a) ∧ L.length ≤ maxLen :=
  open_elems Try.underlying48 cellsP (by decide) (fun _ _ => by simp [key9]) elemKey hv h
end
end Go.Proofs.Ytodofjkajhhipaa
