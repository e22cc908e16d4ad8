/-
  How rows of whole numbers come in as arguments. No condition but those that stand in each.
-/
import Derived.Test.YtnmcgboafdglbaaInts
import Derived.Test.YtnmcgboafdglbaaSlice
set_option linter.unusedSimpArgs false
set_option linter.unusedVariables false
namespace Go.Proofs.Ytnmcgboafdglbaa
open Go.ChangeShapes Go.WideShapes Go.ChangeAt Go.RowKit Go.Joins Go.Deep Go.Sort M

theorem RowA.ints {w : World} {p : Option Addr} {L : List Int} (h : RowA 1 (fun x => [Value.int .i64 x]) w p L) : IRow w p L := by
  rcases h with h | ⟨g, o, e, hg, hc⟩
  · exact .inl h
  · refine .inr ⟨g, o, e, hg, fun j u hu => ?_⟩
    have hj : j < L.length := by
      have := (List.getElem?_eq_some_iff.1 hu).1
      rwa [ics_len] at this
    rw [ics_cell L j hj] at hu
    have := hc j hj 0 u (by simpa using hu)
    rwa [Nat.mul_one, Nat.add_zero] at this
section
variable {H : Type} {enc : TypeId × Value → H} {w : World} {base : Nat} {spare : Nat → Bool} {held : Bool} {r : Reach} {b0 : Nat}
theorem elemI (n : Nat) (cs : List Value) (x : DataW H × List MemPlace) (h : DataW.trod enc Try.prog w base spare held n 3 cs = some x) : ∃ a : Int, cs = [Value.int .i64 a] ∧ (Lit.int .i64 a).wf = true := by
  obtain ⟨a, e, -, wa⟩ := DataW.trod_int Try.underlying3 h
  exact ⟨a, e, wa⟩
set_option maxRecDepth 100000 in
theorem open_ints {v : Value} {d : DataW H} {p : List MemPlace} (hv : Value.okWide Try.prog w r b0 22 v) (h : DataW.Trod enc Try.prog w base spare held 22 v d p) :
    ∃ (q : Option Addr) (c : Nat) (L : List Int), v = .slice q L.length c ∧ IRow w q L ∧ (∀ x ∈ L, (Lit.int .i64 x).wf = true) ∧ L.length ≤ maxLen := by
  obtain ⟨q, c, L, e, hr, hg, hl⟩ := open_elems Try.underlying22 (show Try.prog.cellsOf 3 = 1 by kernel_rfl) (by decide) (fun _ _ => by simp) elemI hv h
  exact ⟨q, c, L, e, hr.ints, hg, hl⟩
end
end Go.Proofs.Ytnmcgboafdglbaa
