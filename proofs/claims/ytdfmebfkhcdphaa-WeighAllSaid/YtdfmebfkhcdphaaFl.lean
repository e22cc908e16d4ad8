/-
  Rows of floats in memory: a list of words as cells, one to each; and how floats, rows of floats and rows of whole numbers come in as arguments. No condition but those that stand in each.
-/
import Derived.Test.YtdfmebfkhcdphaaInts
import Derived.Test.YtdfmebfkhcdphaaRow
import Derived.Test.YtdfmebfkhcdphaaSlice
import Derived.Test.YtdfmebfkhcdphaaM10
set_option linter.unusedSimpArgs false
set_option linter.unusedVariables false
namespace Go.Proofs.Ytdfmebfkhcdphaa
open Go.ChangeShapes Go.WideShapes Go.ChangeAt Go.RowKit Go.Joins Go.Deep Go.Sort M

/-- The cells of a list of floats. -/
def fcs (X : List Nat) : List Value := X.map fun x => .float .f64 x
theorem fcs_len (X : List Nat) : (fcs X).length = X.length := by simp [fcs]
theorem fcs_append (X Y : List Nat) : fcs (X ++ Y) = fcs X ++ fcs Y := by simp [fcs]
theorem fcs_one (x : Nat) : fcs [x] = [.float .f64 x] := rfl
theorem fcs_cell (X : List Nat) (k : Nat) (h : k < X.length) : (fcs X)[k]? = some (.float .f64 X[k]) := by simp [fcs, h]
theorem fcs_one' (X : List Nat) : ∀ u ∈ fcs X, u.oneCell' = true := by
  intro u hu
  unfold fcs at hu
  rw [List.mem_map] at hu
  obtain ⟨p, -, rfl⟩ := hu
  rfl
theorem infoF : (Try.prog.info? 23).map (fun i => (i.zero, i.size, i.bytes)) = some (some (.float .f64 0), 1, 8) := by kernel_rfl
/-- Number k of a row of floats. -/
theorem Row.atF {w : World} {p : Option Addr} {X : List Nat} (h : Row w p (fcs X)) {k : Nat} (hk : k < X.length) : ∃ g o, p = some ⟨g, o, none⟩ ∧ g < w.heap.size ∧ w.cell? ⟨g, o + k, none⟩ = some (.float .f64 X[k]) := by
  rcases h with h | ⟨g, o, e, hg, hc⟩
  · have := fcs_len X
    rw [h] at this
    simp at this; omega
  · exact ⟨g, o, e, hg, hc k _ (fcs_cell X k hk)⟩
theorem RowA.floats {w : World} {p : Option Addr} {X : List Nat} (h : RowA 1 (fun x => [Value.float .f64 x]) w p X) : Row w p (fcs X) := by
  rcases h with h | ⟨g, o, e, hg, hc⟩
  · exact .inl (by rw [h]; rfl)
  · refine .inr ⟨g, o, e, hg, fun j u hu => ?_⟩
    have hj : j < X.length := by
      have := (List.getElem?_eq_some_iff.1 hu).1
      rwa [fcs_len] at this
    rw [fcs_cell X j hj] at hu
    have := hc j hj 0 u (by simpa using hu)
    rwa [Nat.mul_one, Nat.add_zero] at this
theorem RowA.ints {w : World} {p : Option Addr} {L : List Int} (h : RowA 1 (fun x => [Value.int .i64 x]) w p L) : IRow w p L := by
  rcases h with h | ⟨g, o, e, hg, hc⟩
  · exact .inl h
  · refine .inr ⟨g, o, e, hg, fun j u hu => ?_⟩
    have hj : j < L.length := by
      have := (List.getElem?_eq_some_iff.1 hu).1
      rwa [ics_len] at this
    rw [ics_cell L j hj] at hu
    have := hc j hj 0 u (by simpa using hu)
    rwa [Nat.mul_one, Nat.add_zero] at this
section
variable {H : Type} {enc : TypeId × Value → H} {w : World} {base : Nat} {spare : Nat → Bool} {held : Bool} {r : Reach} {b0 : Nat}
theorem elemF (n : Nat) (cs : List Value) (x : DataW H × List MemPlace) (h : DataW.trod enc Try.prog w base spare held n 23 cs = some x) : ∃ a : Nat, cs = [Value.float .f64 a] ∧ a < 18446744073709551616 := by
  have ht := Try.underlying23
  cases n with
  | zero => simp [DataW.trod] at h
  | succ n =>
    unfold DataW.trod at h
    rw [ht] at h
    split at h <;> try (simp_all; done)
    rename_i k k' b heq
    have hk : k = .f64 := by injection heq with e; injection e with e; exact e.symm
    subst hk
    by_cases hw : k' = FloatKind.f64 ∧ (Lit.float FloatKind.f64 b).wf = true
    · obtain ⟨rfl, hw⟩ := hw
      exact ⟨b, rfl, by simpa [Lit.wf] using hw⟩
    · rw [if_neg hw] at h
      cases h
theorem elemI (n : Nat) (cs : List Value) (x : DataW H × List MemPlace) (h : DataW.trod enc Try.prog w base spare held n 3 cs = some x) : ∃ a : Int, cs = [Value.int .i64 a] ∧ (Lit.int .i64 a).wf = true := by
  obtain ⟨a, e, -, wa⟩ := DataW.trod_int Try.underlying3 h
  exact ⟨a, e, wa⟩
theorem open_floats {v : Value} {d : DataW H} {p : List MemPlace} (hv : Value.okWide Try.prog w r b0 22 v) (h : DataW.Trod enc Try.prog w base spare held 22 v d p) :
    ∃ (q : Option Addr) (c : Nat) (X : List Nat), v = .slice q X.length c ∧ Row w q (fcs X) ∧ (∀ x ∈ X, x < 18446744073709551616) ∧ X.length ≤ maxLen := by
  obtain ⟨q, c, X, e, hr, hg, hl⟩ := open_elems Try.underlying22 (show Try.prog.cellsOf 23 = 1 by kernel_rfl) (by decide) (fun _ _ => by simp) elemF hv h
  exact ⟨q, c, X, e, hr.floats, hg, hl⟩
theorem open_ints {v : Value} {d : DataW H} {p : List MemPlace} (hv : Value.okWide Try.prog w r b0 25 v) (h : DataW.Trod enc Try.prog w base spare held 25 v d p) :
    ∃ (q : Option Addr) (c : Nat) (L : List Int), v = .slice q L.length c ∧ IRow w q L ∧ (∀ x ∈ L, (Lit.int .i64 x).wf = true) ∧ L.length ≤ maxLen := by
  obtain ⟨q, c, L, e, hr, hg, hl⟩ := open_elems Try.underlying25 (show Try.prog.cellsOf 3 = 1 by kernel_rfl) (by decide) (fun _ _ => by simp) elemI hv h
  exact ⟨q, c, L, e, hr.ints, hg, hl⟩
end
end Go.Proofs.Ytdfmebfkhcdphaa
