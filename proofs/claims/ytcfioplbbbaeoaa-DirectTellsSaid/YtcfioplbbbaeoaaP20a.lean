/-
  DirectTells, proved: for every input the law returns true, and each argument reads as it read before. No condition.
-/
import Derived.Test.YtcfioplbbbaeoaaW6
import Derived.Test.YtcfioplbbbaeoaaNest
import Derived.Test.YtcfioplbbbaeoaaM20
import Derived.Test.YtcfioplbbbaeoaaW20
/-
  How rows of whole numbers come in as arguments. No condition but those that stand in each.
-/
set_option linter.unusedSimpArgs false
set_option linter.unusedVariables false
namespace Go.Proofs.Ytcfioplbbbaeoaa
open Go.ChangeShapes Go.WideShapes Go.ChangeAt Go.RowKit Go.Joins Go.Deep Go.Sort M

theorem RowA.ints {w : World} {p : Option Addr} {L : List Int} (h : RowA 1 (fun x => [Value.int .i64 x]) w p L) : IRow w p L := by
  rcases h with h | ⟨g, o, e, hg, hc⟩
  · exact .inl h
  · refine .inr ⟨g, o, e, hg, fun j u hu => ?_⟩
    have hj : j < L.length := by
      have := (List.getElem?_eq_some_iff.1 hu).1
      rwa [ics_len] at this
    rw [ics_cell L j hj] at hu
    have := hc j hj 0 u (by simpa using hu)
    rwa [Nat.mul_one, Nat.add_zero] at this
section
variable {H : Type} {enc : TypeId × Value → H} {w : World} {base : Nat} {spare : Nat → Bool} {held : Bool} {r : Reach} {b0 : Nat}
theorem elemI (n : Nat) (cs : List Value) (x : DataW H × List MemPlace) (h : DataW.trod enc Try.prog w base spare held n 3 cs = some x) : ∃ a : Int, cs = [Value.int .i64 a] ∧ (Lit.int .i64 a).wf = true := by
  obtain ⟨a, e, -, wa⟩ := DataW.trod_int Try.underlying3 h
  exact ⟨a, e, wa⟩
set_option maxRecDepth 100000 in
theorem open_ints {v : Value} {d : DataW H} {p : List MemPlace} (hv : Value.okWide Try.prog w r b0 38 v) (h : DataW.Trod enc Try.prog w base spare held 38 v d p) :
    ∃ (q : Option Addr) (c : Nat) (L : List Int), v = .slice q L.length c ∧ IRow w q L ∧ (∀ x ∈ L, (Lit.int .i64 x).wf = true) ∧ L.length ≤ maxLen := by
  obtain ⟨q, c, L, e, hr, hg, hl⟩ := open_elems Try.underlying38 (show Try.prog.cellsOf 3 = 1 by kernel_rfl) (by decide) (fun _ _ => by simp) elemI hv h
  exact ⟨q, c, L, e, hr.ints, hg, hl⟩
end
end Go.Proofs.Ytcfioplbbbaeoaa
/-
  A slice that comes in as an argument: its length is at most its capacity. No condition but those that stand in each.
-/
set_option linter.unusedSimpArgs false
set_option linter.unusedVariables false
namespace Go.Proofs.Ytcfioplbbbaeoaa
open Go.ChangeShapes Go.WideShapes Go.ChangeAt Go.RowKit Go.Joins Go.Deep M

section
variable {H : Type} {enc : TypeId × Value → H} {P : Program} {w : World} {base : Nat} {spare : Nat → Bool} {held : Bool} {r : Reach} {b0 : Nat}
theorem open_cap {t e : TypeId} {q : Option Addr} {n c : Nat} {d : DataW H} {p : List MemPlace} (ht : P.underlying t = some (.slice e)) (hv : Value.okWide P w r b0 t (.slice q n c)) (h : DataW.Trod enc P w base spare held t (.slice q n c) d p) : n ≤ c := by
  obtain ⟨fuel, hf⟩ := h
  rcases open_slice ht hf with ⟨h0, -⟩ | ⟨a, len', cap, m, n', D, Pl, hcs, -, hl, hm, hmm, -, hx⟩
  · simp only [Value.cells, List.cons.injEq, Value.slice.injEq, and_true] at h0
    omega
  · simp only [Value.cells, List.cons.injEq, Value.slice.injEq, and_true] at hcs
    omega
/-- .. and a nil one has none. -/
theorem open_nil {t e : TypeId} {q : Option Addr} {n c : Nat} {d : DataW H} {p : List MemPlace} (ht : P.underlying t = some (.slice e)) (hv : Value.okWide P w r b0 t (.slice q n c)) (h : DataW.Trod enc P w base spare held t (.slice q n c) d p) (hq : q = none) : c = 0 := by
  obtain ⟨fuel, hf⟩ := h
  rcases open_slice ht hf with ⟨h0, -⟩ | ⟨a, len', cap, m, n', D, Pl, hcs, -, hl, hm, hmm, -, hx⟩
  · simp only [Value.cells, List.cons.injEq, Value.slice.injEq, and_true] at h0
    omega
  · simp only [Value.cells, List.cons.injEq, Value.slice.injEq, and_true] at hcs
    rw [hq] at hcs
    exact absurd hcs.1 (by simp)
end
end Go.Proofs.Ytcfioplbbbaeoaa
/-
  DirectTells, proved: for every input the law returns true, and each argument reads as it read before. No condition.
-/
set_option linter.unusedSimpArgs false
set_option linter.unusedVariables false
namespace Go.Proofs.Ytcfioplbbbaeoaa
open Go.ChangeShapes Go.WideShapes Go.ChangeAt Go.RowKit Go.Joins M

namespace lawDirectTells
set_option maxRecDepth 100000 in
theorem lifted (os : Os) (started : os.Started) (H : Type) (enc : TypeId × Value → H) :
    ReturnsInHanded {} Try.checked os 3 .any (Rows.directTellsSpec.pre6 enc Try.prog Try.f3 Rows.directTellsRow.domain false) (Rows.directTellsSpec.post enc Try.prog Try.f3 false true false false) := by
  refine returnsInHanded_of_change (C := Try.checked) (show ownKnob Try.prog.godebug = none by kernel_rfl) started (by kernel_rfl) Try.func3
    (ChangeSpec.witness6 (enc := enc) (C := Try.checked) false ⟨#[], #[.int .i64 0, .slice none 0 0, .agg #[.int .u64 0, .int .u64 0]], []⟩ 8 (by kernel_rfl) (by kernel_rfl) (by kernel_rfl) (by kernel_rfl)) ?_
  intro W base args ds gs before hval0 hW hcnd _
  have hval : ∀ (j : Nat) t v, Try.f3.params[j]? = some t → args[j]? = some v → Value.okWide Try.prog W .any base t v := hval0
  have hW' := hW
  obtain ⟨p, q, hA0, hV, -, -, -⟩ := hW
  have hA : DataW.TrodAll enc Try.prog W 0 (fun _ => true) true Try.f3.params.toList args.toList ds p := hA0
  rw [Try.params3] at hA hval
  obtain ⟨v0, vs0, d0, ds0, p0, q0, hargs, rfl, rfl, t0, r0⟩ := trodAll_cons hA
  obtain ⟨v1, vs1, d1, ds1, p1, q1, rfl, rfl, rfl, t1, r1⟩ := trodAll_cons r0
  obtain ⟨v2, vs2, d2, ds2, p2, q2, rfl, rfl, rfl, t2, r2⟩ := trodAll_cons r1
  obtain ⟨rfl, rfl, rfl⟩ := trodAll_nil r2
  obtain rfl : args = #[v0, v1, v2] := by cases args; simp_all
  obtain ⟨n0, rfl, -, -, w0⟩ := open_int Try.underlying3 (hval 0 3 v0 rfl rfl) t0
  obtain ⟨s1, k1, n1, rfl, a1, b1, w1⟩ := open_rss (hval 1 22 v1 rfl rfl) t1
  obtain ⟨h2, l2, rfl, a2, b2⟩ := open_addr (hval 2 25 v2 rfl rfl) t2
  obtain ⟨rfl, -⟩ := trodVars_none hV
  refine (dirtell_walk dir_ok n0 s1 k1 n1 h2 l2 W a1 b1 a2 b2 w1).mono fun e W' ⟨he, hg⟩ => ?_
  subst he
  exact ⟨_, rfl, law_post (by kernel_rfl) (by kernel_rfl) rfl Try.underlying4 rfl hW' rfl hg⟩
theorem holds : Rows.DirectTellsSaid :=
  OpenClaim.holds_of_wide 3 Try.f3 rfl rfl rfl rfl rfl rfl rfl ⟨rfl, rfl, rfl, rfl, rfl⟩ rfl rfl rfl rfl rfl (by kernel_rfl) Try.func3 (by kernel_rfl)
    (of_decide_eq_true (by kernel_rfl)) (by unfold Func.isWrapper; first | (rw [if_pos (by decide +kernel)]; kernel_rfl) | (rw [if_neg (by decide +kernel)]; exact ⟨rfl, rfl⟩))
    (fun os started H enc _ => lifted os started H enc)
#print axioms holds
end lawDirectTells
end Go.Proofs.Ytcfioplbbbaeoaa
