/-
  Plain mathematics of a growth: so many keys laid anew. No condition but those that stand in each.
-/
import Derived.Test.YtoihkbanmnagkaaGreatM18b
set_option linter.unusedSimpArgs false
set_option linter.unusedVariables false
namespace Go.Proofs.YtoihkbanmnagkaaGreat
open M

theorem fold_pre {T : Tab} (H : Inv T) {f : Tab → Rt → Tab} (hf : ∀ T r, Inv T → r.k.good → GrowOk T r (f T r)) (j : Nat) (hj : j ≤ (contT T).length) :
    Inv (((contT T).take j).foldl f (grown T)) ∧ (contT (((contT T).take j).foldl f (grown T))).length = j ∧ (grown T).B.length ≤ (((contT T).take j).foldl f (grown T)).B.length := by
  have hG := grown_inv H
  have he : contT (grown T) = [] := empty_cont _ _
  have h := fold_ok hf ((contT T).take j) (grown T) hG.1 (fun r hr => H.good r (List.mem_of_mem_take hr)) (by
    rw [he, List.append_nil]
    have := H.keys
    unfold keysR at *
    rw [List.map_take]
    exact this.sublist (List.take_sublist _ _))
  refine ⟨h.1, ?_, h.2.2⟩
  have hl := h.2.1.length_eq
  rw [he, List.append_nil, List.length_take] at hl
  omega
theorem fold_snoc {α β : Type} (f : β → α → β) (L : List α) (x : β) (j : Nat) (h : j < L.length) : (L.take (j + 1)).foldl f x = f ((L.take j).foldl f x) L[j] := by
  rw [List.take_succ_eq_append_getElem h, List.foldl_append]
  rfl
end Go.Proofs.YtoihkbanmnagkaaGreat
