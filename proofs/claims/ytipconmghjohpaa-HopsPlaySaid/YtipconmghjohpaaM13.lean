/-
  Numbers and their uses as two lists side by side: plain mathematics. No condition but those that stand in each.
-/
import Derived.Test.YtipconmghjohpaaM1
set_option linter.unusedSimpArgs false
set_option linter.unusedVariables false
namespace Go.Proofs.Ytipconmghjohpaa.M

/-- The uses of a number, by the lists of numbers and uses. -/
def useF : List Int → List Nat → Int → Nat
  | n :: N, v :: V, x => if x = n then v else useF N V x
  | _, _, _ => 0
theorem useF_not : ∀ (N : List Int) (V : List Nat) (x : Int), x ∉ N → useF N V x = 0
  | [], V, x, _ => by cases V <;> rfl
  | n :: N, [], x, _ => rfl
  | n :: N, v :: V, x, h => by
    simp only [List.mem_cons, not_or] at h
    unfold useF
    rw [if_neg h.1, useF_not N V x h.2]
theorem useF_at : ∀ (N : List Int) (V : List Nat), N.Nodup → ∀ (k : Nat) (h1 : k < N.length) (h2 : k < V.length), useF N V N[k] = V[k]
  | [], _, _, k, h1, _ => absurd h1 (by simp)
  | n :: N, [], _, k, _, h2 => absurd h2 (by simp)
  | n :: N, v :: V, hd, 0, _, _ => by simp [useF]
  | n :: N, v :: V, hd, k + 1, h1, h2 => by
    simp only [List.nodup_cons] at hd
    simp only [List.length_cons] at h1 h2
    simp only [List.getElem_cons_succ]
    unfold useF
    have hne : ¬ N[k]'(by omega) = n := fun e => hd.1 (by rw [← e]; exact List.getElem_mem (by omega))
    rw [if_neg hne, useF_at N V hd.2 k (by omega) (by omega)]
theorem useF_snoc : ∀ (N : List Int) (V : List Nat) (x : Int), V.length = N.length → useF (N ++ [x]) (V ++ [0]) = useF N V
  | [], [], x, _ => by
    funext y
    simp [useF]
  | [], _ :: _, _, h => absurd h (by simp)
  | _ :: _, [], _, h => absurd h (by simp)
  | n :: N, v :: V, x, h => by
    funext y
    simp only [List.cons_append, useF]
    rw [useF_snoc N V x (by simpa using h)]
theorem useF_set : ∀ (N : List Int) (V : List Nat) (v : Nat), N.Nodup → ∀ (k : Nat) (h1 : k < N.length) (_ : k < V.length), useF N (V.set k v) = fun y => if y = N[k] then v else useF N V y
  | [], _, _, _, k, h1, _ => absurd h1 (by simp)
  | n :: N, [], _, _, k, _, h2 => absurd h2 (by simp)
  | n :: N, u :: V, v, hd, 0, _, _ => by
    funext y
    simp only [List.set_cons_zero, useF, List.getElem_cons_zero]
    split <;> rfl
  | n :: N, u :: V, v, hd, k + 1, h1, h2 => by
    simp only [List.nodup_cons] at hd
    simp only [List.length_cons] at h1 h2
    funext y
    simp only [List.set_cons_succ, useF, List.getElem_cons_succ]
    rw [useF_set N V v hd.2 k (by omega) (by omega)]
    by_cases e : y = n
    · rw [if_pos e, if_pos e, if_neg (fun e2 => hd.1 (by rw [← e, e2]; exact List.getElem_mem (by omega)))]
    · rw [if_neg e, if_neg e]
/-- How many have some use. -/
def cntV (V : List Nat) : Nat := V.countP fun v => decide (0 < v)
theorem cntV_snoc (V : List Nat) (v : Nat) : cntV (V ++ [v]) = cntV V + if 0 < v then 1 else 0 := by
  unfold cntV
  rw [List.countP_append, List.countP_singleton]
  simp
theorem cntV_take (V : List Nat) (k : Nat) (h : k < V.length) : cntV (V.take (k + 1)) = cntV (V.take k) + if 0 < V[k] then 1 else 0 := by
  rw [List.take_succ_eq_append_getElem h, cntV_snoc]
theorem cntV_le (V : List Nat) : cntV V ≤ V.length := List.countP_le_length
theorem cntV_set (V : List Nat) (k v : Nat) (h : k < V.length) : cntV (V.set k v) + (if 0 < V[k] then 1 else 0) = cntV V + if 0 < v then 1 else 0 := by
  have e : V = V.take k ++ V[k] :: V.drop (k + 1) := by rw [List.getElem_cons_drop, List.take_append_drop]
  have h1 : cntV V = cntV (V.take k) + (cntV (V.drop (k + 1)) + if 0 < V[k] then 1 else 0) := by
    conv => lhs; rw [e]
    unfold cntV
    rw [List.countP_append, List.countP_cons]
    simp
  rw [List.set_eq_take_append_cons_drop, if_pos h, h1]
  unfold cntV
  rw [List.countP_append, List.countP_cons]
  simp only [decide_eq_true_eq]
  omega
/-- Where a number lies among the first k, or -1. -/
def AtOk (N : List Int) (x : Int) (k : Nat) (t : Int) : Prop := (t = -1 ∧ x ∉ N.take k) ∨ ∃ a : Nat, a < k ∧ t = (a : Int) ∧ N[a]? = some x
theorem AtOk.start (N : List Int) (x : Int) : AtOk N x 0 (-1) := .inl ⟨rfl, by simp⟩
theorem AtOk.hit {N : List Int} {x t : Int} {k : Nat} (hk : k < N.length) (hx : N[k] = x) : AtOk N x (k + 1) (k : Int) :=
  .inr ⟨k, by omega, rfl, by rw [List.getElem?_eq_getElem hk, hx]⟩
theorem AtOk.miss {N : List Int} {x t : Int} {k : Nat} (h : AtOk N x k t) (hk : k < N.length) (hx : N[k] ≠ x) : AtOk N x (k + 1) t := by
  rcases h with ⟨h1, h2⟩ | ⟨a, h1, h2, h3⟩
  · refine .inl ⟨h1, ?_⟩
    rw [List.take_succ_eq_append_getElem hk]
    simp only [List.mem_append, List.mem_singleton, not_or]
    exact ⟨h2, fun e => hx e.symm⟩
  · exact .inr ⟨a, by omega, h2, h3⟩
theorem nodup_snoc {N : List Int} {x : Int} (h : N.Nodup) (hx : x ∉ N) : (N ++ [x]).Nodup := by
  rw [List.nodup_append]
  exact ⟨h, by simp, fun a ha b hb e => by simp at hb; subst hb; subst e; exact hx ha⟩
end Go.Proofs.Ytipconmghjohpaa.M
