/-
  append of one row of routes to another one, each of the call's own or a table's. No condition but that both together are short of 2^40.
-/
import Derived.Test.YtoihkbanmnagkaaGreatW12a
import Derived.Laws.AppendOwnNone
import Derived.Maps.AppendAt
set_option linter.unusedSimpArgs false
set_option linter.unusedVariables false
namespace Go.Proofs.YtoihkbanmnagkaaGreat
open Go Go.RowKit Go.Sort M

theorem wpList_append_rts {ops : Array Oper} {rest : List Oper} {o : Oper} {a : Act} {w : World} {Q : Exit → Act → World → Prop} (hgd : o.guard = none) (s x : Operand)
    (ho : o.op = .call { callee := .builtin .append, args := #[s, x], argTypes := #[47, 47] }) (B B2 : Nat) (v u : Value) (L M N : List Rt) (hN : N = L ++ M) (hs : a.eval s = v) (hx : a.eval x = u)
    (hown : w.ownsRow B 58 4 v L.length (rcs L)) (hsrc : w.ownsRow B2 58 4 u M.length (rcs M)) (hlen : L.length + M.length ≤ 1099511627776) (hB : B ≤ w.heap.size)
    (h : ∀ v' w', w'.ownsRow B 58 4 v' N.length (rcs N) → w.grownBy w' v.ownBlock → (v'.ownBlock = v.ownBlock ∨ v'.ownBlock = some w.heap.size) → wpList Tryz.prog ops Q rest (a.put o.dst v') w') : wpList Tryz.prog ops Q (o :: rest) a w := by
  subst hN
  obtain ⟨i0, hi0, iz0, iz1, iz2⟩ := info_parts infoR
  rcases hsrc.2 with ⟨hu, h0⟩ | ⟨g, cap, cur, hu, -, -, -, -, -, -⟩
  · subst hu
    refine wpList_append_own_none hgd s x 47 ho B 58 i0 4 Tryz.underlying47 hi0 v _ _ hs hown hx ?_
    have hM := List.length_eq_zero_iff.1 h0
    subst hM
    refine h v w ?_ ⟨rfl, rfl, rfl, Nat.le_refl _, fun _ _ _ => rfl⟩ (.inl rfl)
    rwa [List.append_nil]
  · have hc := fun hg => hsrc.cells (g := g) hg
    subst hu
    refine wpList_append_own_at w hgd s x 47 ho B 58 i0 _ 4 32 Tryz.underlying47 hi0 iz0 iz1 iz2 rfl (by decide) v _ _ hs hown ⟨g, 0, none⟩ M.length cap (rcs M) hx (rcs_len M) (hc rfl) (rcs_one' M) (by unfold maxLen; omega) (by omega) hB ?_
    intro v' w' h1 h2 _ h4
    refine h v' w' ?_ h2 h4
    rw [rcs_append, List.length_append]
    exact h1
end Go.Proofs.YtoihkbanmnagkaaGreat
