/-
  What chapter 18's laws share: what is asked of the program's Hop and Set; the document's example; an append of an argument to nil in a drawn region. No condition but those that stand in each.
-/
import Derived.Test.YtlmampklgghngaaRef18b
set_option linter.unusedSimpArgs false
set_option linter.unusedVariables false
namespace Go.Proofs.Ytlmampklgghngaa
open Go Go.RowKit Go.Sort M

def SetC : Prop := ∀ (p : Option Addr) (c : Nat) (L : List Rt) (low high : Int) (W : World), Row W p (rcs L) → (∀ x ∈ L, x.k.good) → (p = none → c = 0) → L.length ≤ c → L.length ≤ 4000 →
  Calls Try.prog 20 #[.slice p L.length c, .int .i64 low, .int .i64 high] W fun e w' => NewRts W w' e (setS (sortR L) low high)
theorem run_append_none18 {P : Program} (w : World) (t ty e : TypeId) (i : TypeInfo) (c : Nat) (ht : P.underlying t = some (.slice e)) (hi : P.info? e = some i) :
    (Builtin.append_ #[t, t] ty #[.slice none 0 0, .slice none 0 c]).run P w = .ok (.slice none 0 0) w := by
  simp [Builtin.append_, run_underlying ht, sizeOf, typeInfo, hi, Builtin.lenOf, Builtin.firstCells]
theorem own_cap18 {w : World} {B n m d k : Nat} {e : TypeId} {q : Option Addr} {xs : List Value} (h : w.ownsRow B e k (.slice q n d) m xs) : n ≤ d := by
  rcases h.2 with ⟨e1, _⟩ | ⟨g, cap, cur, e1, _, _, hc, _⟩
  · injection e1 with _ e2 e3
    omega
  · injection e1 with _ e2 e3
    omega
/-- An append of an argument to nil, one operation of whatever statement. -/
theorem wp_append_arg18 {o : Oper} {a : Act} {w : World} {K : Act → World → Prop} {Q : Exit → Act → World → Prop} (x : Operand)
    (ho : o.op = .call { callee := .builtin .append, args := #[.const (.slice none 0 0), x], argTypes := #[22, 22] }) (M : List Rt) (q : Option Addr) (c : Nat) (hx : a.eval x = .slice q M.length c)
    (hsrc : Row w q (rcs M)) (hlen : M.length ≤ 1099511627776)
    (h : ∀ p' c' w', Below w.heap.size w w' → Row w' p' (rcs M) → (p' = none → c' = 0) → M.length ≤ c' → K (a.put o.dst (.slice p' M.length c')) w') : o.wp Try.prog a w K Q := by
  cases q with
  | none =>
    have hM : M = [] := by
      rcases hsrc with h | ⟨g, o, h, -⟩
      · have := rcs_len M
        rw [h] at this
        exact List.length_eq_zero_iff.1 (by simp at this; omega)
      · cases h
    subst hM
    obtain ⟨i0, hi0, iz0, iz1, iz2⟩ := info_parts infoR
    have hrun := run_append_none18 w 22 o.type 38 i0 c Try.underlying22 hi0
    have hx : a.eval x = .slice none 0 c := hx
    have hs : a.eval (.const (.slice none 0 0)) = .slice none 0 0 := rfl
    unfold Oper.wp
    simp [execOp, ho, resolve, invoke, builtin, hs, hx, hrun, Result.andThen]
    exact h none 0 w (Below.refl _ _) (.inl rfl) (fun _ => rfl) (Nat.le_refl _)
  | some ad =>
    refine wp_append_rt (.const (.slice none 0 0)) x ho w.heap.size (.slice none 0 0) [] M rfl (World.ownsRow_nil _ _ _ _) ad M.length c rfl hx ?_ (by simp; omega) (Nat.le_refl _) ?_
    · intro j u hu
      rcases hsrc with h | ⟨g, o, h, hg, hc⟩
      · rw [h] at hu
        cases hu
      · injection h with h
        subst h
        rw [show (⟨g, o, none⟩ : Addr).add j = ⟨g, o + j, none⟩ by unfold Addr.add; split <;> simp_all]
        exact hc j u hu
    · intro v' w' h1 h2 _
      rw [List.nil_append] at h1
      obtain ⟨p', c', rfl⟩ := own_slice h1
      refine h p' c' w' ((Below.refl w.heap.size w).grown h2 (Nat.le_refl _) (fun k e => by simp [Value.ownBlock] at e)) (Row.of_own h1) (fun e => ?_) (own_cap18 h1)
      subst e
      rcases h1.2 with ⟨e, -⟩ | ⟨g, cap, cur, e, -⟩
      · injection e
      · injection e with e
        cases e
theorem wpList_append_arg18 {ops : Array Oper} {rest : List Oper} {o : Oper} {a : Act} {w : World} {Q : Exit → Act → World → Prop} (hgd : o.guard = none) (x : Operand)
    (ho : o.op = .call { callee := .builtin .append, args := #[.const (.slice none 0 0), x], argTypes := #[22, 22] }) (M : List Rt) (q : Option Addr) (c : Nat) (hx : a.eval x = .slice q M.length c)
    (hsrc : Row w q (rcs M)) (hlen : M.length ≤ 1099511627776)
    (h : ∀ p' c' w', Below w.heap.size w w' → Row w' p' (rcs M) → (p' = none → c' = 0) → M.length ≤ c' → wpList Try.prog ops Q rest (a.put o.dst (.slice p' M.length c')) w') : wpList Try.prog ops Q (o :: rest) a w :=
  wpList_plain hgd fun K hK => wp_append_arg18 x ho M q c hx hsrc hlen fun p' c' w' h1 h2 h3 h4 => hK _ _ (h p' c' w' h1 h2 h3 h4)
theorem alive18_math : setS (sortR [⟨⟨0, 0, 0⟩, 6⟩]) (-1) 1 = [⟨⟨0, 0, 1⟩, 6⟩, ⟨⟨9223372036854775808, 0, 1⟩, 6⟩] := by decide +kernel
end Go.Proofs.Ytlmampklgghngaa
