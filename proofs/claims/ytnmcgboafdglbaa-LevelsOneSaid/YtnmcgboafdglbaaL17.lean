/-
  What chapter 17's laws share: the document's example; a number's number; an append of an argument to nil; a choice told by what is chosen. No condition but those that stand in each.
-/
import Derived.Test.YtnmcgboafdglbaaRef17d
set_option linter.unusedSimpArgs false
set_option linter.unusedVariables false
namespace Go.Proofs.Ytnmcgboafdglbaa
open Go Go.RowKit Go.Sort M

theorem num17_any (n : Int) : Gives Try.prog 11 #[.int .i64 n] (.int .i64 n) := by
  intro w
  go_enter Try.func11, Try.ntmps11
  go_wp2
  go_ret
  exact ⟨rfl, by go_grown⟩
theorem run_append_none17 {P : Program} (w : World) (t ty e : TypeId) (i : TypeInfo) (c : Nat) (ht : P.underlying t = some (.slice e)) (hi : P.info? e = some i) :
    (Builtin.append_ #[t, t] ty #[.slice none 0 0, .slice none 0 c]).run P w = .ok (.slice none 0 0) w := by
  simp [Builtin.append_, run_underlying ht, sizeOf, typeInfo, hi, Builtin.lenOf, Builtin.firstCells]
/-- An append of an argument to nil. -/
theorem wpList_append_ints17 {ops : Array Oper} {rest : List Oper} {o : Oper} {a : Act} {w : World} {Q : Exit → Act → World → Prop} (hgd : o.guard = none) (x : Operand)
    (ho : o.op = .call { callee := .builtin .append, args := #[.const (.slice none 0 0), x], argTypes := #[22, 22] }) (B : Nat) (M : List Int) (q : Option Addr) (c : Nat) (hx : a.eval x = .slice q M.length c)
    (hsrc : IRow w q M) (hlen : M.length ≤ 1000000) (hB : B ≤ w.heap.size)
    (h : ∀ p' c' w', w'.ownsRow B 3 1 (.slice p' M.length c') M.length (ics M) → w.grownBy w' none → wpList Try.prog ops Q rest (a.put o.dst (.slice p' M.length c')) w') : wpList Try.prog ops Q (o :: rest) a w := by
  obtain ⟨i0, hi0, iz0, iz1, iz2⟩ := info_parts infoI
  cases q with
  | none =>
    have hM : M = [] := by
      rcases hsrc with h | ⟨g, o, h, -⟩
      · exact h
      · cases h
    subst hM
    refine wpList_plain hgd fun K hK => ?_
    have hrun := run_append_none17 w 22 o.type 3 i0 c Try.underlying22 hi0
    have hx : a.eval x = .slice none 0 c := hx
    have hs : a.eval (.const (.slice none 0 0)) = .slice none 0 0 := rfl
    unfold Oper.wp
    simp [execOp, ho, resolve, invoke, builtin, hs, hx, hrun, Result.andThen]
    exact hK _ _ (h none 0 w (World.ownsRow_nil _ _ _ _) ⟨rfl, rfl, rfl, Nat.le_refl _, fun _ _ _ => rfl⟩)
  | some ad =>
    refine wpList_append_own_at w hgd (.const (.slice none 0 0)) x 22 ho B 3 i0 _ 1 8 Try.underlying22 hi0 iz0 iz1 iz2 rfl (by decide) (.slice none 0 0) 0 [] rfl (World.ownsRow_nil _ _ _ _) ad M.length c (ics M) hx (by rw [ics_len]; omega) (fun j u hu => ?_) (ics_one' M) (by unfold maxLen; omega) (by omega) hB (fun v' w' k1 k2 _ _ => ?_)
    · rcases hsrc with h | ⟨g, o, h, hg, hc⟩
      · rw [h] at hu
        cases hu
      · injection h with h
        subst h
        rw [show (⟨g, o, none⟩ : Addr).add j = ⟨g, o + j, none⟩ by unfold Addr.add; split <;> simp_all]
        exact hc j u hu
    · rw [Nat.zero_add, List.nil_append] at k1
      obtain ⟨p', c', rfl⟩ := own_slice k1
      exact h p' c' w' k1 k2
/-- A choice that comes to nothing, and one that comes to L. -/
theorem choose_none {p : Option Addr} {c : Nat} {C : List Int} {wd lo mo st : Int} (hcs : chosen C wd lo mo st = none) {W : World} (hC : IRow W p C) (h1 : C.length ≤ 1000000) (h2 : C.length ≤ c) :
    Calls Try.prog 8 #[.int .i64 wd, .int .i64 lo, .int .i64 mo, .int .i64 st, .slice p C.length c] W fun e w' => e = .returned (.tuple #[.slice none 0 0, .int .i64 1]) ∧ Below W.heap.size W w' :=
  (choose_any p c C wd lo mo st W hC h1 h2).mono fun e w' ⟨h3, h4⟩ => ⟨by rw [hcs] at h3; exact h3, h4⟩
theorem choose_some {p : Option Addr} {c : Nat} {C : List Int} {wd lo mo st : Int} {L : List Nat} (hcs : chosen C wd lo mo st = some L) {W : World} (hC : IRow W p C) (h1 : C.length ≤ 1000000) (h2 : C.length ≤ c) :
    Calls Try.prog 8 #[.int .i64 wd, .int .i64 lo, .int .i64 mo, .int .i64 st, .slice p C.length c] W fun e w' => (∃ q d, e = .returned (.tuple #[.slice q L.length d, .int .i64 0]) ∧ IRow w' q (toI L) ∧ L.length ≤ d) ∧ Below W.heap.size W w' :=
  (choose_any p c C wd lo mo st W hC h1 h2).mono fun e w' ⟨h3, h4⟩ => ⟨by rw [hcs] at h3; exact h3, h4⟩
theorem rchoose_none {p : Option Addr} {c : Nat} {C : List Int} {wd lo mo st : Int} (hcs : chosen C wd lo mo st = none) {W : World} (hC : IRow W p C) (h1 : C.length ≤ 1000000) :
    Calls Try.prog 9 #[.int .i64 wd, .int .i64 lo, .int .i64 mo, .int .i64 st, .slice p C.length c] W fun e w' => e = .returned (.tuple #[.slice none 0 0, .int .i64 1]) ∧ Below W.heap.size W w' :=
  (rchoose_any p c C wd lo mo st W hC h1).mono fun e w' ⟨h3, h4⟩ => ⟨by rw [hcs] at h3; exact h3, h4⟩
theorem rchoose_some {p : Option Addr} {c : Nat} {C : List Int} {wd lo mo st : Int} {L : List Nat} (hcs : chosen C wd lo mo st = some L) {W : World} (hC : IRow W p C) (h1 : C.length ≤ 1000000) :
    Calls Try.prog 9 #[.int .i64 wd, .int .i64 lo, .int .i64 mo, .int .i64 st, .slice p C.length c] W fun e w' => (∃ q d, e = .returned (.tuple #[.slice q L.length d, .int .i64 0]) ∧ IRow w' q (toI L)) ∧ Below W.heap.size W w' :=
  (rchoose_any p c C wd lo mo st W hC h1).mono fun e w' ⟨h3, h4⟩ => ⟨by rw [hcs] at h3; exact h3, h4⟩
/-- What is chosen. -/
theorem chosen_spec {C : List Int} {wd lo mo st : Int} {L : List Nat} (h : chosen C wd lo mo st = some L) : ablB wd lo mo st = true ∧ ∃ c, bst C st.toNat wd.toNat (min mo.toNat wd.toNat) lo.toNat = some (c, L) := by
  unfold chosen at h
  split at h
  · rename_i hab
    cases hb : bst C st.toNat wd.toNat (min mo.toNat wd.toNat) lo.toNat with
    | none => rw [hb] at h; cases h
    | some x =>
      rw [hb] at h
      injection h with h
      exact ⟨hab, x.1, by rw [← h]⟩
  · cases h
theorem chosen_len {C : List Int} {wd lo mo st : Int} {L : List Nat} (h : chosen C wd lo mo st = some L) : L.length ≤ 128 := by
  obtain ⟨hab, c, hb⟩ := chosen_spec h
  obtain ⟨k1, -, -⟩ := (bst_min C st.toNat wd.toNat (min mo.toNat wd.toNat) lo.toNat).1 _ hb
  have := okC_le _ _ k1
  unfold ablB at hab
  have := of_decide_eq_true hab
  simp only at *
  omega
set_option maxHeartbeats 1000000 in
set_option maxRecDepth 100000 in
theorem alive17_any (w : World) : Calls Try.prog 7 #[] w fun e w' => e = .returned (.bool true) ∧ Below w.heap.size w w' := by
  have h1 : chosen [] 8 8 3 4 = some [] := by decide +kernel
  have h2 : chosen [] 8 4 3 4 = some [8] := by decide +kernel
  have hC1 := fun W => choose_some (p := none) (c := 0) h1 (W := W) (.inl rfl) (by simp) (Nat.le_refl _)
  have hC2 := fun W => choose_some (p := none) (c := 0) h2 (W := W) (.inl rfl) (by simp) (Nat.le_refl _)
  have hN := num17_any 0
  have hR := fun q d W (h : IRow W q [8]) => right_any q d [8] 8 4 3 4 W h (by simp) (by simp)
  rw [show rightI 8 4 3 4 [8] = true by decide +kernel] at hR
  have HC1 : Hid (∀ W, Calls Try.prog 8 #[.int .i64 8, .int .i64 8, .int .i64 3, .int .i64 4, .slice none 0 0] W fun e w' => (∃ q d, e = .returned (.tuple #[.slice q 0 d, .int .i64 0]) ∧ IRow w' q [] ∧ 0 ≤ d) ∧ Below W.heap.size W w') := Lib.hid hC1
  have HC2 : Hid (∀ W, Calls Try.prog 8 #[.int .i64 8, .int .i64 4, .int .i64 3, .int .i64 4, .slice none 0 0] W fun e w' => (∃ q d, e = .returned (.tuple #[.slice q 1 d, .int .i64 0]) ∧ IRow w' q [8] ∧ 1 ≤ d) ∧ Below W.heap.size W w') := Lib.hid hC2
  have HN := Lib.hid hN
  have HR : Hid (∀ q d W, IRow W q [8] → Calls Try.prog 12 #[.int .i64 8, .int .i64 4, .int .i64 3, .int .i64 4, .slice q 1 d] W fun e w' => e = .returned (.bool true) ∧ Below W.heap.size W w') := Lib.hid hR
  clear h1 h2 hC1 hC2 hN hR
  go_enter Try.func7, Try.ntmps7
  go_wp2_with fail
  refine (HC1.out _).mono ?_
  rintro e w1 ⟨⟨q1, d1, rfl, -, -⟩, hb1⟩
  go_wp2_with fail
  refine (HC2.out _).mono ?_
  rintro e w2 ⟨⟨q2, d2, rfl, hr2, -⟩, hb2⟩
  have hw2 := hb1.trans (hb2.mono hb1.size)
  obtain ⟨g, o, rfl, hg, x0⟩ := hr2.at (k := 0) (by simp)
  simp only [List.getElem_cons_zero, Nat.add_zero] at x0
  have HR2 := Lib.hid hr2
  clear hb1 hb2 hr2
  go_wp2_with fail
  refine (HN.out _).mono ?_
  rintro e w3 ⟨rfl, hb3⟩
  have x0 := (hb3.cell (p := ⟨g, o, none⟩) hg).trans x0
  have hw3 := hw2.trans (hb3.mono hw2.size)
  have hr3 := HR2.out.below hb3
  have hg := Nat.lt_of_lt_of_le hg hb3.size
  clear hb3 hw2
  go_wp2_with fail
  refine (HN.out _).mono ?_
  rintro e w4 ⟨rfl, hb4⟩
  have x0 := (hb4.cell (p := ⟨g, o, none⟩) hg).trans x0
  have hw4 := hw3.trans (hb4.mono hw3.size)
  have hr4 := Lib.hid (hr3.below hb4)
  clear hb4 hw3 hr3
  go_wp2_with fail
  refine (HR.out _ _ _ hr4.out).mono ?_
  rintro e w5 ⟨rfl, hb5⟩
  have hw5 := hw4.trans (hb5.mono hw4.size)
  go_wp2
  go_ret
  exact ⟨rfl, hw5⟩
end Go.Proofs.Ytnmcgboafdglbaa
