/-
  What chapter 21's laws share: the document's example; and LevelSure's walk. No condition but those that stand in each.
-/
import Derived.Test.YtoihkbanmnagkaaGreatInto12
import Derived.Laws.AppendOwnNone
import Derived.Test.YtoihkbanmnagkaaGreatAppR
import Derived.Test.YtoihkbanmnagkaaGreatRT2
import Derived.Deep.LoopGhost
/-
  The reference's Into, for every row of routes of a call's own. No condition but that it is short of 2^20.
-/
set_option linter.unusedSimpArgs false
set_option linter.unusedVariables false
namespace Go.Proofs.YtoihkbanmnagkaaGreat
open Go.RowKit Go.Sort M

theorem wp_append_none {o : Oper} {a : Act} {w : World} {K : Act → World → Prop} {Q : Exit → Act → World → Prop} (s x : Operand)
    (ho : o.op = .call { callee := .builtin .append, args := #[s, x], argTypes := #[47, 47] }) (hs : a.eval s = .slice none 0 0) (hx : a.eval x = .slice none 0 0) (h : K (a.put o.dst (.slice none 0 0)) w) : o.wp Tryz.prog a w K Q := by
  obtain ⟨i0, hi0, iz0, iz1, iz2⟩ := info_parts infoR
  have hrun := run_append_owned_none (P := Tryz.prog) (w := w) 0 47 o.type 58 i0 4 Tryz.underlying47 hi0 (.slice none 0 0) 0 [] (World.ownsRow_nil _ _ _ _)
  unfold Oper.wp
  simp [execOp, ho, resolve, invoke, builtin, hs, hx, hrun, Result.andThen]
  exact h
set_option maxRecDepth 100000 in
set_option maxHeartbeats 4000000 in
theorem into_nil (r : Rt) (w : World) : Calls Tryz.prog 18 #[.slice none 0 0, rtA r] w fun e w' => NewRts w w' e [r] := by
  unfold rtA
  go_enter Tryz.func18, Tryz.ntmps18
  go_wp2
  go_loopw [5] (fun i wr => i = .int .i64 0 ∧ wr.cell? ⟨w.heap.size, 0, none⟩ = some (.int .u64 (r.k.h : Int)) ∧ wr.cell? ⟨w.heap.size, 1, none⟩ = some (.int .u64 (r.k.l : Int)) ∧ wr.cell? ⟨w.heap.size, 2, none⟩ = some (.int .i64 r.k.n) ∧ wr.cell? ⟨w.heap.size, 3, none⟩ = some (.int .i64 r.v) ∧ w.heap.size < wr.heap.size ∧ Below w.heap.size w wr) (fun i _ => 0 - (intOf i).toNat)
  case atStart => exact ⟨rfl, by simp [go_sem], by simp [go_sem], by simp [go_sem], by simp [go_sem], by simp, by go_grown⟩
  case round =>
    obtain ⟨rfl, d0, d1, d2, d3, hz, hb⟩ := hrel
    have hz0' := hb.size
    go_wp2_with fail
    have kg := cell_grow
    refine region_whole (by kernel_rfl) (by kernel_rfl) ?_
    repeat (any_goals (first | go_big_quiet_step (fail) | quiet_step (fail)))
    refine wpQuiet_nil ?_
    clear kg
    intro w2 hb2
    obtain ⟨hc2, hf2⟩ := bcell hb2
    have hw2 : Below w.heap.size w w2 := by
      refine Below.trans ?_ (hb2.mono ?_)
      · go_grown
      · first | omega | go_size
    have hw2 := hb.trans (hb2.mono hb.size)
    have d0 := (hc2 _ _ hz).trans d0
    have d1 := (hc2 _ _ hz).trans d1
    have d2 := (hc2 _ _ hz).trans d2
    have d3 := (hc2 _ _ hz).trans d3
    have hz2 := Nat.lt_of_lt_of_le hz hb2.size
    have hz0 := hw2.size
    clear hc2 hf2 hb2
    go_wp2_with fail
    have kg := cell_grow
    refine region_whole (by kernel_rfl) (by kernel_rfl) ?_
    repeat (any_goals (first | go_big_quiet_step (fail) | quiet_step (fail)))
    refine wpQuiet_nil ?_
    clear kg
    intro w4 hb4
    obtain ⟨hc4, hf4⟩ := bcell hb4
    have hw4 : Below w.heap.size w w4 := by
      refine Below.trans ?_ (hb4.mono ?_)
      · go_grown
      · first | omega | go_size
    have hw4 := hw2.trans (hb4.mono hw2.size)
    have d0 := (hc4 _ _ hz2).trans d0
    have d1 := (hc4 _ _ hz2).trans d1
    have d2 := (hc4 _ _ hz2).trans d2
    have d3 := (hc4 _ _ hz2).trans d3
    have hz4 := Nat.lt_of_lt_of_le hz2 hb4.size
    clear hc4 hf4 hb4
    go_wp2_with fail
    have kg := cell_grow
    refine wp_region_noPanic ?_
    generalize hNQ : NoPanic _ = NQ
    refine region_pair [0, 1, 2, 7, 8, 9] [4] 3 5 [6, 10, 11] (by kernel_rfl) (by rw [← hNQ]; exact fun _ _ _ h => h) (by kernel_rfl) (by kernel_rfl) ?_
    simp only [pickL, List.filterMap_cons, List.filterMap_nil, List.getElem?_toArray, List.getElem?_cons_succ, List.getElem?_cons_zero]
    repeat (any_goals (quiet_step (fail)))
    refine wpQuiet_nil ?_
    clear kg
    intro w5 hb5
    have hw5 := hw4.trans (hb5.mono hw4.size)
    refine ⟨?_, ?_⟩
    · intro K hK o ho
      injection ho with ho
      subst ho
      refine wp_append_none (.const (.slice none 0 0)) (.tmp 46) rfl rfl rfl ?_
      refine hK _ _ hb5 ?_
      clear hK K
      intro K hK o ho
      injection ho with ho
      subst ho
      go_simp
      refine hK _ _ (hb5.alloc hb5.size _) ?_
      clear hK K
      simp only [pickL, List.filterMap_cons, List.filterMap_nil, List.getElem?_toArray, List.getElem?_cons_succ, List.getElem?_cons_zero]
      have hb7 := hb5.alloc hb5.size (.cells (rcell r).toArray 58)
      have hX := cells_at (heap_alloc_new w5 (.cells (rcell r).toArray 58)) 0 (rcell r) (by simp [rcell])
      change wpList _ _ _ _ _ (w5.alloc (.cells (rcell r).toArray 58))
      generalize World.alloc w5 _ = w7 at *
      have hw7 := hw4.trans (hb7.mono hw4.size)
      have HX7 := Lib.hid hX
      have HW7 := Lib.hid hw7
      have hz7 : w.heap.size + 1 ≤ w7.heap.size := by have := hb7.size; omega
      obtain ⟨i0, hi0, iz0, iz1, iz2⟩ := info_parts infoR
      refine wpList_append_own_at _ rfl (.tmp 47) (.tmp 49) 47 rfl (w.heap.size + 1) 58 i0 _ 4 32 Tryz.underlying47 hi0 iz0 iz1 iz2 rfl (by decide) (.slice none 0 0) 0 [] rfl (World.ownsRow_nil _ _ _ _) ⟨w5.heap.size, 0, none⟩ 1 1 (rcell r) rfl rfl HX7.out (by simp [rcell, Value.oneCell']) (by decide) (by decide) hz7 ?_
      intro v8 w8 hown8 hg8 _ hat8
      have hw8 : Below w.heap.size w w8 := HW7.out.grown hg8 HW7.out.size (fun k e => by simp [Value.ownBlock] at e)
      refine wpList_append_own_none rfl (.tmp 50) (.tmp 53) 47 rfl (w.heap.size + 1) 58 i0 4 Tryz.underlying47 hi0 v8 _ _ rfl hown8 rfl ?_
      have hown9 : w8.ownsRow (w.heap.size + 1) 58 4 v8 1 (rcs [r]) := by rw [rcs_one]; exact hown8
      obtain ⟨p9, c9, rfl⟩ := own_slice hown9
      have HO9 := Lib.hid hown9
      have HW9 := Lib.hid hw8
      clear hown8 hown9 hg8 hat8 hw8
      go_wp2_with fail
      rw [← hNQ]
      refine NoPanic.normal ?_
      clear hNQ
      go_wp2
      go_ret
      exact ⟨p9, c9, rfl, own_le HO9.out (by omega), HW9.out⟩
    · intro K hK o ho
      injection ho with ho
      subst ho
      go_simp
      refine hK _ _ (hb5.alloc hb5.size _) ?_
      clear hK K
      intro K hK o ho
      injection ho with ho
      subst ho
      refine wp_append_none (.const (.slice none 0 0)) (.tmp 46) rfl rfl rfl ?_
      refine hK _ _ (hb5.alloc hb5.size _) ?_
      clear hK K
      simp only [pickL, List.filterMap_cons, List.filterMap_nil, List.getElem?_toArray, List.getElem?_cons_succ, List.getElem?_cons_zero]
      have hb7 := hb5.alloc hb5.size (.cells (rcell r).toArray 58)
      have hX := cells_at (heap_alloc_new w5 (.cells (rcell r).toArray 58)) 0 (rcell r) (by simp [rcell])
      change wpList _ _ _ _ _ (w5.alloc (.cells (rcell r).toArray 58))
      generalize World.alloc w5 _ = w7 at *
      have hw7 := hw4.trans (hb7.mono hw4.size)
      have HX7 := Lib.hid hX
      have HW7 := Lib.hid hw7
      have hz7 : w.heap.size + 1 ≤ w7.heap.size := by have := hb7.size; omega
      obtain ⟨i0, hi0, iz0, iz1, iz2⟩ := info_parts infoR
      refine wpList_append_own_at _ rfl (.tmp 47) (.tmp 49) 47 rfl (w.heap.size + 1) 58 i0 _ 4 32 Tryz.underlying47 hi0 iz0 iz1 iz2 rfl (by decide) (.slice none 0 0) 0 [] rfl (World.ownsRow_nil _ _ _ _) ⟨w5.heap.size, 0, none⟩ 1 1 (rcell r) rfl rfl HX7.out (by simp [rcell, Value.oneCell']) (by decide) (by decide) hz7 ?_
      intro v8 w8 hown8 hg8 _ hat8
      have hw8 : Below w.heap.size w w8 := HW7.out.grown hg8 HW7.out.size (fun k e => by simp [Value.ownBlock] at e)
      refine wpList_append_own_none rfl (.tmp 50) (.tmp 53) 47 rfl (w.heap.size + 1) 58 i0 4 Tryz.underlying47 hi0 v8 _ _ rfl hown8 rfl ?_
      have hown9 : w8.ownsRow (w.heap.size + 1) 58 4 v8 1 (rcs [r]) := by rw [rcs_one]; exact hown8
      obtain ⟨p9, c9, rfl⟩ := own_slice hown9
      have HO9 := Lib.hid hown9
      have HW9 := Lib.hid hw8
      clear hown8 hown9 hg8 hat8 hw8
      go_wp2_with fail
      rw [← hNQ]
      refine NoPanic.normal ?_
      clear hNQ
      go_wp2
      go_ret
      exact ⟨p9, c9, rfl, own_le HO9.out (by omega), HW9.out⟩
/-- Into, for every row of a call's own. -/
theorem into_any (B : Nat) (p : Option Addr) (c : Nat) (L : List Rt) (r : Rt) (w : World) (hR : w.ownsRow B 58 4 (.slice p L.length c) L.length (rcs L)) (hl : L.length < 1048576) :
    Calls Tryz.prog 18 #[.slice p L.length c, rtA r] w fun e w' => NewRts w w' e (intoS L r) := by
  obtain ⟨J, h1, h2, h3, h4⟩ := into_split L r
  rcases hR.2 with ⟨e, h0⟩ | ⟨g, cap, cur, e, hB, hg, hn, hm, hs, ht⟩
  · have hL := List.length_eq_zero_iff.1 h0
    subst hL
    rw [e]
    exact into_nil r w
  · injection e with e1 e2 e3
    subst e1 e3
    rcases h4 with ⟨hJ, hk, hi⟩ | ⟨hk, hi⟩
    · rw [hi]
      exact into_in B _ c L r J w hR hl hJ h2 (h3 hJ) hk
    · rw [hi]
      by_cases hJ : J < L.length
      · exact into_mid B g c L r J w hR hl hJ h2 (h3 hJ) (hk hJ)
      · exact into_last B g c L r J w hR hl (Array.getElem?_eq_some_iff.1 hg).1 hn (by omega) h2
end Go.Proofs.YtoihkbanmnagkaaGreat
/-
  What chapter 21's laws share: the document's example; and LevelSure's walk. No condition but those that stand in each.
-/
set_option linter.unusedSimpArgs false
set_option linter.unusedVariables false
namespace Go.Proofs.YtoihkbanmnagkaaGreat
open Go Go.RowKit Go.Sort M

theorem num21_any (n : Int) : Gives Tryz.prog 8 #[.int .i64 n] (.int .i64 n) := by
  intro w
  go_enter Tryz.func8, Tryz.ntmps8
  go_wp2
  go_ret
  exact ⟨rfl, by go_grown⟩
def v21 : Lv := (newV 3 1 2 9 1).turn ⟨⟨0, 0, 3⟩, -1, 6⟩
theorem good21 : (⟨0, 0, 3⟩ : Ky).good := ⟨W64.mk (by decide), W64.mk (by decide)⟩
theorem ok21 : LvOk v21 [⟨⟨0, 0, 3⟩, 6⟩] := (newV_ok 3 1 2 9 1 (by decide) (by decide)).turn ⟨⟨0, 0, 3⟩, -1, 6⟩ good21
theorem alive21_math : lookA v21 0 7 = .tuple #[.int .i64 6, .bool true, .bool true] := by
  have hk : v21.key 0 7 = ⟨0, 0, 3⟩ := by
    unfold Lv.key v21
    rw [turn_n]
    rfl
  have h1 : v21.hit 0 7 = some 6 := by
    rw [ok21.hit, hk]
    rfl
  have h2 : v21.may 0 7 = true := ok21.sure (by rw [hk]; exact List.mem_singleton.2 rfl)
  unfold lookA
  rw [h1, h2]
  rfl
section
variable {P : World → (Nat → Prop) → Nat → Lv → Prop}
set_option maxHeartbeats 2000000 in
set_option maxRecDepth 100000 in
theorem alive21_any (D : LevC P) (w : World) : Calls Tryz.prog 5 #[] w fun e w' => e = .returned (.bool true) ∧ Below w.heap.size w w' := by
  have h1 : Hid (∀ w, Calls Tryz.prog 6 #[.int .i64 0, .int .u64 1, .int .i64 2, .int .i64 9, .int .i64 1] w fun e w' => e = .returned (.tuple #[.pointer none, .int .i64 1]) ∧ Below w.heap.size w w') :=
    Lib.hid fun w => D.bad 0 2 9 1 1 w (W64.mk (by decide)) (by unfold badV; omega)
  have h2 : Hid (∀ w, Calls Tryz.prog 6 #[.int .i64 3, .int .u64 1, .int .i64 2, .int .i64 9, .int .i64 1] w fun e w' => ∃ t, e = .returned (.tuple #[.pointer (some ⟨t, 0, none⟩), .int .i64 0]) ∧ P w' (In w.heap.size w'.heap.size) t (newV 3 1 2 9 1) ∧ Below w.heap.size w w') :=
    Lib.hid fun w => D.new 3 2 1 9 1 w (W64.mk (by decide)) (by unfold badV; omega)
  have h3 : Hid (∀ W K t p c, P W K t (newV 3 1 2 9 1) → 1 ≤ c → Row W p (ccs [⟨⟨0, 0, 3⟩, -1, 6⟩]) → (∀ a, p = some a → ¬ K a.block) → Calls Tryz.prog 9 #[.pointer (some ⟨t, 0, none⟩), .slice p 1 c] W fun e w' => e = .returned (.tuple #[]) ∧ ∃ K', P w' K' t v21 ∧ Touch K W w' ∧ ∀ g, K' g → K g ∨ In W.heap.size w'.heap.size g) :=
    Lib.hid fun W K t p c h hc hr hp => D.turn1 ⟨⟨0, 0, 3⟩, -1, 6⟩ h (newV_ok 3 1 2 9 1 (by decide) (by decide)) good21 (by simp) hc hr hp
  have h4 : Hid (∀ W K t, P W K t v21 → Calls Tryz.prog 11 #[.pointer (some ⟨t, 0, none⟩), .agg #[.int .u64 0, .int .u64 7]] W fun e w' => e = .returned (.tuple #[.int .i64 6, .bool true, .bool true]) ∧ Below W.heap.size W w') :=
    Lib.hid fun W K t h => by
      have := D.look W K t v21 _ 0 7 h ok21 (by simp) (by unfold v21; rw [turn_n]; decide) (W64.mk (by decide)) (W64.mk (by decide))
      rw [alive21_math] at this
      exact this
  have h5 : Hid (∀ W K t, P W K t v21 → Calls Tryz.prog 16 #[.pointer (some ⟨t, 0, none⟩)] W fun e w' => e = .returned (.int .i64 3) ∧ Below W.heap.size W w') :=
    Lib.hid fun W K t h => by
      have := D.bits W K t v21 h
      rw [show v21.n = 3 by unfold v21; rw [turn_n]; rfl] at this
      exact this
  have HD := Lib.hid D
  have hrow := fun W : World => row_change (w := W) ⟨⟨0, 0, 3⟩, -1, 6⟩ 40
  have HROW : Hid (∀ W : World, Row (W.alloc (.cells #[.int .u64 0, .int .u64 0, .int .i64 3, .int .i64 (-1), .int .i64 6] 40)) (some ⟨W.heap.size, 0, none⟩) (ccs [⟨⟨0, 0, 3⟩, -1, 6⟩])) := Lib.hid hrow
  clear hrow
  go_enter Tryz.func5, Tryz.ntmps5
  go_wp2_with fail
  refine (h1.out _).mono ?_
  rintro e w1 ⟨rfl, hb1⟩
  go_wp2_with fail
  refine (h2.out _).mono ?_
  rintro e w2 ⟨t, rfl, hP, hb2⟩
  have hw2 := hb1.trans (hb2.mono hb1.size)
  have HP := Lib.hid hP
  have hz1 := hb1.size
  clear hP hb1 hb2
  go_wp2_with fail
  refine (num21_any 1 _).mono ?_
  rintro e w3 ⟨rfl, hb3⟩
  have HP3 := Lib.hid (HD.out.below HP.out hb3)
  have hw3 := hw2.trans (hb3.mono hw2.size)
  have hz3 := hb3.size
  clear hb3 hw2
  go_wp2_with fail
  refine (num21_any 0 _).mono ?_
  rintro e w4 ⟨rfl, hb4⟩
  have HP4 := Lib.hid (HD.out.below HP3.out hb4)
  have hw4 := hw3.trans (hb4.mono hw3.size)
  have hz4 := hb4.size
  clear hb4 hw3 HP3
  go_wp2_with fail
  have hb5 : Below w4.heap.size w4 (w4.alloc (.cells #[.int .u64 0, .int .u64 0, .int .i64 3, .int .i64 (-1), .int .i64 6] 40)) := by go_grown
  refine (h3.out _ _ _ _ _ (HD.out.below HP4.out hb5) (Nat.le_refl _) (HROW.out w4) (fun a ha hk => ?_)).mono ?_
  · injection ha with ha
    subst ha
    have := hk.2
    simp only at this
    omega
  rintro e w6 ⟨rfl, K', hP6, hT6, -⟩
  have HP6 := Lib.hid hP6
  have hw6 : Below w.heap.size w w6 := hw4.trans ((hb5.mono hw4.size).trans (hT6.below (by simp; have := hw4.size; omega) (fun j hj => by have := hj.1; have := hz1; omega)))
  clear hP6 hT6 hb5 hw4
  go_wp2_with fail
  refine (h4.out _ _ _ HP6.out).mono ?_
  rintro e w7 ⟨rfl, hb7⟩
  have HP7 := Lib.hid (HD.out.below HP6.out hb7)
  have hw7 := hw6.trans (hb7.mono hw6.size)
  clear hb7 hw6
  go_wp2_with fail
  refine (h5.out _ _ _ HP7.out).mono ?_
  rintro e w8 ⟨rfl, hb8⟩
  have hw8 := hw7.trans (hb8.mono hw7.size)
  clear hb8 hw7
  go_wp2
  go_ret
  exact ⟨rfl, hw8⟩
end
end Go.Proofs.YtoihkbanmnagkaaGreat
