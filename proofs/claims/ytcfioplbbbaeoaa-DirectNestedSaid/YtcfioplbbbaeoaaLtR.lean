/-
  Routes by their prefixes, as an order for the library's sorts. No condition but those that stand in each.
-/
import Derived.Test.YtcfioplbbbaeoaaInto12
import Derived.Laws.AppendOwnNone
import Derived.Test.YtcfioplbbbaeoaaM12d
import Derived.Sort.Statements
/-
  The reference's Into, for every row of routes of a call's own. No condition but that it is short of 2^20.
-/
set_option linter.unusedSimpArgs false
set_option linter.unusedVariables false
namespace Go.Proofs.Ytcfioplbbbaeoaa
open Go.RowKit Go.Sort M

theorem wp_append_none {o : Oper} {a : Act} {w : World} {K : Act → World → Prop} {Q : Exit → Act → World → Prop} (s x : Operand)
    (ho : o.op = .call { callee := .builtin .append, args := #[s, x], argTypes := #[34, 34] }) (hs : a.eval s = .slice none 0 0) (hx : a.eval x = .slice none 0 0) (h : K (a.put o.dst (.slice none 0 0)) w) : o.wp Try.prog a w K Q := by
  obtain ⟨i0, hi0, iz0, iz1, iz2⟩ := info_parts infoR
  have hrun := run_append_owned_none (P := Try.prog) (w := w) 0 34 o.type 43 i0 4 Try.underlying34 hi0 (.slice none 0 0) 0 [] (World.ownsRow_nil _ _ _ _)
  unfold Oper.wp
  simp [execOp, ho, resolve, invoke, builtin, hs, hx, hrun, Result.andThen]
  exact h
set_option maxRecDepth 100000 in
set_option maxHeartbeats 4000000 in
theorem into_nil (r : Rt) (w : World) : Calls Try.prog 30 #[.slice none 0 0, rtA r] w fun e w' => NewRts w w' e [r] := by
  unfold rtA
  go_enter Try.func30, Try.ntmps30
  go_wp2
  go_loopw [5] (fun i wr => i = .int .i64 0 ∧ wr.cell? ⟨w.heap.size, 0, none⟩ = some (.int .u64 (r.k.h : Int)) ∧ wr.cell? ⟨w.heap.size, 1, none⟩ = some (.int .u64 (r.k.l : Int)) ∧ wr.cell? ⟨w.heap.size, 2, none⟩ = some (.int .i64 r.k.n) ∧ wr.cell? ⟨w.heap.size, 3, none⟩ = some (.int .i64 r.v) ∧ w.heap.size < wr.heap.size ∧ Below w.heap.size w wr) (fun i _ => 0 - (intOf i).toNat)
  case atStart => exact ⟨rfl, by simp [go_sem], by simp [go_sem], by simp [go_sem], by simp [go_sem], by simp, by go_grown⟩
  case round =>
    obtain ⟨rfl, d0, d1, d2, d3, hz, hb⟩ := hrel
    have hz0' := hb.size
    go_wp2_with fail
    have kg := cell_grow
    refine region_whole (by kernel_rfl) (by kernel_rfl) ?_
    repeat (any_goals (first | go_big_quiet_step (fail) | quiet_step (fail)))
    refine wpQuiet_nil ?_
    clear kg
    intro w2 hb2
    obtain ⟨hc2, hf2⟩ := bcell hb2
    have hw2 : Below w.heap.size w w2 := by
      refine Below.trans ?_ (hb2.mono ?_)
      · go_grown
      · first | omega | go_size
    have hw2 := hb.trans (hb2.mono hb.size)
    have d0 := (hc2 _ _ hz).trans d0
    have d1 := (hc2 _ _ hz).trans d1
    have d2 := (hc2 _ _ hz).trans d2
    have d3 := (hc2 _ _ hz).trans d3
    have hz2 := Nat.lt_of_lt_of_le hz hb2.size
    have hz0 := hw2.size
    clear hc2 hf2 hb2
    go_wp2_with fail
    have kg := cell_grow
    refine region_whole (by kernel_rfl) (by kernel_rfl) ?_
    repeat (any_goals (first | go_big_quiet_step (fail) | quiet_step (fail)))
    refine wpQuiet_nil ?_
    clear kg
    intro w4 hb4
    obtain ⟨hc4, hf4⟩ := bcell hb4
    have hw4 : Below w.heap.size w w4 := by
      refine Below.trans ?_ (hb4.mono ?_)
      · go_grown
      · first | omega | go_size
    have hw4 := hw2.trans (hb4.mono hw2.size)
    have d0 := (hc4 _ _ hz2).trans d0
    have d1 := (hc4 _ _ hz2).trans d1
    have d2 := (hc4 _ _ hz2).trans d2
    have d3 := (hc4 _ _ hz2).trans d3
    have hz4 := Nat.lt_of_lt_of_le hz2 hb4.size
    clear hc4 hf4 hb4
    go_wp2_with fail
    have kg := cell_grow
    refine wp_region_noPanic ?_
    generalize hNQ : NoPanic _ = NQ
    refine region_pair [0, 1, 2, 7, 8, 9] [4] 3 5 [6, 10, 11] (by kernel_rfl) (by rw [← hNQ]; exact fun _ _ _ h => h) (by kernel_rfl) (by kernel_rfl) ?_
    simp only [pickL, List.filterMap_cons, List.filterMap_nil, List.getElem?_toArray, List.getElem?_cons_succ, List.getElem?_cons_zero]
    repeat (any_goals (quiet_step (fail)))
    refine wpQuiet_nil ?_
    clear kg
    intro w5 hb5
    have hw5 := hw4.trans (hb5.mono hw4.size)
    refine ⟨?_, ?_⟩
    · intro K hK o ho
      injection ho with ho
      subst ho
      refine wp_append_none (.const (.slice none 0 0)) (.tmp 46) rfl rfl rfl ?_
      refine hK _ _ hb5 ?_
      clear hK K
      intro K hK o ho
      injection ho with ho
      subst ho
      go_simp
      refine hK _ _ (hb5.alloc hb5.size _) ?_
      clear hK K
      simp only [pickL, List.filterMap_cons, List.filterMap_nil, List.getElem?_toArray, List.getElem?_cons_succ, List.getElem?_cons_zero]
      have hb7 := hb5.alloc hb5.size (.cells (rcell r).toArray 43)
      have hX := cells_at (heap_alloc_new w5 (.cells (rcell r).toArray 43)) 0 (rcell r) (by simp [rcell])
      change wpList _ _ _ _ _ (w5.alloc (.cells (rcell r).toArray 43))
      generalize World.alloc w5 _ = w7 at *
      have hw7 := hw4.trans (hb7.mono hw4.size)
      have HX7 := Lib.hid hX
      have HW7 := Lib.hid hw7
      have hz7 : w.heap.size + 1 ≤ w7.heap.size := by have := hb7.size; omega
      obtain ⟨i0, hi0, iz0, iz1, iz2⟩ := info_parts infoR
      refine wpList_append_own_at _ rfl (.tmp 47) (.tmp 49) 34 rfl (w.heap.size + 1) 43 i0 _ 4 32 Try.underlying34 hi0 iz0 iz1 iz2 rfl (by decide) (.slice none 0 0) 0 [] rfl (World.ownsRow_nil _ _ _ _) ⟨w5.heap.size, 0, none⟩ 1 1 (rcell r) rfl rfl HX7.out (by simp [rcell, Value.oneCell']) (by decide) (by decide) hz7 ?_
      intro v8 w8 hown8 hg8 _ hat8
      have hw8 : Below w.heap.size w w8 := HW7.out.grown hg8 HW7.out.size (fun k e => by simp [Value.ownBlock] at e)
      refine wpList_append_own_none rfl (.tmp 50) (.tmp 53) 34 rfl (w.heap.size + 1) 43 i0 4 Try.underlying34 hi0 v8 _ _ rfl hown8 rfl ?_
      have hown9 : w8.ownsRow (w.heap.size + 1) 43 4 v8 1 (rcs [r]) := by rw [rcs_one]; exact hown8
      obtain ⟨p9, c9, rfl⟩ := own_slice hown9
      have HO9 := Lib.hid hown9
      have HW9 := Lib.hid hw8
      clear hown8 hown9 hg8 hat8 hw8
      go_wp2_with fail
      rw [← hNQ]
      refine NoPanic.normal ?_
      clear hNQ
      go_wp2
      go_ret
      exact ⟨p9, c9, rfl, own_le HO9.out (by omega), HW9.out⟩
    · intro K hK o ho
      injection ho with ho
      subst ho
      go_simp
      refine hK _ _ (hb5.alloc hb5.size _) ?_
      clear hK K
      intro K hK o ho
      injection ho with ho
      subst ho
      refine wp_append_none (.const (.slice none 0 0)) (.tmp 46) rfl rfl rfl ?_
      refine hK _ _ (hb5.alloc hb5.size _) ?_
      clear hK K
      simp only [pickL, List.filterMap_cons, List.filterMap_nil, List.getElem?_toArray, List.getElem?_cons_succ, List.getElem?_cons_zero]
      have hb7 := hb5.alloc hb5.size (.cells (rcell r).toArray 43)
      have hX := cells_at (heap_alloc_new w5 (.cells (rcell r).toArray 43)) 0 (rcell r) (by simp [rcell])
      change wpList _ _ _ _ _ (w5.alloc (.cells (rcell r).toArray 43))
      generalize World.alloc w5 _ = w7 at *
      have hw7 := hw4.trans (hb7.mono hw4.size)
      have HX7 := Lib.hid hX
      have HW7 := Lib.hid hw7
      have hz7 : w.heap.size + 1 ≤ w7.heap.size := by have := hb7.size; omega
      obtain ⟨i0, hi0, iz0, iz1, iz2⟩ := info_parts infoR
      refine wpList_append_own_at _ rfl (.tmp 47) (.tmp 49) 34 rfl (w.heap.size + 1) 43 i0 _ 4 32 Try.underlying34 hi0 iz0 iz1 iz2 rfl (by decide) (.slice none 0 0) 0 [] rfl (World.ownsRow_nil _ _ _ _) ⟨w5.heap.size, 0, none⟩ 1 1 (rcell r) rfl rfl HX7.out (by simp [rcell, Value.oneCell']) (by decide) (by decide) hz7 ?_
      intro v8 w8 hown8 hg8 _ hat8
      have hw8 : Below w.heap.size w w8 := HW7.out.grown hg8 HW7.out.size (fun k e => by simp [Value.ownBlock] at e)
      refine wpList_append_own_none rfl (.tmp 50) (.tmp 53) 34 rfl (w.heap.size + 1) 43 i0 4 Try.underlying34 hi0 v8 _ _ rfl hown8 rfl ?_
      have hown9 : w8.ownsRow (w.heap.size + 1) 43 4 v8 1 (rcs [r]) := by rw [rcs_one]; exact hown8
      obtain ⟨p9, c9, rfl⟩ := own_slice hown9
      have HO9 := Lib.hid hown9
      have HW9 := Lib.hid hw8
      clear hown8 hown9 hg8 hat8 hw8
      go_wp2_with fail
      rw [← hNQ]
      refine NoPanic.normal ?_
      clear hNQ
      go_wp2
      go_ret
      exact ⟨p9, c9, rfl, own_le HO9.out (by omega), HW9.out⟩
/-- Into, for every row of a call's own. -/
theorem into_any (B : Nat) (p : Option Addr) (c : Nat) (L : List Rt) (r : Rt) (w : World) (hR : w.ownsRow B 43 4 (.slice p L.length c) L.length (rcs L)) (hl : L.length < 1048576) :
    Calls Try.prog 30 #[.slice p L.length c, rtA r] w fun e w' => NewRts w w' e (intoS L r) := by
  obtain ⟨J, h1, h2, h3, h4⟩ := into_split L r
  rcases hR.2 with ⟨e, h0⟩ | ⟨g, cap, cur, e, hB, hg, hn, hm, hs, ht⟩
  · have hL := List.length_eq_zero_iff.1 h0
    subst hL
    rw [e]
    exact into_nil r w
  · injection e with e1 e2 e3
    subst e1 e3
    rcases h4 with ⟨hJ, hk, hi⟩ | ⟨hk, hi⟩
    · rw [hi]
      exact into_in B _ c L r J w hR hl hJ h2 (h3 hJ) hk
    · rw [hi]
      by_cases hJ : J < L.length
      · exact into_mid B g c L r J w hR hl hJ h2 (h3 hJ) (hk hJ)
      · exact into_last B g c L r J w hR hl (Array.getElem?_eq_some_iff.1 hg).1 hn (by omega) h2
end Go.Proofs.Ytcfioplbbbaeoaa
/-
  Routes by their prefixes, as an order for the library's sorts. No condition but those that stand in each.
-/
set_option linter.unusedSimpArgs false
set_option linter.unusedVariables false
namespace Go.Proofs.Ytcfioplbbbaeoaa
open Go.Sort M

def ltR (a b : Rt) : Bool := lessK a.k b.k
theorem ltR_swo : SWO ltR := by
  refine ⟨fun x => lessK_irr _, fun x y z h g => lessK_trans h g, fun x y z h g => ?_⟩
  unfold ltR at *
  cases hc : lessK x.k z.k with
  | false => rfl
  | true =>
    by_cases e : y.k = z.k
    · rw [e] at h
      rw [h] at hc
      cases hc
    · have h2 := lessK_total e
      rw [g] at h2
      have := lessK_trans hc h2
      rw [h] at this
      cases this
theorem sorted_strict {M : List Rt} (hk : (keysR M).Nodup) (h : M.Pairwise fun a b => ltR b a = false) : Sorted M := by
  unfold keysR List.Nodup at hk
  rw [List.pairwise_map] at hk
  refine (hk.and h).imp ?_
  rintro a b ⟨hne, hl⟩
  have := lessK_total (a := b.k) (b := a.k) (fun e => hne e.symm)
  rw [this]
  unfold ltR at hl
  rw [hl]
  rfl
end Go.Proofs.Ytcfioplbbbaeoaa
