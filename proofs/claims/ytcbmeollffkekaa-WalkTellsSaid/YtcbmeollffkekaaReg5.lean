/-
  As Reg3's, a value may be built among what is taken first; an append to nothing. No condition on the program but that it draws orders in the wide manner.
-/
import Derived.Test.YtcbmeollffkekaaInto12
import Derived.Laws.AppendOwnNone
import Derived.Test.YtcbmeollffkekaaBkt
/-
  The reference's Into, for every row of routes of a call's own. No condition but that it is short of 2^20.
-/
set_option linter.unusedSimpArgs false
set_option linter.unusedVariables false
namespace Go.Proofs.Ytcbmeollffkekaa
open Go.RowKit Go.Sort M

theorem wp_append_none {o : Oper} {a : Act} {w : World} {K : Act → World → Prop} {Q : Exit → Act → World → Prop} (s x : Operand)
    (ho : o.op = .call { callee := .builtin .append, args := #[s, x], argTypes := #[22, 22] }) (hs : a.eval s = .slice none 0 0) (hx : a.eval x = .slice none 0 0) (h : K (a.put o.dst (.slice none 0 0)) w) : o.wp Try.prog a w K Q := by
  obtain ⟨i0, hi0, iz0, iz1, iz2⟩ := info_parts infoR
  have hrun := run_append_owned_none (P := Try.prog) (w := w) 0 22 o.type 39 i0 4 Try.underlying22 hi0 (.slice none 0 0) 0 [] (World.ownsRow_nil _ _ _ _)
  unfold Oper.wp
  simp [execOp, ho, resolve, invoke, builtin, hs, hx, hrun, Result.andThen]
  exact h
set_option maxRecDepth 100000 in
set_option maxHeartbeats 4000000 in
theorem into_nil (r : Rt) (w : World) : Calls Try.prog 12 #[.slice none 0 0, rtA r] w fun e w' => NewRts w w' e [r] := by
  unfold rtA
  go_enter Try.func12, Try.ntmps12
  go_wp2
  go_loopw [5] (fun i wr => i = .int .i64 0 ∧ wr.cell? ⟨w.heap.size, 0, none⟩ = some (.int .u64 (r.k.h : Int)) ∧ wr.cell? ⟨w.heap.size, 1, none⟩ = some (.int .u64 (r.k.l : Int)) ∧ wr.cell? ⟨w.heap.size, 2, none⟩ = some (.int .i64 r.k.n) ∧ wr.cell? ⟨w.heap.size, 3, none⟩ = some (.int .i64 r.v) ∧ w.heap.size < wr.heap.size ∧ Below w.heap.size w wr) (fun i _ => 0 - (intOf i).toNat)
  case atStart => exact ⟨rfl, by simp [go_sem], by simp [go_sem], by simp [go_sem], by simp [go_sem], by simp, by go_grown⟩
  case round =>
    obtain ⟨rfl, d0, d1, d2, d3, hz, hb⟩ := hrel
    have hz0' := hb.size
    go_wp2_with fail
    have kg := cell_grow
    refine region_whole (by kernel_rfl) (by kernel_rfl) ?_
    repeat (any_goals (first | go_big_quiet_step (fail) | quiet_step (fail)))
    refine wpQuiet_nil ?_
    clear kg
    intro w2 hb2
    obtain ⟨hc2, hf2⟩ := bcell hb2
    have hw2 : Below w.heap.size w w2 := by
      refine Below.trans ?_ (hb2.mono ?_)
      · go_grown
      · first | omega | go_size
    have hw2 := hb.trans (hb2.mono hb.size)
    have d0 := (hc2 _ _ hz).trans d0
    have d1 := (hc2 _ _ hz).trans d1
    have d2 := (hc2 _ _ hz).trans d2
    have d3 := (hc2 _ _ hz).trans d3
    have hz2 := Nat.lt_of_lt_of_le hz hb2.size
    have hz0 := hw2.size
    clear hc2 hf2 hb2
    go_wp2_with fail
    have kg := cell_grow
    refine region_whole (by kernel_rfl) (by kernel_rfl) ?_
    repeat (any_goals (first | go_big_quiet_step (fail) | quiet_step (fail)))
    refine wpQuiet_nil ?_
    clear kg
    intro w4 hb4
    obtain ⟨hc4, hf4⟩ := bcell hb4
    have hw4 : Below w.heap.size w w4 := by
      refine Below.trans ?_ (hb4.mono ?_)
      · go_grown
      · first | omega | go_size
    have hw4 := hw2.trans (hb4.mono hw2.size)
    have d0 := (hc4 _ _ hz2).trans d0
    have d1 := (hc4 _ _ hz2).trans d1
    have d2 := (hc4 _ _ hz2).trans d2
    have d3 := (hc4 _ _ hz2).trans d3
    have hz4 := Nat.lt_of_lt_of_le hz2 hb4.size
    clear hc4 hf4 hb4
    go_wp2_with fail
    have kg := cell_grow
    refine wp_region_noPanic ?_
    generalize hNQ : NoPanic _ = NQ
    refine region_pair [0, 1, 2, 7, 8, 9] [4] 3 5 [6, 10, 11] (by kernel_rfl) (by rw [← hNQ]; exact fun _ _ _ h => h) (by kernel_rfl) (by kernel_rfl) ?_
    simp only [pickL, List.filterMap_cons, List.filterMap_nil, List.getElem?_toArray, List.getElem?_cons_succ, List.getElem?_cons_zero]
    repeat (any_goals (quiet_step (fail)))
    refine wpQuiet_nil ?_
    clear kg
    intro w5 hb5
    have hw5 := hw4.trans (hb5.mono hw4.size)
    refine ⟨?_, ?_⟩
    · intro K hK o ho
      injection ho with ho
      subst ho
      refine wp_append_none (.const (.slice none 0 0)) (.tmp 46) rfl rfl rfl ?_
      refine hK _ _ hb5 ?_
      clear hK K
      intro K hK o ho
      injection ho with ho
      subst ho
      go_simp
      refine hK _ _ (hb5.alloc hb5.size _) ?_
      clear hK K
      simp only [pickL, List.filterMap_cons, List.filterMap_nil, List.getElem?_toArray, List.getElem?_cons_succ, List.getElem?_cons_zero]
      have hb7 := hb5.alloc hb5.size (.cells (rcell r).toArray 39)
      have hX := cells_at (heap_alloc_new w5 (.cells (rcell r).toArray 39)) 0 (rcell r) (by simp [rcell])
      change wpList _ _ _ _ _ (w5.alloc (.cells (rcell r).toArray 39))
      generalize World.alloc w5 _ = w7 at *
      have hw7 := hw4.trans (hb7.mono hw4.size)
      have HX7 := Lib.hid hX
      have HW7 := Lib.hid hw7
      have hz7 : w.heap.size + 1 ≤ w7.heap.size := by have := hb7.size; omega
      obtain ⟨i0, hi0, iz0, iz1, iz2⟩ := info_parts infoR
      refine wpList_append_own_at _ rfl (.tmp 47) (.tmp 49) 22 rfl (w.heap.size + 1) 39 i0 _ 4 32 Try.underlying22 hi0 iz0 iz1 iz2 rfl (by decide) (.slice none 0 0) 0 [] rfl (World.ownsRow_nil _ _ _ _) ⟨w5.heap.size, 0, none⟩ 1 1 (rcell r) rfl rfl HX7.out (by simp [rcell, Value.oneCell']) (by decide) (by decide) hz7 ?_
      intro v8 w8 hown8 hg8 _ hat8
      have hw8 : Below w.heap.size w w8 := HW7.out.grown hg8 HW7.out.size (fun k e => by simp [Value.ownBlock] at e)
      refine wpList_append_own_none rfl (.tmp 50) (.tmp 53) 22 rfl (w.heap.size + 1) 39 i0 4 Try.underlying22 hi0 v8 _ _ rfl hown8 rfl ?_
      have hown9 : w8.ownsRow (w.heap.size + 1) 39 4 v8 1 (rcs [r]) := by rw [rcs_one]; exact hown8
      obtain ⟨p9, c9, rfl⟩ := own_slice hown9
      have HO9 := Lib.hid hown9
      have HW9 := Lib.hid hw8
      clear hown8 hown9 hg8 hat8 hw8
      go_wp2_with fail
      rw [← hNQ]
      refine NoPanic.normal ?_
      clear hNQ
      go_wp2
      go_ret
      exact ⟨p9, c9, rfl, own_le HO9.out (by omega), HW9.out⟩
    · intro K hK o ho
      injection ho with ho
      subst ho
      go_simp
      refine hK _ _ (hb5.alloc hb5.size _) ?_
      clear hK K
      intro K hK o ho
      injection ho with ho
      subst ho
      refine wp_append_none (.const (.slice none 0 0)) (.tmp 46) rfl rfl rfl ?_
      refine hK _ _ (hb5.alloc hb5.size _) ?_
      clear hK K
      simp only [pickL, List.filterMap_cons, List.filterMap_nil, List.getElem?_toArray, List.getElem?_cons_succ, List.getElem?_cons_zero]
      have hb7 := hb5.alloc hb5.size (.cells (rcell r).toArray 39)
      have hX := cells_at (heap_alloc_new w5 (.cells (rcell r).toArray 39)) 0 (rcell r) (by simp [rcell])
      change wpList _ _ _ _ _ (w5.alloc (.cells (rcell r).toArray 39))
      generalize World.alloc w5 _ = w7 at *
      have hw7 := hw4.trans (hb7.mono hw4.size)
      have HX7 := Lib.hid hX
      have HW7 := Lib.hid hw7
      have hz7 : w.heap.size + 1 ≤ w7.heap.size := by have := hb7.size; omega
      obtain ⟨i0, hi0, iz0, iz1, iz2⟩ := info_parts infoR
      refine wpList_append_own_at _ rfl (.tmp 47) (.tmp 49) 22 rfl (w.heap.size + 1) 39 i0 _ 4 32 Try.underlying22 hi0 iz0 iz1 iz2 rfl (by decide) (.slice none 0 0) 0 [] rfl (World.ownsRow_nil _ _ _ _) ⟨w5.heap.size, 0, none⟩ 1 1 (rcell r) rfl rfl HX7.out (by simp [rcell, Value.oneCell']) (by decide) (by decide) hz7 ?_
      intro v8 w8 hown8 hg8 _ hat8
      have hw8 : Below w.heap.size w w8 := HW7.out.grown hg8 HW7.out.size (fun k e => by simp [Value.ownBlock] at e)
      refine wpList_append_own_none rfl (.tmp 50) (.tmp 53) 22 rfl (w.heap.size + 1) 39 i0 4 Try.underlying22 hi0 v8 _ _ rfl hown8 rfl ?_
      have hown9 : w8.ownsRow (w.heap.size + 1) 39 4 v8 1 (rcs [r]) := by rw [rcs_one]; exact hown8
      obtain ⟨p9, c9, rfl⟩ := own_slice hown9
      have HO9 := Lib.hid hown9
      have HW9 := Lib.hid hw8
      clear hown8 hown9 hg8 hat8 hw8
      go_wp2_with fail
      rw [← hNQ]
      refine NoPanic.normal ?_
      clear hNQ
      go_wp2
      go_ret
      exact ⟨p9, c9, rfl, own_le HO9.out (by omega), HW9.out⟩
/-- Into, for every row of a call's own. -/
theorem into_any (B : Nat) (p : Option Addr) (c : Nat) (L : List Rt) (r : Rt) (w : World) (hR : w.ownsRow B 39 4 (.slice p L.length c) L.length (rcs L)) (hl : L.length < 1048576) :
    Calls Try.prog 12 #[.slice p L.length c, rtA r] w fun e w' => NewRts w w' e (intoS L r) := by
  obtain ⟨J, h1, h2, h3, h4⟩ := into_split L r
  rcases hR.2 with ⟨e, h0⟩ | ⟨g, cap, cur, e, hB, hg, hn, hm, hs, ht⟩
  · have hL := List.length_eq_zero_iff.1 h0
    subst hL
    rw [e]
    exact into_nil r w
  · injection e with e1 e2 e3
    subst e1 e3
    rcases h4 with ⟨hJ, hk, hi⟩ | ⟨hk, hi⟩
    · rw [hi]
      exact into_in B _ c L r J w hR hl hJ h2 (h3 hJ) hk
    · rw [hi]
      by_cases hJ : J < L.length
      · exact into_mid B g c L r J w hR hl hJ h2 (h3 hJ) (hk hJ)
      · exact into_last B g c L r J w hR hl (Array.getElem?_eq_some_iff.1 hg).1 hn (by omega) h2
end Go.Proofs.Ytcbmeollffkekaa
/-
  As Reg3's, a value may be built among what is taken first; an append to nothing. No condition on the program but that it draws orders in the wide manner.
-/
set_option linter.unusedSimpArgs false
set_option linter.unusedVariables false
namespace Go.Proofs.Ytcbmeollffkekaa
open Go Go.RowKit Go.Sort M

section
variable {P : Program} {ops : Array Oper} {md : Region.Mode} {C : World → Prop} {Q : Exit → Act → World → Prop} {S : World → Prop} {pre : Nat → Bool}
def pairC (ops : Array Oper) (tA tB : List Nat) (x y : Nat) (tl : List Nat) : Bool :=
  decide (x ≠ y) && (ops[x]?).isSome && (ops[y]?).isSome && decide (ops.size = tA.length + (tB.length + (tl.length + 1 + 1))) &&
  takeD .any ops (fun _ => true) (fun l1 => takeD .any ops (fun i => laterB .any ops (fun j => !tl.contains j) i) (fun l2 =>
    decide (Region.ready .any ops l2 = [x, y]) && decide (Region.ready .any ops (l2.setIfInBounds x true) = [y]) && decide (Region.ready .any ops (l2.setIfInBounds y true) = [x]) && tailB .any ops tl ((l2.setIfInBounds x true).setIfInBounds y true)) tB l1) tA (Array.replicate ops.size false)
theorem region_pairC {id : Nat} {a : Act} {w : World} {l : List Oper} (tA tB : List Nat) (x y : Nat) (tl : List Nat) (hm : P.follows .mixedOrders = true) (hQ : ∀ c a w, Q (.panic c) a w → False) (hsel : Region.noSelect l.toArray = true) (hB : pairC l.toArray tA tB x y tl = true)
    (h : wpQuiet P l.toArray (fun _ => True) (fun a1 => wpQuiet P l.toArray (fun w' => ∃ p : Regrown, w' = grow (redrawn w p.d) p.os) (fun a2 => ∀ w', Below w.heap.size w w' → wayQ P l.toArray Q w x y tl a2 w' ∧ wayQ P l.toArray Q w y x tl a2 w') (pickL l.toArray tB) a1) (pickL l.toArray tA) a) :
    (Code.region id l.toArray true).wp P Q a w := by
  generalize l.toArray = ops at *
  simp only [pairC, Bool.and_eq_true, decide_eq_true_eq] at hB
  obtain ⟨⟨⟨⟨hxy, hx⟩, hy⟩, hsz⟩, hB⟩ := hB
  refine wp_region_any hm ?_
  have inv0 : HeadInv .any ops ops.size (Array.replicate ops.size false) :=
    ⟨by simp, fun j oj _ hl => (by rw [getD_replicate_false] at hl; cases hl), fun t h1 h2 => absurd h2 (by omega)⟩
  have hS0 : Rg w { w with drawn := w.drawn + 1 } := ⟨⟨w.drawn + 1, #[]⟩, by rw [grow_empty]; rfl⟩
  have rgb : ∀ {w'}, Below w.heap.size w w' → Rg w w' := fun h => regrown_of_below h
  have pre2 : ∀ i ∈ tl, (!tl.contains i) = false := fun i hi => by simp [hi]
  refine wpAny_of_anyP (S := Rg w) (pre := fun j => !tl.contains j) _ _ _ _ ?_
  suffices hh : anyP P .any ops Q (Rg w) (fun j => !tl.contains j) (tA.length + (tB.length + (tl.length + 1 + 1))) (Array.replicate ops.size false) a { w with drawn := w.drawn + 1 } by
    rw [← hsz] at hh
    exact hh
  have one : ∀ (u v : Nat) (listed : Array Bool) (a2 : Act) (w' : World), (ops[u]?).isSome = true → (ops[v]?).isSome = true → Region.ready .any ops (listed.setIfInBounds u true) = [v] → tailB .any ops tl ((listed.setIfInBounds u true).setIfInBounds v true) = true → wayQ P ops Q w u v tl a2 w' →
      Go.wpOp P ops Q u (fun a' w1 => ((!tl.contains u) = true → Rg w w' → Rg w w1) ∧ anyP P .any ops Q (Rg w) (fun j => !tl.contains j) (tl.length + 1) (listed.setIfInBounds u true) a' w1) a2 w' := by
    intro u v listed a2 w' hu hv hr ht hway
    refine (hway _ (fun a3 w3 hb3 hnext => ⟨fun _ _ => rgb hb3, ?_⟩)).wpOp hu
    refine ⟨fun h1 => (by rw [hr] at h1; cases h1), fun j hj => ?_⟩
    rw [hr] at hj
    have hjv : j = v := by simpa using hj
    subst hjv
    exact (hnext _ (fun a4 w4 hb4 hl4 => ⟨fun _ _ => rgb hb4, anyP_tail tl _ a4 w4 pre2 ht hl4⟩)).wpOp hv
  refine anyP_takesC (T := fun _ => True) hsel hQ (fun _ _ => trivial) (fun _ _ => .inr (fun _ => trivial)) hS0 (fun l1 a1 hF1 inv1 h1 => ?_) tA _ a hB inv0 h
  refine anyP_takesC (T := fun w' => ∃ p : Regrown, w' = grow (redrawn w p.d) p.os) hsel hQ (fun _ h => h) (fun i hi => .inl hi) hS0 (fun l2 a2 hF2 inv2 h2 => ?_) tB l1 a1 hF1 inv1 h1
  simp only [Bool.and_eq_true, decide_eq_true_eq] at hF2
  obtain ⟨⟨⟨r0, r1⟩, r2⟩, ht⟩ := hF2
  have hb0 : Below w.heap.size w { w with drawn := w.drawn + 1 } := ⟨rfl, rfl, rfl, Nat.le_refl _, fun _ _ => rfl⟩
  obtain ⟨wy1, wy2⟩ := h2 _ hb0
  refine ⟨fun h1 => (by rw [r0] at h1; cases h1), fun i hi => ?_⟩
  rw [r0] at hi
  simp only [List.mem_cons, List.not_mem_nil, or_false] at hi
  rcases hi with rfl | rfl
  · exact one i y l2 a2 _ hx hy r1 ht wy1
  · refine one i x l2 a2 _ hy hx r2 ?_ wy2
    rw [Array.setIfInBounds_comm _ _ hxy.symm]
    exact ht
end
/-- An append of a row to nothing. -/
theorem wp_append_nil {o : Oper} {a : Act} {w : World} {K : Act → World → Prop} {Q : Exit → Act → World → Prop} (x : Operand)
    (ho : o.op = .call { callee := .builtin .append, args := #[.const (.slice none 0 0), x], argTypes := #[22, 22] }) (B B2 : Nat) (u : Value) (M : List Rt) (hx : a.eval x = u) (hsrc : w.ownsRow B2 39 4 u M.length (rcs M)) (hlen : M.length ≤ 1099511627776) (hB : B ≤ w.heap.size)
    (h : ∀ v' w', w'.ownsRow B 39 4 v' M.length (rcs M) → w.grownBy w' none → K (a.put o.dst v') w') : o.wp Try.prog a w K Q := by
  rcases hsrc.2 with ⟨hu, h0⟩ | ⟨g, cap, cur, hu, -, -, -, -, -, -⟩
  · subst hu
    have hM := List.length_eq_zero_iff.1 h0
    subst hM
    exact wp_append_none (.const (.slice none 0 0)) x ho rfl hx (h _ _ (World.ownsRow_nil _ _ _ _) ⟨rfl, rfl, rfl, Nat.le_refl _, fun _ _ _ => rfl⟩)
  · have hc := fun hg => hsrc.cells (g := g) hg
    subst hu
    refine wp_append_rt (.const (.slice none 0 0)) x ho B (.slice none 0 0) [] M rfl (World.ownsRow_nil _ _ _ _) ⟨g, 0, none⟩ M.length cap rfl hx (hc rfl) (by simp; omega) hB ?_
    intro v' w' h1 h2 _
    exact h v' w' (by simpa using h1) h2
end Go.Proofs.Ytcbmeollffkekaa
