/-
  The calls that the laws of chapter 12 make, as they come in: rows of ways, values and keys. No condition.
-/
import Derived.Test.YtlglppfkpieabaaInto12
import Derived.Laws.AppendOwnNone
import Derived.Test.YtlglppfkpieabaaL12
import Derived.Test.YtlglppfkpieabaaSlice
/-
  The reference's Into, for every row of routes of a call's own. No condition but that it is short of 2^20.
-/
set_option linter.unusedSimpArgs false
set_option linter.unusedVariables false
namespace Go.Proofs.Ytlglppfkpieabaa
open Go.RowKit Go.Sort M

theorem wp_append_none {o : Oper} {a : Act} {w : World} {K : Act → World → Prop} {Q : Exit → Act → World → Prop} (s x : Operand)
    (ho : o.op = .call { callee := .builtin .append, args := #[s, x], argTypes := #[43, 43] }) (hs : a.eval s = .slice none 0 0) (hx : a.eval x = .slice none 0 0) (h : K (a.put o.dst (.slice none 0 0)) w) : o.wp Try.prog a w K Q := by
  obtain ⟨i0, hi0, iz0, iz1, iz2⟩ := info_parts infoR
  have hrun := run_append_owned_none (P := Try.prog) (w := w) 0 43 o.type 48 i0 4 Try.underlying43 hi0 (.slice none 0 0) 0 [] (World.ownsRow_nil _ _ _ _)
  unfold Oper.wp
  simp [execOp, ho, resolve, invoke, builtin, hs, hx, hrun, Result.andThen]
  exact h
set_option maxRecDepth 100000 in
set_option maxHeartbeats 4000000 in
theorem into_nil (r : Rt) (w : World) : Calls Try.prog 26 #[.slice none 0 0, rtA r] w fun e w' => NewRts w w' e [r] := by
  unfold rtA
  go_enter Try.func26, Try.ntmps26
  go_wp2
  go_loopw [5] (fun i wr => i = .int .i64 0 ∧ wr.cell? ⟨w.heap.size, 0, none⟩ = some (.int .u64 (r.k.h : Int)) ∧ wr.cell? ⟨w.heap.size, 1, none⟩ = some (.int .u64 (r.k.l : Int)) ∧ wr.cell? ⟨w.heap.size, 2, none⟩ = some (.int .i64 r.k.n) ∧ wr.cell? ⟨w.heap.size, 3, none⟩ = some (.int .i64 r.v) ∧ w.heap.size < wr.heap.size ∧ Below w.heap.size w wr) (fun i _ => 0 - (intOf i).toNat)
  case atStart => exact ⟨rfl, by simp [go_sem], by simp [go_sem], by simp [go_sem], by simp [go_sem], by simp, by go_grown⟩
  case round =>
    obtain ⟨rfl, d0, d1, d2, d3, hz, hb⟩ := hrel
    have hz0' := hb.size
    go_wp2_with fail
    have kg := cell_grow
    refine region_whole (by kernel_rfl) (by kernel_rfl) ?_
    repeat (any_goals (first | go_big_quiet_step (fail) | quiet_step (fail)))
    refine wpQuiet_nil ?_
    clear kg
    intro w2 hb2
    obtain ⟨hc2, hf2⟩ := bcell hb2
    have hw2 : Below w.heap.size w w2 := by
      refine Below.trans ?_ (hb2.mono ?_)
      · go_grown
      · first | omega | go_size
    have hw2 := hb.trans (hb2.mono hb.size)
    have d0 := (hc2 _ _ hz).trans d0
    have d1 := (hc2 _ _ hz).trans d1
    have d2 := (hc2 _ _ hz).trans d2
    have d3 := (hc2 _ _ hz).trans d3
    have hz2 := Nat.lt_of_lt_of_le hz hb2.size
    have hz0 := hw2.size
    clear hc2 hf2 hb2
    go_wp2_with fail
    have kg := cell_grow
    refine region_whole (by kernel_rfl) (by kernel_rfl) ?_
    repeat (any_goals (first | go_big_quiet_step (fail) | quiet_step (fail)))
    refine wpQuiet_nil ?_
    clear kg
    intro w4 hb4
    obtain ⟨hc4, hf4⟩ := bcell hb4
    have hw4 : Below w.heap.size w w4 := by
      refine Below.trans ?_ (hb4.mono ?_)
      · go_grown
      · first | omega | go_size
    have hw4 := hw2.trans (hb4.mono hw2.size)
    have d0 := (hc4 _ _ hz2).trans d0
    have d1 := (hc4 _ _ hz2).trans d1
    have d2 := (hc4 _ _ hz2).trans d2
    have d3 := (hc4 _ _ hz2).trans d3
    have hz4 := Nat.lt_of_lt_of_le hz2 hb4.size
    clear hc4 hf4 hb4
    go_wp2_with fail
    have kg := cell_grow
    refine wp_region_noPanic ?_
    generalize hNQ : NoPanic _ = NQ
    refine region_pair [0, 1, 2, 7, 8, 9] [4] 3 5 [6, 10, 11] (by kernel_rfl) (by rw [← hNQ]; exact fun _ _ _ h => h) (by kernel_rfl) (by kernel_rfl) ?_
    simp only [pickL, List.filterMap_cons, List.filterMap_nil, List.getElem?_toArray, List.getElem?_cons_succ, List.getElem?_cons_zero]
    repeat (any_goals (quiet_step (fail)))
    refine wpQuiet_nil ?_
    clear kg
    intro w5 hb5
    have hw5 := hw4.trans (hb5.mono hw4.size)
    refine ⟨?_, ?_⟩
    · intro K hK o ho
      injection ho with ho
      subst ho
      refine wp_append_none (.const (.slice none 0 0)) (.tmp 46) rfl rfl rfl ?_
      refine hK _ _ hb5 ?_
      clear hK K
      intro K hK o ho
      injection ho with ho
      subst ho
      go_simp
      refine hK _ _ (hb5.alloc hb5.size _) ?_
      clear hK K
      simp only [pickL, List.filterMap_cons, List.filterMap_nil, List.getElem?_toArray, List.getElem?_cons_succ, List.getElem?_cons_zero]
      have hb7 := hb5.alloc hb5.size (.cells (rcell r).toArray 48)
      have hX := cells_at (heap_alloc_new w5 (.cells (rcell r).toArray 48)) 0 (rcell r) (by simp [rcell])
      change wpList _ _ _ _ _ (w5.alloc (.cells (rcell r).toArray 48))
      generalize World.alloc w5 _ = w7 at *
      have hw7 := hw4.trans (hb7.mono hw4.size)
      have HX7 := Lib.hid hX
      have HW7 := Lib.hid hw7
      have hz7 : w.heap.size + 1 ≤ w7.heap.size := by have := hb7.size; omega
      obtain ⟨i0, hi0, iz0, iz1, iz2⟩ := info_parts infoR
      refine wpList_append_own_at _ rfl (.tmp 47) (.tmp 49) 43 rfl (w.heap.size + 1) 48 i0 _ 4 32 Try.underlying43 hi0 iz0 iz1 iz2 rfl (by decide) (.slice none 0 0) 0 [] rfl (World.ownsRow_nil _ _ _ _) ⟨w5.heap.size, 0, none⟩ 1 1 (rcell r) rfl rfl HX7.out (by simp [rcell, Value.oneCell']) (by decide) (by decide) hz7 ?_
      intro v8 w8 hown8 hg8 _ hat8
      have hw8 : Below w.heap.size w w8 := HW7.out.grown hg8 HW7.out.size (fun k e => by simp [Value.ownBlock] at e)
      refine wpList_append_own_none rfl (.tmp 50) (.tmp 53) 43 rfl (w.heap.size + 1) 48 i0 4 Try.underlying43 hi0 v8 _ _ rfl hown8 rfl ?_
      have hown9 : w8.ownsRow (w.heap.size + 1) 48 4 v8 1 (rcs [r]) := by rw [rcs_one]; exact hown8
      obtain ⟨p9, c9, rfl⟩ := own_slice hown9
      have HO9 := Lib.hid hown9
      have HW9 := Lib.hid hw8
      clear hown8 hown9 hg8 hat8 hw8
      go_wp2_with fail
      rw [← hNQ]
      refine NoPanic.normal ?_
      clear hNQ
      go_wp2
      go_ret
      exact ⟨p9, c9, rfl, own_le HO9.out (by omega), HW9.out⟩
    · intro K hK o ho
      injection ho with ho
      subst ho
      go_simp
      refine hK _ _ (hb5.alloc hb5.size _) ?_
      clear hK K
      intro K hK o ho
      injection ho with ho
      subst ho
      refine wp_append_none (.const (.slice none 0 0)) (.tmp 46) rfl rfl rfl ?_
      refine hK _ _ (hb5.alloc hb5.size _) ?_
      clear hK K
      simp only [pickL, List.filterMap_cons, List.filterMap_nil, List.getElem?_toArray, List.getElem?_cons_succ, List.getElem?_cons_zero]
      have hb7 := hb5.alloc hb5.size (.cells (rcell r).toArray 48)
      have hX := cells_at (heap_alloc_new w5 (.cells (rcell r).toArray 48)) 0 (rcell r) (by simp [rcell])
      change wpList _ _ _ _ _ (w5.alloc (.cells (rcell r).toArray 48))
      generalize World.alloc w5 _ = w7 at *
      have hw7 := hw4.trans (hb7.mono hw4.size)
      have HX7 := Lib.hid hX
      have HW7 := Lib.hid hw7
      have hz7 : w.heap.size + 1 ≤ w7.heap.size := by have := hb7.size; omega
      obtain ⟨i0, hi0, iz0, iz1, iz2⟩ := info_parts infoR
      refine wpList_append_own_at _ rfl (.tmp 47) (.tmp 49) 43 rfl (w.heap.size + 1) 48 i0 _ 4 32 Try.underlying43 hi0 iz0 iz1 iz2 rfl (by decide) (.slice none 0 0) 0 [] rfl (World.ownsRow_nil _ _ _ _) ⟨w5.heap.size, 0, none⟩ 1 1 (rcell r) rfl rfl HX7.out (by simp [rcell, Value.oneCell']) (by decide) (by decide) hz7 ?_
      intro v8 w8 hown8 hg8 _ hat8
      have hw8 : Below w.heap.size w w8 := HW7.out.grown hg8 HW7.out.size (fun k e => by simp [Value.ownBlock] at e)
      refine wpList_append_own_none rfl (.tmp 50) (.tmp 53) 43 rfl (w.heap.size + 1) 48 i0 4 Try.underlying43 hi0 v8 _ _ rfl hown8 rfl ?_
      have hown9 : w8.ownsRow (w.heap.size + 1) 48 4 v8 1 (rcs [r]) := by rw [rcs_one]; exact hown8
      obtain ⟨p9, c9, rfl⟩ := own_slice hown9
      have HO9 := Lib.hid hown9
      have HW9 := Lib.hid hw8
      clear hown8 hown9 hg8 hat8 hw8
      go_wp2_with fail
      rw [← hNQ]
      refine NoPanic.normal ?_
      clear hNQ
      go_wp2
      go_ret
      exact ⟨p9, c9, rfl, own_le HO9.out (by omega), HW9.out⟩
/-- Into, for every row of a call's own. -/
theorem into_any (B : Nat) (p : Option Addr) (c : Nat) (L : List Rt) (r : Rt) (w : World) (hR : w.ownsRow B 48 4 (.slice p L.length c) L.length (rcs L)) (hl : L.length < 1048576) :
    Calls Try.prog 26 #[.slice p L.length c, rtA r] w fun e w' => NewRts w w' e (intoS L r) := by
  obtain ⟨J, h1, h2, h3, h4⟩ := into_split L r
  rcases hR.2 with ⟨e, h0⟩ | ⟨g, cap, cur, e, hB, hg, hn, hm, hs, ht⟩
  · have hL := List.length_eq_zero_iff.1 h0
    subst hL
    rw [e]
    exact into_nil r w
  · injection e with e1 e2 e3
    subst e1 e3
    rcases h4 with ⟨hJ, hk, hi⟩ | ⟨hk, hi⟩
    · rw [hi]
      exact into_in B _ c L r J w hR hl hJ h2 (h3 hJ) hk
    · rw [hi]
      by_cases hJ : J < L.length
      · exact into_mid B g c L r J w hR hl hJ h2 (h3 hJ) (hk hJ)
      · exact into_last B g c L r J w hR hl (Array.getElem?_eq_some_iff.1 hg).1 hn (by omega) h2
end Go.Proofs.Ytlglppfkpieabaa
/-
  Plain mathematics of deletions from a table, and of a table beside the sorted row of what it has. No condition but those that stand in each.
-/
set_option linter.unusedSimpArgs false
set_option linter.unusedVariables false
namespace Go.Proofs.Ytlglppfkpieabaa
open M

theorem keys_out {L : List Rt} {k : Ky} (h : (keysR L).Nodup) : (keysR (outS L k)).Nodup := by
  unfold keysR outS at *
  exact h.sublist (List.filter_sublist.map _)
theorem stash_lt {l : List Rt} {k : Ky} : (outS l k).length < l.length ↔ k ∈ keysR l := by
  constructor
  · intro h
    exact Classical.byContradiction fun hn => by rw [outS_self hn] at h; omega
  · intro h
    unfold keysR at h
    rw [List.mem_map] at h
    obtain ⟨r, hr, e⟩ := h
    unfold outS
    rw [List.length_filter_lt_length_iff_exists]
    exact ⟨r, hr, by simp [e]⟩
theorem del_bucket {T : Tab} (H : Inv T) {b : Nat} (hb : b < T.B.length) {k : Ky} {j : Nat} (hj : j < (T.bk b).length) {q : Rt} (hq : (T.bk b)[j] = some q) (hk : q.k = k) :
    Inv (T.set b ((T.bk b).set j none)) ∧ (contT (T.set b ((T.bk b).set j none))).Perm (outS (contT T) k) ∧ k ∈ keysR (contT T) := by
  have h := cont_less H hb hj hq
  rw [hk] at h
  exact ⟨H.place hb hj (fun r e => by cases e) h.1, h.2, hk ▸ mem_keys (mem_bk hb (hq ▸ List.getElem_mem hj))⟩
/-- What a deletion makes of a table. -/
theorem delT_ok {T : Tab} (H : Inv T) (k : Ky) : Inv (delT T k).1 ∧ (contT (delT T k).1).Perm (outS (contT T) k) ∧ ((delT T k).2 = true ↔ k ∈ keysR (contT T)) := by
  unfold delT
  rcases takeC_cases (T.bk (T.x1 k)) k with ⟨e1, n1⟩ | ⟨j, hj, q, e1, hq, hk⟩
  · rw [e1]
    rcases takeC_cases (T.bk (T.x2 k)) k with ⟨e2, n2⟩ | ⟨j, hj, q, e2, hq, hk⟩
    · rw [e2]
      have hno : k ∉ keysR (T.B.flatMap allC) := by
        intro hm
        unfold keysR at hm
        rw [List.mem_map] at hm
        obtain ⟨r, hr, rfl⟩ := hm
        rw [List.mem_flatMap] at hr
        obtain ⟨C, hC, hr⟩ := hr
        obtain ⟨i, hi, rfl⟩ := List.getElem_of_mem hC
        unfold allC at hr
        rw [List.mem_filterMap] at hr
        obtain ⟨x, hx, e⟩ := hr
        simp only [id] at e
        subst e
        rw [← bk_at T i hi] at hx
        rcases H.home i hi r hx with e | e
        · subst e; exact idx_none n1 r hx rfl
        · subst e; exact idx_none n2 r hx rfl
      have hc : contT { T with st := outS T.st k } = outS (contT T) k := by
        show T.B.flatMap allC ++ outS T.st k = outS (T.B.flatMap allC ++ T.st) k
        have := outS_self hno
        unfold outS at *
        rw [List.filter_append, this]
      refine ⟨⟨H.lo, H.hi, H.four, H.word, fun r hr => ?_, H.home, ?_, outS_sorted k H.sort⟩, by rw [hc], ?_⟩
      · rw [hc] at hr
        exact H.good r (mem_outK.1 hr).1
      · rw [hc]
        exact keys_out H.keys
      · rw [decide_eq_true_iff, stash_lt]
        unfold contT keysR at *
        rw [List.map_append, List.mem_append]
        exact ⟨.inr, fun h => h.resolve_left hno⟩
    · rw [e2]
      have h := del_bucket H (H.x2_lt k) hj hq hk
      exact ⟨h.1, h.2.1, fun _ => h.2.2, fun _ => rfl⟩
  · rw [e1]
    have h := del_bucket H (H.x1_lt k) hj hq hk
    exact ⟨h.1, h.2.1, fun _ => h.2.2, fun _ => rfl⟩
/-- A table and the sorted row of what it has. -/
structure Kept (T : Tab) (N : List Rt) : Prop where
  inv : Inv T
  sort : Sorted N
  all : (contT T).Perm N
theorem Kept.empty {s n : Nat} (hs : W64 s) (h1 : 1 ≤ n) (h2 : n ≤ 65536) : Kept (emptyT s n) [] := ⟨empty_inv hs h1 h2, List.Pairwise.nil, by rw [empty_cont]⟩
theorem Kept.len {T : Tab} {N : List Rt} (H : Kept T N) : (contT T).length = N.length := H.all.length_eq
theorem Kept.put {T : Tab} {N : List Rt} (H : Kept T N) (d : Nat) (r : Rt) (hr : r.k.good) : Kept (putF d T r) (intoS N r) := by
  have h := putF_ok d T r H.inv hr
  exact ⟨h.inv, intoS_sorted r H.sort, (h.all.trans ((outS_perm H.all r.k).cons r)).trans (intoS_perm r H.sort).symm⟩
theorem Kept.del {T : Tab} {N : List Rt} (H : Kept T N) (k : Ky) : Kept (delT T k).1 (outS N k) := by
  have h := delT_ok H.inv k
  exact ⟨h.1, outS_sorted k H.sort, h.2.1.trans (outS_perm H.all k)⟩
theorem Kept.del_tells {T : Tab} {N : List Rt} (H : Kept T N) (k : Ky) : ((delT T k).2 = true ↔ k ∈ keysR N) := by
  rw [(delT_ok H.inv k).2.2]
  exact (keysR_perm H.all).mem_iff
theorem Kept.get {T : Tab} {N : List Rt} (H : Kept T N) {r : Rt} (hr : r ∈ N) : getT T r.k = some r.v := get_mem H.inv (H.all.mem_iff.2 hr)
/-- What is there, sorted, is the row. -/
theorem Kept.sorted {T : Tab} {N M : List Rt} (H : Kept T N) (hM : Sorted M) (hp : M.Perm (contT T)) : M = N := sorted_eq hM H.sort (hp.trans H.all)
theorem find_tells {L : List Rt} {k : Ky} : (findS L k).isSome = true ↔ k ∈ keysR L := by
  constructor
  · exact findS_some
  · intro h
    exact Classical.byContradiction fun hn => (findS_none (by simpa using hn)) h
end Go.Proofs.Ytlglppfkpieabaa
/-
  The calls that the laws of chapter 12 make, as they come in: rows of ways, values and keys. No condition.
-/
set_option linter.unusedSimpArgs false
set_option linter.unusedVariables false
namespace Go.Proofs.Ytlglppfkpieabaa
open Go.ChangeShapes Go.WideShapes Go.ChangeAt Go.RowKit Go.Joins Go.Deep M

/-- A call: its way, and the route. -/
def act12 (a : Int × Rt) : List Value := [.int .i64 a.1, .int .i64 a.2.v, .int .u64 (a.2.k.h : Int), .int .u64 (a.2.k.l : Int), .int .i64 a.2.k.n]
theorem RowA.act12 {w : World} {p : Option Addr} {T : List (Int × Rt)} (h : RowA 5 act12 w p T) {i : Nat} (hi : i < T.length) : ∃ g o, p = some ⟨g, o, none⟩ ∧ g < w.heap.size ∧
    w.cell? ⟨g, o + i * 5, none⟩ = some (.int .i64 T[i].1) ∧ w.cell? ⟨g, o + i * 5 + 1, none⟩ = some (.int .i64 T[i].2.v) ∧ w.cell? ⟨g, o + i * 5 + 2, none⟩ = some (.int .u64 (T[i].2.k.h : Int)) ∧ w.cell? ⟨g, o + i * 5 + 3, none⟩ = some (.int .u64 (T[i].2.k.l : Int)) ∧ w.cell? ⟨g, o + i * 5 + 4, none⟩ = some (.int .i64 T[i].2.k.n) := by
  rcases h with h | ⟨g, o, e, hg, hc⟩
  · rw [h] at hi
    simp at hi
  · exact ⟨g, o, e, hg, hc i hi 0 _ rfl, hc i hi 1 _ rfl, hc i hi 2 _ rfl, hc i hi 3 _ rfl, hc i hi 4 _ rfl⟩
section
variable {H : Type} {enc : TypeId × Value → H} {w : World} {base : Nat} {spare : Nat → Bool} {held : Bool} {r : Reach} {b0 : Nat}
set_option maxRecDepth 100000 in
theorem elem12 (n : Nat) (cs : List Value) (x : DataW H × List MemPlace) (h : DataW.trod enc Try.prog w base spare held n 38 cs = some x) : ∃ a : Int × Rt, cs = act12 a ∧ a.2.k.good := by
  obtain ⟨xs, m, -, -, hl, hxl, hf⟩ := DataW.trod_struct Try.underlying38 h
  rw [show Try.prog.cellsOf 38 = 5 by kernel_rfl] at hl
  have h0 : DataW.trod enc Try.prog w base spare held m 3 ((cs.drop 0).take (Try.prog.cellsOf 3)) = xs[0]? := hf 0 _ rfl
  have h1 : DataW.trod enc Try.prog w base spare held m 3 ((cs.drop 1).take (Try.prog.cellsOf 3)) = xs[1]? := hf 1 _ rfl
  have h2 : DataW.trod enc Try.prog w base spare held m 27 ((cs.drop 2).take (Try.prog.cellsOf 27)) = xs[2]? := hf 2 _ rfl
  rw [show Try.prog.cellsOf 3 = 1 by kernel_rfl] at h0 h1
  rw [cellsP] at h2
  obtain ⟨c0, c1, c2, c3, c4, rfl⟩ : ∃ c0 c1 c2 c3 c4, cs = [c0, c1, c2, c3, c4] := by
    rcases cs with _ | ⟨c0, _ | ⟨c1, _ | ⟨c2, _ | ⟨c3, _ | ⟨c4, _ | ⟨c5, cs⟩⟩⟩⟩⟩⟩ <;> simp at hl
    exact ⟨c0, c1, c2, c3, c4, rfl⟩
  simp only [List.drop_zero, List.take_succ_cons, List.take_zero, List.drop_succ_cons] at h0 h1 h2
  rw [List.getElem?_eq_getElem (by rw [hxl]; decide)] at h0 h1 h2
  obtain ⟨a, e0, -, -⟩ := DataW.trod_int Try.underlying3 h0
  obtain ⟨b, e1, -, -⟩ := DataW.trod_int Try.underlying3 h1
  obtain ⟨hi, lo, k, e2, w1, w2, -⟩ := open_pfx_cells h2
  simp only [List.cons.injEq, and_true] at e0 e1 e2
  obtain ⟨e2, e3, e4⟩ := e2
  exact ⟨(a, ⟨⟨hi, lo, k⟩, b⟩), by rw [e0, e1, e2, e3, e4]; rfl, w1, w2⟩
set_option maxRecDepth 100000 in
theorem open_acts12 {v : Value} {d : DataW H} {p : List MemPlace} (hv : Value.okWide Try.prog w r b0 23 v) (h : DataW.Trod enc Try.prog w base spare held 23 v d p) :
    ∃ (q : Option Addr) (c : Nat) (L : List (Int × Rt)), v = .slice q L.length c ∧ RowA 5 act12 w q L ∧ (∀ a ∈ L, a.2.k.good) ∧ L.length ≤ maxLen :=
  haveI : Inhabited (Int × Rt) := ⟨(0, ⟨⟨0, 0, 0⟩, 0⟩)⟩
  open_elems Try.underlying23 (show Try.prog.cellsOf 38 = 5 by kernel_rfl) (by decide) (fun _ _ => by simp [act12]) elem12 hv h
end
end Go.Proofs.Ytlglppfkpieabaa
