/-
  Plain mathematics of a growth: so many keys laid anew. No condition but those that stand in each.
-/
import Derived.Test.YtlglppfkpieabaaCopy
import Derived.Laws.AppendOwnNone
import Derived.Maps.AppendAt
import Derived.Test.YtlglppfkpieabaaM12f
import Derived.Test.YtlglppfkpieabaaW11c
import Derived.Test.YtlglppfkpieabaaW12c
import Derived.Test.YtlglppfkpieabaaW1b
import Derived.Test.YtlglppfkpieabaaReg2
/-
  append of one row of routes to another one, each of the call's own or a table's. No condition but that both together are short of 2^40.
-/
set_option linter.unusedSimpArgs false
set_option linter.unusedVariables false
namespace Go.Proofs.Ytlglppfkpieabaa
open Go Go.RowKit Go.Sort M

theorem wpList_append_rts {ops : Array Oper} {rest : List Oper} {o : Oper} {a : Act} {w : World} {Q : Exit → Act → World → Prop} (hgd : o.guard = none) (s x : Operand)
    (ho : o.op = .call { callee := .builtin .append, args := #[s, x], argTypes := #[43, 43] }) (B B2 : Nat) (v u : Value) (L M N : List Rt) (hN : N = L ++ M) (hs : a.eval s = v) (hx : a.eval x = u)
    (hown : w.ownsRow B 48 4 v L.length (rcs L)) (hsrc : w.ownsRow B2 48 4 u M.length (rcs M)) (hlen : L.length + M.length ≤ 1099511627776) (hB : B ≤ w.heap.size)
    (h : ∀ v' w', w'.ownsRow B 48 4 v' N.length (rcs N) → w.grownBy w' v.ownBlock → (v'.ownBlock = v.ownBlock ∨ v'.ownBlock = some w.heap.size) → wpList Try.prog ops Q rest (a.put o.dst v') w') : wpList Try.prog ops Q (o :: rest) a w := by
  subst hN
  obtain ⟨i0, hi0, iz0, iz1, iz2⟩ := info_parts infoR
  rcases hsrc.2 with ⟨hu, h0⟩ | ⟨g, cap, cur, hu, -, -, -, -, -, -⟩
  · subst hu
    refine wpList_append_own_none hgd s x 43 ho B 48 i0 4 Try.underlying43 hi0 v _ _ hs hown hx ?_
    have hM := List.length_eq_zero_iff.1 h0
    subst hM
    refine h v w ?_ ⟨rfl, rfl, rfl, Nat.le_refl _, fun _ _ _ => rfl⟩ (.inl rfl)
    rwa [List.append_nil]
  · have hc := fun hg => hsrc.cells (g := g) hg
    subst hu
    refine wpList_append_own_at w hgd s x 43 ho B 48 i0 _ 4 32 Try.underlying43 hi0 iz0 iz1 iz2 rfl (by decide) v _ _ hs hown ⟨g, 0, none⟩ M.length cap (rcs M) hx (rcs_len M) (hc rfl) (rcs_one' M) (by unfold maxLen; omega) (by omega) hB ?_
    intro v' w' h1 h2 _ h4
    refine h v' w' ?_ h2 h4
    rw [rcs_append, List.length_append]
    exact h1
end Go.Proofs.Ytlglppfkpieabaa
/-
  What list of a table hands back: all that it has, bucket by bucket, then the stash. No condition but that the table's cells lie in memory, and that its stash is short of 2^20.
-/
set_option linter.unusedSimpArgs false
set_option linter.unusedVariables false
namespace Go.Proofs.Ytlglppfkpieabaa
open Go.RowKit Go.Sort M

theorem flat_snoc (T : Tab) (j : Nat) (h : j < T.B.length) : (T.B.take (j + 1)).flatMap allC = (T.B.take j).flatMap allC ++ allC (T.bk j) := by
  rw [List.take_succ_eq_append_getElem h, List.flatMap_append, bk_at T j h]
  simp
theorem flat_le (T : Tab) (h4 : ∀ i, i < T.B.length → (T.bk i).length = 4) : ∀ j, j ≤ T.B.length → ((T.B.take j).flatMap allC).length ≤ j * 4
  | 0, _ => by simp
  | j + 1, h => by
    have ih := flat_le T h4 j (by omega)
    have := allC_len (T.bk j)
    rw [h4 j (by omega)] at this
    rw [flat_snoc T j (by omega), List.length_append]
    omega
set_option maxRecDepth 100000 in
set_option maxHeartbeats 4000000 in
theorem list_any (t g : Nat) (v : Value) (T : Tab) (m : Int) (w : World) (H : CT w t g v T m) (h : Num T) (hf : T.st.length < 1048576) :
    Calls Try.prog 45 #[.pointer (some ⟨t, 0, none⟩)] w fun e w' => NewRts w w' e (contT T) := by
  have hl := H.tb.tlt
  have c1 := H.tb.c1
  have h4 : ∀ i, i < T.B.length → (T.bk i).length = 4 := fun i hi => (H.tb.bk i hi).four
  have hFL := Lib.hid (flat_le T h4)
  have hhi := h.hi
  have HA := Lib.hid (fun x (hx : x < T.B.length) w (H : CT w t g v T m) => all11_any g (x * 20) (T.bk x) w (H.tb.bk x hx))
  have HH := Lib.hid H
  clear H h h4
  go_enter Try.func45, Try.ntmps45
  go_wp2
  go_loopw [3, 4, 10] (fun s3 s4 i wr => ∃ (j : Nat) (L : List Rt), j ≤ T.B.length ∧ i = .int .i64 (j : Int) ∧ Hid (L = (T.B.take j).flatMap allC) ∧ L.length ≤ 262144 ∧ Hid (wr.ownsRow w.heap.size 48 4 s3 L.length (rcs L)) ∧ Below w.heap.size w wr) (fun _ _ i _ => T.B.length - (intOf i).toNat)
  case atStart => exact ⟨0, [], by omega, rfl, rfl, by simp, World.ownsRow_nil _ _ _ _, by go_grown⟩
  case round =>
    obtain ⟨j, L, hj, rfl, hL, hLl, hown, hb⟩ := hrel
    by_cases hlt : j < T.B.length
    · have HH1 := Lib.hid (HH.out.below hb)
      have c1 := HH1.out.tb.c1
      have hl1 := HH1.out.tb.tlt
      have i1 : (0 : Int) ≤ (j : Int) := by omega
      have i2 : (j : Int) < (T.B.length : Int) := by omega
      have hz := hb.size
      have hfl := hFL.out (j + 1) (by omega)
      have hsn := flat_snoc T j hlt
      rw [hsn, List.length_append, ← hL.out] at hfl
      have HSN := Lib.hid hsn
      have HAL := Lib.hid hfl
      have HA1 := Lib.hid (HA.out j hlt wr HH1.out)
      clear hsn hfl
      go_wp2_with fail
      refine HA1.out.mono ?_
      rintro e w2 ⟨p, c, rfl, hown2, hb2⟩
      have hownL := Lib.hid (own_below hown.out hb2)
      have hown2 := Lib.hid hown2
      have hw2 := hb.trans (hb2.mono hb.size)
      have hz2 := hw2.size
      have hAl := HAL.out
      obtain ⟨N, hN⟩ : ∃ N, N = L ++ allC (T.bk j) := ⟨_, rfl⟩
      have hl3 : N.length ≤ 262144 := by rw [hN, List.length_append]; omega
      have HN := Lib.hid hN
      clear hb2 hown HA1 hN
      go_wp2_with (at_builtin; go_loud (refine wpList_append_rts rfl (.tmp 13) (.tmp 20) rfl w.heap.size wr.heap.size _ _ L (allC (T.bk j)) N HN.out rfl rfl hownL.out hown2.out (by omega) (by omega) ?_))
      intro v3 w3 hown3 hg3 hat
      have hw3 : Below w.heap.size w w3 := hw2.grown hg3 hz2 (fun k hk => (hownL.out.lt k hk).1)
      have hO3 := Lib.hid hown3
      clear hown3 hg3 hat
      go_wp2
      go_roundw
      case rel => exact ⟨j + 1, N, by omega, by go_num, by show _ = _; rw [HSN.out, HN.out, hL.out], hl3, hO3, hw3⟩
      case measure => simp [intOf]; omega
    · have hjn : j = T.B.length := by omega
      have HH1 := Lib.hid (HH.out.below hb)
      have c2 := HH1.out.tb.c2
      have hl1 := HH1.out.tb.tlt
      have hz := hb.size
      have hE : contT T = L ++ T.st := by
        unfold contT
        rw [hL.out, hjn, List.take_length]
      have HE := Lib.hid hE
      clear hE
      go_wp2_with (at_builtin; go_loud (refine wpList_append_rts rfl (.tmp 23) (.tmp 27) rfl w.heap.size 0 _ _ L T.st (contT T) HE.out rfl rfl hown.out HH1.out.tb.own (by omega) (by omega) ?_))
      intro v3 w3 hown3 hg3 hat
      have hw3 : Below w.heap.size w w3 := hb.grown hg3 hz (fun k hk => (hown.out.lt k hk).1)
      obtain ⟨p3, c3, rfl⟩ := own_slice hown3
      have hO3 := Lib.hid hown3
      clear hown3 hg3 hat
      go_wp2
      go_ret
      exact ⟨p3, c3, rfl, hO3.out, hw3⟩
end Go.Proofs.Ytlglppfkpieabaa
/-
  New buckets in memory, as 'make' lays them; a new table; what New hands back. No condition but those that stand in each.
-/
set_option linter.unusedSimpArgs false
set_option linter.unusedVariables false
namespace Go.Proofs.Ytlglppfkpieabaa
open Go.RowKit Go.Sort M

def zB : Value := .agg #[.int .u64 0, .int .u64 0, .int .i64 0, .int .i64 0, .bool false, .int .u64 0, .int .u64 0, .int .i64 0, .int .i64 0, .bool false, .int .u64 0, .int .u64 0, .int .i64 0, .int .i64 0, .bool false, .int .u64 0, .int .u64 0, .int .i64 0, .int .i64 0, .bool false]
def zR : Value := .agg #[.int .u64 0, .int .u64 0, .int .i64 0, .int .i64 0, .int .u64 0, .int .u64 0, .int .i64 0, .int .i64 0, .int .u64 0, .int .u64 0, .int .i64 0, .int .i64 0, .int .u64 0, .int .u64 0, .int .i64 0, .int .i64 0, .bool false, .bool false, .bool false, .bool false]
theorem infoB : (Try.prog.info? 73).map (fun i => (i.zero, i.size, i.bytes)) = some (some zB, 20, 160) := by kernel_rfl
theorem infoRB : (Try.prog.info? 78).map (fun i => (i.zero, i.size, i.bytes)) = some (some zR, 20, 136) := by kernel_rfl
theorem made_cell {w : World} {g n i x : Nat} {z : Array Value} {t : TypeId} (hz : z.size = 20) (hg : w.heap[g]? = some (.cells (madeCells z (n * 20)) t (0, 0))) (hi : i < n) (hx : x < 20) : w.cell? ⟨g, i * 20 + x, none⟩ = some z[x]! := by
  rw [cell_of_row w g _ _ t (0, 0) hg]
  unfold madeCells
  rw [Array.getElem?_map, Array.getElem?_range, if_pos (by omega)]
  simp only [Option.map_some, hz]
  rw [show (i * 20 + x) % 20 = x by omega]
theorem made_free {w : World} {g n : Nat} {z : Array Value} {t : TypeId} (hg : w.heap[g]? = some (.cells (madeCells z (n * 20)) t (0, 0))) (j : Nat) : w.frozen? ⟨g, j, none⟩ = false := frozen_of_row w g j _ t hg
theorem made_bkt {w : World} {g n i : Nat} {t : TypeId} (hg : w.heap[g]? = some (.cells (madeCells zB.cells (n * 20)) t (0, 0))) (hi : i < n) : Bkt w g (i * 20) [none, none, none, none] := by
  refine ⟨rfl, (Array.getElem?_eq_some_iff.1 hg).1, fun k hk j u hu => ?_, fun j _ => made_free hg _⟩
  have hj : j < 5 := (List.getElem?_eq_some_iff.1 hu).1
  simp only [List.length_cons, List.length_nil] at hk
  rw [Nat.add_assoc, made_cell (by rfl) hg hi (by omega)]
  rcases (show k = 0 ∨ k = 1 ∨ k = 2 ∨ k = 3 by omega) with rfl | rfl | rfl | rfl <;> rcases (show j = 0 ∨ j = 1 ∨ j = 2 ∨ j = 3 ∨ j = 4 by omega) with rfl | rfl | rfl | rfl | rfl <;> (simp only [x5, List.getElem_cons_zero, List.getElem_cons_succ, List.getElem?_cons_zero, List.getElem?_cons_succ, Option.some.injEq] at hu; subst hu; rfl)
theorem made_rbk {w : World} {g n i : Nat} {t : TypeId} (hg : w.heap[g]? = some (.cells (madeCells zR.cells (n * 20)) t (0, 0))) (hi : i < n) : RBk w g (i * 20) [none, none, none, none] := by
  refine ⟨rfl, (Array.getElem?_eq_some_iff.1 hg).1, fun k hk => ?_, fun k hk => ?_, fun j _ => made_free hg _⟩
  · simp only [List.length_cons, List.length_nil] at hk
    simp only [Nat.add_assoc]
    rw [made_cell (by rfl) hg hi (by omega), made_cell (by rfl) hg hi (by omega), made_cell (by rfl) hg hi (by omega), made_cell (by rfl) hg hi (by omega)]
    rcases (show k = 0 ∨ k = 1 ∨ k = 2 ∨ k = 3 by omega) with rfl | rfl | rfl | rfl <;> exact ⟨rfl, rfl, rfl, rfl⟩
  · simp only [List.length_cons, List.length_nil] at hk
    rw [Nat.add_assoc, made_cell (by rfl) hg hi (by omega)]
    rcases (show k = 0 ∨ k = 1 ∨ k = 2 ∨ k = 3 by omega) with rfl | rfl | rfl | rfl <;> rfl
theorem empty_len (s n : Nat) : (emptyT s n).B.length = n := by simp [emptyT]
theorem Tb.fresh {K : World → Nat → Nat → List Pl → Prop} {w : World} {t g s n : Nat} (hK : ∀ i, i < n → K w g (i * 20) [none, none, none, none]) (hg : g < w.heap.size) (ht : t < w.heap.size) (c0 : w.cell? ⟨t, 0, none⟩ = some (.int .u64 (s : Int))) (c1 : w.cell? ⟨t, 1, none⟩ = some (.slice (some ⟨g, 0, none⟩) n n))
    (c2 : w.cell? ⟨t, 2, none⟩ = some (.slice none 0 0)) (f : ∀ j, w.frozen? ⟨t, j, none⟩ = false) (tg : t ≠ g) : Tb K w t g (.slice none 0 0) (emptyT s n) :=
  ⟨fun i hi => by rw [empty_len] at hi; rw [empty_bk s n i hi]; exact hK i hi, hg, ht, c0, by rw [empty_len]; exact c1, c2, f, World.ownsRow_nil _ _ _ _, tg, by simp [Value.ownBlock], by simp [Value.ownBlock]⟩
set_option maxRecDepth 100000 in
set_option maxHeartbeats 1000000 in
theorem new_bad (s : Nat) (n : Int) (w : World) (h : n < 1 ∨ 65536 < n) :
    Calls Try.prog 8 #[.int .u64 (s : Int), .int .i64 n] w fun e w' => e = .returned (.tuple #[.pointer none, .int .i64 1]) ∧ Below w.heap.size w w' := by
  rcases h with h | h
  · go_enter Try.func8, Try.ntmps8
    go_wp2
    go_ret2
    exact ⟨rfl, by go_grown⟩
  · have h2 : ¬ n < 1 := by omega
    go_enter Try.func8, Try.ntmps8
    go_wp2
    go_ret2
    exact ⟨rfl, by go_grown⟩
set_option maxRecDepth 100000 in
set_option maxHeartbeats 1000000 in
theorem new_any (s n : Nat) (w : World) (h1 : 1 ≤ n) (h2 : n ≤ 65536) :
    Calls Try.prog 8 #[.int .u64 (s : Int), .int .i64 (n : Int)] w fun e w' => ∃ t, e = .returned (.tuple #[.pointer (some ⟨t, 0, none⟩), .int .i64 0]) ∧ ∃ g, CT w' t g (.slice none 0 0) (emptyT s n) 0 ∧ Below w.heap.size w w' ∧ w.heap.size ≤ t ∧ w.heap.size ≤ g := by
  have PLA := fun w => make_row Try.underlying61 infoB n (by omega) (by unfold maxLen; omega) w
  have h3 : ¬ ((n : Int) < 1) := by omega
  have h4 : ¬ ((65536 : Int) < n) := by omega
  generalize hM : madeCells zB.cells (n * 20) = M at PLA
  go_enter Try.func8, Try.ntmps8
  go_wp2
  go_ret2
  refine ⟨w.heap.size + 1, rfl, w.heap.size, ⟨Tb.fresh (fun i hi => made_bkt (t := 73) (n := n) ?_ hi) (by simp; omega) (by simp) (by simp [go_sem]) (by simp [go_sem]) (by simp [go_sem]) (fun j => by simp [go_sem]) (by omega), by simp [go_sem]⟩, by go_grown, by omega, Nat.le_refl _⟩
  rw [hM]
  rw [heap_alloc_old _ _ (by simp)]
  exact heap_alloc_new w _
end Go.Proofs.Ytlglppfkpieabaa
/-
  Plain mathematics of a growth: so many keys laid anew. No condition but those that stand in each.
-/
set_option linter.unusedSimpArgs false
set_option linter.unusedVariables false
namespace Go.Proofs.Ytlglppfkpieabaa
open M

/-- The first keys of a table, laid into the grown one. -/
theorem fold_pre {T : Tab} (H : Inv T) {f : Tab → Rt → Tab} (hf : ∀ T r, Inv T → r.k.good → GrowOk T r (f T r)) (j : Nat) (hj : j ≤ (contT T).length) :
    Inv (((contT T).take j).foldl f (grown T)) ∧ (contT (((contT T).take j).foldl f (grown T))).length = j ∧ (grown T).B.length ≤ (((contT T).take j).foldl f (grown T)).B.length := by
  have hG := grown_inv H
  have he : contT (grown T) = [] := empty_cont _ _
  have h := fold_ok hf ((contT T).take j) (grown T) hG.1 (fun r hr => H.good r (List.mem_of_mem_take hr)) (by
    rw [he, List.append_nil]
    have := H.keys
    unfold keysR at *
    rw [List.map_take]
    exact this.sublist (List.take_sublist _ _))
  refine ⟨h.1, ?_, h.2.2⟩
  have hl := h.2.1.length_eq
  rw [he, List.append_nil, List.length_take] at hl
  omega
theorem fold_snoc {α β : Type} (f : β → α → β) (L : List α) (x : β) (j : Nat) (h : j < L.length) : (L.take (j + 1)).foldl f x = f ((L.take j).foldl f x) L[j] := by
  rw [List.take_succ_eq_append_getElem h, List.foldl_append]
  rfl
end Go.Proofs.Ytlglppfkpieabaa
