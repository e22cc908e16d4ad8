/-
  What replace of a table does: where the key is there it gets the new value. No condition but that the table's cells lie in memory, and that its stash is in order.
-/
import Derived.Test.YtoihkbanmnagkaaGreatRT1
import Derived.Test.YtoihkbanmnagkaaGreatW11c
import Derived.Test.YtoihkbanmnagkaaGreatAppR
import Derived.Test.YtoihkbanmnagkaaGreatCopy
import Derived.Deep.RegionLaw
import Derived.Lib.SliceRun
import Derived.Laws.CopyRow
import Derived.Test.YtoihkbanmnagkaaGreatW11b
import Derived.Test.YtoihkbanmnagkaaGreatM18b
/-
  What All of the reference's bucket hands back: a new row of routes, by place. No condition but that the bucket's cells lie in memory.
-/
set_option linter.unusedSimpArgs false
set_option linter.unusedVariables false
namespace Go.Proofs.YtoihkbanmnagkaaGreat
open Go.RowKit Go.Sort M

set_option maxHeartbeats 2000000 in
set_option maxRecDepth 100000 in
theorem rall4_any (g o : Nat) (C : List Pl) (w : World) (H : RBk w g o C) :
    Calls Tryz.prog 40 #[.pointer (some ⟨g, o, none⟩)] w fun e w' => NewRts w w' e (allC C) := by
  have HH := Lib.hid H
  have h4 := H.four
  have hg := H.lt
  have HS := Lib.hid (fun i h => allC_snoc C i h)
  have HA := Lib.hid (allC_len C)
  obtain ⟨i0, hi0, iz0, iz1, iz2⟩ := info_parts infoR
  clear H
  go_enter Tryz.func40, Tryz.ntmps40
  go_wp2
  go_loopw [3, 4] (fun s3 i wr => ∃ (j : Nat) (p : Option Addr) (c : Nat) (L : List Rt), j ≤ 4 ∧ i = .int .i64 (j : Int) ∧ s3 = .slice p L.length c ∧ L.length ≤ 4 ∧ Hid (L = allC (C.take j)) ∧ wr.ownsRow w.heap.size 58 4 (.slice p L.length c) L.length (rcs L) ∧ Below w.heap.size w wr) (fun _ i _ => 4 - (intOf i).toNat)
  case atStart => exact ⟨0, none, 0, [], by omega, rfl, rfl, by simp, Lib.hid rfl, World.ownsRow_nil _ _ _ _, by go_grown⟩
  case round =>
    obtain ⟨j, p, c, L, hj, rfl, rfl, hL, hLe, hown, hb⟩ := hrel
    have hz := hb.size
    by_cases hlt : j < 4
    · have H1 := HH.out.below hb
      have hs := HS.out j (by omega)
      rw [← hLe.out] at hs
      have hle := allC_len (C.take (j + 1))
      rw [hs] at hle
      have hle2 : (C.take (j + 1)).length ≤ 4 := by simp; omega
      have HLE : Hid ((L ++ (C[j]'(by omega)).toList).length ≤ 4) := by show _ ≤ 4; omega
      have hon := H1.on j (by omega)
      obtain ⟨r0, r1, r2, r3⟩ := H1.rt j (by omega)
      have hgl := H1.lt
      have i1 : (0 : Int) ≤ (j : Int) := by omega
      have i2 : (j : Int) < 4 := by omega
      clear hle hle2 H1
      have HN := Lib.hid hs
      clear hs hLe
      generalize hx : (C[j]'(by omega)) = x at hon r0 r1 r2 r3 HN HLE
      clear hx
      cases x with
      | none =>
        simp only [Option.isSome_none] at hon
        have HN' : Hid (L = allC (C.take (j + 1))) := by show L = _; rw [HN.out]; simp
        clear HN r0 r1 r2 r3
        go_wp2
        go_roundw
        case rel => exact ⟨j + 1, p, c, L, by omega, by go_num, rfl, hL, HN', own_below hown (by go_grown), hb.trans (by go_grown)⟩
        case measure => simp [intOf]; omega
      | some r =>
        simp only [xh, xl, xn, xv, Option.isSome_some] at hon r0 r1 r2 r3
        have HN' : Hid (L ++ [r] = allC (C.take (j + 1))) := by show L ++ [r] = _; rw [HN.out]; simp
        have HL' : Hid ((L ++ [r]).length ≤ 4) := by show _ ≤ 4; exact HLE.out
        have hLl : L.length ≤ 3 := by have := HL'.out; simp at this; omega
        clear HN HLE
        go_wp2_with (at_builtin; go_loud (refine wpList_append_own _ rfl (.tmp 15) (.tmp 22) 47 rfl w.heap.size 58 i0 _ 4 32 Tryz.underlying47 hi0 iz0 iz1 iz2 rfl (by decide) _ _ _ rfl (hown.alloc _) ⟨wr.heap.size, 0, none⟩ 1 1 (rcell r) rfl rfl (four_new (by simp [go_sem]) (by simp [go_sem]) (by simp [go_sem]) (by simp [go_sem])) (by simp [rcell, Value.oneCell']) (by unfold maxLen; omega) (by omega) (by simp; omega) ?_))
        intro v3 w3 hown3 hg3 _
        have hown4 := own_rsnoc hown3 rfl
        have hw3 : Below w.heap.size w w3 := (hb.alloc hz _).grown hg3 (by simp; omega) (fun j hj => (hown.lt j hj).1)
        obtain ⟨p3, c3, rfl⟩ := own_slice hown4
        clear hown3 hg3 hown hb
        go_wp2
        go_roundw
        case rel => exact ⟨j + 1, p3, c3, L ++ [r], by omega, by go_num, rfl, HL'.out, HN', hown4, hw3⟩
        case measure => simp [intOf]; omega
    · have he : L = allC C := by have := hLe.out; rwa [List.take_of_length_le (by omega)] at this
      have HE := Lib.hid he
      clear he
      go_wp2
      go_ret
      rw [← HE.out]
      exact ⟨p, c, rfl, hown, hb⟩
end Go.Proofs.YtoihkbanmnagkaaGreat
/-
  What slices.Delete of one route makes of a row of the call's own: the row without it. No condition but that the row is short of 2^20.
-/
set_option linter.unusedSimpArgs false
set_option linter.unusedVariables false
namespace Go.Proofs.YtoihkbanmnagkaaGreat
open Go.RowKit Go.Sort M

section
variable {P : Program}
theorem setCells_row {w : World} {g o : Nat} {cur : Array Value} {t : TypeId} {vs : List Value} (hg : w.heap[g]? = some (.cells cur t (0, 0))) (hfit : o + vs.length ≤ cur.size) (h1 : ∀ v ∈ vs, v.oneCell' = true) :
    w.setCells g o vs = w.setRow g (splice cur.toList o vs).toArray := by
  have hst := run_storeCells_at Tryz.prog g o t vs 0 cur w hg (by simpa using hfit) h1
  have hc : ∀ j, j < vs.length → (w.cell? ⟨g, o + 0 + j, none⟩).isSome = true := by
    intro j hj
    rw [cell_of_row w g _ cur t (0, 0) hg, Array.getElem?_eq_getElem (by omega)]
    rfl
  have hf : ∀ j, j < vs.length → w.frozen? ⟨g, o + 0 + j, none⟩ = false := fun j _ => frozen_of_row w g _ cur t hg
  have hst2 := run_storeCells_cells (P := Tryz.prog) g o vs 0 w hc hf h1
  rw [hst2] at hst
  injection hst with _ hst
  simp only [Nat.add_zero] at hst
  rw [hst]
  simp [splice]
theorem step_append_rt {ops : Array Oper} {o : Oper} {a : Act} {w : World} {K : Act → World → Prop} {Q : Exit → Act → World → Prop} {E : Prop}
    (hg : o.guard = none) (s x : Operand) (t : TypeId) (hop : o.op = Op.call { callee := Callee.builtin Builtin.append, args := #[s, x], argTypes := #[t, t] })
    (e : TypeId) (i : TypeInfo) (size : Nat) (h1 : P.underlying t = some (.slice e)) (h2 : P.info? e = some i) (h4 : i.size = size)
    (b off n cap : Nat) (hs : a.eval s = .slice (some ⟨b, off, none⟩) n cap) (nm : Nat) (off2 : Nat) (ho2 : off + n * size = off2)
    (ad : Addr) (m c : Nat) (news : List Value) (hx : a.eval x = .slice (some ad) m c) (hnm : n + m = nm) (hn : news.length = m * size) (hc : ∀ j u, news[j]? = some u → w.cell? (ad.add j) = some u) (h1c : ∀ u ∈ news, u.oneCell' = true)
    (hroom : nm ≤ cap) (cur : Array Value) (ty : TypeId) (hb : w.heap[b]? = some (.cells cur ty (0, 0))) (hfit : off2 + news.length ≤ cur.size)
    (hK : ∀ w', Hid (w'.heap[b]? = some (.cells (splice cur.toList off2 news).toArray ty (0, 0))) → w.grownBy w' (some b) → K (a.put o.dst (.slice (some ⟨b, off, none⟩) nm cap)) w') :
    if Region.wanted o (yielded ops a.tmps) = true then Oper.wp P o a w K Q else E := by
  subst hnm ho2
  refine step_append_room hg s x t hop e i size h1 h2 h4 b off n cap hs ad m c news hx hn hc h1c hroom (fun j hj => ?_) ?_
  · constructor
    · rw [cell_of_row w b _ cur ty (0, 0) hb, Array.getElem?_eq_getElem (by omega)]
      rfl
    · exact frozen_of_row w b _ cur ty hb
  · rw [setCells_row hb hfit h1c]
    exact hK _ (show _ = _ from setRow_heap w b cur _ ty _ hb) (grown_setRow w b _)
theorem run_clear_one (w : World) (t e ty : TypeId) (z : Value) (zs : List Value) (ht : P.underlying t = some (.slice e)) (hv : ∀ w, (zeroValue e).run P w = .ok z w) (hz : (Builtin.zeroCells z.cells 1).toList = zs) (h1 : ∀ v ∈ zs, v.oneCell' = true)
    (g o c : Nat) (cur : Array Value) (tg : TypeId) (hg : w.heap[g]? = some (.cells cur tg (0, 0))) (hfit : o + zs.length ≤ cur.size) :
    (Builtin.clear_ #[t] ty #[.slice (some ⟨g, o, none⟩) 1 c]).run P w = .ok (.tuple #[]) (w.setRow g (splice cur.toList o zs).toArray) := by
  have hst := run_storeCells_at P g o tg zs 0 cur w hg (by simpa using hfit) h1
  simp [Builtin.clear_, run_underlying ht, hv, hz, hst, splice]
end
theorem splice_mid {α : Type} (L : List α) (o : Nat) (cs : List α) (ho : o ≤ L.length) : (splice L o cs).take (o + cs.length) = L.take o ++ cs := by
  unfold splice
  rw [← List.append_assoc]
  exact List.take_left' (by rw [List.length_append, List.length_take, Nat.min_eq_left ho])
def rt4 : List Value := [.int .u64 0, .int .u64 0, .int .i64 0, .int .i64 0]
theorem zero_rt (w : World) : (zeroValue 58).run Tryz.prog w = .ok (.agg #[.int .u64 0, .int .u64 0, .int .i64 0, .int .i64 0]) w := by
  obtain ⟨i0, hi0, iz0, -, -⟩ := info_parts infoR
  simp [zeroValue, typeInfo, hi0, iz0]
theorem zero_rt4 : (Builtin.zeroCells (Value.agg #[.int .u64 0, .int .u64 0, .int .i64 0, .int .i64 0]).cells 1).toList = rt4 := by kernel_rfl
set_option maxRecDepth 100000 in
set_option maxHeartbeats 4000000 in
theorem delete_at (g c m i : Nat) (cur : Array Value) (L : List Rt) (w : World) (hn : L.length = m + 1) (hg : w.heap[g]? = some (.cells cur 58 (0, 0))) (hc : m + 1 ≤ c) (hcm : c ≤ maxLen) (hcs : cur.size = c * 4) (htk : cur.toList.take ((m + 1) * 4) = rcs L)
    (hi : i < m + 1) (hL : m < 1048576) :
    Calls Tryz.prog 97 #[.slice (some ⟨g, 0, none⟩) (m + 1) c, .int .i64 (i : Int), .int .i64 ((i : Int) + 1)] w fun e w' => e = .returned (.slice (some ⟨g, 0, none⟩) m c) ∧ w'.ownsRow 0 58 4 (.slice (some ⟨g, 0, none⟩) m c) m (rcs (L.take i ++ L.drop (i + 1))) ∧ w.grownBy w' (some g) := by
  obtain ⟨i0, hi0, iz0, iz1, iz2⟩ := info_parts infoR
  have hdl : (L.drop (i + 1)).length = m + 1 - (i + 1) := by rw [List.length_drop, hn]
  have hd4 : (rcs (L.drop (i + 1))).length = (m - i) * 4 := by rw [rcs_len, hdl]; omega
  have hX := cells_at hg ((i + 1) * 4) (rcs (L.drop (i + 1))) (by
    rw [hd4, ← rcs_drop, ← htk, List.drop_take]
    congr 1
    omega)
  have hone : ∀ u ∈ rcs (L.drop (i + 1)), u.oneCell' = true := rcs_one' _
  have b0 : ¬ ((i : Int) = (i : Int) + 1) := by omega
  have b1 : (0 : Int) ≤ (i : Int) + 1 := by omega
  have b2 : (i : Int) + 1 ≤ (m : Int) + 1 := by omega
  have b3 : (i : Int) ≤ (i : Int) + 1 := by omega
  have b4 : ((i : Int) + 1).toNat = i + 1 := by omega
  have b5 : (i : Int) ≤ (c : Int) := by omega
  have b6 : (m : Int) + 1 ≤ (c : Int) := by omega
  generalize hX2 : rcs (L.drop (i + 1)) = X2 at *
  by_cases hci : c = i + 1
  · have hx0 : X2 = [] := List.length_eq_zero_iff.1 (by rw [hd4]; omega)
    have hX : ∀ j u, X2[j]? = some u → w.cell? ((⟨g, 0, none⟩ : Addr).add j) = some u := fun j u h => by rw [hx0] at h; simp at h
    obtain rfl : i = m := by omega
    subst hci
    clear hx0
    go_enter Tryz.func97, Tryz.ntmps97
    go_wp2
    go_region_law (refine step_append_rt rfl (.tmp 22) (.tmp 25) 47 rfl 58 i0 4 Tryz.underlying47 hi0 iz1 g 0 i (i + 1) (by simp [Act.eval, Act.put]) (i) (i * 4) (by omega) ⟨g, 0, none⟩ (0) (0) X2 (by simp [Act.eval, Act.put]) (by omega) (by first | exact hd4 | (rw [hd4]; omega)) (fun j u h => hX j u h) hone (by omega) cur 58 hg (by omega) ?_; intro w4 hg4 hb4)
    have hsl : (splice cur.toList (i * 4) X2).length = (i + 1) * 4 := by rw [length_splice _ _ _ (by rw [hd4, Array.length_toList, hcs]; omega), Array.length_toList, hcs]
    obtain ⟨cur4, hcur4⟩ : ∃ x, x = splice cur.toList (i * 4) X2 := ⟨_, rfl⟩
    have hg4 : Hid (w4.heap[g]? = some (.cells cur4.toArray 58 (0, 0))) := by show _ = _; rw [hcur4]; exact hg4.out
    rw [← hcur4] at hsl
    have hgw4 : Hid (w.grownBy w4 (some g)) := (⟨hb4.os, hb4.tape, hb4.output, hb4.size, hb4.block⟩ : w.grownBy w4 (some g))
    have HC4 := Lib.hid hcur4.symm
    have HX2 := Lib.hid hX2
    have HTK := Lib.hid htk
    have HD4 := Lib.hid hd4
    have HG4 := Lib.hid hg4
    have hcl : ∀ ty, (Builtin.clear_ #[47] ty #[.slice (some ⟨g, (i) * 4, none⟩) 1 (1)]).run Tryz.prog w4 = .ok (.tuple #[]) (w4.setRow g (splice cur4.toArray.toList ((i) * 4) rt4).toArray) := fun ty => run_clear_one w4 _ _ ty _ rt4 Tryz.underlying47 zero_rt zero_rt4 (by simp [rt4, Value.oneCell']) g ((i) * 4) _ _ _ hg4.out (by simp [rt4, hsl]; omega)
    clear hcur4 hX hg htk hX2 hone hb4 hd4 hdl
    have hw5 := setRow_heap w4 g cur4.toArray (splice cur4 ((i) * 4) rt4).toArray 58 (0, 0) hg4.out
    have hgw5 := World.grownBy.trans hgw4.out (grown_setRow w4 g (splice cur4 ((i) * 4) rt4).toArray)
    have HW5 := Lib.hid hw5
    have HGW5 := Lib.hid hgw5
    have HSL := Lib.hid hsl
    clear hw5 hgw5 hg4
    go_wp2
    go_ret
    refine ⟨rfl, own_made (Nat.zero_le _) HW5.out (by omega) hcm (by rw [List.size_toArray, length_splice _ _ _ (by simp [rt4, HSL.out]; omega), HSL.out]) ?_, HGW5.out⟩
    have h1 := splice_mid cur.toList (i * 4) X2 (by rw [Array.length_toList, hcs]; omega)
    rw [HD4.out, show i * 4 + ((i) - i) * 4 = (i) * 4 by omega, HC4.out] at h1
    have h2 := splice_take cur4 ((i) * 4) ((i) * 4) rt4 (Nat.le_refl _) (by rw [HSL.out]; omega)
    rw [List.toList_toArray, h2, h1, rcs_append, HX2.out]
    congr 1
    have h3 := congrArg (List.take (i * 4)) HTK.out
    rw [List.take_take, Nat.min_eq_left (by omega), rcs_take] at h3
    exact h3
  · skip
    go_enter Tryz.func97, Tryz.ntmps97
    go_wp2
    go_region_law (refine step_append_rt rfl (.tmp 22) (.tmp 25) 47 rfl 58 i0 4 Tryz.underlying47 hi0 iz1 g 0 i (c) (by simp [Act.eval, Act.put]) (m) (i * 4) (by omega) ⟨g, (i + 1) * 4, none⟩ (m - i) (c - (i + 1)) X2 (by simp [Act.eval, Act.put]) (by omega) (by first | exact hd4 | (rw [hd4]; omega)) (fun j u h => hX j u h) hone (by omega) cur 58 hg (by omega) ?_; intro w4 hg4 hb4)
    have hsl : (splice cur.toList (i * 4) X2).length = (c) * 4 := by rw [length_splice _ _ _ (by rw [hd4, Array.length_toList, hcs]; omega), Array.length_toList, hcs]
    obtain ⟨cur4, hcur4⟩ : ∃ x, x = splice cur.toList (i * 4) X2 := ⟨_, rfl⟩
    have hg4 : Hid (w4.heap[g]? = some (.cells cur4.toArray 58 (0, 0))) := by show _ = _; rw [hcur4]; exact hg4.out
    rw [← hcur4] at hsl
    have hgw4 : Hid (w.grownBy w4 (some g)) := (⟨hb4.os, hb4.tape, hb4.output, hb4.size, hb4.block⟩ : w.grownBy w4 (some g))
    have HC4 := Lib.hid hcur4.symm
    have HX2 := Lib.hid hX2
    have HTK := Lib.hid htk
    have HD4 := Lib.hid hd4
    have HG4 := Lib.hid hg4
    have hcl : ∀ ty, (Builtin.clear_ #[47] ty #[.slice (some ⟨g, (m) * 4, none⟩) 1 (c - m)]).run Tryz.prog w4 = .ok (.tuple #[]) (w4.setRow g (splice cur4.toArray.toList ((m) * 4) rt4).toArray) := fun ty => run_clear_one w4 _ _ ty _ rt4 Tryz.underlying47 zero_rt zero_rt4 (by simp [rt4, Value.oneCell']) g ((m) * 4) _ _ _ hg4.out (by simp [rt4, hsl]; omega)
    clear hcur4 hX hg htk hX2 hone hb4 hd4 hdl
    have hw5 := setRow_heap w4 g cur4.toArray (splice cur4 ((m) * 4) rt4).toArray 58 (0, 0) hg4.out
    have hgw5 := World.grownBy.trans hgw4.out (grown_setRow w4 g (splice cur4 ((m) * 4) rt4).toArray)
    have HW5 := Lib.hid hw5
    have HGW5 := Lib.hid hgw5
    have HSL := Lib.hid hsl
    clear hw5 hgw5 hg4
    go_wp2
    go_ret
    refine ⟨rfl, own_made (Nat.zero_le _) HW5.out (by omega) hcm (by rw [List.size_toArray, length_splice _ _ _ (by simp [rt4, HSL.out]; omega), HSL.out]) ?_, HGW5.out⟩
    have h1 := splice_mid cur.toList (i * 4) X2 (by rw [Array.length_toList, hcs]; omega)
    rw [HD4.out, show i * 4 + ((m) - i) * 4 = (m) * 4 by omega, HC4.out] at h1
    have h2 := splice_take cur4 ((m) * 4) ((m) * 4) rt4 (Nat.le_refl _) (by rw [HSL.out]; omega)
    rw [List.toList_toArray, h2, h1, rcs_append, HX2.out]
    congr 1
    have h3 := congrArg (List.take (i * 4)) HTK.out
    rw [List.take_take, Nat.min_eq_left (by omega), rcs_take] at h3
    exact h3
end Go.Proofs.YtoihkbanmnagkaaGreat
/-
  What unstash of a table does: the key goes out of the stash, if it is there. No condition but that the table's cells lie in memory, and that its stash is in order.
-/
set_option linter.unusedSimpArgs false
set_option linter.unusedVariables false
namespace Go.Proofs.YtoihkbanmnagkaaGreat
open Go.RowKit Go.Sort M

set_option maxRecDepth 100000 in
set_option maxHeartbeats 2000000 in
theorem unstash_any (t g : Nat) (v : Value) (T : Tab) (m : Int) (k : Ky) (w : World) (H : CT w t g v T m) (hs : Sorted T.st) (hf : T.st.length < 1048576) :
    Calls Tryz.prog 72 #[.pointer (some ⟨t, 0, none⟩), kyV k] w fun e w' => e = .returned (.bool (findS T.st k).isSome) ∧ CStep w w' t g v { T with st := outS T.st k } m := by
  cases h : findS T.st k with
  | none =>
    rw [outS_none h]
    have HS := Lib.hid (fun w H => stashed_any t g v T m k w H hs hf)
    rw [stI_none h] at HS
    have HH := Lib.hid H
    have hl := H.tb.tlt
    have hge : (-1 : Int) < 0 := by omega
    clear H hs h
    unfold kyV at *
    go_enter Tryz.func72, Tryz.ntmps72
    go_wp2_with fail
    refine (HS.out _ (HH.out.below (by go_grown))).mono ?_
    rintro e w1 ⟨rfl, hb1⟩
    have hw1 : Below w.heap.size w w1 := Below.trans (by go_grown) (hb1.mono (by go_size))
    have HH1 := Lib.hid (HH.out.below hw1)
    clear hb1
    go_wp2
    go_ret
    exact ⟨rfl, CStep.quiet HH.out hw1⟩
  | some i =>
    obtain ⟨-, hi, hik⟩ := (findS_bh T.st k hs).1 i h
    rw [out_present T.st k i hs h, List.eraseIdx_eq_take_drop_succ]
    have HS := Lib.hid (fun w H => stashed_any t g v T m k w H hs hf)
    rw [stI_some h] at HS
    have HH := Lib.hid H
    have hl := H.tb.tlt

    obtain ⟨gr, c, cur, hv, -, hgr, hg, h1, h2, h3, h4⟩ := own_whole H.tb.own (by omega)
    obtain ⟨q, hq⟩ : ∃ q, T.st.length = q + 1 := ⟨T.st.length - 1, by omega⟩
    have htgr : t ≠ gr := by
      have := H.tb.tv
      rw [hv] at this
      intro e
      exact this (by simp [Value.ownBlock, e])
    have hob : v.ownBlock = some gr := by rw [hv]; rfl
    have hge : ¬ (i : Int) < 0 := by omega
    have hwr : IntKind.i64.wrap ((i : Int) + 1) = (i : Int) + 1 := by rw [IntKind.wrap_i64]; omega
    rw [hq] at h1 h4 hv hi hf
    have HD := Lib.hid (fun w1 hg => delete_at gr c q i cur T.st w1 hq hg h1 h2 h3 h4 hi (by omega))
    have HG := Lib.hid hg
    have HV := Lib.hid hv
    have HOB := Lib.hid hob
    have HLEN := Lib.hid (show (T.st.take i ++ T.st.drop (i + 1)).length = q by rw [List.length_append, List.length_take, List.length_drop]; omega)
    clear H hs h hik hg h1 h2 h3 h4 hv hob hq hf hi
    generalize T.st.take i ++ T.st.drop (i + 1) = L at *
    unfold kyV at *
    go_enter Tryz.func72, Tryz.ntmps72
    go_wp2_with fail
    refine (HS.out _ (HH.out.below (by go_grown))).mono ?_
    rintro e w1 ⟨rfl, hb1⟩
    have hw1 : Below w.heap.size w w1 := Below.trans (by go_grown) (hb1.mono (by go_size))
    have HH1 := Lib.hid (HH.out.below hw1)
    clear hb1
    have c2 := HH1.out.tb.c2
    rw [HV.out] at c2
    have f2 := HH1.out.tb.f 2
    have hl1 := HH1.out.tb.tlt
    go_wp2_with fail
    refine (HD.out w1 ((hw1.block gr hgr).trans HG.out)).mono ?_
    rintro e w2 ⟨rfl, hown, hgb⟩
    have hN := HH1.out.newStash (st' := L) (v' := .slice (some ⟨gr, 0, none⟩) q c) (by rw [HOB.out]; exact hgb) (by rw [HLEN.out]; exact hown) (.inl HOB.out.symm)
    have hbl := hgb.block t hl1 (by intro e; injection e with e; exact htgr e)
    have c2 := (World.cell?_of_block (a := ⟨t, 2, none⟩) hbl).trans c2
    have f2 := (World.frozen?_of_block (a := ⟨t, 2, none⟩) hbl).trans f2
    have hl2 := Nat.lt_of_lt_of_le hl1 hgb.size
    have HF := Lib.hid hN
    clear hN hbl hgb hown
    go_wp2
    go_ret
    exact ⟨rfl, CStep.trans (Touch.quiet hw1) (fun _ h _ => h) ⟨_, _, HF.out⟩⟩
end Go.Proofs.YtoihkbanmnagkaaGreat
/-
  What replace of a table does: where the key is there it gets the new value. No condition but that the table's cells lie in memory, and that its stash is in order.
-/
set_option linter.unusedSimpArgs false
set_option linter.unusedVariables false
namespace Go.Proofs.YtoihkbanmnagkaaGreat
open Go.RowKit Go.Sort M

set_option maxRecDepth 100000 in
set_option maxHeartbeats 2000000 in
theorem replace_any (t g : Nat) (v : Value) (T : Tab) (m : Int) (r : Rt) (w : World) (H : CT w t g v T m) (h : Num T) (hk : r.k.good) (hs : Sorted T.st) (hf : T.st.length < 1048576) :
    Calls Tryz.prog 76 #[.pointer (some ⟨t, 0, none⟩), kyV r.k, .int .i64 r.v] w fun e w' => e = .returned (.bool (rep12 T r).isSome) ∧ CT w' t g v ((rep12 T r).getD T) m ∧ Touch (Blk t g v) w w' := by
  have HT := Lib.hid (fun w H => two_any t g v T m r.k w H h hk)
  have HS := Lib.hid (fun w H => stashed_any t g v T m r.k w H hs hf)
  have HG := Lib.hid (fun x (hx : x < T.B.length) w (H : CT w t g v T m) => get11_any g (x * 20) (T.bk x) r.k w (H.tb.bk x hx))
  have HP := Lib.hid (fun x (hx : x < T.B.length) w (H : CT w t g v T m) => put11_any g (x * 20) (T.bk x) r.k r.v w (H.tb.bk x hx))
  have HH := Lib.hid H
  have hx1 := h.x1_lt r.k
  have hx2 := h.x2_lt r.k
  have hl := H.tb.tlt
  have HR : Hid (rep12 T r = if (getC (T.bk (T.x1 r.k)) r.k).isSome then some (T.set (T.x1 r.k) ((putC (T.bk (T.x1 r.k)) r.k r.v).getD (T.bk (T.x1 r.k)))) else if (getC (T.bk (T.x2 r.k)) r.k).isSome then some (T.set (T.x2 r.k) ((putC (T.bk (T.x2 r.k)) r.k r.v).getD (T.bk (T.x2 r.k)))) else if (findS T.st r.k).isSome then some { T with st := intoS T.st r } else none) := rfl
  generalize hX1 : T.x1 r.k = x1 at *
  generalize hX2 : T.x2 r.k = x2 at *
  clear hX1 hX2 H h
  unfold kyV at *
  go_enter Tryz.func76, Tryz.ntmps76
  go_wp2_with fail
  refine (HT.out _ (HH.out.below (by go_grown))).mono ?_
  rintro e w1 ⟨rfl, hb1⟩
  have hw1 : Below w.heap.size w w1 := Below.trans (by go_grown) (hb1.mono (by go_size))
  have d0 : w1.cell? ⟨w.heap.size, 0, none⟩ = some (.int .u64 (r.k.h : Int)) := by
    rw [hb1.cell (by simp <;> omega)]
    first | assumption | (simp [go_sem]; done) | (simp [go_sem, *]; done)
  have d1 : w1.cell? ⟨w.heap.size, 1, none⟩ = some (.int .u64 (r.k.l : Int)) := by
    rw [hb1.cell (by simp <;> omega)]
    first | assumption | (simp [go_sem]; done) | (simp [go_sem, *]; done)
  have d2 : w1.cell? ⟨w.heap.size, 2, none⟩ = some (.int .i64 r.k.n) := by
    rw [hb1.cell (by simp <;> omega)]
    first | assumption | (simp [go_sem]; done) | (simp [go_sem, *]; done)
  have hz1 : w.heap.size < w1.heap.size := by
    have hs := hb1.size
    try simp only [World.size_alloc, World.size_setCell] at hs
    omega
  clear hb1
  go_wp2
  obtain ⟨L0, hL0⟩ : ∃ x, x = w1.heap.size := ⟨_, rfl⟩
  rw [← hL0]
  have hz1' : w.heap.size < L0 := by omega
  go_loopw [10, 11, 12, 24] (fun s10 s11 s12 i wr => ∃ (j : Nat), j ≤ 2 ∧ i = .int .i64 (j : Int) ∧ (1 ≤ j → (getC (T.bk x1) r.k).isSome = false) ∧ (2 ≤ j → (getC (T.bk x2) r.k).isSome = false) ∧ wr.cell? ⟨w.heap.size, 0, none⟩ = some (.int .u64 (r.k.h : Int)) ∧ wr.cell? ⟨w.heap.size, 1, none⟩ = some (.int .u64 (r.k.l : Int)) ∧ wr.cell? ⟨w.heap.size, 2, none⟩ = some (.int .i64 r.k.n) ∧
    wr.cell? ⟨L0, 0, none⟩ = some (.int .i64 (x1 : Int)) ∧ wr.cell? ⟨L0, 1, none⟩ = some (.int .i64 (x2 : Int)) ∧ L0 < wr.heap.size ∧ Below w.heap.size w wr) (fun _ _ _ i _ => 2 - (intOf i).toNat)
  case atStart =>
    exact ⟨0, by omega, rfl, fun h => absurd h (by omega), fun h => absurd h (by omega), (World.cell?_alloc_lt w1 _ ⟨w.heap.size, 0, none⟩ hz1).trans d0, (World.cell?_alloc_lt w1 _ ⟨w.heap.size, 1, none⟩ hz1).trans d1, (World.cell?_alloc_lt w1 _ ⟨w.heap.size, 2, none⟩ hz1).trans d2, by rw [hL0]; simp [go_sem], by rw [hL0]; simp [go_sem], by rw [hL0]; simp, by go_grown⟩
  case round =>
    clear d0 d1 d2 hz1 hL0 hw1
    obtain ⟨j, hj, rfl, hn1, hn2, d0, d1, d2, e0, e1, hz, hb⟩ := hrel
    have HN1 := Lib.hid hn1
    have HN2 := Lib.hid hn2
    clear hn1 hn2
    by_cases hlt : j < 2
    · obtain ⟨x, hx, he⟩ : ∃ x, x < T.B.length ∧ ((j = 0 ∧ x = x1) ∨ (j = 1 ∧ x = x2)) := by
        rcases (show j = 0 ∨ j = 1 by omega) with e | e
        · exact ⟨x1, hx1, .inl ⟨e, rfl⟩⟩
        · exact ⟨x2, hx2, .inr ⟨e, rfl⟩⟩
      have ej : wr.cell? ⟨L0, j, none⟩ = some (.int .i64 (x : Int)) := by
        rcases he with ⟨rfl, rfl⟩ | ⟨rfl, rfl⟩
        · exact e0
        · exact e1
      have HE := Lib.hid he
      have HH1 := Lib.hid (HH.out.below hb)
      have c1 := HH1.out.tb.c1
      have hlr := HH1.out.tb.tlt
      have i1 : (0 : Int) ≤ (x : Int) := by omega
      have i2 : (x : Int) < (T.B.length : Int) := by omega
      have hz0 := hb.size
      have hzw : w.heap.size < wr.heap.size := by omega
      have HG1 := Lib.hid (HG.out x hx)
      clear he
      cases hgx : (getC (T.bk x) r.k).isSome with
      | true =>
        rw [hgx] at HG1
        have HGX := Lib.hid hgx
        clear hgx
        go_wp2_with fail
        have kg := cell_grow
        refine region_whole (by kernel_rfl) (by kernel_rfl) ?_
        repeat (any_goals (first | go_big_quiet_step ((exact Calls.regrown_of (HG1.out _ (HH1.out.below (below_regrown _ _ _))))) | quiet_step ((exact Calls.regrown_of (HG1.out _ (HH1.out.below (below_regrown _ _ _)))))))
        refine wpQuiet_nil ?_
        clear kg
        intro w2 hb2
        obtain ⟨hc2, hf2⟩ := bcell hb2
        have HH2 := Lib.hid (HH1.out.below hb2)
        have c1 := (hc2 _ _ hlr).trans c1
        have d0 := (hc2 _ _ (by omega)).trans d0
        have d1 := (hc2 _ _ (by omega)).trans d1
        have d2 := (hc2 _ _ (by omega)).trans d2
        have hlr2 := Nat.lt_of_lt_of_le hlr hb2.size
        have hw2 := hb.trans (hb2.mono hb.size)
        have hz2 := hw2.size
        have hz3 : w.heap.size < w2.heap.size := by have := hb2.size; omega
        clear hc2 hf2 hb2 e0 e1 ej HH1 hlr
        go_wp2_with fail
        have kg := cell_grow
        refine region_tail 8 (by kernel_rfl) (by kernel_rfl) ?_
        simp only [List.take_succ_cons, List.take_zero, List.drop_succ_cons, List.drop_zero]
        repeat (any_goals (first | go_big_quiet_step (fail) | quiet_step (fail)))
        refine wpQuiet_nil ?_
        clear kg
        intro w3 hb3
        obtain ⟨hc3, hf3⟩ := bcell hb3
        have HH3 := Lib.hid (HH2.out.below hb3)
        have hw3 := hw2.trans (hb3.mono hw2.size)
        clear hc3 hf3 hb3
        go_wp2_with fail
        refine (HP.out x hx _ HH3.out).mono ?_
        rintro e w4 ⟨rfl, hB4, hT4⟩
        obtain ⟨hC4, ht4⟩ := HH3.out.turn hx hT4 hB4
        have hE : rep12 T r = some (T.set x ((putC (T.bk x) r.k r.v).getD (T.bk x))) := by
          rw [HR.out]
          rcases HE.out with ⟨-, rfl⟩ | ⟨hj1, rfl⟩
          · rw [if_pos HGX.out]
          · rw [if_neg (by rw [HN1.out (by omega)]; decide), if_pos HGX.out]
        rw [put_of_get HGX.out]
        have HF := Lib.hid (And.intro hC4 ((Touch.quiet hw3 (S := Blk t g v)).trans ht4))
        have HEE := Lib.hid hE
        clear hC4 ht4 hB4 hT4 hE
        go_wp2
        go_ret
        rw [HEE.out]
        exact ⟨rfl, HF.out.1, HF.out.2⟩
      | false =>
        rw [hgx] at HG1
        have HGX := Lib.hid hgx
        clear hgx
        go_wp2_with fail
        have kg := cell_grow
        refine region_whole (by kernel_rfl) (by kernel_rfl) ?_
        repeat (any_goals (first | go_big_quiet_step ((exact Calls.regrown_of (HG1.out _ (HH1.out.below (below_regrown _ _ _))))) | quiet_step ((exact Calls.regrown_of (HG1.out _ (HH1.out.below (below_regrown _ _ _)))))))
        refine wpQuiet_nil ?_
        clear kg
        intro w2 hb2
        obtain ⟨hc2, hf2⟩ := bcell hb2
        have d0 := (hc2 _ _ (by omega)).trans d0
        have d1 := (hc2 _ _ (by omega)).trans d1
        have d2 := (hc2 _ _ (by omega)).trans d2
        have e0 := (hc2 _ _ (by omega)).trans e0
        have e1 := (hc2 _ _ (by omega)).trans e1
        have hw2 := hb.trans (hb2.mono hb.size)
        have hz2 := Nat.lt_of_lt_of_le hz hb2.size
        clear hc2 hf2 hb2 HH1 hlr
        go_wp2
        go_roundw
        case rel =>
          refine ⟨j + 1, by omega, by go_num, fun _ => ?_, fun h2 => ?_, d0, d1, d2, e0, e1, hz2, hw2⟩
          · rcases HE.out with ⟨-, rfl⟩ | ⟨hj1, rfl⟩
            · exact HGX.out
            · exact HN1.out (by omega)
          · rcases HE.out with ⟨hj0, -⟩ | ⟨-, rfl⟩
            · omega
            · exact HGX.out
        case measure => simp [intOf]; omega
    · have hj2 : j = 2 := by omega
      have hE : rep12 T r = if (findS T.st r.k).isSome then some { T with st := intoS T.st r } else none := by
        rw [HR.out, if_neg (by rw [HN1.out (by omega)]; decide), if_neg (by rw [HN2.out (by omega)]; decide)]
      have HH1 := Lib.hid (HH.out.below hb)
      have HS1 := Lib.hid (HS.out wr HH1.out)
      cases hfs : findS T.st r.k with
      | none =>
        rw [hfs] at hE
        have HEE := Lib.hid hE
        rw [stI_none hfs] at HS1
        clear hE hfs
        go_wp2_with fail
        refine HS1.out.mono ?_
        rintro e w2 ⟨rfl, hb2⟩
        have hw2 := hb.trans (hb2.mono hb.size)
        clear hb2
        go_wp2
        go_ret
        rw [HEE.out]
        exact ⟨rfl, HH.out.below hw2, Touch.quiet hw2⟩
      | some i =>
        obtain ⟨-, hi, hik⟩ := (findS_bh T.st r.k hs).1 i hfs
        have hip := into_present T.st r i hs hfs
        have hhop := rcs_hop T.st i hi r.v
        rw [hik] at hhop
        rw [hfs] at hE
        have HEE := Lib.hid hE
        rw [stI_some hfs] at HS1
        have HIP := Lib.hid hip
        have HHOP := Lib.hid hhop
        clear hE hfs hip hhop
        go_wp2_with fail
        refine HS1.out.mono ?_
        rintro e w2 ⟨rfl, hb2⟩
        have hw2 := hb.trans (hb2.mono hb.size)
        have HH2 := Lib.hid (HH.out.below hw2)
        have hown := HH2.out.tb.own
        obtain ⟨gs, cap, cur, hv, -, hgl, -⟩ := own_whole hown (by omega)
        subst hv
        have c2 := HH2.out.tb.c2
        have hl2 := HH2.out.tb.tlt
        obtain ⟨gr, o, e, hgr, r0, r1, r2, r3⟩ := (Row.of_own hown).rt hi
        injection e with e
        injection e with e1' e2'
        subst e1' e2'
        rw [Nat.zero_add] at r3
        have hfz := hown.frozenAt (i * 4 + 3)
        have i1 : (0 : Int) ≤ (i : Int) := by omega
        have i2 : (i : Int) < (T.st.length : Int) := by omega
        have HO := Lib.hid hown
        clear hb2 r0 r1 r2 hown
        go_wp2
        go_ret
        have hst := HO.out.stored (i * 4 + 3) (.int .i64 r.v)
        rw [HHOP.out, ← HIP.out] at hst
        have hlen : (intoS T.st r).length = T.st.length := by rw [HIP.out]; simp
        have hC := HH2.out.inStash (st' := intoS T.st r) hst.2 (by rw [hlen]; exact hst.1)
        rw [HEE.out]
        exact ⟨rfl, hC.1, (Touch.quiet hw2 (S := Blk t g _)).trans hC.2⟩
end Go.Proofs.YtoihkbanmnagkaaGreat
