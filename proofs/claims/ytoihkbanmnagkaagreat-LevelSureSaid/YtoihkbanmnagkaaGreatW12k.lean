/-
  What unstash of a table does: the key goes out of the stash, if it is there. No condition but that the table's cells lie in memory, and that its stash is in order.
-/
import Derived.Test.YtoihkbanmnagkaaGreatW12a
import Derived.Deep.RegionLaw
import Derived.Lib.SliceRun
import Derived.Laws.CopyRow
import Derived.Test.YtoihkbanmnagkaaGreatW12b
/-
  What slices.Delete of one route makes of a row of the call's own: the row without it. No condition but that the row is short of 2^20.
-/
set_option linter.unusedSimpArgs false
set_option linter.unusedVariables false
namespace Go.Proofs.YtoihkbanmnagkaaGreat
open Go.RowKit Go.Sort M

section
variable {P : Program}
theorem setCells_row {w : World} {g o : Nat} {cur : Array Value} {t : TypeId} {vs : List Value} (hg : w.heap[g]? = some (.cells cur t (0, 0))) (hfit : o + vs.length ≤ cur.size) (h1 : ∀ v ∈ vs, v.oneCell' = true) :
    w.setCells g o vs = w.setRow g (splice cur.toList o vs).toArray := by
  have hst := run_storeCells_at Tryz.prog g o t vs 0 cur w hg (by simpa using hfit) h1
  have hc : ∀ j, j < vs.length → (w.cell? ⟨g, o + 0 + j, none⟩).isSome = true := by
    intro j hj
    rw [cell_of_row w g _ cur t (0, 0) hg, Array.getElem?_eq_getElem (by omega)]
    rfl
  have hf : ∀ j, j < vs.length → w.frozen? ⟨g, o + 0 + j, none⟩ = false := fun j _ => frozen_of_row w g _ cur t hg
  have hst2 := run_storeCells_cells (P := Tryz.prog) g o vs 0 w hc hf h1
  rw [hst2] at hst
  injection hst with _ hst
  simp only [Nat.add_zero] at hst
  rw [hst]
  simp [splice]
theorem step_append_rt {ops : Array Oper} {o : Oper} {a : Act} {w : World} {K : Act → World → Prop} {Q : Exit → Act → World → Prop} {E : Prop}
    (hg : o.guard = none) (s x : Operand) (t : TypeId) (hop : o.op = Op.call { callee := Callee.builtin Builtin.append, args := #[s, x], argTypes := #[t, t] })
    (e : TypeId) (i : TypeInfo) (size : Nat) (h1 : P.underlying t = some (.slice e)) (h2 : P.info? e = some i) (h4 : i.size = size)
    (b off n cap : Nat) (hs : a.eval s = .slice (some ⟨b, off, none⟩) n cap) (nm : Nat) (off2 : Nat) (ho2 : off + n * size = off2)
    (ad : Addr) (m c : Nat) (news : List Value) (hx : a.eval x = .slice (some ad) m c) (hnm : n + m = nm) (hn : news.length = m * size) (hc : ∀ j u, news[j]? = some u → w.cell? (ad.add j) = some u) (h1c : ∀ u ∈ news, u.oneCell' = true)
    (hroom : nm ≤ cap) (cur : Array Value) (ty : TypeId) (hb : w.heap[b]? = some (.cells cur ty (0, 0))) (hfit : off2 + news.length ≤ cur.size)
    (hK : ∀ w', Hid (w'.heap[b]? = some (.cells (splice cur.toList off2 news).toArray ty (0, 0))) → w.grownBy w' (some b) → K (a.put o.dst (.slice (some ⟨b, off, none⟩) nm cap)) w') :
    if Region.wanted o (yielded ops a.tmps) = true then Oper.wp P o a w K Q else E := by
  subst hnm ho2
  refine step_append_room hg s x t hop e i size h1 h2 h4 b off n cap hs ad m c news hx hn hc h1c hroom (fun j hj => ?_) ?_
  · constructor
    · rw [cell_of_row w b _ cur ty (0, 0) hb, Array.getElem?_eq_getElem (by omega)]
      rfl
    · exact frozen_of_row w b _ cur ty hb
  · rw [setCells_row hb hfit h1c]
    exact hK _ (show _ = _ from setRow_heap w b cur _ ty _ hb) (grown_setRow w b _)
theorem run_clear_one (w : World) (t e ty : TypeId) (z : Value) (zs : List Value) (ht : P.underlying t = some (.slice e)) (hv : ∀ w, (zeroValue e).run P w = .ok z w) (hz : (Builtin.zeroCells z.cells 1).toList = zs) (h1 : ∀ v ∈ zs, v.oneCell' = true)
    (g o c : Nat) (cur : Array Value) (tg : TypeId) (hg : w.heap[g]? = some (.cells cur tg (0, 0))) (hfit : o + zs.length ≤ cur.size) :
    (Builtin.clear_ #[t] ty #[.slice (some ⟨g, o, none⟩) 1 c]).run P w = .ok (.tuple #[]) (w.setRow g (splice cur.toList o zs).toArray) := by
  have hst := run_storeCells_at P g o tg zs 0 cur w hg (by simpa using hfit) h1
  simp [Builtin.clear_, run_underlying ht, hv, hz, hst, splice]
end
theorem splice_mid {α : Type} (L : List α) (o : Nat) (cs : List α) (ho : o ≤ L.length) : (splice L o cs).take (o + cs.length) = L.take o ++ cs := by
  unfold splice
  rw [← List.append_assoc]
  exact List.take_left' (by rw [List.length_append, List.length_take, Nat.min_eq_left ho])
def rt4 : List Value := [.int .u64 0, .int .u64 0, .int .i64 0, .int .i64 0]
theorem zero_rt (w : World) : (zeroValue 58).run Tryz.prog w = .ok (.agg #[.int .u64 0, .int .u64 0, .int .i64 0, .int .i64 0]) w := by
  obtain ⟨i0, hi0, iz0, -, -⟩ := info_parts infoR
  simp [zeroValue, typeInfo, hi0, iz0]
theorem zero_rt4 : (Builtin.zeroCells (Value.agg #[.int .u64 0, .int .u64 0, .int .i64 0, .int .i64 0]).cells 1).toList = rt4 := by kernel_rfl
set_option maxRecDepth 100000 in
set_option maxHeartbeats 4000000 in
theorem delete_at (g c m i : Nat) (cur : Array Value) (L : List Rt) (w : World) (hn : L.length = m + 1) (hg : w.heap[g]? = some (.cells cur 58 (0, 0))) (hc : m + 1 ≤ c) (hcm : c ≤ maxLen) (hcs : cur.size = c * 4) (htk : cur.toList.take ((m + 1) * 4) = rcs L)
    (hi : i < m + 1) (hL : m < 1048576) :
    Calls Tryz.prog 97 #[.slice (some ⟨g, 0, none⟩) (m + 1) c, .int .i64 (i : Int), .int .i64 ((i : Int) + 1)] w fun e w' => e = .returned (.slice (some ⟨g, 0, none⟩) m c) ∧ w'.ownsRow 0 58 4 (.slice (some ⟨g, 0, none⟩) m c) m (rcs (L.take i ++ L.drop (i + 1))) ∧ w.grownBy w' (some g) := by
  obtain ⟨i0, hi0, iz0, iz1, iz2⟩ := info_parts infoR
  have hdl : (L.drop (i + 1)).length = m + 1 - (i + 1) := by rw [List.length_drop, hn]
  have hd4 : (rcs (L.drop (i + 1))).length = (m - i) * 4 := by rw [rcs_len, hdl]; omega
  have hX := cells_at hg ((i + 1) * 4) (rcs (L.drop (i + 1))) (by
    rw [hd4, ← rcs_drop, ← htk, List.drop_take]
    congr 1
    omega)
  have hone : ∀ u ∈ rcs (L.drop (i + 1)), u.oneCell' = true := rcs_one' _
  have b0 : ¬ ((i : Int) = (i : Int) + 1) := by omega
  have b1 : (0 : Int) ≤ (i : Int) + 1 := by omega
  have b2 : (i : Int) + 1 ≤ (m : Int) + 1 := by omega
  have b3 : (i : Int) ≤ (i : Int) + 1 := by omega
  have b4 : ((i : Int) + 1).toNat = i + 1 := by omega
  have b5 : (i : Int) ≤ (c : Int) := by omega
  have b6 : (m : Int) + 1 ≤ (c : Int) := by omega
  generalize hX2 : rcs (L.drop (i + 1)) = X2 at *
  by_cases hci : c = i + 1
  · have hx0 : X2 = [] := List.length_eq_zero_iff.1 (by rw [hd4]; omega)
    have hX : ∀ j u, X2[j]? = some u → w.cell? ((⟨g, 0, none⟩ : Addr).add j) = some u := fun j u h => by rw [hx0] at h; simp at h
    obtain rfl : i = m := by omega
    subst hci
    clear hx0
    go_enter Tryz.func97, Tryz.ntmps97
    go_wp2
    go_region_law (refine step_append_rt rfl (.tmp 22) (.tmp 25) 47 rfl 58 i0 4 Tryz.underlying47 hi0 iz1 g 0 i (i + 1) (by simp [Act.eval, Act.put]) (i) (i * 4) (by omega) ⟨g, 0, none⟩ (0) (0) X2 (by simp [Act.eval, Act.put]) (by omega) (by first | exact hd4 | (rw [hd4]; omega)) (fun j u h => hX j u h) hone (by omega) cur 58 hg (by omega) ?_; intro w4 hg4 hb4)
    have hsl : (splice cur.toList (i * 4) X2).length = (i + 1) * 4 := by rw [length_splice _ _ _ (by rw [hd4, Array.length_toList, hcs]; omega), Array.length_toList, hcs]
    obtain ⟨cur4, hcur4⟩ : ∃ x, x = splice cur.toList (i * 4) X2 := ⟨_, rfl⟩
    have hg4 : Hid (w4.heap[g]? = some (.cells cur4.toArray 58 (0, 0))) := by show _ = _; rw [hcur4]; exact hg4.out
    rw [← hcur4] at hsl
    have hgw4 : Hid (w.grownBy w4 (some g)) := (⟨hb4.os, hb4.tape, hb4.output, hb4.size, hb4.block⟩ : w.grownBy w4 (some g))
    have HC4 := Lib.hid hcur4.symm
    have HX2 := Lib.hid hX2
    have HTK := Lib.hid htk
    have HD4 := Lib.hid hd4
    have HG4 := Lib.hid hg4
    have hcl : ∀ ty, (Builtin.clear_ #[47] ty #[.slice (some ⟨g, (i) * 4, none⟩) 1 (1)]).run Tryz.prog w4 = .ok (.tuple #[]) (w4.setRow g (splice cur4.toArray.toList ((i) * 4) rt4).toArray) := fun ty => run_clear_one w4 _ _ ty _ rt4 Tryz.underlying47 zero_rt zero_rt4 (by simp [rt4, Value.oneCell']) g ((i) * 4) _ _ _ hg4.out (by simp [rt4, hsl]; omega)
    clear hcur4 hX hg htk hX2 hone hb4 hd4 hdl
    have hw5 := setRow_heap w4 g cur4.toArray (splice cur4 ((i) * 4) rt4).toArray 58 (0, 0) hg4.out
    have hgw5 := World.grownBy.trans hgw4.out (grown_setRow w4 g (splice cur4 ((i) * 4) rt4).toArray)
    have HW5 := Lib.hid hw5
    have HGW5 := Lib.hid hgw5
    have HSL := Lib.hid hsl
    clear hw5 hgw5 hg4
    go_wp2
    go_ret
    refine ⟨rfl, own_made (Nat.zero_le _) HW5.out (by omega) hcm (by rw [List.size_toArray, length_splice _ _ _ (by simp [rt4, HSL.out]; omega), HSL.out]) ?_, HGW5.out⟩
    have h1 := splice_mid cur.toList (i * 4) X2 (by rw [Array.length_toList, hcs]; omega)
    rw [HD4.out, show i * 4 + ((i) - i) * 4 = (i) * 4 by omega, HC4.out] at h1
    have h2 := splice_take cur4 ((i) * 4) ((i) * 4) rt4 (Nat.le_refl _) (by rw [HSL.out]; omega)
    rw [List.toList_toArray, h2, h1, rcs_append, HX2.out]
    congr 1
    have h3 := congrArg (List.take (i * 4)) HTK.out
    rw [List.take_take, Nat.min_eq_left (by omega), rcs_take] at h3
    exact h3
  · skip
    go_enter Tryz.func97, Tryz.ntmps97
    go_wp2
    go_region_law (refine step_append_rt rfl (.tmp 22) (.tmp 25) 47 rfl 58 i0 4 Tryz.underlying47 hi0 iz1 g 0 i (c) (by simp [Act.eval, Act.put]) (m) (i * 4) (by omega) ⟨g, (i + 1) * 4, none⟩ (m - i) (c - (i + 1)) X2 (by simp [Act.eval, Act.put]) (by omega) (by first | exact hd4 | (rw [hd4]; omega)) (fun j u h => hX j u h) hone (by omega) cur 58 hg (by omega) ?_; intro w4 hg4 hb4)
    have hsl : (splice cur.toList (i * 4) X2).length = (c) * 4 := by rw [length_splice _ _ _ (by rw [hd4, Array.length_toList, hcs]; omega), Array.length_toList, hcs]
    obtain ⟨cur4, hcur4⟩ : ∃ x, x = splice cur.toList (i * 4) X2 := ⟨_, rfl⟩
    have hg4 : Hid (w4.heap[g]? = some (.cells cur4.toArray 58 (0, 0))) := by show _ = _; rw [hcur4]; exact hg4.out
    rw [← hcur4] at hsl
    have hgw4 : Hid (w.grownBy w4 (some g)) := (⟨hb4.os, hb4.tape, hb4.output, hb4.size, hb4.block⟩ : w.grownBy w4 (some g))
    have HC4 := Lib.hid hcur4.symm
    have HX2 := Lib.hid hX2
    have HTK := Lib.hid htk
    have HD4 := Lib.hid hd4
    have HG4 := Lib.hid hg4
    have hcl : ∀ ty, (Builtin.clear_ #[47] ty #[.slice (some ⟨g, (m) * 4, none⟩) 1 (c - m)]).run Tryz.prog w4 = .ok (.tuple #[]) (w4.setRow g (splice cur4.toArray.toList ((m) * 4) rt4).toArray) := fun ty => run_clear_one w4 _ _ ty _ rt4 Tryz.underlying47 zero_rt zero_rt4 (by simp [rt4, Value.oneCell']) g ((m) * 4) _ _ _ hg4.out (by simp [rt4, hsl]; omega)
    clear hcur4 hX hg htk hX2 hone hb4 hd4 hdl
    have hw5 := setRow_heap w4 g cur4.toArray (splice cur4 ((m) * 4) rt4).toArray 58 (0, 0) hg4.out
    have hgw5 := World.grownBy.trans hgw4.out (grown_setRow w4 g (splice cur4 ((m) * 4) rt4).toArray)
    have HW5 := Lib.hid hw5
    have HGW5 := Lib.hid hgw5
    have HSL := Lib.hid hsl
    clear hw5 hgw5 hg4
    go_wp2
    go_ret
    refine ⟨rfl, own_made (Nat.zero_le _) HW5.out (by omega) hcm (by rw [List.size_toArray, length_splice _ _ _ (by simp [rt4, HSL.out]; omega), HSL.out]) ?_, HGW5.out⟩
    have h1 := splice_mid cur.toList (i * 4) X2 (by rw [Array.length_toList, hcs]; omega)
    rw [HD4.out, show i * 4 + ((m) - i) * 4 = (m) * 4 by omega, HC4.out] at h1
    have h2 := splice_take cur4 ((m) * 4) ((m) * 4) rt4 (Nat.le_refl _) (by rw [HSL.out]; omega)
    rw [List.toList_toArray, h2, h1, rcs_append, HX2.out]
    congr 1
    have h3 := congrArg (List.take (i * 4)) HTK.out
    rw [List.take_take, Nat.min_eq_left (by omega), rcs_take] at h3
    exact h3
end Go.Proofs.YtoihkbanmnagkaaGreat
/-
  What unstash of a table does: the key goes out of the stash, if it is there. No condition but that the table's cells lie in memory, and that its stash is in order.
-/
set_option linter.unusedSimpArgs false
set_option linter.unusedVariables false
namespace Go.Proofs.YtoihkbanmnagkaaGreat
open Go.RowKit Go.Sort M

set_option maxRecDepth 100000 in
set_option maxHeartbeats 2000000 in
theorem unstash_any (t g : Nat) (v : Value) (T : Tab) (m : Int) (k : Ky) (w : World) (H : CT w t g v T m) (hs : Sorted T.st) (hf : T.st.length < 1048576) :
    Calls Tryz.prog 72 #[.pointer (some ⟨t, 0, none⟩), kyV k] w fun e w' => e = .returned (.bool (findS T.st k).isSome) ∧ CStep w w' t g v { T with st := outS T.st k } m := by
  cases h : findS T.st k with
  | none =>
    rw [outS_none h]
    have HS := Lib.hid (fun w H => stashed_any t g v T m k w H hs hf)
    rw [stI_none h] at HS
    have HH := Lib.hid H
    have hl := H.tb.tlt
    have hge : (-1 : Int) < 0 := by omega
    clear H hs h
    unfold kyV at *
    go_enter Tryz.func72, Tryz.ntmps72
    go_wp2_with fail
    refine (HS.out _ (HH.out.below (by go_grown))).mono ?_
    rintro e w1 ⟨rfl, hb1⟩
    have hw1 : Below w.heap.size w w1 := Below.trans (by go_grown) (hb1.mono (by go_size))
    have HH1 := Lib.hid (HH.out.below hw1)
    clear hb1
    go_wp2
    go_ret
    exact ⟨rfl, CStep.quiet HH.out hw1⟩
  | some i =>
    obtain ⟨-, hi, hik⟩ := (findS_bh T.st k hs).1 i h
    rw [out_present T.st k i hs h, List.eraseIdx_eq_take_drop_succ]
    have HS := Lib.hid (fun w H => stashed_any t g v T m k w H hs hf)
    rw [stI_some h] at HS
    have HH := Lib.hid H
    have hl := H.tb.tlt

    obtain ⟨gr, c, cur, hv, -, hgr, hg, h1, h2, h3, h4⟩ := own_whole H.tb.own (by omega)
    obtain ⟨q, hq⟩ : ∃ q, T.st.length = q + 1 := ⟨T.st.length - 1, by omega⟩
    have htgr : t ≠ gr := by
      have := H.tb.tv
      rw [hv] at this
      intro e
      exact this (by simp [Value.ownBlock, e])
    have hob : v.ownBlock = some gr := by rw [hv]; rfl
    have hge : ¬ (i : Int) < 0 := by omega
    have hwr : IntKind.i64.wrap ((i : Int) + 1) = (i : Int) + 1 := by rw [IntKind.wrap_i64]; omega
    rw [hq] at h1 h4 hv hi hf
    have HD := Lib.hid (fun w1 hg => delete_at gr c q i cur T.st w1 hq hg h1 h2 h3 h4 hi (by omega))
    have HG := Lib.hid hg
    have HV := Lib.hid hv
    have HOB := Lib.hid hob
    have HLEN := Lib.hid (show (T.st.take i ++ T.st.drop (i + 1)).length = q by rw [List.length_append, List.length_take, List.length_drop]; omega)
    clear H hs h hik hg h1 h2 h3 h4 hv hob hq hf hi
    generalize T.st.take i ++ T.st.drop (i + 1) = L at *
    unfold kyV at *
    go_enter Tryz.func72, Tryz.ntmps72
    go_wp2_with fail
    refine (HS.out _ (HH.out.below (by go_grown))).mono ?_
    rintro e w1 ⟨rfl, hb1⟩
    have hw1 : Below w.heap.size w w1 := Below.trans (by go_grown) (hb1.mono (by go_size))
    have HH1 := Lib.hid (HH.out.below hw1)
    clear hb1
    have c2 := HH1.out.tb.c2
    rw [HV.out] at c2
    have f2 := HH1.out.tb.f 2
    have hl1 := HH1.out.tb.tlt
    go_wp2_with fail
    refine (HD.out w1 ((hw1.block gr hgr).trans HG.out)).mono ?_
    rintro e w2 ⟨rfl, hown, hgb⟩
    have hN := HH1.out.newStash (st' := L) (v' := .slice (some ⟨gr, 0, none⟩) q c) (by rw [HOB.out]; exact hgb) (by rw [HLEN.out]; exact hown) (.inl HOB.out.symm)
    have hbl := hgb.block t hl1 (by intro e; injection e with e; exact htgr e)
    have c2 := (World.cell?_of_block (a := ⟨t, 2, none⟩) hbl).trans c2
    have f2 := (World.frozen?_of_block (a := ⟨t, 2, none⟩) hbl).trans f2
    have hl2 := Nat.lt_of_lt_of_le hl1 hgb.size
    have HF := Lib.hid hN
    clear hN hbl hgb hown
    go_wp2
    go_ret
    exact ⟨rfl, CStep.trans (Touch.quiet hw1) (fun _ h _ => h) ⟨_, _, HF.out⟩⟩
end Go.Proofs.YtoihkbanmnagkaaGreat
