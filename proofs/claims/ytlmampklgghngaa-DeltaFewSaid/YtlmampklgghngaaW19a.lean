/-
  slices.IndexFunc and slices.DeleteFunc over routes, at a test that may lay new memory of its own. No condition but that the row is shorter than a million.
-/
import Derived.Test.YtlmampklgghngaaCopy
import Derived.Deep.RegionLaw
import Derived.Lib.SliceRun
import Derived.Laws.CopyRow
import Derived.Test.YtlmampklgghngaaM19c
import Derived.Test.YtlmampklgghngaaRef18
import Derived.Test.YtlmampklgghngaaInto12
/-
  What slices.Delete of one route makes of a row of the call's own: the row without it. No condition but that the row is short of 2^20.
-/
set_option linter.unusedSimpArgs false
set_option linter.unusedVariables false
namespace Go.Proofs.Ytlmampklgghngaa
open Go.RowKit Go.Sort M

section
variable {P : Program}
/-- Cells laid into a block that is known whole. -/
theorem setCells_row {w : World} {g o : Nat} {cur : Array Value} {t : TypeId} {vs : List Value} (hg : w.heap[g]? = some (.cells cur t (0, 0))) (hfit : o + vs.length ≤ cur.size) (h1 : ∀ v ∈ vs, v.oneCell' = true) :
    w.setCells g o vs = w.setRow g (splice cur.toList o vs).toArray := by
  have hst := run_storeCells_at Try.prog g o t vs 0 cur w hg (by simpa using hfit) h1
  have hc : ∀ j, j < vs.length → (w.cell? ⟨g, o + 0 + j, none⟩).isSome = true := by
    intro j hj
    rw [cell_of_row w g _ cur t (0, 0) hg, Array.getElem?_eq_getElem (by omega)]
    rfl
  have hf : ∀ j, j < vs.length → w.frozen? ⟨g, o + 0 + j, none⟩ = false := fun j _ => frozen_of_row w g _ cur t hg
  have hst2 := run_storeCells_cells (P := Try.prog) g o vs 0 w hc hf h1
  rw [hst2] at hst
  injection hst with _ hst
  simp only [Nat.add_zero] at hst
  rw [hst]
  simp [splice]
theorem step_append_rt {ops : Array Oper} {o : Oper} {a : Act} {w : World} {K : Act → World → Prop} {Q : Exit → Act → World → Prop} {E : Prop}
    (hg : o.guard = none) (s x : Operand) (t : TypeId) (hop : o.op = Op.call { callee := Callee.builtin Builtin.append, args := #[s, x], argTypes := #[t, t] })
    (e : TypeId) (i : TypeInfo) (size : Nat) (h1 : P.underlying t = some (.slice e)) (h2 : P.info? e = some i) (h4 : i.size = size)
    (b off n cap : Nat) (hs : a.eval s = .slice (some ⟨b, off, none⟩) n cap) (nm : Nat) (off2 : Nat) (ho2 : off + n * size = off2)
    (ad : Addr) (m c : Nat) (news : List Value) (hx : a.eval x = .slice (some ad) m c) (hnm : n + m = nm) (hn : news.length = m * size) (hc : ∀ j u, news[j]? = some u → w.cell? (ad.add j) = some u) (h1c : ∀ u ∈ news, u.oneCell' = true)
    (hroom : nm ≤ cap) (cur : Array Value) (ty : TypeId) (hb : w.heap[b]? = some (.cells cur ty (0, 0))) (hfit : off2 + news.length ≤ cur.size)
    (hK : ∀ w', Hid (w'.heap[b]? = some (.cells (splice cur.toList off2 news).toArray ty (0, 0))) → w.grownBy w' (some b) → K (a.put o.dst (.slice (some ⟨b, off, none⟩) nm cap)) w') :
    if Region.wanted o (yielded ops a.tmps) = true then Oper.wp P o a w K Q else E := by
  subst hnm ho2
  refine step_append_room hg s x t hop e i size h1 h2 h4 b off n cap hs ad m c news hx hn hc h1c hroom (fun j hj => ?_) ?_
  · constructor
    · rw [cell_of_row w b _ cur ty (0, 0) hb, Array.getElem?_eq_getElem (by omega)]
      rfl
    · exact frozen_of_row w b _ cur ty hb
  · rw [setCells_row hb hfit h1c]
    exact hK _ (show _ = _ from setRow_heap w b cur _ ty _ hb) (grown_setRow w b _)
/-- One element made zero. -/
theorem run_clear_one (w : World) (t e ty : TypeId) (z : Value) (zs : List Value) (ht : P.underlying t = some (.slice e)) (hv : ∀ w, (zeroValue e).run P w = .ok z w) (hz : (Builtin.zeroCells z.cells 1).toList = zs) (h1 : ∀ v ∈ zs, v.oneCell' = true)
    (g o c : Nat) (cur : Array Value) (tg : TypeId) (hg : w.heap[g]? = some (.cells cur tg (0, 0))) (hfit : o + zs.length ≤ cur.size) :
    (Builtin.clear_ #[t] ty #[.slice (some ⟨g, o, none⟩) 1 c]).run P w = .ok (.tuple #[]) (w.setRow g (splice cur.toList o zs).toArray) := by
  have hst := run_storeCells_at P g o tg zs 0 cur w hg (by simpa using hfit) h1
  simp [Builtin.clear_, run_underlying ht, hv, hz, hst, splice]
end
theorem splice_mid {α : Type} (L : List α) (o : Nat) (cs : List α) (ho : o ≤ L.length) : (splice L o cs).take (o + cs.length) = L.take o ++ cs := by
  unfold splice
  rw [← List.append_assoc]
  exact List.take_left' (by rw [List.length_append, List.length_take, Nat.min_eq_left ho])
def rt4 : List Value := [.int .u64 0, .int .u64 0, .int .i64 0, .int .i64 0]
theorem zero_rt (w : World) : (zeroValue 38).run Try.prog w = .ok (.agg #[.int .u64 0, .int .u64 0, .int .i64 0, .int .i64 0]) w := by
  obtain ⟨i0, hi0, iz0, -, -⟩ := info_parts infoR
  simp [zeroValue, typeInfo, hi0, iz0]
theorem zero_rt4 : (Builtin.zeroCells (Value.agg #[.int .u64 0, .int .u64 0, .int .i64 0, .int .i64 0]).cells 1).toList = rt4 := by kernel_rfl
end Go.Proofs.Ytlmampklgghngaa
/-
  slices.IndexFunc and slices.DeleteFunc over routes, at a test that may lay new memory of its own. No condition but that the row is shorter than a million.
-/
set_option linter.unusedSimpArgs false
set_option linter.unusedVariables false
namespace Go.Proofs.Ytlmampklgghngaa
open Go Go.RowKit Go.Sort M

/-- What is asked of the test. -/
def PredB (g : Nat) (lb : Array Value) (P : Rt → Bool) (B : Nat) (w0 : World) : Prop :=
  ∀ (W : World) (r : Rt), r.k.good → Below B w0 W → Calls Try.prog g (#[rtA r] ++ lb) W fun e w' => e = .returned (.bool (P r)) ∧ Below W.heap.size W w'
theorem run_clear_more {P : Program} (w : World) (t e ty : TypeId) (z : Value) (zs : List Value) (m : Nat) (ht : P.underlying t = some (.slice e)) (hv : ∀ w, (zeroValue e).run P w = .ok z w) (hz : (Builtin.zeroCells z.cells (m + 1)).toList = zs) (h1 : ∀ v ∈ zs, v.oneCell' = true)
    (g o c : Nat) (cur : Array Value) (tg : TypeId) (hg : w.heap[g]? = some (.cells cur tg (0, 0))) (hfit : o + zs.length ≤ cur.size) :
    (Builtin.clear_ #[t] ty #[.slice (some ⟨g, o, none⟩) (m + 1) c]).run P w = .ok (.tuple #[]) (w.setRow g (splice cur.toList o zs).toArray) := by
  have hst := run_storeCells_at P g o tg zs 0 cur w hg (by simpa using hfit) h1
  simp [Builtin.clear_, run_underlying ht, hv, hz, hst, splice]
theorem zero_many (m : Nat) : ∃ zs : List Value, (Builtin.zeroCells (Value.agg #[.int .u64 0, .int .u64 0, .int .i64 0, .int .i64 0]).cells m).toList = zs ∧ zs.length = m * 4 ∧ ∀ v ∈ zs, v.oneCell' = true := by
  refine ⟨_, rfl, ?_, ?_⟩
  · rw [Array.length_toList, size_zeroCells]
    rfl
  · intro v hv
    unfold Builtin.zeroCells at hv
    rw [Array.toList_map, List.mem_map] at hv
    obtain ⟨i, -, rfl⟩ := hv
    have e : (Value.agg #[.int .u64 0, .int .u64 0, .int .i64 0, .int .i64 0]).cells.size = 4 := by kernel_rfl
    rw [e]
    rcases (by omega : i % 4 = 0 ∨ i % 4 = 1 ∨ i % 4 = 2 ∨ i % 4 = 3) with h | h | h | h <;> rw [h] <;> simp [Value.cells, Value.oneCell']
set_option maxHeartbeats 2000000 in
set_option maxRecDepth 100000 in
theorem index_any (g : Nat) (lb : Array Value) (P : Rt → Bool) (B : Nat) (w0 : World) (eg : ∀ args w, (callFunc g args).run Try.prog w = .ok (.enter g args) w) (hP : PredB g lb P B w0) (p : Option Addr) (c : Nat) (L : List Rt) (w : World) (hR : Row w p (rcs L)) (hg : ∀ x ∈ L, x.k.good)
    (hb0 : Below B w0 w) (hB : B ≤ w.heap.size) (hl : L.length ≤ 1000000) :
    Calls Try.prog 68 #[.slice p L.length c, .func (.func g) #[] lb] w fun e w' => Below w.heap.size w w' ∧
      ((∃ i : Nat, i < L.length ∧ e = .returned (.int .i64 (i : Int)) ∧ (L.take (i + 1)).filter (fun r => !P r) = L.take i) ∨ (e = .returned (.int .i64 (-1)) ∧ L.filter (fun r => !P r) = L)) := by
  have HP := Lib.hid hP
  have HR := Lib.hid hR
  have HG := Lib.hid hg
  clear hP hR hg
  go_enter Try.func68, Try.ntmps68
  go_wp2
  go_loopg [8] L.length (fun kx s8 wr => ∃ i : Nat, s8 = .int .i64 (i : Int) ∧ L.length - i ≤ kx ∧ i ≤ L.length ∧ Hid ((L.take i).filter (fun r => !P r) = L.take i) ∧ Below w.heap.size w wr)
  case atStart => exact ⟨0, rfl, by omega, by omega, Lib.hid rfl, by go_grown⟩
  case round =>
    obtain ⟨i, rfl, h1, h2, HF, hb⟩ := hrel
    by_cases hi : i < L.length
    · obtain ⟨gr, o, rfl, hgr, x0, x1, x2, x3⟩ := (HR.out.below hb).rt hi
      have hk := HP.out wr L[i] (HG.out _ (List.getElem_mem hi)) (hb0.trans (hb.mono hB))
      have hsn : L.take (i + 1) = L.take i ++ [L[i]] := List.take_succ_eq_append_getElem hi
      have hfl : (L.take (i + 1)).filter (fun r => !P r) = L.take i ++ (if P L[i] = true then [] else [L[i]]) := by
        rw [hsn, List.filter_append, HF.out]
        congr 1
        cases h : P L[i] <;> simp [h]
      have i1 : (0 : Int) ≤ (i : Int) := by omega
      have i2 : (i : Int) < (L.length : Int) := by omega
      generalize L[i] = r at *
      unfold rtA at hk
      have HK := Lib.hid hk
      clear hk
      cases hv : P r with
      | true =>
        rw [hv, if_pos rfl, List.append_nil] at hfl
        rw [hv] at HK
        have HFL := Lib.hid hfl
        clear hfl hsn HF
        go_wp2_with (go_at_fn g; refine HK.out.mono ?_; rintro e w1 ⟨rfl, hb1⟩)
        go_ret
        exact ⟨hb.trans (hb1.mono hb.size), .inl ⟨i, hi, rfl, HFL.out⟩⟩
      | false =>
        rw [hv, if_neg (by simp), ← hsn] at hfl
        rw [hv] at HK
        have HFL := Lib.hid hfl
        clear hfl hsn HF
        go_wp2_with (go_at_fn g; refine HK.out.mono ?_; rintro e w1 ⟨rfl, hb1⟩)
        have hw1 := hb.trans (hb1.mono hb.size)
        clear HK hb1 hb
        go_wp2
        go_roundg (L.length - (i + 1))
        case measure => omega
        case rel => exact ⟨i + 1, by go_num, by omega, by omega, HFL, hw1⟩
    · have HF2 : Hid (L.filter (fun r => !P r) = L) := Lib.hid (by have := HF.out; rwa [List.take_of_length_le (by omega)] at this)
      clear HF
      go_wp2
      go_ret
      exact ⟨hb, .inr ⟨rfl, HF2.out⟩⟩
end Go.Proofs.Ytlmampklgghngaa
