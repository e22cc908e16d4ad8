/-
  One statement whose order is open, with one tail in one order that may write: what only reads, or builds a value, is taken first, wherever it stands. No condition on the program but that it draws orders in the wide manner.
-/
import Derived.Shelf.GgSortMore.Stable
import Derived.Test.YtcfioplbbbaeoaaProg
import Derived.Test.YtcfioplbbbaeoaaSortR
import Derived.Shelf.SlSortFuncK.ComposeK
import Derived.Test.YtcfioplbbbaeoaaReg3
/-
  Which of this program's functions and types the library's sort.SliceStable is made of. No condition.
-/
set_option linter.unusedSimpArgs false
set_option linter.unusedVariables false
namespace Go.Proofs
open Go.Shelf
def Try.laysStb_ren : Go.Shelf.Ren := ⟨fun | 8 => 24 | 13 => 32 | 14 => 33 | 16 => 35 | 15 => 34 | 29 => 49 | 30 => 50 | 42 => 52 | 49 => 54 | n => n, fun | 20 => 20 | 26 => 60 | 36 => 70 | 0 => 0 | 38 => 72 | 42 => 76 | 3 => 3 | 4 => 4 | 47 => 30 | 17 => 17 | 33 => 67 | 34 => 68 | 89 => 100 | 12 => 12 | 56 => 92 | 82 => 93 | 5 => 5 | 83 => 94 | 84 => 95 | 85 => 96 | 86 => 97 | 87 => 98 | n => n, fun | n => n⟩
theorem Try.laysStb : Go.Proofs.LaysGt.n8 Try.prog Try.laysStb_ren := {
  mixed := by kernel_rfl
  f8 := Try.func24.trans (congrArg some (by kernel_rfl))
  f13 := Try.func32.trans (congrArg some (by kernel_rfl))
  f14 := Try.func33.trans (congrArg some (by kernel_rfl))
  f15 := Try.func34.trans (congrArg some (by kernel_rfl))
  f16 := Try.func35.trans (congrArg some (by kernel_rfl))
  f29 := Try.func49.trans (congrArg some (by kernel_rfl))
  f30 := Try.func50.trans (congrArg some (by kernel_rfl))
  f42 := Try.func52.trans (congrArg some (by kernel_rfl))
  f49 := Try.func54.trans (congrArg some (by kernel_rfl))
  t0 := Try.underlying0
  a0 := Try.isAgg0
  z0 := Try.sizeOf0
  v0 := Try.zeroValue0
  i0 := by kernel_rfl
  t3 := Try.underlying3
  a3 := Try.isAgg3
  z3 := Try.sizeOf3
  v3 := Try.zeroValue3
  i3 := by kernel_rfl
  t4 := Try.underlying4
  a4 := Try.isAgg4
  z4 := Try.sizeOf4
  v4 := Try.zeroValue4
  i4 := by kernel_rfl
  t5 := Try.underlying5
  a5 := Try.isAgg5
  z5 := Try.sizeOf5
  v5 := Try.zeroValue5
  i5 := by kernel_rfl
  t12 := Try.underlying12
  a12 := Try.isAgg12
  z12 := Try.sizeOf12
  v12 := Try.zeroValue12
  i12 := by kernel_rfl
  t17 := Try.underlying17
  a17 := Try.isAgg17
  z17 := Try.sizeOf17
  v17 := Try.zeroValue17
  i17 := by kernel_rfl
  t20 := Try.underlying20
  a20 := Try.isAgg20
  z20 := Try.sizeOf20
  v20 := Try.zeroValue20
  i20 := by kernel_rfl
  t26 := Try.underlying60
  a26 := Try.isAgg60
  z26 := Try.sizeOf60
  v26 := Try.zeroValue60
  i26 := by kernel_rfl
  t33 := Try.underlying67
  a33 := Try.isAgg67
  z33 := Try.sizeOf67
  v33 := Try.zeroValue67
  i33 := by kernel_rfl
  t34 := Try.underlying68
  a34 := Try.isAgg68
  z34 := Try.sizeOf68
  v34 := Try.zeroValue68
  i34 := by kernel_rfl
  t36 := Try.underlying70
  a36 := Try.isAgg70
  z36 := Try.sizeOf70
  v36 := Try.zeroValue70
  i36 := by kernel_rfl
  t38 := Try.underlying72
  a38 := Try.isAgg72
  z38 := Try.sizeOf72
  v38 := Try.zeroValue72
  i38 := by kernel_rfl
  t42 := Try.underlying76
  a42 := Try.isAgg76
  z42 := Try.sizeOf76
  v42 := Try.zeroValue76
  i42 := by kernel_rfl
  t47 := Try.underlying30
  a47 := Try.isAgg30
  z47 := Try.sizeOf30
  v47 := Try.zeroValue30
  i47 := by kernel_rfl
  t56 := Try.underlying92
  a56 := Try.isAgg92
  z56 := Try.sizeOf92
  v56 := Try.zeroValue92
  i56 := by kernel_rfl
  t82 := Try.underlying93
  a82 := Try.isAgg93
  z82 := Try.sizeOf93
  v82 := Try.zeroValue93
  i82 := by kernel_rfl
  t83 := Try.underlying94
  a83 := Try.isAgg94
  z83 := Try.sizeOf94
  v83 := Try.zeroValue94
  i83 := by kernel_rfl
  t84 := Try.underlying95
  a84 := Try.isAgg95
  z84 := Try.sizeOf95
  v84 := Try.zeroValue95
  i84 := by kernel_rfl
  t85 := Try.underlying96
  a85 := Try.isAgg96
  z85 := Try.sizeOf96
  v85 := Try.zeroValue96
  i85 := by kernel_rfl
  t86 := Try.underlying97
  a86 := Try.isAgg97
  z86 := Try.sizeOf97
  v86 := Try.zeroValue97
  i86 := by kernel_rfl
  t87 := Try.underlying98
  a87 := Try.isAgg98
  z87 := Try.sizeOf98
  v87 := Try.zeroValue98
  i87 := by kernel_rfl
  t89 := Try.underlying100
  a89 := Try.isAgg100
  z89 := Try.sizeOf100
  v89 := Try.zeroValue100
  i89 := by kernel_rfl }
end Go.Proofs
/-
  sort.SliceStable at a slice of routes, at a test that may make blocks of its own. No condition but those that stand in each.
-/
set_option linter.unusedSimpArgs false
set_option linter.unusedVariables false
namespace Go.Proofs.Ytcfioplbbbaeoaa
open Go.RowKit Go.Sort M

set_option maxHeartbeats 1000000 in
theorem stableR_any (g : Nat) (lb : Array Value) (lt : Rt → Rt → Bool) (hO : SWO lt) (eg : ∀ args w, (callFunc g args).run Try.prog w = .ok (.enter g args) w) (blk c : Nat) (L : List Rt) (h2 : 2 ≤ L.length) (hn : L.length < 1152921504606846976) (w : World)
    (hH : HoldsK rcell 4 w blk 0 L.toArray) (hl : blk < w.heap.size) (hL : LessB g lb rcell 4 lt w blk 0 L.length) :
    Calls Try.prog 24 #[.iface 34 (.slice (some ⟨blk, 0, none⟩) L.length c), .func (.func g) #[] lb] w fun e w' => e = .returned (.tuple #[]) ∧
      ∃ M : List Rt, Asc lt M ∧ Stb lt L M ∧ HoldsK rcell 4 w' blk 0 M.toArray ∧ Touch (· = blk) w w' := by
  refine Any.sort_SliceStable_of_stable (P := Try.prog) (ρ := Try.laysStb_ren) Try.laysStb 34 43 rtT rtE (by kernel_rfl) (by kernel_rfl) (by kernel_rfl) (by kernel_rfl) 25 (fun _ => by kernel_rfl) (some ⟨blk, 0, none⟩) L.length c (by omega) 48 (by rw [rtK _ h2]; kernel_rfl) (.func g) #[] lb w _ ?_
  have hB : sliceBound Try.prog 43 rtE 25 (some ⟨blk, 0, none⟩) L.length c = #[.slice (some ⟨blk, 0, none⟩) L.length c, typeHandle Try.prog 43] := by
    unfold sliceBound; rw [if_neg (swapperK_gt _ _ _ h2)]
  rw [hB]
  have hsw := swapSwapsK_of_literal (P := Try.prog) (α := Rt) false 48 (fun args W => run_callFunc_extern Try.func48 (by kernel_rfl) (by kernel_rfl) (by kernel_rfl) (e := Extern.ReflectliteSwapper.swap false) (by kernel_rfl) args W)
    43 rtE (by kernel_rfl) rcell 4 (fun _ => rfl) (by kernel_rfl) (fun _ => by kernel_rfl) rt_one blk 0 L.length c
  have hw1 : RowKit.Below w.heap.size w (stableWorld Try.prog Try.laysStb_ren 34 (some ⟨blk, 0, none⟩) L.length c w) := by unfold stableWorld; go_grown
  have S := (Srt.start (n := L.length) hH hl (by simp)).below hw1
  refine (stable_any (enc := rcell) (k := 4) hO (fun _ => rfl) eg hL hsw hn L rfl _ S).mono ?_
  rintro e w' ⟨rfl, M, h1, h2, hS, hT⟩
  exact ⟨rfl, M, h1, h2, hS.holds, hS.touch⟩
theorem stableR_none (g : Nat) (lb : Array Value) (p : Option Addr) (c n : Nat) (h1 : n ≤ 1) (w : World) :
    Calls Try.prog 24 #[.iface 34 (.slice p n c), .func (.func g) #[] lb] w fun e w' => e = .returned (.tuple #[]) ∧ RowKit.Below w.heap.size w w' := by
  have hgrow : ∀ w' os, w' = grow w os → RowKit.Below w.heap.size w w' := by
    rintro w' os rfl
    refine ⟨rfl, rfl, rfl, by rw [size_grow]; omega, fun j hj => ?_⟩
    show (_ ++ os)[j]? = _
    rw [Array.getElem?_append_left hj]
  rcases (show n = 0 ∨ n = 1 by omega) with rfl | rfl
  · refine (Any.sort_SliceStable_tiny (P := Try.prog) (ρ := Try.laysStb_ren) Try.laysStb 34 43 rtT rtE (by kernel_rfl) (by kernel_rfl) (by kernel_rfl) (by kernel_rfl) 25 (fun _ => by kernel_rfl) p 0 c h1 40 (by kernel_rfl) (.func g) #[] lb w).mono ?_
    rintro e w' ⟨rfl, os, h⟩
    exact ⟨rfl, hgrow w' os h⟩
  · refine (Any.sort_SliceStable_tiny (P := Try.prog) (ρ := Try.laysStb_ren) Try.laysStb 34 43 rtT rtE (by kernel_rfl) (by kernel_rfl) (by kernel_rfl) (by kernel_rfl) 25 (fun _ => by kernel_rfl) p 1 c h1 41 (by kernel_rfl) (.func g) #[] lb w).mono ?_
    rintro e w' ⟨rfl, os, h⟩
    exact ⟨rfl, hgrow w' os h⟩
end Go.Proofs.Ytcfioplbbbaeoaa
/-
  One statement whose order is open, with one tail in one order that may write: what only reads, or builds a value, is taken first, wherever it stands. No condition on the program but that it draws orders in the wide manner.
-/
set_option linter.unusedSimpArgs false
set_option linter.unusedVariables false
namespace Go.Proofs.Ytcfioplbbbaeoaa
open Go Go.RowKit Go.Sort

section
variable {P : Program} {ops : Array Oper} {md : Region.Mode} {C : World → Prop} {Q : Exit → Act → World → Prop} {S : World → Prop} {pre : Nat → Bool}
/-- .. or a value is built. -/
def stillC (o : Oper) : Bool :=
  stillB o || match o.op with
  | .build _ _ => true
  | _ => false
theorem still_valueC {o : Oper} (hs : stillC o = true) {a : Act} {w : World} {v : Value} (h : Oper.quietUpon P C w v ((execOp a.eval o).run P w)) : (execOp a.eval o).run P w = .ok (.value v) w := by
  unfold stillC at hs
  rw [Bool.or_eq_true] at hs
  rcases hs with hs | hs
  · exact still_value hs h
  have key : ∀ n w', (execOp a.eval o).run P w = .ok n w' → ∃ u, n = .value u := by
    intro n w' hr
    unfold execOp at hr
    split at hs
    · rename_i he
      simp only [he] at hr
      exact value_only _ w n w' hr
    · cases hs
  generalize (execOp a.eval o).run P w = r at h key
  cases r with
  | ok n w' =>
    obtain ⟨u, rfl⟩ := key n w' rfl
    obtain ⟨rfl, rfl⟩ := h
    rfl
  | halt x w' => exact h.elim
/-- These may be taken first, one behind the other; behind them F. -/
def takeD (md : Region.Mode) (ops : Array Oper) (ok : Nat → Bool) (F : Array Bool → Bool) : List Nat → Array Bool → Bool
  | [], listed => F listed
  | i :: t, listed => (Region.ready md ops listed).contains i && Region.free md ops listed i && ok i && ((ops[i]?).map stillC).getD false && takeD md ops ok F t (listed.setIfInBounds i true)
theorem anyP_takesC {T : World → Prop} {F : Array Bool → Bool} {ok : Nat → Bool} {Lq : Act → Prop} {g : Nat} {w : World} (hsel : Region.noSelect ops = true) (hQ : ∀ c a w, Q (.panic c) a w → False) (hST : ∀ w, S w → T w) (hok : ∀ i, ok i = true → (laterB md ops pre i = true ∨ ∀ w, T w)) (hS : S w)
    (hL : ∀ listed a, F listed = true → HeadInv md ops ops.size listed → Lq a → anyP P md ops Q S pre g listed a w) :
    ∀ (t : List Nat) (listed : Array Bool) (a : Act), takeD md ops ok F t listed = true → HeadInv md ops ops.size listed → wpQuiet P ops T Lq (pickL ops t) a → anyP P md ops Q S pre (t.length + g) listed a w
  | [], listed, a, hB, inv, h => by rw [List.length_nil, Nat.zero_add]; exact hL listed a hB inv h
  | i :: t, listed, a, hB, inv, h => by
    simp only [takeD, Bool.and_eq_true] at hB
    obtain ⟨⟨⟨⟨hr, hf⟩, ho⟩, hst⟩, hB'⟩ := hB
    have hr' : i ∈ Region.ready md ops listed := by simpa using hr
    obtain ⟨_, oi, hoi, _⟩ := mem_ready.1 hr'
    rw [hoi] at hst
    simp only [Option.map_some, Option.getD_some] at hst
    have hp : pickL ops (i :: t) = oi :: pickL ops t := by unfold pickL; rw [List.filterMap_cons, hoi]
    rw [hp] at h
    have hq : qOp P ops T i (wpQuiet P ops T Lq (pickL ops t)) a := by unfold qOp; simp only [hoi]; exact h
    obtain ⟨v, hy, hK⟩ := yieldsIn_of_qOp hoi hq
    have hy' : YieldsIf P ops T oi v a := hy.imp (fun ⟨hw, hv⟩ => ⟨hw, fun w hw2 => still_valueC hst (hv w hw2)⟩) id
    rw [List.length_cons, show t.length + 1 + g = (t.length + g) + 1 by omega]
    exact anyP_first hoi (Region.noSelect_spec hsel) hQ hST (fun j l1 inv1 hun hj hne => (hok i ho).imp (fun hl => later_spec hl j l1 inv1 hun hj hne) id) _ listed a w inv (Region.free_spec hoi hf) hr' hy' (.inl hS)
      (anyP_takesC hsel hQ hST hok hS hL t _ _ hB' (inv_set inv hr') hK)
def oneB (ops : Array Oper) (tA tB tl : List Nat) : Bool :=
  decide (ops.size = tA.length + (tB.length + tl.length)) &&
  takeD .any ops (fun _ => true) (fun l1 => takeD .any ops (fun i => laterB .any ops (fun j => !tl.contains j) i) (fun l2 => tailB .any ops tl l2) tB l1) tA (Array.replicate ops.size false)
theorem region_one {id : Nat} {a : Act} {w : World} {l : List Oper} (tA tB tl : List Nat) (hm : P.follows .mixedOrders = true) (hQ : ∀ c a w, Q (.panic c) a w → False) (hsel : Region.noSelect l.toArray = true) (hB : oneB l.toArray tA tB tl = true)
    (h : wpQuiet P l.toArray (fun _ => True) (fun a1 => wpQuiet P l.toArray (fun w' => ∃ p : Regrown, w' = grow (redrawn w p.d) p.os) (fun a2 => ∀ w', Below w.heap.size w w' → wpList P l.toArray Q (pickL l.toArray tl) a2 w') (pickL l.toArray tB) a1) (pickL l.toArray tA) a) :
    (Code.region id l.toArray true).wp P Q a w := by
  generalize l.toArray = ops at *
  simp only [oneB, Bool.and_eq_true, decide_eq_true_eq] at hB
  obtain ⟨hsz, hB⟩ := hB
  refine wp_region_any hm ?_
  have inv0 : HeadInv .any ops ops.size (Array.replicate ops.size false) :=
    ⟨by simp, fun j oj _ hl => (by rw [getD_replicate_false] at hl; cases hl), fun t h1 h2 => absurd h2 (by omega)⟩
  have hS0 : Rg w { w with drawn := w.drawn + 1 } := ⟨⟨w.drawn + 1, #[]⟩, by rw [grow_empty]; rfl⟩
  have pre2 : ∀ i ∈ tl, (!tl.contains i) = false := fun i hi => by simp [hi]
  refine wpAny_of_anyP (S := Rg w) (pre := fun j => !tl.contains j) _ _ _ _ ?_
  suffices hh : anyP P .any ops Q (Rg w) (fun j => !tl.contains j) (tA.length + (tB.length + tl.length)) (Array.replicate ops.size false) a { w with drawn := w.drawn + 1 } by
    rw [← hsz] at hh
    exact hh
  refine anyP_takesC (T := fun _ => True) hsel hQ (fun _ _ => trivial) (fun _ _ => .inr (fun _ => trivial)) hS0 (fun l1 a1 hF1 inv1 h1 => ?_) tA _ a hB inv0 h
  refine anyP_takesC (T := fun w' => ∃ p : Regrown, w' = grow (redrawn w p.d) p.os) hsel hQ (fun _ h => h) (fun i hi => .inl hi) hS0 (fun l2 a2 hF2 inv2 h2 => ?_) tB l1 a1 hF1 inv1 h1
  have hb0 : Below w.heap.size w { w with drawn := w.drawn + 1 } := ⟨rfl, rfl, rfl, Nat.le_refl _, fun _ _ => rfl⟩
  exact anyP_tail tl _ a2 _ pre2 hF2 (h2 _ hb0)
theorem anyP_takesF {F : Array Bool → Bool} {Lq : Act → Prop} {g : Nat} {w : World} (hsel : Region.noSelect ops = true) (hQ : ∀ c a w, Q (.panic c) a w → False)
    (hL : ∀ listed a, F listed = true → HeadInv md ops ops.size listed → Lq a → anyP P md ops Q S pre g listed a w) :
    ∀ (t : List Nat) (listed : Array Bool) (a : Act), takeD md ops (fun _ => true) F t listed = true → HeadInv md ops ops.size listed → wpQuiet P ops (fun _ => True) Lq (pickL ops t) a → anyP P md ops Q S pre (t.length + g) listed a w
  | [], listed, a, hB, inv, h => by rw [List.length_nil, Nat.zero_add]; exact hL listed a hB inv h
  | i :: t, listed, a, hB, inv, h => by
    simp only [takeD, Bool.and_eq_true] at hB
    obtain ⟨⟨⟨⟨hr, hf⟩, ho⟩, hst⟩, hB'⟩ := hB
    have hr' : i ∈ Region.ready md ops listed := by simpa using hr
    obtain ⟨_, oi, hoi, _⟩ := mem_ready.1 hr'
    rw [hoi] at hst
    simp only [Option.map_some, Option.getD_some] at hst
    have hp : pickL ops (i :: t) = oi :: pickL ops t := by unfold pickL; rw [List.filterMap_cons, hoi]
    rw [hp] at h
    have hq : qOp P ops (fun _ => True) i (wpQuiet P ops (fun _ => True) Lq (pickL ops t)) a := by unfold qOp; simp only [hoi]; exact h
    obtain ⟨v, hy, hK⟩ := yieldsIn_of_qOp hoi hq
    have hy' : YieldsIf P ops (fun _ => True) oi v a := hy.imp (fun ⟨hw, hv⟩ => ⟨hw, fun w hw2 => still_valueC hst (hv w hw2)⟩) id
    rw [List.length_cons, show t.length + 1 + g = (t.length + g) + 1 by omega]
    exact anyP_first hoi (Region.noSelect_spec hsel) hQ (fun _ _ => trivial) (fun j l1 inv1 hun hj hne => .inr fun _ => trivial) _ listed a w inv (Region.free_spec hoi hf) hr' hy' (.inr fun _ => trivial)
      (anyP_takesF hsel hQ hL t _ _ hB' (inv_set inv hr') hK)
/-- .. one call, behind it what reads no memory, in any order, then the tail. -/
def twoB (ops : Array Oper) (tA tB : List Nat) (x : Nat) (tC tl : List Nat) : Bool :=
  decide (ops.size = tA.length + (tB.length + (tC.length + tl.length + 1))) && (ops[x]?).isSome && !(tA ++ tB).contains x && (tl.all fun i => !(tA ++ tB).contains i) &&
  takeD .any ops (fun _ => true) (fun l1 => takeD .any ops (fun i => laterB .any ops (fun j => (tA ++ tB).contains j) i) (fun l2 =>
    decide (Region.ready .any ops l2 = [x]) && takeD .any ops (fun _ => true) (fun l3 => tailB .any ops tl l3) tC (l2.setIfInBounds x true)) tB l1) tA (Array.replicate ops.size false)
theorem region_two {id : Nat} {a : Act} {w : World} {l : List Oper} (tA tB : List Nat) (x : Nat) (tC tl : List Nat) (hm : P.follows .mixedOrders = true) (hQ : ∀ c a w, Q (.panic c) a w → False) (hsel : Region.noSelect l.toArray = true) (hB : twoB l.toArray tA tB x tC tl = true)
    (h : wpQuiet P l.toArray (fun _ => True) (fun a1 => wpQuiet P l.toArray (fun w' => ∃ p : Regrown, w' = grow (redrawn w p.d) p.os) (fun a2 => ∀ w', Below w.heap.size w w' →
      ∀ K : Act → World → Prop, (∀ a3 w3, wpQuiet P l.toArray (fun _ => True) (fun a4 => wpList P l.toArray Q (pickL l.toArray tl) a4 w3) (pickL l.toArray tC) a3 → K a3 w3) → oneOp P l.toArray Q x K a2 w') (pickL l.toArray tB) a1) (pickL l.toArray tA) a) :
    (Code.region id l.toArray true).wp P Q a w := by
  generalize l.toArray = ops at *
  simp only [twoB, Bool.and_eq_true, decide_eq_true_eq] at hB
  obtain ⟨⟨⟨⟨hsz, hx⟩, hxp⟩, htp⟩, hB⟩ := hB
  refine wp_region_any hm ?_
  have inv0 : HeadInv .any ops ops.size (Array.replicate ops.size false) :=
    ⟨by simp, fun j oj _ hl => (by rw [getD_replicate_false] at hl; cases hl), fun t h1 h2 => absurd h2 (by omega)⟩
  have hS0 : Rg w { w with drawn := w.drawn + 1 } := ⟨⟨w.drawn + 1, #[]⟩, by rw [grow_empty]; rfl⟩
  have pre2 : ∀ i ∈ tl, ((tA ++ tB).contains i) = false := fun i hi => by simpa using List.all_eq_true.1 htp i hi
  refine wpAny_of_anyP (S := Rg w) (pre := fun j => (tA ++ tB).contains j) _ _ _ _ ?_
  suffices hh : anyP P .any ops Q (Rg w) (fun j => (tA ++ tB).contains j) (tA.length + (tB.length + (tC.length + tl.length + 1))) (Array.replicate ops.size false) a { w with drawn := w.drawn + 1 } by
    rw [← hsz] at hh
    exact hh
  refine anyP_takesC (T := fun _ => True) hsel hQ (fun _ _ => trivial) (fun _ _ => .inr (fun _ => trivial)) hS0 (fun l1 a1 hF1 inv1 h1 => ?_) tA _ a hB inv0 h
  refine anyP_takesC (T := fun w' => ∃ p : Regrown, w' = grow (redrawn w p.d) p.os) hsel hQ (fun _ h => h) (fun i hi => .inl hi) hS0 (fun l2 a2 hF2 inv2 h2 => ?_) tB l1 a1 hF1 inv1 h1
  have hb0 : Below w.heap.size w { w with drawn := w.drawn + 1 } := ⟨rfl, rfl, rfl, Nat.le_refl _, fun _ _ => rfl⟩
  simp only [Bool.and_eq_true, decide_eq_true_eq] at hF2
  obtain ⟨r0, hF3⟩ := hF2
  refine ⟨fun h1 => (by rw [r0] at h1; cases h1), fun i hi => ?_⟩
  have hi' := hi
  rw [r0] at hi
  have hix : i = x := by simpa using hi
  subst hix
  refine (h2 _ hb0 _ (fun a3 w3 h3 => ⟨fun hp => ?_, ?_⟩)).wpOp hx
  · have hp2 : (tA ++ tB).contains i = true := hp
    rw [hp2] at hxp
    cases hxp
  · exact anyP_takesF hsel hQ (fun l4 a4 hF4 inv4 h4 => anyP_tail tl l4 a4 w3 pre2 hF4 h4) tC _ a3 hF3 (inv_set inv2 hi') h3
end
end Go.Proofs.Ytcfioplbbbaeoaa
