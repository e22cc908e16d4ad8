/-
  Plain mathematics: the mixing of words of 64 bits, told step by step, and that no two words are mixed to one. No condition but that the words are words of 64 bits.
-/
import Derived.Test.YtcbmeollffkekaaSort
import Derived.Test.YtcbmeollffkekaaM11
import Derived.Shelf.GgSortFunc.Tiny
import Derived.Shelf.GgSortMore.Stable
import Derived.Test.YtcbmeollffkekaaProg
import Derived.Shelf.SlSortFuncK.ComposeK
import Derived.Test.YtcbmeollffkekaaM1
/-
  Rows of routes in memory: a list of keys with their values as cells, four to each; rows of the call's own, and what is read of them. No condition but those that stand in each.
-/
set_option linter.unusedSimpArgs false
set_option linter.unusedVariables false
namespace Go.Proofs.Ytcbmeollffkekaa
open Go.RowKit Go.Sort M

def rcell (r : Rt) : List Value := [.int .u64 (r.k.h : Int), .int .u64 (r.k.l : Int), .int .i64 r.k.n, .int .i64 r.v]
def rcs (L : List Rt) : List Value := L.flatMap rcell
theorem rcs_len (L : List Rt) : (rcs L).length = L.length * 4 := by
  unfold rcs
  induction L with
  | nil => rfl
  | cons x L ih => simp only [List.flatMap_cons, List.length_append, ih, rcell, List.length_cons, List.length_nil]; omega
theorem rcs_append (L M : List Rt) : rcs (L ++ M) = rcs L ++ rcs M := by simp [rcs]
theorem rcs_cons (x : Rt) (L : List Rt) : rcs (x :: L) = rcell x ++ rcs L := rfl
theorem rcs_one (p : Rt) : rcs [p] = rcell p := by simp [rcs]
theorem rcs_cell : ∀ (L : List Rt) (k j : Nat) (h : k < L.length), j < 4 → (rcs L)[k * 4 + j]? = (rcell L[k])[j]?
  | x :: L, 0, j, _, hj => by
    rw [rcs_cons, List.getElem?_append_left (by simp [rcell]; omega)]
    simp
  | x :: L, k + 1, j, h, hj => by
    rw [rcs_cons, List.getElem?_append_right (by simp [rcell]; omega), show (k + 1) * 4 + j - (rcell x).length = k * 4 + j by simp [rcell]; omega]
    rw [rcs_cell L k j (by simpa using h) hj]
    simp
theorem rcs_one' (L : List Rt) : ∀ u ∈ rcs L, u.oneCell' = true := by
  intro u hu
  unfold rcs at hu
  rw [List.mem_flatMap] at hu
  obtain ⟨p, -, hp⟩ := hu
  simp only [rcell, List.mem_cons, List.not_mem_nil, or_false] at hp
  rcases hp with rfl | rfl | rfl | rfl <;> rfl
/-- Number k of a row of routes. -/
theorem Row.rt {w : World} {p : Option Addr} {L : List Rt} (h : Row w p (rcs L)) {k : Nat} (hk : k < L.length) : ∃ g o, p = some ⟨g, o, none⟩ ∧ g < w.heap.size ∧
    w.cell? ⟨g, o + k * 4, none⟩ = some (.int .u64 (L[k].k.h : Int)) ∧ w.cell? ⟨g, o + k * 4 + 1, none⟩ = some (.int .u64 (L[k].k.l : Int)) ∧ w.cell? ⟨g, o + k * 4 + 2, none⟩ = some (.int .i64 L[k].k.n) ∧ w.cell? ⟨g, o + k * 4 + 3, none⟩ = some (.int .i64 L[k].v) := by
  rcases h with h | ⟨g, o, e, hg, hc⟩
  · have := rcs_len L
    rw [h] at this
    simp at this; omega
  · exact ⟨g, o, e, hg, hc (k * 4) _ (rcs_cell L k 0 hk (by omega)), hc (k * 4 + 1) _ (rcs_cell L k 1 hk (by omega)), hc (k * 4 + 2) _ (rcs_cell L k 2 hk (by omega)), hc (k * 4 + 3) _ (rcs_cell L k 3 hk (by omega))⟩
/-- A new row of routes. -/
def NewRts (w w' : World) (e : Ending) (L : List Rt) : Prop := ∃ p c, e = .returned (.slice p L.length c) ∧ w'.ownsRow w.heap.size 39 4 (.slice p L.length c) L.length (rcs L) ∧ Below w.heap.size w w'
theorem infoR : (Try.prog.info? 39).map (fun i => (i.zero, i.size, i.bytes)) = some (some (.agg #[.int .u64 0, .int .u64 0, .int .i64 0, .int .i64 0]), 4, 32) := by kernel_rfl
/-- Four new cells, at the head of their block. -/
theorem four_new {w : World} {g : Nat} {a b c d : Value} (h0 : w.cell? ⟨g, 0, none⟩ = some a) (h1 : w.cell? ⟨g, 1, none⟩ = some b) (h2 : w.cell? ⟨g, 2, none⟩ = some c) (h3 : w.cell? ⟨g, 3, none⟩ = some d) :
    ∀ j u, [a, b, c, d][j]? = some u → w.cell? ((⟨g, 0, none⟩ : Addr).add j) = some u := by
  intro j u hj
  have hlt : j < 4 := (List.getElem?_eq_some_iff.1 hj).1
  have he : (⟨g, 0, none⟩ : Addr).add j = ⟨g, j, none⟩ := by unfold Addr.add; split <;> simp_all
  rw [he]
  rcases (show j = 0 ∨ j = 1 ∨ j = 2 ∨ j = 3 by omega) with rfl | rfl | rfl | rfl <;> (simp only [List.getElem?_cons_zero, List.getElem?_cons_succ, Option.some.injEq] at hj; subst hj; assumption)
theorem own_rsnoc {w : World} {B n : Nat} {e : TypeId} {v : Value} {L : List Rt} {x : Rt} (h : w.ownsRow B e 4 v (n + 1) (rcs L ++ rcell x)) (hn : n = L.length) : w.ownsRow B e 4 v (L ++ [x]).length (rcs (L ++ [x])) := by
  rw [rcs_append, rcs_one, List.length_append, ← hn]
  exact h
end Go.Proofs.Ytcbmeollffkekaa
/-
  Routes as elements of four cells, for the library's sorts. No condition but those that stand in each.
-/
set_option linter.unusedSimpArgs false
set_option linter.unusedVariables false
namespace Go.Proofs.Ytcbmeollffkekaa
open Go.RowKit Go.Sort M

instance : Inhabited Rt := ⟨⟨⟨0, 0, 0⟩, 0⟩⟩
noncomputable def rtT : TypeInfo := (Try.prog.info? 22).get (by kernel_rfl)
noncomputable def rtE : TypeInfo := (Try.prog.info? 39).get (by kernel_rfl)
theorem rtK (n : Nat) (h2 : 2 ≤ n) : Lib.swapperK n rtE 25 = 9 := by
  have a : rtE.hasPointers = false := by kernel_rfl
  have b : rtE.bytes = 32 := by kernel_rfl
  have c : (n == 0) = false := by simp; omega
  have d : (n == 1) = false := by simp; omega
  unfold Lib.swapperK
  rw [c, d, a, b]
  rfl
theorem rt_one : ∀ x : Rt, ∀ v ∈ rcell x, v.oneCell' = true := by
  intro x v hv
  simp only [rcell, List.mem_cons, List.not_mem_nil, or_false] at hv
  rcases hv with rfl | rfl | rfl | rfl <;> rfl
theorem perm_list {α : Type} [Inhabited α] {L : List α} {d : Array α} (h : PermIn 0 L.length L.toArray d) : d.toList.Perm L := by
  obtain ⟨h1, -, h3⟩ := h
  have e1 : d.extract 0 L.length = d := by
    have : L.length = d.size := by rw [h1]; simp
    rw [this]
    simp
  have e2 : L.toArray.extract 0 L.length = L.toArray := by
    have : L.length = L.toArray.size := by simp
    rw [this]
    simp
  rw [e1, e2] at h3
  simpa using h3
theorem sorted_list {α : Type} [Inhabited α] {lt : α → α → Bool} {d : Array α} {n : Nat} (hn : d.size = n) (h : SortedIn lt 0 n d) : d.toList.Pairwise fun a b => lt b a = false := by
  rw [List.pairwise_iff_getElem]
  intro i j hi hj hij
  simp only [Array.length_toList] at hi hj
  have := h i j (Nat.zero_le _) hij (by omega)
  rw [getElem!_pos d j hj, getElem!_pos d i hi] at this
  simpa using this
/-- Rows of the call's own, and rows that are sorted. -/
theorem holds_own {w : World} {B c : Nat} {blk : Nat} {L : List Rt} (h : w.ownsRow B 39 4 (.slice (some ⟨blk, 0, none⟩) L.length c) L.length (rcs L)) : HoldsK rcell 4 w blk 0 L.toArray := by
  intro j hj
  have hj2 : j < L.length * 4 := by simpa using hj
  have e : (rcs L)[j]? = some (flatK rcell 4 L.toArray)[j]! := by
    rw [get_flatK _ _ _ _ (by simpa using hj2)]
    have := rcs_cell L (j / 4) (j % 4) (by omega) (Nat.mod_lt _ (by decide))
    rw [show j / 4 * 4 + j % 4 = j by omega] at this
    rw [this, getElem!_pos L.toArray (j / 4) (by simp; omega)]
    have h4 : j % 4 < (rcell L[j / 4]).length := Nat.mod_lt _ (by decide)
    simp only [List.getElem_toArray]
    rw [List.getElem?_eq_getElem h4, getElem!_pos (rcell L[j / 4]) (j % 4) h4]
  rw [Nat.zero_add]
  exact ⟨(h.cellAt j (by omega)).trans e, h.frozenAt j⟩
theorem row_holds {w : World} {blk : Nat} {L : List Rt} (h : HoldsK rcell 4 w blk 0 L.toArray) (hl : blk < w.heap.size) : Row w (some ⟨blk, 0, none⟩) (rcs L) := by
  refine .inr ⟨blk, 0, rfl, hl, fun j u hu => ?_⟩
  have hj2 : j < L.length * 4 := by rw [← rcs_len]; exact (List.getElem?_eq_some_iff.1 hu).1
  have := (h j (by simpa using hj2)).1
  rw [this]
  rw [get_flatK _ _ _ _ (by simpa using hj2)]
  have e := rcs_cell L (j / 4) (j % 4) (by omega) (Nat.mod_lt _ (by decide))
  rw [show j / 4 * 4 + j % 4 = j by omega, hu] at e
  have h4 : j % 4 < (rcell L[j / 4]).length := Nat.mod_lt _ (by decide)
  rw [getElem!_pos L.toArray (j / 4) (by simp; omega)]
  simp only [List.getElem_toArray]
  rw [List.getElem?_eq_getElem h4] at e
  show some (rcell L[j / 4])[j % 4]! = _
  rw [getElem!_pos (rcell L[j / 4]) (j % 4) h4]
  exact e.symm
end Go.Proofs.Ytcbmeollffkekaa
/-
  Which of this program's functions and types the library's sort.SliceStable is made of. No condition.
-/
set_option linter.unusedSimpArgs false
set_option linter.unusedVariables false
namespace Go.Proofs
open Go.Shelf
def Try.laysStb_ren : Go.Shelf.Ren := ⟨fun | 8 => 14 | 13 => 18 | 14 => 19 | 16 => 21 | 15 => 20 | 29 => 31 | 30 => 32 | 42 => 33 | 49 => 34 | n => n, fun | 20 => 20 | 26 => 43 | 36 => 49 | 0 => 0 | 38 => 51 | 42 => 55 | 3 => 3 | 4 => 4 | 47 => 61 | 17 => 17 | 33 => 46 | 34 => 47 | 89 => 76 | 12 => 12 | 56 => 68 | 82 => 69 | 5 => 5 | 83 => 70 | 84 => 71 | 85 => 72 | 86 => 73 | 87 => 74 | n => n, fun | n => n⟩
theorem Try.laysStb : Go.Proofs.LaysGt.n8 Try.prog Try.laysStb_ren := {
  mixed := by kernel_rfl
  f8 := Try.func14.trans (congrArg some (by kernel_rfl))
  f13 := Try.func18.trans (congrArg some (by kernel_rfl))
  f14 := Try.func19.trans (congrArg some (by kernel_rfl))
  f15 := Try.func20.trans (congrArg some (by kernel_rfl))
  f16 := Try.func21.trans (congrArg some (by kernel_rfl))
  f29 := Try.func31.trans (congrArg some (by kernel_rfl))
  f30 := Try.func32.trans (congrArg some (by kernel_rfl))
  f42 := Try.func33.trans (congrArg some (by kernel_rfl))
  f49 := Try.func34.trans (congrArg some (by kernel_rfl))
  t0 := Try.underlying0
  a0 := Try.isAgg0
  z0 := Try.sizeOf0
  v0 := Try.zeroValue0
  i0 := by kernel_rfl
  t3 := Try.underlying3
  a3 := Try.isAgg3
  z3 := Try.sizeOf3
  v3 := Try.zeroValue3
  i3 := by kernel_rfl
  t4 := Try.underlying4
  a4 := Try.isAgg4
  z4 := Try.sizeOf4
  v4 := Try.zeroValue4
  i4 := by kernel_rfl
  t5 := Try.underlying5
  a5 := Try.isAgg5
  z5 := Try.sizeOf5
  v5 := Try.zeroValue5
  i5 := by kernel_rfl
  t12 := Try.underlying12
  a12 := Try.isAgg12
  z12 := Try.sizeOf12
  v12 := Try.zeroValue12
  i12 := by kernel_rfl
  t17 := Try.underlying17
  a17 := Try.isAgg17
  z17 := Try.sizeOf17
  v17 := Try.zeroValue17
  i17 := by kernel_rfl
  t20 := Try.underlying20
  a20 := Try.isAgg20
  z20 := Try.sizeOf20
  v20 := Try.zeroValue20
  i20 := by kernel_rfl
  t26 := Try.underlying43
  a26 := Try.isAgg43
  z26 := Try.sizeOf43
  v26 := Try.zeroValue43
  i26 := by kernel_rfl
  t33 := Try.underlying46
  a33 := Try.isAgg46
  z33 := Try.sizeOf46
  v33 := Try.zeroValue46
  i33 := by kernel_rfl
  t34 := Try.underlying47
  a34 := Try.isAgg47
  z34 := Try.sizeOf47
  v34 := Try.zeroValue47
  i34 := by kernel_rfl
  t36 := Try.underlying49
  a36 := Try.isAgg49
  z36 := Try.sizeOf49
  v36 := Try.zeroValue49
  i36 := by kernel_rfl
  t38 := Try.underlying51
  a38 := Try.isAgg51
  z38 := Try.sizeOf51
  v38 := Try.zeroValue51
  i38 := by kernel_rfl
  t42 := Try.underlying55
  a42 := Try.isAgg55
  z42 := Try.sizeOf55
  v42 := Try.zeroValue55
  i42 := by kernel_rfl
  t47 := Try.underlying61
  a47 := Try.isAgg61
  z47 := Try.sizeOf61
  v47 := Try.zeroValue61
  i47 := by kernel_rfl
  t56 := Try.underlying68
  a56 := Try.isAgg68
  z56 := Try.sizeOf68
  v56 := Try.zeroValue68
  i56 := by kernel_rfl
  t82 := Try.underlying69
  a82 := Try.isAgg69
  z82 := Try.sizeOf69
  v82 := Try.zeroValue69
  i82 := by kernel_rfl
  t83 := Try.underlying70
  a83 := Try.isAgg70
  z83 := Try.sizeOf70
  v83 := Try.zeroValue70
  i83 := by kernel_rfl
  t84 := Try.underlying71
  a84 := Try.isAgg71
  z84 := Try.sizeOf71
  v84 := Try.zeroValue71
  i84 := by kernel_rfl
  t85 := Try.underlying72
  a85 := Try.isAgg72
  z85 := Try.sizeOf72
  v85 := Try.zeroValue72
  i85 := by kernel_rfl
  t86 := Try.underlying73
  a86 := Try.isAgg73
  z86 := Try.sizeOf73
  v86 := Try.zeroValue73
  i86 := by kernel_rfl
  t87 := Try.underlying74
  a87 := Try.isAgg74
  z87 := Try.sizeOf74
  v87 := Try.zeroValue74
  i87 := by kernel_rfl
  t89 := Try.underlying76
  a89 := Try.isAgg76
  z89 := Try.sizeOf76
  v89 := Try.zeroValue76
  i89 := by kernel_rfl }
end Go.Proofs
/-
  sort.SliceStable at a slice of routes, at a test that may make blocks of its own. No condition but those that stand in each.
-/
set_option linter.unusedSimpArgs false
set_option linter.unusedVariables false
namespace Go.Proofs.Ytcbmeollffkekaa
open Go.RowKit Go.Sort M

set_option maxHeartbeats 1000000 in
theorem stableR_any (g : Nat) (lb : Array Value) (lt : Rt → Rt → Bool) (hO : SWO lt) (eg : ∀ args w, (callFunc g args).run Try.prog w = .ok (.enter g args) w) (blk c : Nat) (L : List Rt) (h2 : 2 ≤ L.length) (hn : L.length < 1152921504606846976) (w : World)
    (hH : HoldsK rcell 4 w blk 0 L.toArray) (hl : blk < w.heap.size) (hL : LessB g lb rcell 4 lt w blk 0 L.length) :
    Calls Try.prog 14 #[.iface 22 (.slice (some ⟨blk, 0, none⟩) L.length c), .func (.func g) #[] lb] w fun e w' => e = .returned (.tuple #[]) ∧
      ∃ M : List Rt, Asc lt M ∧ Stb lt L M ∧ HoldsK rcell 4 w' blk 0 M.toArray ∧ Touch (· = blk) w w' := by
  refine Any.sort_SliceStable_of_stable (P := Try.prog) (ρ := Try.laysStb_ren) Try.laysStb 22 39 rtT rtE (by kernel_rfl) (by kernel_rfl) (by kernel_rfl) (by kernel_rfl) 25 (fun _ => by kernel_rfl) (some ⟨blk, 0, none⟩) L.length c (by omega) 30 (by rw [rtK _ h2]; kernel_rfl) (.func g) #[] lb w _ ?_
  have hB : sliceBound Try.prog 39 rtE 25 (some ⟨blk, 0, none⟩) L.length c = #[.slice (some ⟨blk, 0, none⟩) L.length c, typeHandle Try.prog 39] := by
    unfold sliceBound; rw [if_neg (swapperK_gt _ _ _ h2)]
  rw [hB]
  have hsw := swapSwapsK_of_literal (P := Try.prog) (α := Rt) false 30 (fun args W => run_callFunc_extern Try.func30 (by kernel_rfl) (by kernel_rfl) (by kernel_rfl) (e := Extern.ReflectliteSwapper.swap false) (by kernel_rfl) args W)
    39 rtE (by kernel_rfl) rcell 4 (fun _ => rfl) (by kernel_rfl) (fun _ => by kernel_rfl) rt_one blk 0 L.length c
  have hw1 : RowKit.Below w.heap.size w (stableWorld Try.prog Try.laysStb_ren 22 (some ⟨blk, 0, none⟩) L.length c w) := by unfold stableWorld; go_grown
  have S := (Srt.start (n := L.length) hH hl (by simp)).below hw1
  refine (stable_any (enc := rcell) (k := 4) hO (fun _ => rfl) eg hL hsw hn L rfl _ S).mono ?_
  rintro e w' ⟨rfl, M, h1, h2, hS, hT⟩
  exact ⟨rfl, M, h1, h2, hS.holds, hS.touch⟩
theorem stableR_none (g : Nat) (lb : Array Value) (p : Option Addr) (c n : Nat) (h1 : n ≤ 1) (w : World) :
    Calls Try.prog 14 #[.iface 22 (.slice p n c), .func (.func g) #[] lb] w fun e w' => e = .returned (.tuple #[]) ∧ RowKit.Below w.heap.size w w' := by
  have hgrow : ∀ w' os, w' = grow w os → RowKit.Below w.heap.size w w' := by
    rintro w' os rfl
    refine ⟨rfl, rfl, rfl, by rw [size_grow]; omega, fun j hj => ?_⟩
    show (_ ++ os)[j]? = _
    rw [Array.getElem?_append_left hj]
  rcases (show n = 0 ∨ n = 1 by omega) with rfl | rfl
  · refine (Any.sort_SliceStable_tiny (P := Try.prog) (ρ := Try.laysStb_ren) Try.laysStb 22 39 rtT rtE (by kernel_rfl) (by kernel_rfl) (by kernel_rfl) (by kernel_rfl) 25 (fun _ => by kernel_rfl) p 0 c h1 22 (by kernel_rfl) (.func g) #[] lb w).mono ?_
    rintro e w' ⟨rfl, os, h⟩
    exact ⟨rfl, hgrow w' os h⟩
  · refine (Any.sort_SliceStable_tiny (P := Try.prog) (ρ := Try.laysStb_ren) Try.laysStb 22 39 rtT rtE (by kernel_rfl) (by kernel_rfl) (by kernel_rfl) (by kernel_rfl) 25 (fun _ => by kernel_rfl) p 1 c h1 23 (by kernel_rfl) (.func g) #[] lb w).mono ?_
    rintro e w' ⟨rfl, os, h⟩
    exact ⟨rfl, hgrow w' os h⟩
end Go.Proofs.Ytcbmeollffkekaa
/-
  Plain mathematics: the mixing of words of 64 bits, told step by step, and that no two words are mixed to one. No condition but that the words are words of 64 bits.
-/
set_option linter.unusedSimpArgs false
set_option linter.unusedVariables false
namespace Go.Proofs.Ytcbmeollffkekaa.M

/-- A word and itself, shifted, against each other. -/
def xsh (s x : Nat) : Nat := x ^^^ (x / 2 ^ s)
def mulW (c x : Nat) : Nat := x * c % 2 ^ 64
def addW (c x : Nat) : Nat := (x + c) % 2 ^ 64
/-- What a word is mixed to. -/
def mixN (x : Nat) : Nat := xsh 31 (mulW 10723151780598845931 (xsh 27 (mulW 13787848793156543929 (xsh 30 (addW 11400714819323198485 x)))))
theorem xsh_w (s x : Nat) (h : W64 x) : W64 (xsh s x) := Nat.xor_lt_two_pow h (Nat.lt_of_le_of_lt (Nat.div_le_self _ _) h)
theorem mulW_w (c x : Nat) : W64 (mulW c x) := Nat.mod_lt _ (by decide)
theorem addW_w (c x : Nat) : W64 (addW c x) := Nat.mod_lt _ (by decide)
theorem mixN_w (x : Nat) : W64 (mixN x) := xsh_w _ _ (mulW_w _ _)
theorem xsh_inj (s x y : Nat) (hs : 0 < s) (hx : W64 x) (hy : W64 y) (h : xsh s x = xsh s y) : x = y := by
  have bit : ∀ i, x.testBit i = (y.testBit i ^^ (x.testBit (i + s) ^^ y.testBit (i + s))) := fun i => by
    have e := congrArg (fun z => z.testBit i) h
    simp only [xsh, Nat.testBit_xor, Nat.testBit_div_two_pow] at e
    cases h1 : x.testBit i <;> cases h2 : y.testBit i <;> cases h3 : x.testBit (i + s) <;> cases h4 : y.testBit (i + s) <;> simp_all
  have key : ∀ d i, 64 ≤ i + d → x.testBit i = y.testBit i := by
    intro d
    induction d with
    | zero =>
      intro i hi
      have h2 : (2 : Nat) ^ 64 ≤ 2 ^ i := Nat.pow_le_pow_right (by decide) (by omega)
      rw [Nat.testBit_lt_two_pow (Nat.lt_of_lt_of_le hx h2), Nat.testBit_lt_two_pow (Nat.lt_of_lt_of_le hy h2)]
    | succ d ih =>
      intro i hi
      rw [bit i, ih (i + s) (by omega)]
      cases y.testBit i <;> cases y.testBit (i + s) <;> rfl
  exact Nat.eq_of_testBit_eq fun i => key 64 i (by omega)
theorem mulW_inj (c d x y : Nat) (hcd : c * d % 2 ^ 64 = 1) (hx : W64 x) (hy : W64 y) (h : mulW c x = mulW c y) : x = y := by
  have e : ∀ z, W64 z → mulW c z * d % 2 ^ 64 = z := fun z hz => by
    unfold mulW
    rw [Nat.mod_mul_mod, Nat.mul_assoc, Nat.mul_mod, hcd, Nat.mul_one, Nat.mod_mod, Nat.mod_eq_of_lt hz]
  rw [← e x hx, ← e y hy, h]
theorem addW_inj (c x y : Nat) (hx : W64 x) (hy : W64 y) (h : addW c x = addW c y) : x = y := by
  unfold addW at h
  unfold W64 at hx hy
  omega
/-- No two words are mixed to one. -/
theorem mixN_inj (x y : Nat) (hx : W64 x) (hy : W64 y) (h : mixN x = mixN y) : x = y := by
  unfold mixN at h
  have h1 := xsh_inj 31 _ _ (by decide) (mulW_w _ _) (mulW_w _ _) h
  have h2 := mulW_inj _ 3573116690164977347 _ _ (by decide) (xsh_w _ _ (mulW_w _ _)) (xsh_w _ _ (mulW_w _ _)) h1
  have h3 := xsh_inj 27 _ _ (by decide) (mulW_w _ _) (mulW_w _ _) h2
  have h4 := mulW_inj _ 10871156337175269513 _ _ (by decide) (xsh_w _ _ (addW_w _ _)) (xsh_w _ _ (addW_w _ _)) h3
  have h5 := xsh_inj 30 _ _ (by decide) (addW_w _ _) (addW_w _ _) h4
  exact addW_inj _ _ _ hx hy h5
theorem mixN_zero : mixN 0 = 16294208416658607535 := by decide +kernel
/-- The hash of a prefix. -/
def hashN (seed h l : Nat) (n : Nat) : Nat := mixN (mixN (mixN (seed ^^^ h) ^^^ l) ^^^ n)
end Go.Proofs.Ytcbmeollffkekaa.M
