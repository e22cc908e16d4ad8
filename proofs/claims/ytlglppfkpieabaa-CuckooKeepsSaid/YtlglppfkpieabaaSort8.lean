/-
  sort.Slice at a slice of routes, at a test that may make blocks of its own. No condition but those that stand in each.
-/
import Derived.Test.YtlglppfkpieabaaM1
import Derived.Test.YtlglppfkpieabaaSort
import Derived.Test.YtlglppfkpieabaaSort7
import Derived.Shelf.GgSortFunc.Tiny
/-
  Plain mathematics of buckets: a key, a key with its value, four places; what is put, taken, swapped, found, listed. No condition but those that stand in each.
-/
set_option linter.unusedSimpArgs false
set_option linter.unusedVariables false
namespace Go.Proofs.Ytlglppfkpieabaa
open M

/-- A key: the two words of its address, and its length. -/
structure Ky where
  h : Nat
  l : Nat
  n : Int
deriving DecidableEq
/-- The words of a key are words of 64 bits. -/
def Ky.good (k : Ky) : Prop := W64 k.h ∧ W64 k.l
/-- A key and its value. -/
structure Rt where
  k : Ky
  v : Int
deriving DecidableEq
/-- A place: empty, or a key with its value. -/
abbrev Pl := Option Rt
def hasK (k : Ky) (x : Pl) : Bool :=
  match x with
  | some r => decide (r.k = k)
  | none => false
/-- The first place of a kind, or -1. -/
def idxI (p : Pl → Bool) (C : List Pl) : Int :=
  match C.findIdx? p with
  | some i => (i : Int)
  | none => -1
def putC (C : List Pl) (k : Ky) (v : Int) : Option (List Pl) :=
  match C.findIdx? (hasK k) with
  | some i => some (C.set i (some ⟨k, v⟩))
  | none =>
    match C.findIdx? Option.isNone with
    | some i => some (C.set i (some ⟨k, v⟩))
    | none => none
def takeC (C : List Pl) (k : Ky) : Option (List Pl) :=
  match C.findIdx? (hasK k) with
  | some i => some (C.set i none)
  | none => none
def getC (C : List Pl) (k : Ky) : Option Int :=
  match C.findIdx? (hasK k) with
  | some i => (C.getD i none).map Rt.v
  | none => none
def swapC (C : List Pl) (i : Int) (k : Ky) (v : Int) : Option (Rt × List Pl) :=
  if 0 ≤ i then
    match C.getD i.toNat none with
    | some r => some (r, C.set i.toNat (some ⟨k, v⟩))
    | none => none
  else none
def allC (C : List Pl) : List Rt := C.filterMap id
def xh (x : Pl) : Nat := match x with | some r => r.k.h | none => 0
def xl (x : Pl) : Nat := match x with | some r => r.k.l | none => 0
def xn (x : Pl) : Int := match x with | some r => r.k.n | none => 0
def xv (x : Pl) : Int := match x with | some r => r.v | none => 0
theorem hasK_eq (k : Ky) (x : Pl) : hasK k x = (x.isSome && decide (xh x = k.h ∧ xl x = k.l ∧ xn x = k.n)) := by
  cases x with
  | none => rfl
  | some r =>
    obtain ⟨⟨a, b, c⟩, v⟩ := r
    obtain ⟨d, e, f⟩ := k
    rw [Bool.eq_iff_iff]
    simp [hasK, xh, xl, xn]
    exact decide_eq_true_iff.symm
theorem idx_hit {p : Pl → Bool} {C : List Pl} {i : Nat} (hi : i < C.length) (h : p C[i] = true) (hb : ∀ j (hj : j < C.length), j < i → p C[j] = false) : C.findIdx? p = some i := by
  rw [List.findIdx?_eq_some_iff_getElem]
  exact ⟨hi, h, fun j hj => by simp [hb j (by omega) hj]⟩
theorem idx_miss {p : Pl → Bool} {C : List Pl} (hb : ∀ j (hj : j < C.length), p C[j] = false) : C.findIdx? p = none := by
  rw [List.findIdx?_eq_none_iff]
  intro x hx
  obtain ⟨j, hj, rfl⟩ := List.getElem_of_mem hx
  exact hb j hj
theorem idxI_hit {p : Pl → Bool} {C : List Pl} {i : Nat} (hi : i < C.length) (h : p C[i] = true) (hb : ∀ j (hj : j < C.length), j < i → p C[j] = false) : idxI p C = i := by
  unfold idxI
  rw [idx_hit hi h hb]
theorem idxI_miss {p : Pl → Bool} {C : List Pl} (hb : ∀ j (hj : j < C.length), p C[j] = false) : idxI p C = -1 := by
  unfold idxI
  rw [idx_miss hb]
/-- Either there is a first one, or none. -/
theorem idx_cases (p : Pl → Bool) (C : List Pl) : (∃ i, ∃ hi : i < C.length, C.findIdx? p = some i ∧ idxI p C = i ∧ p C[i] = true) ∨ (C.findIdx? p = none ∧ idxI p C = -1) := by
  cases h : C.findIdx? p with
  | none => exact .inr ⟨rfl, by unfold idxI; rw [h]⟩
  | some i =>
    have := List.findIdx?_eq_some_iff_getElem.1 h
    exact .inl ⟨i, this.1, rfl, by unfold idxI; rw [h], this.2.1⟩
theorem allC_len (C : List Pl) : (allC C).length ≤ C.length := List.length_filterMap_le _ _
/-- The places before number i, listed: one more. -/
theorem allC_snoc (C : List Pl) (i : Nat) (h : i < C.length) : allC (C.take (i + 1)) = allC (C.take i) ++ (C[i]).toList := by
  unfold allC
  rw [List.take_succ_eq_append_getElem h, List.filterMap_append]
  cases C[i] <;> rfl
theorem getC_hit {C : List Pl} {k : Ky} {i : Nat} (hi : i < C.length) (h : C.findIdx? (hasK k) = some i) (hk : hasK k C[i] = true) : getC C k = some (xv C[i]) := by
  unfold getC
  rw [h]
  simp only [List.getD_eq_getElem?_getD, List.getElem?_eq_getElem hi, Option.getD_some]
  cases e : C[i] with
  | none => rw [e] at hk; cases hk
  | some r => rfl
theorem getC_miss {C : List Pl} {k : Ky} (h : C.findIdx? (hasK k) = none) : getC C k = none := by
  unfold getC
  rw [h]
end Go.Proofs.Ytlglppfkpieabaa
/-
  Rows of routes in memory: a list of keys with their values as cells, four to each; rows of the call's own, and what is read of them. No condition but those that stand in each.
-/
set_option linter.unusedSimpArgs false
set_option linter.unusedVariables false
namespace Go.Proofs.Ytlglppfkpieabaa
open Go.RowKit Go.Sort M

def rcell (r : Rt) : List Value := [.int .u64 (r.k.h : Int), .int .u64 (r.k.l : Int), .int .i64 r.k.n, .int .i64 r.v]
def rcs (L : List Rt) : List Value := L.flatMap rcell
theorem rcs_len (L : List Rt) : (rcs L).length = L.length * 4 := by
  unfold rcs
  induction L with
  | nil => rfl
  | cons x L ih => simp only [List.flatMap_cons, List.length_append, ih, rcell, List.length_cons, List.length_nil]; omega
theorem rcs_append (L M : List Rt) : rcs (L ++ M) = rcs L ++ rcs M := by simp [rcs]
theorem rcs_cons (x : Rt) (L : List Rt) : rcs (x :: L) = rcell x ++ rcs L := rfl
theorem rcs_one (p : Rt) : rcs [p] = rcell p := by simp [rcs]
theorem rcs_cell : ∀ (L : List Rt) (k j : Nat) (h : k < L.length), j < 4 → (rcs L)[k * 4 + j]? = (rcell L[k])[j]?
  | x :: L, 0, j, _, hj => by
    rw [rcs_cons, List.getElem?_append_left (by simp [rcell]; omega)]
    simp
  | x :: L, k + 1, j, h, hj => by
    rw [rcs_cons, List.getElem?_append_right (by simp [rcell]; omega), show (k + 1) * 4 + j - (rcell x).length = k * 4 + j by simp [rcell]; omega]
    rw [rcs_cell L k j (by simpa using h) hj]
    simp
theorem rcs_one' (L : List Rt) : ∀ u ∈ rcs L, u.oneCell' = true := by
  intro u hu
  unfold rcs at hu
  rw [List.mem_flatMap] at hu
  obtain ⟨p, -, hp⟩ := hu
  simp only [rcell, List.mem_cons, List.not_mem_nil, or_false] at hp
  rcases hp with rfl | rfl | rfl | rfl <;> rfl
/-- Number k of a row of routes. -/
theorem Row.rt {w : World} {p : Option Addr} {L : List Rt} (h : Row w p (rcs L)) {k : Nat} (hk : k < L.length) : ∃ g o, p = some ⟨g, o, none⟩ ∧ g < w.heap.size ∧
    w.cell? ⟨g, o + k * 4, none⟩ = some (.int .u64 (L[k].k.h : Int)) ∧ w.cell? ⟨g, o + k * 4 + 1, none⟩ = some (.int .u64 (L[k].k.l : Int)) ∧ w.cell? ⟨g, o + k * 4 + 2, none⟩ = some (.int .i64 L[k].k.n) ∧ w.cell? ⟨g, o + k * 4 + 3, none⟩ = some (.int .i64 L[k].v) := by
  rcases h with h | ⟨g, o, e, hg, hc⟩
  · have := rcs_len L
    rw [h] at this
    simp at this; omega
  · exact ⟨g, o, e, hg, hc (k * 4) _ (rcs_cell L k 0 hk (by omega)), hc (k * 4 + 1) _ (rcs_cell L k 1 hk (by omega)), hc (k * 4 + 2) _ (rcs_cell L k 2 hk (by omega)), hc (k * 4 + 3) _ (rcs_cell L k 3 hk (by omega))⟩
/-- A new row of routes. -/
def NewRts (w w' : World) (e : Ending) (L : List Rt) : Prop := ∃ p c, e = .returned (.slice p L.length c) ∧ w'.ownsRow w.heap.size 48 4 (.slice p L.length c) L.length (rcs L) ∧ Below w.heap.size w w'
theorem infoR : (Try.prog.info? 48).map (fun i => (i.zero, i.size, i.bytes)) = some (some (.agg #[.int .u64 0, .int .u64 0, .int .i64 0, .int .i64 0]), 4, 32) := by kernel_rfl
/-- Four new cells, at the head of their block. -/
theorem four_new {w : World} {g : Nat} {a b c d : Value} (h0 : w.cell? ⟨g, 0, none⟩ = some a) (h1 : w.cell? ⟨g, 1, none⟩ = some b) (h2 : w.cell? ⟨g, 2, none⟩ = some c) (h3 : w.cell? ⟨g, 3, none⟩ = some d) :
    ∀ j u, [a, b, c, d][j]? = some u → w.cell? ((⟨g, 0, none⟩ : Addr).add j) = some u := by
  intro j u hj
  have hlt : j < 4 := (List.getElem?_eq_some_iff.1 hj).1
  have he : (⟨g, 0, none⟩ : Addr).add j = ⟨g, j, none⟩ := by unfold Addr.add; split <;> simp_all
  rw [he]
  rcases (show j = 0 ∨ j = 1 ∨ j = 2 ∨ j = 3 by omega) with rfl | rfl | rfl | rfl <;> (simp only [List.getElem?_cons_zero, List.getElem?_cons_succ, Option.some.injEq] at hj; subst hj; assumption)
theorem own_rsnoc {w : World} {B n : Nat} {e : TypeId} {v : Value} {L : List Rt} {x : Rt} (h : w.ownsRow B e 4 v (n + 1) (rcs L ++ rcell x)) (hn : n = L.length) : w.ownsRow B e 4 v (L ++ [x]).length (rcs (L ++ [x])) := by
  rw [rcs_append, rcs_one, List.length_append, ← hn]
  exact h
end Go.Proofs.Ytlglppfkpieabaa
/-
  sort.Slice at a slice of routes, at a test that may make blocks of its own. No condition but those that stand in each.
-/
set_option linter.unusedSimpArgs false
set_option linter.unusedVariables false
namespace Go.Proofs.Ytlglppfkpieabaa
open Go.RowKit Go.Sort M

instance : Inhabited Rt := ⟨⟨⟨0, 0, 0⟩, 0⟩⟩
noncomputable def rtT : TypeInfo := (Try.prog.info? 43).get (by kernel_rfl)
noncomputable def rtE : TypeInfo := (Try.prog.info? 48).get (by kernel_rfl)
theorem rtK (n : Nat) (h2 : 2 ≤ n) : Lib.swapperK n rtE 25 = 9 := by
  have a : rtE.hasPointers = false := by kernel_rfl
  have b : rtE.bytes = 32 := by kernel_rfl
  have c : (n == 0) = false := by simp; omega
  have d : (n == 1) = false := by simp; omega
  unfold Lib.swapperK
  rw [c, d, a, b]
  rfl
theorem rt_one : ∀ x : Rt, ∀ v ∈ rcell x, v.oneCell' = true := by
  intro x v hv
  simp only [rcell, List.mem_cons, List.not_mem_nil, or_false] at hv
  rcases hv with rfl | rfl | rfl | rfl <;> rfl
theorem perm_list {α : Type} [Inhabited α] {L : List α} {d : Array α} (h : PermIn 0 L.length L.toArray d) : d.toList.Perm L := by
  obtain ⟨h1, -, h3⟩ := h
  have e1 : d.extract 0 L.length = d := by
    have : L.length = d.size := by rw [h1]; simp
    rw [this]
    simp
  have e2 : L.toArray.extract 0 L.length = L.toArray := by
    have : L.length = L.toArray.size := by simp
    rw [this]
    simp
  rw [e1, e2] at h3
  simpa using h3
theorem sorted_list {α : Type} [Inhabited α] {lt : α → α → Bool} {d : Array α} {n : Nat} (hn : d.size = n) (h : SortedIn lt 0 n d) : d.toList.Pairwise fun a b => lt b a = false := by
  rw [List.pairwise_iff_getElem]
  intro i j hi hj hij
  simp only [Array.length_toList] at hi hj
  have := h i j (Nat.zero_le _) hij (by omega)
  rw [getElem!_pos d j hj, getElem!_pos d i hi] at this
  simpa using this
set_option maxHeartbeats 1000000 in
theorem sliceR_any (g : Nat) (lb : Array Value) (lt : Rt → Rt → Bool) (hO : SWO lt) (eg : ∀ args w, (callFunc g args).run Try.prog w = .ok (.enter g args) w) (blk c : Nat) (L : List Rt) (h2 : 2 ≤ L.length) (hn : L.length < 4611686018427387904) (w : World)
    (hH : HoldsK rcell 4 w blk 0 L.toArray) (hl : blk < w.heap.size) (hL : LessB g lb rcell 4 lt w blk 0 L.length) :
    Calls Try.prog 46 #[.iface 43 (.slice (some ⟨blk, 0, none⟩) L.length c), .func (.func g) #[] lb] w fun e w' => e = .returned (.tuple #[]) ∧
      ∃ M : List Rt, M.Perm L ∧ M.Pairwise (fun a b => lt b a = false) ∧ HoldsK rcell 4 w' blk 0 M.toArray ∧ Touch (· = blk) w w' := by
  refine Any.sort_Slice_of_pdq (P := Try.prog) (ρ := Try.laysGg6_ren) Try.laysGg6 43 48 rtT rtE (by kernel_rfl) (by kernel_rfl) (by kernel_rfl) (by kernel_rfl) 25 (fun _ => by kernel_rfl) (some ⟨blk, 0, none⟩) L.length c hn 84 (by rw [rtK _ h2]; kernel_rfl) (.func g) #[] lb w _ ?_
  have hB : sliceBound Try.prog 48 rtE 25 (some ⟨blk, 0, none⟩) L.length c = #[.slice (some ⟨blk, 0, none⟩) L.length c, typeHandle Try.prog 48] := by
    unfold sliceBound; rw [if_neg (swapperK_gt _ _ _ h2)]
  rw [hB]
  have hlim : Lib.bitLen L.length < 4611686018427387904 := Nat.lt_of_le_of_lt (Lib.bitLen_le L.length 62 (by omega) (by omega)) (by omega)
  have hsw := swapSwapsK_of_literal (P := Try.prog) (α := Rt) false 84 (fun args W => run_callFunc_extern Try.func84 (by kernel_rfl) (by kernel_rfl) (by kernel_rfl) (e := Extern.ReflectliteSwapper.swap false) (by kernel_rfl) args W)
    48 rtE (by kernel_rfl) rcell 4 (fun _ => rfl) (by kernel_rfl) (fun _ => by kernel_rfl) rt_one blk 0 L.length c
  have hw1 : RowKit.Below w.heap.size w (sliceWorld Try.prog Try.laysGg6_ren 43 (some ⟨blk, 0, none⟩) L.length c w) := by unfold sliceWorld; go_grown
  have S := (Srt.start (n := L.length) hH hl (by simp)).below hw1
  refine (pdq_any (enc := rcell) (k := 4) (fun _ => rfl) hO eg hL hsw hn (L.length + 1) 0 L.length (Lib.bitLen L.length) L.toArray _ (by omega) (Nat.zero_le _) (Nat.le_refl _) hlim (.inl rfl) S).mono ?_
  rintro e w' ⟨rfl, hS, hT⟩
  have h := pdq_sorts lt hO L.toArray 0 L.length (Lib.bitLen L.length) true true (Nat.zero_le _) (by simp) (.inl rfl)
  exact ⟨rfl, _, perm_list h.1, sorted_list (by rw [h.1.1]; simp) h.2, hS.holds, hS.touch⟩
theorem sliceR_none (g : Nat) (lb : Array Value) (p : Option Addr) (c n : Nat) (h1 : n ≤ 1) (w : World) :
    Calls Try.prog 46 #[.iface 43 (.slice p n c), .func (.func g) #[] lb] w fun e w' => e = .returned (.tuple #[]) ∧ RowKit.Below w.heap.size w w' := by
  have hgrow : ∀ w' os, w' = grow w os → RowKit.Below w.heap.size w w' := by
    rintro w' os rfl
    refine ⟨rfl, rfl, rfl, by rw [size_grow]; omega, fun j hj => ?_⟩
    show (_ ++ os)[j]? = _
    rw [Array.getElem?_append_left hj]
  rcases (show n = 0 ∨ n = 1 by omega) with rfl | rfl
  · refine (Any.sort_Slice_tiny (P := Try.prog) (ρ := Try.laysGg6_ren) Try.laysGg6 43 48 rtT rtE (by kernel_rfl) (by kernel_rfl) (by kernel_rfl) (by kernel_rfl) 25 (fun _ => by kernel_rfl) p 0 c h1 76 (by kernel_rfl) (.func g) #[] lb w).mono ?_
    rintro e w' ⟨rfl, os, h⟩
    exact ⟨rfl, hgrow w' os h⟩
  · refine (Any.sort_Slice_tiny (P := Try.prog) (ρ := Try.laysGg6_ren) Try.laysGg6 43 48 rtT rtE (by kernel_rfl) (by kernel_rfl) (by kernel_rfl) (by kernel_rfl) 25 (fun _ => by kernel_rfl) p 1 c h1 77 (by kernel_rfl) (.func g) #[] lb w).mono ?_
    rintro e w' ⟨rfl, os, h⟩
    exact ⟨rfl, hgrow w' os h⟩
/-- Rows of the call's own, and rows that are sorted. -/
theorem holds_own {w : World} {B c : Nat} {blk : Nat} {L : List Rt} (h : w.ownsRow B 48 4 (.slice (some ⟨blk, 0, none⟩) L.length c) L.length (rcs L)) : HoldsK rcell 4 w blk 0 L.toArray := by
  intro j hj
  have hj2 : j < L.length * 4 := by simpa using hj
  have e : (rcs L)[j]? = some (flatK rcell 4 L.toArray)[j]! := by
    rw [get_flatK _ _ _ _ (by simpa using hj2)]
    have := rcs_cell L (j / 4) (j % 4) (by omega) (Nat.mod_lt _ (by decide))
    rw [show j / 4 * 4 + j % 4 = j by omega] at this
    rw [this, getElem!_pos L.toArray (j / 4) (by simp; omega)]
    have h4 : j % 4 < (rcell L[j / 4]).length := Nat.mod_lt _ (by decide)
    simp only [List.getElem_toArray]
    rw [List.getElem?_eq_getElem h4, getElem!_pos (rcell L[j / 4]) (j % 4) h4]
  rw [Nat.zero_add]
  exact ⟨(h.cellAt j (by omega)).trans e, h.frozenAt j⟩
theorem row_holds {w : World} {blk : Nat} {L : List Rt} (h : HoldsK rcell 4 w blk 0 L.toArray) (hl : blk < w.heap.size) : Row w (some ⟨blk, 0, none⟩) (rcs L) := by
  refine .inr ⟨blk, 0, rfl, hl, fun j u hu => ?_⟩
  have hj2 : j < L.length * 4 := by rw [← rcs_len]; exact (List.getElem?_eq_some_iff.1 hu).1
  have := (h j (by simpa using hj2)).1
  rw [this]
  rw [get_flatK _ _ _ _ (by simpa using hj2)]
  have e := rcs_cell L (j / 4) (j % 4) (by omega) (Nat.mod_lt _ (by decide))
  rw [show j / 4 * 4 + j % 4 = j by omega, hu] at e
  have h4 : j % 4 < (rcell L[j / 4]).length := Nat.mod_lt _ (by decide)
  rw [getElem!_pos L.toArray (j / 4) (by simp; omega)]
  simp only [List.getElem_toArray]
  rw [List.getElem?_eq_getElem h4] at e
  show some (rcell L[j / 4])[j % 4]! = _
  rw [getElem!_pos (rcell L[j / 4]) (j % 4) h4]
  exact e.symm
end Go.Proofs.Ytlglppfkpieabaa
