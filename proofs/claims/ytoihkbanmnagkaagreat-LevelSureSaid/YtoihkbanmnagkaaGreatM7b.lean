/-
  Plain mathematics of packed counters: words that hold sixteen of them, how many of them are full. No condition.
-/
import Derived.Test.YtoihkbanmnagkaaGreatRows
import Derived.WalkKit
import Derived.WalkSpells
import Derived.WalkLawsBesides
import Derived.Handy
import Derived.Lib.Hide
import Derived.Test.YtoihkbanmnagkaaGreatReg
import Derived.Maps.AppendAt
/-
  What the functions of package addr, and the reference's answers to them, hand back, for every address, prefix and number. No condition but that the words are words of 64 bits.
-/
set_option linter.unusedSimpArgs false
set_option linter.unusedVariables false
namespace Go.Proofs.YtoihkbanmnagkaaGreat
open Go.RowKit Go.Sort M

def firstN (n : Int) : Nat := (2 ^ 64 - 1) ^^^ ((2 ^ 64 - 1) / 2 ^ n.toNat)
theorem firstN_eq (n : Int) (h0 : 0 ≤ n) : bits BinOp.xor IntKind.u64 IntKind.u64.max (18446744073709551615 / 2 ^ n.toNat) = (firstN n : Int) := by
  obtain ⟨k, rfl⟩ := Int.eq_ofNat_of_zero_le h0
  unfold firstN
  have h2 : (2 ^ 64 - 1) / 2 ^ k < 2 ^ 64 := Nat.lt_of_le_of_lt (Nat.div_le_self _ _) (by decide)
  have e : (18446744073709551615 / 2 ^ (k : Int).toNat : Int) = (((2 ^ 64 - 1) / 2 ^ k : Nat) : Int) := by
    rw [Int.toNat_natCast, Int.natCast_ediv]; simp
  rw [e, show IntKind.u64.max = ((2 ^ 64 - 1 : Nat) : Int) from by decide, bits_xor_u64_nat _ _ (by decide) (by simpa using h2)]
  simp

set_option maxHeartbeats 400000 in
theorem first_any (n : Int) (w : World) (h0 : 0 ≤ n) (h1 : n ≤ 64) :
    Calls Tryz.prog 59 #[.int .i64 n] w fun e w' => e = .returned (.int .u64 (firstN n)) ∧ w = w' := by
  go_enter Tryz.func59, Tryz.ntmps59
  go_wp2
  go_ret
  exact ⟨by show Ending.returned (.int .u64 _) = _; rw [firstN_eq n h0], rfl⟩

theorem shr_and (x k : Nat) (hx : W64 x) : bits BinOp.and IntKind.u64 ((x : Int) / 2 ^ k) 1 = ((x / 2 ^ k &&& 1 : Nat) : Int) := by
  have h2 : x / 2 ^ k < 18446744073709551616 := Nat.lt_of_le_of_lt (Nat.div_le_self _ _) hx.lt
  have e : ((x : Int) / 2 ^ k) = ((x / 2 ^ k : Nat) : Int) := by simp
  rw [e, show (1 : Int) = ((1 : Nat) : Int) from rfl, bits_and_u64_nat _ _ h2 (by decide)]
theorem shr_and_wrap (x k : Nat) (hx : W64 x) : wrap64 (bits BinOp.and IntKind.u64 ((x : Int) / 2 ^ k) 1) = ((x / 2 ^ k &&& 1 : Nat) : Int) := by
  rw [shr_and x k hx, Nat.and_one_is_mod]
  unfold wrap64
  omega

theorem and_first (x : Nat) (m : Int) (hx : W64 x) (h0 : 0 ≤ m) (h1 : m ≤ 64) : bits BinOp.and IntKind.u64 (x : Int) (firstN m) = (cutW x m.toNat : Nat) := by
  have h2 : firstN m < 2 ^ 64 := by
    unfold firstN
    exact Nat.xor_lt_two_pow (by decide) (Nat.lt_of_le_of_lt (Nat.div_le_self _ _) (by decide))
  rw [bits_and_u64_nat _ _ hx.lt (by simpa using h2)]
  unfold firstN
  rw [mask_and x m.toNat hx (by omega)]
theorem cut_eq (hi lo : Nat) (n m k : Int) (ha : W64 hi) (hb : W64 lo) (h0 : 0 ≤ m) (h1 : m ≤ 64) (h2 : 0 ≤ k) (h3 : k ≤ 64) (e1 : m.toNat = min n.toNat 64) (e2 : k.toNat = min (n.toNat - 64) 64) :
    Ending.returned (.agg #[.int .u64 (bits BinOp.and IntKind.u64 (hi : Int) (firstN m)), .int .u64 (bits BinOp.and IntKind.u64 (lo : Int) (firstN k))]) =
      Ending.returned (.agg #[.int .u64 (cutW hi n.toNat : Nat), .int .u64 (cutW lo (n.toNat - 64) : Nat)]) := by
  rw [and_first hi m ha h0 h1, and_first lo k hb h2 h3, e1, e2]
  have g : ∀ x k, cutW x (min k 64) = cutW x k := fun x k => by unfold cutW; rw [show 64 - min k 64 = 64 - k by omega]
  rw [g, g]

set_option maxHeartbeats 400000 in
theorem cut_any (hi lo : Nat) (n : Int) (ha : W64 hi) (hb : W64 lo) :
    Gives Tryz.prog 35 #[.agg #[.int .u64 hi, .int .u64 lo], .int .i64 n] (.agg #[.int .u64 (cutW hi n.toNat), .int .u64 (cutW lo (n.toNat - 64))]) := by
  intro w
  have k0 := cell_regrown (w := (w.alloc (.cells #[.int .u64 hi, .int .u64 lo] 24)).alloc (.cells #[.int .u64 0, .int .u64 0] 24)) (a := ⟨w.heap.size, 0, none⟩) (v := .int .u64 hi) (by simp [go_sem])
  have k1 := cell_regrown (w := (w.alloc (.cells #[.int .u64 hi, .int .u64 lo] 24)).alloc (.cells #[.int .u64 0, .int .u64 0] 24)) (a := ⟨w.heap.size, 1, none⟩) (v := .int .u64 lo) (by simp [go_sem])
  by_cases h1 : n ≤ 0
  · go_enter Tryz.func35, Tryz.ntmps35
    go_wp2_with fail
    have kg := cell_grow
    refine region_tail 14 (by kernel_rfl) (by kernel_rfl) ?_
    simp only [List.take_succ_cons, List.take_zero, List.drop_succ_cons, List.drop_zero]
    repeat (any_goals (first | go_big_quiet_step (first | (go_at_call 59; exact Gives.at (Gives.still fun w => first_any _ w (by omega) (by omega)) _ _ _)) | quiet_step (first | (go_at_call 59; exact Gives.at (Gives.still fun w => first_any _ w (by omega) (by omega)) _ _ _))))
    refine wpQuiet_nil ?_
    clear kg
    intro w1 hb1
    obtain ⟨hc1, hf1⟩ := bcell hb1
    have hw1 : Below w.heap.size w w1 := by
      refine Below.trans ?_ (hb1.mono ?_)
      · go_grown
      · first | omega | go_size
    go_wp2
    refine bodyPost_ret (by simp [results, Tryz.results35, go_sem, hc1, hf1]; try rfl) rfl ?_
    exact ⟨cut_eq hi lo n _ _ ha hb (by omega) (by omega) (by omega) (by omega) (by omega) (by omega), by go_grown⟩
  by_cases h2 : n ≤ 64
  · go_enter Tryz.func35, Tryz.ntmps35
    go_wp2_with fail
    have kg := cell_grow
    refine region_tail 14 (by kernel_rfl) (by kernel_rfl) ?_
    simp only [List.take_succ_cons, List.take_zero, List.drop_succ_cons, List.drop_zero]
    repeat (any_goals (first | go_big_quiet_step (first | (go_at_call 59; exact Gives.at (Gives.still fun w => first_any _ w (by omega) (by omega)) _ _ _)) | quiet_step (first | (go_at_call 59; exact Gives.at (Gives.still fun w => first_any _ w (by omega) (by omega)) _ _ _))))
    refine wpQuiet_nil ?_
    clear kg
    intro w1 hb1
    obtain ⟨hc1, hf1⟩ := bcell hb1
    have hw1 : Below w.heap.size w w1 := by
      refine Below.trans ?_ (hb1.mono ?_)
      · go_grown
      · first | omega | go_size
    go_wp2
    refine bodyPost_ret (by simp [results, Tryz.results35, go_sem, hc1, hf1]; try rfl) rfl ?_
    exact ⟨cut_eq hi lo n _ _ ha hb (by omega) (by omega) (by omega) (by omega) (by omega) (by omega), by go_grown⟩
  by_cases h3 : n ≤ 128
  · go_enter Tryz.func35, Tryz.ntmps35
    go_wp2_with fail
    have kg := cell_grow
    refine region_tail 14 (by kernel_rfl) (by kernel_rfl) ?_
    simp only [List.take_succ_cons, List.take_zero, List.drop_succ_cons, List.drop_zero]
    repeat (any_goals (first | go_big_quiet_step (first | (go_at_call 59; exact Gives.at (Gives.still fun w => first_any _ w (by omega) (by omega)) _ _ _)) | quiet_step (first | (go_at_call 59; exact Gives.at (Gives.still fun w => first_any _ w (by omega) (by omega)) _ _ _))))
    refine wpQuiet_nil ?_
    clear kg
    intro w1 hb1
    obtain ⟨hc1, hf1⟩ := bcell hb1
    have hw1 : Below w.heap.size w w1 := by
      refine Below.trans ?_ (hb1.mono ?_)
      · go_grown
      · first | omega | go_size
    go_wp2
    refine bodyPost_ret (by simp [results, Tryz.results35, go_sem, hc1, hf1]; try rfl) rfl ?_
    exact ⟨cut_eq hi lo n _ _ ha hb (by omega) (by omega) (by omega) (by omega) (by omega) (by omega), by go_grown⟩
  by_cases h4 : 128 < n
  · go_enter Tryz.func35, Tryz.ntmps35
    go_wp2_with fail
    have kg := cell_grow
    refine region_tail 14 (by kernel_rfl) (by kernel_rfl) ?_
    simp only [List.take_succ_cons, List.take_zero, List.drop_succ_cons, List.drop_zero]
    repeat (any_goals (first | go_big_quiet_step (first | (go_at_call 59; exact Gives.at (Gives.still fun w => first_any _ w (by omega) (by omega)) _ _ _)) | quiet_step (first | (go_at_call 59; exact Gives.at (Gives.still fun w => first_any _ w (by omega) (by omega)) _ _ _))))
    refine wpQuiet_nil ?_
    clear kg
    intro w1 hb1
    obtain ⟨hc1, hf1⟩ := bcell hb1
    have hw1 : Below w.heap.size w w1 := by
      refine Below.trans ?_ (hb1.mono ?_)
      · go_grown
      · first | omega | go_size
    go_wp2
    refine bodyPost_ret (by simp [results, Tryz.results35, go_sem, hc1, hf1]; try rfl) rfl ?_
    exact ⟨cut_eq hi lo n _ _ ha hb (by omega) (by omega) (by omega) (by omega) (by omega) (by omega), by go_grown⟩
  omega
end Go.Proofs.YtoihkbanmnagkaaGreat
/-
  Rows of the call's own, behind calls that leave all old memory as it was. No condition but those that stand in each.
-/
set_option linter.unusedSimpArgs false
set_option linter.unusedVariables false
namespace Go.Proofs.YtoihkbanmnagkaaGreat
open Go.RowKit Go.Sort

theorem own_below {B n k : Nat} {e : TypeId} {v : Value} {xs : List Value} {w w' : World} (h : w.ownsRow B e k v n xs) (hb : Below w.heap.size w w') : w'.ownsRow B e k v n xs :=
  h.kept (row := none) ⟨hb.os, hb.tape, hb.output, hb.size, fun j hj _ => hb.block j hj⟩ (by cases hv : v.ownBlock <;> simp)
theorem own_slice {B n k : Nat} {e : TypeId} {v : Value} {xs : List Value} {w : World} (h : w.ownsRow B e k v n xs) : ∃ p cap, v = .slice p n cap := by
  rcases h.2 with ⟨rfl, h0⟩ | ⟨g, cap, _, rfl, _⟩
  · exact ⟨none, 0, by rw [h0]⟩
  · exact ⟨some ⟨g, 0, none⟩, cap, rfl⟩
theorem own_le {B B' n k : Nat} {e : TypeId} {v : Value} {xs : List Value} {w : World} (h : w.ownsRow B e k v n xs) (hb : B' ≤ B) : w.ownsRow B' e k v n xs :=
  ⟨h.1, h.2.elim Or.inl (fun ⟨g, cap, cur, hv, hg, r⟩ => Or.inr ⟨g, cap, cur, hv, Nat.le_trans hb hg, r⟩)⟩
end Go.Proofs.YtoihkbanmnagkaaGreat
/-
  Rows of whole numbers in memory: a list of numbers as cells, one to each; rows of the call's own, and what is read of them. No condition but those that stand in each.
-/
set_option linter.unusedSimpArgs false
set_option linter.unusedVariables false
namespace Go.Proofs.YtoihkbanmnagkaaGreat
open Go.RowKit Go.Sort

def ics (L : List Int) : List Value := L.map fun x => .int .i64 x
theorem ics_len (L : List Int) : (ics L).length = L.length := by simp [ics]
theorem ics_append (L M : List Int) : ics (L ++ M) = ics L ++ ics M := by simp [ics]
theorem ics_cell (L : List Int) (k : Nat) (h : k < L.length) : (ics L)[k]? = some (.int .i64 L[k]) := by simp [ics, h]
theorem set1_take (xs : List Value) (k : Nat) (u : Value) (h : k < xs.length) : (xs.set k u).take (k + 1) = xs.take k ++ [u] := by
  rw [List.take_succ_eq_append_getElem (by rw [List.length_set]; exact h), List.take_set_of_le (Nat.le_refl _)]
  simp
def IRow (w : World) (p : Option Addr) (L : List Int) : Prop := L = [] ∨ ∃ g o, p = some ⟨g, o, none⟩ ∧ g < w.heap.size ∧ ∀ j u, (ics L)[j]? = some u → w.cell? ⟨g, o + j, none⟩ = some u
theorem IRow.below {w w' : World} {p : Option Addr} {L : List Int} (h : IRow w p L) (hb : Below w.heap.size w w') : IRow w' p L := by
  rcases h with h | ⟨g, o, e, hg, hc⟩
  · exact .inl h
  · exact .inr ⟨g, o, e, Nat.lt_of_lt_of_le hg hb.size, fun j u hu => (hb.cell (p := ⟨g, o + j, none⟩) hg).trans (hc j u hu)⟩
theorem IRow.of_own {w : World} {B n c : Nat} {e : TypeId} {p : Option Addr} {L : List Int} (h : w.ownsRow B e 1 (.slice p n c) n (ics L)) : IRow w p L := by
  by_cases h0 : L = []
  · exact .inl h0
  · have hc := fun g hg => h.cells (g := g) hg
    have hl := h.lt
    rcases h.2 with ⟨e, h1⟩ | ⟨g, cap, cur, e, -, -, -, -, -, -⟩
    · have := h.1
      rw [ics_len, h1] at this
      exact absurd (List.length_eq_zero_iff.1 (by omega)) h0
    · injection e with e1 e2 e3
      subst e1
      refine .inr ⟨g, 0, rfl, (hl g rfl).2, fun j u hu => ?_⟩
      have := hc g rfl j u hu
      rw [Nat.zero_add]
      rwa [show (⟨g, 0, none⟩ : Addr).add j = ⟨g, j, none⟩ by unfold Addr.add; split <;> simp_all] at this
theorem IRow.at {w : World} {p : Option Addr} {L : List Int} (h : IRow w p L) {k : Nat} (hk : k < L.length) : ∃ g o, p = some ⟨g, o, none⟩ ∧ g < w.heap.size ∧ w.cell? ⟨g, o + k, none⟩ = some (.int .i64 L[k]) := by
  rcases h with h | ⟨g, o, e, hg, hc⟩
  · rw [h] at hk
    simp at hk
  · exact ⟨g, o, e, hg, hc k _ (ics_cell L k hk)⟩
def GivesInts (f : FuncId) (args : Array Value) (L : List Int) : Prop := ∀ w, Calls Tryz.prog f args w fun e w' => ∃ p c, e = .returned (.slice p L.length c) ∧ w'.ownsRow w.heap.size 3 1 (.slice p L.length c) L.length (ics L) ∧ Below w.heap.size w w'
theorem infoI : (Tryz.prog.info? 3).map (fun i => (i.zero, i.size, i.bytes)) = some (some (.int .i64 0), 1, 8) := by kernel_rfl
end Go.Proofs.YtoihkbanmnagkaaGreat
/-
  Plain mathematics: an address of two words as one number; what is cut, had and ahead, told of that number; the longer prefixes of one, as a row and by doubling. No condition.
-/
set_option linter.unusedSimpArgs false
set_option linter.unusedVariables false
namespace Go.Proofs.YtoihkbanmnagkaaGreat.M

def hiW (a : Nat) : Nat := a / 2 ^ 64
def loW (a : Nat) : Nat := a % 2 ^ 64
def W128 (a : Nat) : Prop := a < 2 ^ 128
theorem W128.hi {a : Nat} (h : W128 a) : W64 (hiW a) := by unfold W128 at h; unfold W64 hiW; omega
theorem W128.lo {a : Nat} : W64 (loW a) := by unfold W64 loW; omega
structure Pf where
  a : Nat
  n : Int
deriving DecidableEq

end Go.Proofs.YtoihkbanmnagkaaGreat.M
/-
  Rows of prefixes in memory: a list of prefixes as cells, three to each; rows of the call's own, and what is read of them. No condition but those that stand in each.
-/
set_option linter.unusedSimpArgs false
set_option linter.unusedVariables false
namespace Go.Proofs.YtoihkbanmnagkaaGreat
open Go.RowKit Go.Sort M

def pcell (p : Pf) : List Value := [.int .u64 (hiW p.a : Nat), .int .u64 (loW p.a : Nat), .int .i64 p.n]
def pcs (L : List Pf) : List Value := L.flatMap pcell
theorem pcs_len (L : List Pf) : (pcs L).length = L.length * 3 := by
  unfold pcs
  induction L with
  | nil => rfl
  | cons x L ih => simp only [List.flatMap_cons, List.length_append, ih, pcell, List.length_cons, List.length_nil]; omega
theorem pcs_cons (x : Pf) (L : List Pf) : pcs (x :: L) = pcell x ++ pcs L := rfl
theorem pcs_cell : ∀ (L : List Pf) (k j : Nat) (h : k < L.length), j < 3 → (pcs L)[k * 3 + j]? = (pcell L[k])[j]?
  | x :: L, 0, j, _, hj => by
    rw [pcs_cons, List.getElem?_append_left (by simp [pcell]; omega)]
    simp
  | x :: L, k + 1, j, h, hj => by
    rw [pcs_cons, List.getElem?_append_right (by simp [pcell]; omega), show (k + 1) * 3 + j - (pcell x).length = k * 3 + j by simp [pcell]; omega]
    rw [pcs_cell L k j (by simpa using h) hj]
    simp
theorem make_row {P : Program} {t e : TypeId} {z : Value} {size bytes : Nat} (ht : P.underlying t = some (.slice e)) (hz : (P.info? e).map (fun i => (i.zero, i.size, i.bytes)) = some (some z, size, bytes)) (c : Nat) (hb : bytes * c ≤ 281474976710656) (hm : c ≤ maxLen) (w : World) :
    (Instr.makeSlice t (.int .i64 (c : Int)) (.int .i64 (c : Int))).run P w = .ok (.slice (some ⟨w.heap.size, 0, none⟩) c c) (w.alloc (.cells (madeCells z.cells (c * size)) e)) := by
  obtain ⟨i0, hi0, iz0, iz1, iz2⟩ := info_parts hz
  have h := run_make (P := P) w t e i0 z ht hi0 iz0 .i64 .i64 c c (by omega) (by omega) (by rw [iz2]; have e : ((bytes * c : Nat) : Int) ≤ 281474976710656 := (by omega); rwa [Int.natCast_mul] at e) (by unfold maxLen at hm; omega)
  rw [Int.toNat_natCast, iz1] at h
  exact h
def Row (w : World) (p : Option Addr) (xs : List Value) : Prop := xs = [] ∨ ∃ g o, p = some ⟨g, o, none⟩ ∧ g < w.heap.size ∧ ∀ j u, xs[j]? = some u → w.cell? ⟨g, o + j, none⟩ = some u
theorem Row.below {w w' : World} {p : Option Addr} {xs : List Value} (h : Row w p xs) (hb : Below w.heap.size w w') : Row w' p xs := by
  rcases h with h | ⟨g, o, e, hg, hc⟩
  · exact .inl h
  · exact .inr ⟨g, o, e, Nat.lt_of_lt_of_le hg hb.size, fun j u hu => (hb.cell (p := ⟨g, o + j, none⟩) hg).trans (hc j u hu)⟩
theorem Row.of_own {w : World} {B n k c : Nat} {e : TypeId} {p : Option Addr} {xs : List Value} (h : w.ownsRow B e k (.slice p n c) n xs) : Row w p xs := by
  by_cases h0 : xs = []
  · exact .inl h0
  · have hc := fun g hg => h.cells (g := g) hg
    have hl := h.lt
    rcases h.2 with ⟨e, h1⟩ | ⟨g, cap, cur, e, -, -, -, -, -, -⟩
    · exact absurd (List.length_eq_zero_iff.1 (by rw [h.1, h1, Nat.zero_mul])) h0
    · injection e with e1 e2 e3
      subst e1
      refine .inr ⟨g, 0, rfl, (hl g rfl).2, fun j u hu => ?_⟩
      have := hc g rfl j u hu
      rw [Nat.zero_add]
      rwa [show (⟨g, 0, none⟩ : Addr).add j = ⟨g, j, none⟩ by unfold Addr.add; split <;> simp_all] at this
theorem Row.at {w : World} {p : Option Addr} {L : List Pf} (h : Row w p (pcs L)) {k : Nat} (hk : k < L.length) : ∃ g o, p = some ⟨g, o, none⟩ ∧ g < w.heap.size ∧
    w.cell? ⟨g, o + k * 3, none⟩ = some (.int .u64 (hiW L[k].a : Nat)) ∧ w.cell? ⟨g, o + k * 3 + 1, none⟩ = some (.int .u64 (loW L[k].a : Nat)) ∧ w.cell? ⟨g, o + k * 3 + 2, none⟩ = some (.int .i64 L[k].n) := by
  rcases h with h | ⟨g, o, e, hg, hc⟩
  · have := pcs_len L
    rw [h] at this
    simp at this; omega
  · exact ⟨g, o, e, hg, hc (k * 3) _ (pcs_cell L k 0 hk (by omega)), hc (k * 3 + 1) _ (pcs_cell L k 1 hk (by omega)), hc (k * 3 + 2) _ (pcs_cell L k 2 hk (by omega))⟩
theorem new_cells (w : World) (cs : Array Value) (t : TypeId) : ∀ j u, cs.toList[j]? = some u → (w.alloc (.cells cs t)).cell? ((⟨w.heap.size, 0, none⟩ : Addr).add j) = some u := by
  intro j u hu
  rw [show (⟨w.heap.size, 0, none⟩ : Addr).add j = ⟨w.heap.size, j, none⟩ by unfold Addr.add; split <;> simp_all]
  rw [cell_of_row _ _ j cs t (0, 0) (heap_alloc_new w _)]
  simpa using hu
end Go.Proofs.YtoihkbanmnagkaaGreat
/-
  Plain mathematics of packed counters and of counted bits: digits in base 16 and 256, words that hold sixteen counters, how many bits of a word are on. No condition.
-/
set_option linter.unusedSimpArgs false
set_option linter.unusedVariables false
namespace Go.Proofs.YtoihkbanmnagkaaGreat
namespace M

def dg (b : Nat) : List Nat → Nat
  | [] => 0
  | a :: l => 2 ^ b * dg b l + a
theorem dg_lt {b : Nat} : ∀ {l : List Nat}, (∀ a ∈ l, a < 2 ^ b) → dg b l < 2 ^ (b * l.length)
  | [], _ => by simp [dg]
  | a :: l, h => by
    have h1 := h a (by simp)
    have h2 := dg_lt (b := b) (l := l) (fun x hx => h x (by simp [hx]))
    rw [List.length_cons, Nat.mul_add, Nat.mul_one, Nat.pow_add]
    show 2 ^ b * dg b l + a < _
    have : 2 ^ b * (dg b l + 1) ≤ 2 ^ b * 2 ^ (b * l.length) := Nat.mul_le_mul_left _ h2
    rw [Nat.mul_add, Nat.mul_one] at this
    rw [Nat.mul_comm (2 ^ (b * l.length))]
    omega
theorem dg_at {b : Nat} : ∀ {l : List Nat} (k : Nat) (hk : k < l.length), (∀ a ∈ l, a < 2 ^ b) → dg b l / 2 ^ (b * k) % 2 ^ b = l[k]
  | a :: l, 0, _, h => by
    have h1 := h a (by simp)
    simp only [Nat.mul_zero, Nat.pow_zero, Nat.div_one, List.getElem_cons_zero]
    show (2 ^ b * dg b l + a) % 2 ^ b = a
    rw [Nat.mul_add_mod, Nat.mod_eq_of_lt h1]
  | a :: l, k + 1, hk, h => by
    have h1 := h a (by simp)
    have h2 := dg_at (b := b) (l := l) k (by simpa using hk) (fun x hx => h x (by simp [hx]))
    rw [Nat.mul_add, Nat.mul_one, Nat.add_comm (b * k), Nat.pow_add, ← Nat.div_div_eq_div_mul]
    show (2 ^ b * dg b l + a) / 2 ^ b / _ % _ = _
    rw [Nat.mul_add_div (Nat.two_pow_pos b), Nat.div_eq_of_lt h1, Nat.add_zero, h2]
    simp
theorem dg_set {b : Nat} : ∀ {l : List Nat} (k v : Nat) (hk : k < l.length), dg b (l.set k v) + l[k] * 2 ^ (b * k) = dg b l + v * 2 ^ (b * k)
  | a :: l, 0, v, _ => by
    show 2 ^ b * dg b l + v + a * _ = 2 ^ b * dg b l + a + v * _
    simp
    omega
  | a :: l, k + 1, v, hk => by
    have h2 := dg_set (b := b) (l := l) k v (by simpa using hk)
    show 2 ^ b * dg b (l.set k v) + a + (a :: l)[k + 1] * _ = 2 ^ b * dg b l + a + v * _
    rw [List.getElem_cons_succ, Nat.mul_add, Nat.mul_one, Nat.add_comm (b * k), Nat.pow_add]
    have : 2 ^ b * (dg b (l.set k v) + l[k]'(by simpa using hk) * 2 ^ (b * k)) = 2 ^ b * (dg b l + v * 2 ^ (b * k)) := by rw [h2]
    rw [Nat.mul_add, Nat.mul_add] at this
    have e1 : ∀ x : Nat, x * (2 ^ b * 2 ^ (b * k)) = 2 ^ b * (x * 2 ^ (b * k)) := fun x => by rw [Nat.mul_left_comm]
    rw [e1, e1]
    omega

theorem and15 (a : Nat) : a &&& 15 = a % 16 := Nat.and_two_pow_sub_one_eq_mod a 4
end M
end Go.Proofs.YtoihkbanmnagkaaGreat
/-
  Plain mathematics of packed counters: words that hold sixteen of them, how many of them are full. No condition.
-/
set_option linter.unusedSimpArgs false
set_option linter.unusedVariables false
namespace Go.Proofs.YtoihkbanmnagkaaGreat
namespace M

def nibL (C : List Nat) (j : Nat) : List Nat := (List.range 16).map fun i => C.getD (16 * j + i) 0
def wordN (C : List Nat) (j : Nat) : Nat := dg 4 (nibL C j)
def wordsN (C : List Nat) : List Nat := (List.range ((C.length + 15) / 16)).map (wordN C)
theorem nibL_len (C : List Nat) (j : Nat) : (nibL C j).length = 16 := by simp [nibL]
theorem nibL_at (C : List Nat) (j i : Nat) (h : i < (nibL C j).length) : (nibL C j)[i] = C.getD (16 * j + i) 0 := by simp [nibL]
theorem getD_lt {C : List Nat} (h : ∀ c ∈ C, c ≤ 15) (i : Nat) : C.getD i 0 < 16 := by
  rw [List.getD_eq_getElem?_getD]
  by_cases hi : i < C.length
  · rw [List.getElem?_eq_getElem hi]
    have := h C[i] (List.getElem_mem hi)
    show C[i] < 16
    omega
  · rw [List.getElem?_eq_none (by omega)]
    decide
theorem nibL_lt {C : List Nat} (h : ∀ c ∈ C, c ≤ 15) (j : Nat) : ∀ a ∈ nibL C j, a < 2 ^ 4 := by
  intro a ha
  unfold nibL at ha
  rw [List.mem_map] at ha
  obtain ⟨i, -, rfl⟩ := ha
  exact getD_lt h _
theorem wordN_lt {C : List Nat} (h : ∀ c ∈ C, c ≤ 15) (j : Nat) : wordN C j < 18446744073709551616 := by
  have := dg_lt (nibL_lt h j)
  rwa [nibL_len] at this
theorem wordN_at {C : List Nat} (h : ∀ c ∈ C, c ≤ 15) (k : Nat) : wordN C (k / 16) / 2 ^ (4 * (k % 16)) % 16 = C.getD k 0 := by
  have hk : k % 16 < (nibL C (k / 16)).length := by rw [nibL_len]; omega
  have := dg_at (k % 16) hk (nibL_lt h (k / 16))
  rw [nibL_at, show 16 * (k / 16) + k % 16 = k by omega] at this
  exact this
theorem getD_set {C : List Nat} {k v i : Nat} (hk : k < C.length) : (C.set k v).getD i 0 = if i = k then v else C.getD i 0 := by
  rw [List.getD_eq_getElem?_getD, List.getElem?_set, List.getD_eq_getElem?_getD]
  split
  · rename_i h
    subst h
    simp [hk]
  · rename_i h
    rw [if_neg (fun e => h e.symm)]
theorem nibL_set (C : List Nat) (k v : Nat) (hk : k < C.length) : nibL (C.set k v) (k / 16) = (nibL C (k / 16)).set (k % 16) v := by
  apply List.ext_getElem
  · rw [List.length_set, nibL_len, nibL_len]
  · intro i h1 h2
    rw [nibL_at, getD_set hk, List.getElem_set]
    have : (16 * (k / 16) + i = k) ↔ (k % 16 = i) := by omega
    by_cases e : k % 16 = i
    · rw [if_pos (this.2 e), if_pos e]
    · rw [if_neg (fun x => e (this.1 x)), if_neg e, nibL_at]
theorem nibL_far (C : List Nat) (k v j : Nat) (hk : k < C.length) (hj : j ≠ k / 16) : nibL (C.set k v) j = nibL C j := by
  unfold nibL
  apply List.map_congr_left
  intro i hi
  rw [List.mem_range] at hi
  rw [getD_set hk, if_neg (by omega)]
theorem wordN_set (C : List Nat) (k v : Nat) (hk : k < C.length) : wordN (C.set k v) (k / 16) + C[k] * 2 ^ (4 * (k % 16)) = wordN C (k / 16) + v * 2 ^ (4 * (k % 16)) := by
  unfold wordN
  rw [nibL_set C k v hk]
  have hl : k % 16 < (nibL C (k / 16)).length := by rw [nibL_len]; omega
  have := dg_set (b := 4) (k % 16) v hl
  rw [nibL_at, show 16 * (k / 16) + k % 16 = k by omega, List.getD_eq_getElem?_getD, List.getElem?_eq_getElem hk] at this
  exact this
theorem wordsN_len (C : List Nat) : (wordsN C).length = (C.length + 15) / 16 := by simp [wordsN]
theorem wordsN_at (C : List Nat) (j : Nat) (h : j < (C.length + 15) / 16) : (wordsN C)[j]? = some (wordN C j) := by simp [wordsN, h]
theorem wordsN_set (C : List Nat) (k v : Nat) (hk : k < C.length) : (wordsN C).set (k / 16) (wordN (C.set k v) (k / 16)) = wordsN (C.set k v) := by
  apply List.ext_getElem?
  intro j
  rw [List.getElem?_set, wordsN_len]
  by_cases hj : j < (C.length + 15) / 16
  · rw [wordsN_at (C.set k v) j (by rw [List.length_set]; exact hj)]
    by_cases e : k / 16 = j
    · rw [if_pos e, if_pos (by omega), e]
    · rw [if_neg e, wordsN_at C j hj]
      unfold wordN
      rw [nibL_far C k v j hk (fun h => e h.symm)]
  · rw [List.getElem?_eq_none (l := wordsN (C.set k v)) (by rw [wordsN_len, List.length_set]; omega)]
    split
    · rw [if_neg (by omega)]
    · rw [List.getElem?_eq_none (by rw [wordsN_len]; omega)]
theorem dg_zero (b : Nat) : ∀ n, dg b (List.replicate n 0) = 0
  | 0 => rfl
  | n + 1 => by
    show 2 ^ b * dg b (List.replicate n 0) + 0 = 0
    rw [dg_zero b n]
    rfl
theorem wordsN_zero (n : Nat) : wordsN (List.replicate n 0) = List.replicate ((n + 15) / 16) 0 := by
  unfold wordsN
  rw [List.length_replicate]
  apply List.ext_getElem?
  intro j
  by_cases hj : j < (n + 15) / 16
  · simp only [List.getElem?_map, List.getElem?_range hj, Option.map_some]
    rw [List.getElem?_replicate, if_pos hj]
    congr 1
    unfold wordN
    rw [show nibL (List.replicate n 0) j = List.replicate 16 0 from ?_, dg_zero]
    apply List.ext_getElem
    · simp [nibL]
    · intro i h1 h2
      rw [nibL_at, List.getElem_replicate, List.getD_eq_getElem?_getD, List.getElem?_replicate]
      split <;> rfl
  · rw [List.getElem?_eq_none (by simp; omega), List.getElem?_eq_none (by simp; omega)]

end M
end Go.Proofs.YtoihkbanmnagkaaGreat
