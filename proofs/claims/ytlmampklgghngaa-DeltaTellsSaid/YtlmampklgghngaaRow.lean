/-
  Rows of prefixes in memory: a list of prefixes as cells, three to each; rows of the call's own, and what is read of them. No condition but those that stand in each.
-/
import Derived.Test.YtlmampklgghngaaM4
import Derived.Test.YtlmampklgghngaaM12
import Derived.WalkKit
import Derived.Maps.AppendAt
/-
  What package spread's raise and Count hand back. No condition but that the words are words of 64 bits.
-/
set_option linter.unusedSimpArgs false
set_option linter.unusedVariables false
namespace Go.Proofs.Ytlmampklgghngaa
open Go.RowKit Go.Sort M

theorem wrap_mod (x : Nat) : IntKind.u64.wrap (x : Int) = ((x % 2 ^ 64 : Nat) : Int) := by
  rw [IntKind.wrap_u64]; omega
theorem wrap_shl (x : Nat) (i : Int) (j : Nat) (h : i.toNat = j) : IntKind.u64.wrap ((x : Int) * 2 ^ i.toNat) = ((x * 2 ^ j % 2 ^ 64 : Nat) : Int) := by
  have e : ((x : Int) * 2 ^ i.toNat) = ((x * 2 ^ j : Nat) : Int) := by rw [h, Int.natCast_mul, Int.natCast_pow]; rfl
  rw [e, wrap_mod]
theorem shr_nat (x : Nat) (i : Int) (j : Nat) (h : i.toNat = j) : ((x : Int) / 2 ^ i.toNat) = ((x / 2 ^ j : Nat) : Int) := by
  rw [h, Int.natCast_ediv, Int.natCast_pow]; rfl
set_option maxHeartbeats 400000 in
theorem raise_any (x : Nat) (k : Nat) (hk : k ≤ 128) :
    Gives Try.prog 56 #[.int .u64 (x : Int), .int .i64 (k : Int)] (.agg #[.int .u64 (raiseH x k : Nat), .int .u64 (raiseL x k : Nat)]) := by
  intro w
  obtain ⟨i, hi⟩ : ∃ i : Int, i = k := ⟨_, rfl⟩
  have HI := Lib.hid hi
  rw [← hi]
  have h0 : 0 ≤ i := by omega
  have h1 : i ≤ 128 := by omega
  clear hi
  by_cases h2 : 64 ≤ i
  · go_enter Try.func56, Try.ntmps56
    go_wp2
    refine bodyPost_ret (by simp [results, Try.results56, go_sem]; try rfl) rfl ?_
    have hk2 := HI.out
    have e1 : raiseH x k = x * 2 ^ (k - 64) % 2 ^ 64 := if_pos (by omega)
    have e2 : raiseL x k = 0 := if_pos (by omega)
    exact ⟨by rw [wrap_shl x (i - 64) (k - 64) (by omega), e1, e2]; rfl, by go_grown⟩
  · go_enter Try.func56, Try.ntmps56
    go_wp2
    go_region
    all_goals go_wp2
    all_goals
      refine bodyPost_ret (by simp [results, Try.results56, go_sem]; try rfl) rfl ?_
      have hk2 := HI.out
      have e1 : raiseH x k = x / 2 ^ (64 - k) := if_neg (by omega)
      have e2 : raiseL x k = x * 2 ^ k % 2 ^ 64 := if_neg (by omega)
      exact ⟨by rw [wrap_shl x i k (by omega), shr_nat x (64 - i) (64 - k) (by omega), e1, e2], by go_grown⟩

def cntN (h l : Nat) (n m : Int) : Nat := if rightB h l n = true ∧ n ≤ m ∧ m ≤ 128 ∧ m - n ≤ 8 then 2 ^ (m - n).toNat else 0
theorem cnt_none {h l : Nat} {n m : Int} (hc : ¬ (rightB h l n = true ∧ n ≤ m ∧ m ≤ 128 ∧ m - n ≤ 8)) : cntN h l n m = 0 := if_neg hc
theorem cnt_some {h l : Nat} {n m : Int} (hc : rightB h l n = true ∧ n ≤ m ∧ m ≤ 128 ∧ m - n ≤ 8) : cntN h l n m = 2 ^ (m - n).toNat := if_pos hc
theorem cnt_le (h l : Nat) (n m : Int) : cntN h l n m ≤ 256 := by
  unfold cntN
  split
  · rename_i hc
    exact Nat.pow_le_pow_right (by decide) (by omega : (m - n).toNat ≤ 8)
  · omega
theorem shr256 (d : Nat) (h : 9 ≤ d) : ((256 : Int) / 2 ^ d) = 0 := by
  have : (256 : Nat) / 2 ^ d = 0 := Nat.div_eq_of_lt (Nat.lt_of_lt_of_le (by decide : 256 < 2 ^ 9) (Nat.pow_le_pow_right (by decide) h))
  have e : ((256 : Int) / 2 ^ d) = ((256 / 2 ^ d : Nat) : Int) := by rw [Int.natCast_ediv, Int.natCast_pow]; rfl
  rw [e, this]; rfl
theorem shr256_ne (d : Nat) (h : d ≤ 8) : ((256 : Int) / 2 ^ d == 0) = false := by
  rcases (show d = 0 ∨ d = 1 ∨ d = 2 ∨ d = 3 ∨ d = 4 ∨ d = 5 ∨ d = 6 ∨ d = 7 ∨ d = 8 by omega) with rfl | rfl | rfl | rfl | rfl | rfl | rfl | rfl | rfl <;> rfl
theorem shl_small (d : Nat) (h : d ≤ 8) : wrap64 (2 ^ d) = ((2 ^ d : Nat) : Int) := by
  rcases (show d = 0 ∨ d = 1 ∨ d = 2 ∨ d = 3 ∨ d = 4 ∨ d = 5 ∨ d = 6 ∨ d = 7 ∨ d = 8 by omega) with rfl | rfl | rfl | rfl | rfl | rfl | rfl | rfl | rfl <;> (unfold wrap64; decide +kernel)
set_option maxHeartbeats 1000000 in
theorem count_any (hi lo : Nat) (n m : Int) (ha : W64 hi) (hb : W64 lo) :
    Gives Try.prog 55 #[.agg #[.int .u64 hi, .int .u64 lo, .int .i64 n], .int .i64 m] (.int .i64 (cntN hi lo n m : Nat)) := by
  intro w
  have hr := right_any hi lo n ha hb
  have hrv := rightB_val hi lo n hb
  cases hR : rightB hi lo n
  · rw [hR] at hr
    rw [cnt_none (by simp [hR])]
    have HR := Lib.hid hr
    clear hr hrv hR
    go_enter Try.func55, Try.ntmps55
    go_wp2_with fail
    refine (HR.out _).mono ?_
    rintro e0 w0 ⟨rfl, hb0⟩
    have hw0 : Below w.heap.size w w0 := by
      refine Below.trans ?_ (hb0.mono ?_)
      · go_grown
      · go_size
    have c2 : w0.cell? ⟨w.heap.size, 2, none⟩ = some (.int .i64 n) := by
      rw [hb0.cell (by simp <;> omega)]
      first | assumption | (simp [go_sem]; done) | (simp [go_sem, *]; done)
    go_wp2
    all_goals
      go_ret
      exact ⟨rfl, by go_grown⟩
  · rw [hR] at hr hrv
    have HR := Lib.hid hr
    obtain ⟨n0, n1, -⟩ := hrv.1 rfl
    clear hr hrv
    by_cases h1 : n ≤ m
    · have d1 : decide (m < n) = false := by simp; omega
      by_cases h2 : m ≤ 128
      · have d2 : decide (128 < m) = false := by simp; omega
        by_cases h3 : m - n ≤ 8
        · rw [cnt_some ⟨hR, h1, h2, h3⟩]
          clear hR
          have s0 := shr256_ne (m - n).toNat (by omega)
          go_enter Try.func55, Try.ntmps55
          go_wp2_with fail
          refine (HR.out _).mono ?_
          rintro e0 w0 ⟨rfl, hb0⟩
          have hw0 : Below w.heap.size w w0 := by
            refine Below.trans ?_ (hb0.mono ?_)
            · go_grown
            · go_size
          have c2 : w0.cell? ⟨w.heap.size, 2, none⟩ = some (.int .i64 n) := by
            rw [hb0.cell (by simp <;> omega)]
            first | assumption | (simp [go_sem]; done) | (simp [go_sem, *]; done)
          go_wp2
          go_ret
          exact ⟨ret_num (shl_small _ (by omega)), by go_grown⟩
        · rw [cnt_none (by omega)]
          clear hR
          have s0 := shr256 (min (m - n).toNat 64) (by omega)
          go_enter Try.func55, Try.ntmps55
          go_wp2_with fail
          refine (HR.out _).mono ?_
          rintro e0 w0 ⟨rfl, hb0⟩
          have hw0 : Below w.heap.size w w0 := by
            refine Below.trans ?_ (hb0.mono ?_)
            · go_grown
            · go_size
          have c2 : w0.cell? ⟨w.heap.size, 2, none⟩ = some (.int .i64 n) := by
            rw [hb0.cell (by simp <;> omega)]
            first | assumption | (simp [go_sem]; done) | (simp [go_sem, *]; done)
          go_wp2
          all_goals
            go_ret
            exact ⟨rfl, by go_grown⟩
      · rw [cnt_none (by omega)]
        clear hR
        go_enter Try.func55, Try.ntmps55
        go_wp2_with fail
        refine (HR.out _).mono ?_
        rintro e0 w0 ⟨rfl, hb0⟩
        have hw0 : Below w.heap.size w w0 := by
          refine Below.trans ?_ (hb0.mono ?_)
          · go_grown
          · go_size
        have c2 : w0.cell? ⟨w.heap.size, 2, none⟩ = some (.int .i64 n) := by
          rw [hb0.cell (by simp <;> omega)]
          first | assumption | (simp [go_sem]; done) | (simp [go_sem, *]; done)
        go_wp2
        all_goals
          go_ret
          exact ⟨rfl, by go_grown⟩
    · rw [cnt_none (by omega)]
      clear hR
      go_enter Try.func55, Try.ntmps55
      go_wp2_with fail
      refine (HR.out _).mono ?_
      rintro e0 w0 ⟨rfl, hb0⟩
      have hw0 : Below w.heap.size w w0 := by
        refine Below.trans ?_ (hb0.mono ?_)
        · go_grown
        · go_size
      have c2 : w0.cell? ⟨w.heap.size, 2, none⟩ = some (.int .i64 n) := by
        rw [hb0.cell (by simp <;> omega)]
        first | assumption | (simp [go_sem]; done) | (simp [go_sem, *]; done)
      go_wp2
      all_goals
        go_ret
        exact ⟨rfl, by go_grown⟩
end Go.Proofs.Ytlmampklgghngaa
/-
  Rows of prefixes in memory: a list of prefixes as cells, three to each; rows of the call's own, and what is read of them. No condition but those that stand in each.
-/
set_option linter.unusedSimpArgs false
set_option linter.unusedVariables false
namespace Go.Proofs.Ytlmampklgghngaa
open Go.RowKit Go.Sort M

/-- The cells of a list of prefixes. -/
def pcell (p : Pf) : List Value := [.int .u64 (hiW p.a : Nat), .int .u64 (loW p.a : Nat), .int .i64 p.n]
def pcs (L : List Pf) : List Value := L.flatMap pcell
theorem pcs_len (L : List Pf) : (pcs L).length = L.length * 3 := by
  unfold pcs
  induction L with
  | nil => rfl
  | cons x L ih => simp only [List.flatMap_cons, List.length_append, ih, pcell, List.length_cons, List.length_nil]; omega
theorem pcs_append (L M : List Pf) : pcs (L ++ M) = pcs L ++ pcs M := by simp [pcs]
theorem pcs_cons (x : Pf) (L : List Pf) : pcs (x :: L) = pcell x ++ pcs L := rfl
theorem pcs_one (p : Pf) : pcs [p] = pcell p := by simp [pcs]
theorem pcs_cell : ∀ (L : List Pf) (k j : Nat) (h : k < L.length), j < 3 → (pcs L)[k * 3 + j]? = (pcell L[k])[j]?
  | x :: L, 0, j, _, hj => by
    rw [pcs_cons, List.getElem?_append_left (by simp [pcell]; omega)]
    simp
  | x :: L, k + 1, j, h, hj => by
    rw [pcs_cons, List.getElem?_append_right (by simp [pcell]; omega), show (k + 1) * 3 + j - (pcell x).length = k * 3 + j by simp [pcell]; omega]
    rw [pcs_cell L k j (by simpa using h) hj]
    simp
theorem pcs_one' (L : List Pf) : ∀ u ∈ pcs L, u.oneCell' = true := by
  intro u hu
  unfold pcs at hu
  rw [List.mem_flatMap] at hu
  obtain ⟨p, -, hp⟩ := hu
  simp only [pcell, List.mem_cons, List.not_mem_nil, or_false] at hp
  rcases hp with rfl | rfl | rfl <;> rfl

/-- A row that 'make' lays, of a length and capacity reckoned. -/
theorem make_row {P : Program} {t e : TypeId} {z : Value} {size bytes : Nat} (ht : P.underlying t = some (.slice e)) (hz : (P.info? e).map (fun i => (i.zero, i.size, i.bytes)) = some (some z, size, bytes)) (c : Nat) (hb : bytes * c ≤ 281474976710656) (hm : c ≤ maxLen) (w : World) :
    (Instr.makeSlice t (.int .i64 (c : Int)) (.int .i64 (c : Int))).run P w = .ok (.slice (some ⟨w.heap.size, 0, none⟩) c c) (w.alloc (.cells (madeCells z.cells (c * size)) e)) := by
  obtain ⟨i0, hi0, iz0, iz1, iz2⟩ := info_parts hz
  have h := run_make (P := P) w t e i0 z ht hi0 iz0 .i64 .i64 c c (by omega) (by omega) (by rw [iz2]; have e : ((bytes * c : Nat) : Int) ≤ 281474976710656 := (by omega); rwa [Int.natCast_mul] at e) (by unfold maxLen at hm; omega)
  rw [Int.toNat_natCast, iz1] at h
  exact h
/-- The cells xs lie at p. -/
def Row (w : World) (p : Option Addr) (xs : List Value) : Prop := xs = [] ∨ ∃ g o, p = some ⟨g, o, none⟩ ∧ g < w.heap.size ∧ ∀ j u, xs[j]? = some u → w.cell? ⟨g, o + j, none⟩ = some u
theorem Row.below {w w' : World} {p : Option Addr} {xs : List Value} (h : Row w p xs) (hb : Below w.heap.size w w') : Row w' p xs := by
  rcases h with h | ⟨g, o, e, hg, hc⟩
  · exact .inl h
  · exact .inr ⟨g, o, e, Nat.lt_of_lt_of_le hg hb.size, fun j u hu => (hb.cell (p := ⟨g, o + j, none⟩) hg).trans (hc j u hu)⟩
theorem Row.of_own {w : World} {B n k c : Nat} {e : TypeId} {p : Option Addr} {xs : List Value} (h : w.ownsRow B e k (.slice p n c) n xs) : Row w p xs := by
  by_cases h0 : xs = []
  · exact .inl h0
  · have hc := fun g hg => h.cells (g := g) hg
    have hl := h.lt
    rcases h.2 with ⟨e, h1⟩ | ⟨g, cap, cur, e, -, -, -, -, -, -⟩
    · exact absurd (List.length_eq_zero_iff.1 (by rw [h.1, h1, Nat.zero_mul])) h0
    · injection e with e1 e2 e3
      subst e1
      refine .inr ⟨g, 0, rfl, (hl g rfl).2, fun j u hu => ?_⟩
      have := hc g rfl j u hu
      rw [Nat.zero_add]
      rwa [show (⟨g, 0, none⟩ : Addr).add j = ⟨g, j, none⟩ by unfold Addr.add; split <;> simp_all] at this
/-- Number k of a row of prefixes. -/
theorem Row.at {w : World} {p : Option Addr} {L : List Pf} (h : Row w p (pcs L)) {k : Nat} (hk : k < L.length) : ∃ g o, p = some ⟨g, o, none⟩ ∧ g < w.heap.size ∧
    w.cell? ⟨g, o + k * 3, none⟩ = some (.int .u64 (hiW L[k].a : Nat)) ∧ w.cell? ⟨g, o + k * 3 + 1, none⟩ = some (.int .u64 (loW L[k].a : Nat)) ∧ w.cell? ⟨g, o + k * 3 + 2, none⟩ = some (.int .i64 L[k].n) := by
  rcases h with h | ⟨g, o, e, hg, hc⟩
  · have := pcs_len L
    rw [h] at this
    simp at this; omega
  · exact ⟨g, o, e, hg, hc (k * 3) _ (pcs_cell L k 0 hk (by omega)), hc (k * 3 + 1) _ (pcs_cell L k 1 hk (by omega)), hc (k * 3 + 2) _ (pcs_cell L k 2 hk (by omega))⟩
/-- Three cells are stored in a row of the call's own. -/
theorem store3 {w : World} {B g n c : Nat} {e : TypeId} {xs : List Value} (h : w.ownsRow B e 3 (.slice (some ⟨g, 0, none⟩) n c) n xs) (k : Nat) (u0 u1 u2 : Value) :
    (((w.setCell ⟨g, k * 3, none⟩ u0).setCell ⟨g, k * 3 + 1, none⟩ u1).setCell ⟨g, k * 3 + 2, none⟩ u2).ownsRow B e 3 (.slice (some ⟨g, 0, none⟩) n c) n (((xs.set (k * 3) u0).set (k * 3 + 1) u1).set (k * 3 + 2) u2) :=
  (((h.stored _ _).1.stored _ _).1.stored _ _).1
theorem set3_take (xs : List Value) (k : Nat) (u0 u1 u2 : Value) (h : k * 3 + 3 ≤ xs.length) : (((xs.set (k * 3) u0).set (k * 3 + 1) u1).set (k * 3 + 2) u2).take ((k + 1) * 3) = xs.take (k * 3) ++ [u0, u1, u2] := by
  apply List.ext_getElem?
  intro i
  rw [List.getElem?_take, List.getElem?_append, List.length_take, Nat.min_eq_left (by omega), List.getElem?_take]
  by_cases h1 : i < k * 3
  · rw [if_pos (by omega), if_pos h1, if_pos h1]
    simp only [List.getElem?_set]
    rw [if_neg (by omega), if_neg (by omega), if_neg (by omega)]
  · rw [if_neg h1]
    by_cases h2 : i < (k + 1) * 3
    · rw [if_pos h2]
      simp only [List.getElem?_set, List.length_set]
      rcases (show i = k * 3 ∨ i = k * 3 + 1 ∨ i = k * 3 + 2 by omega) with rfl | rfl | rfl
      · rw [if_neg (by omega), if_neg (by omega), if_pos rfl, if_pos (by omega)]; simp
      · rw [if_neg (by omega), if_pos rfl, if_pos (by omega)]; simp
      · rw [if_pos rfl, if_pos (by omega)]; simp
    · rw [if_neg h2, List.getElem?_eq_none (by simp; omega)]
/-- The cells of a block that has just been laid. -/
theorem new_cells (w : World) (cs : Array Value) (t : TypeId) : ∀ j u, cs.toList[j]? = some u → (w.alloc (.cells cs t)).cell? ((⟨w.heap.size, 0, none⟩ : Addr).add j) = some u := by
  intro j u hu
  rw [show (⟨w.heap.size, 0, none⟩ : Addr).add j = ⟨w.heap.size, j, none⟩ by unfold Addr.add; split <;> simp_all]
  rw [cell_of_row _ _ j cs t (0, 0) (heap_alloc_new w _)]
  simpa using hu
/-- The keys at one length, as prefixes. -/
def pfs (L : List Nat) (m : Int) : List Pf := L.map fun x => ⟨x, m⟩
theorem pfs_len (L : List Nat) (m : Int) : (pfs L m).length = L.length := by simp [pfs]
theorem pfs_at (L : List Nat) (m : Int) (k : Nat) (h : k < (pfs L m).length) : (pfs L m)[k] = ⟨L[k]'(by rw [pfs_len] at h; exact h), m⟩ := by simp [pfs]
theorem pfs_append (L M : List Nat) (m : Int) : pfs (L ++ M) m = pfs L m ++ pfs M m := by simp [pfs]
theorem Row.at_pfs {w : World} {p : Option Addr} {L : List Nat} {m : Int} (h : Row w p (pcs (pfs L m))) {k : Nat} (hk : k < L.length) : ∃ g o, p = some ⟨g, o, none⟩ ∧ g < w.heap.size ∧
    w.cell? ⟨g, o + k * 3, none⟩ = some (.int .u64 (hiW L[k] : Nat)) ∧ w.cell? ⟨g, o + k * 3 + 1, none⟩ = some (.int .u64 (loW L[k] : Nat)) ∧ w.cell? ⟨g, o + k * 3 + 2, none⟩ = some (.int .i64 m) := by
  have := h.at (k := k) (by rw [pfs_len]; exact hk)
  rwa [pfs_at] at this
/-- An old cell, behind a call that leaves all old memory alone, a new block, and an append to a row that lies elsewhere. -/
theorem keep_app {w0 w1 w4 : World} {O : Obj} {B n k : Nat} {e : TypeId} {v : Value} {xs : List Value} (hb : Below w0.heap.size w0 w1) (hY : (w1.alloc O).ownsRow B e k v n xs) (hg : (w1.alloc O).grownBy w4 v.ownBlock) {g o : Nat} {u : Value}
    (hlt : g < B) (hlt0 : g < w0.heap.size) (c : w0.cell? ⟨g, o, none⟩ = some u) : w4.cell? ⟨g, o, none⟩ = some u := by
  have h1 : w1.cell? ⟨g, o, none⟩ = some u := (hb.cell (p := ⟨g, o, none⟩) hlt0).trans c
  have h2 : (w1.alloc O).cell? ⟨g, o, none⟩ = some u := (World.cell?_alloc_lt w1 O ⟨g, o, none⟩ (Nat.lt_of_lt_of_le hlt0 hb.size)).trans h1
  refine hg.cell h2 fun e => ?_
  have := (hY.lt g e.symm).1
  omega
end Go.Proofs.Ytlmampklgghngaa
