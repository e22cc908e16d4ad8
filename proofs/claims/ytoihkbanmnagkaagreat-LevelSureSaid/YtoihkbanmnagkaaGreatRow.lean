/-
  Rows of prefixes in memory: a list of prefixes as cells, three to each; rows of the call's own, and what is read of them. No condition but those that stand in each.
-/
import Derived.Test.YtoihkbanmnagkaaGreatOwn
import Derived.WalkKit
import Derived.Maps.AppendAt
/-
  Rows of whole numbers in memory: a list of numbers as cells, one to each; rows of the call's own, and what is read of them. No condition but those that stand in each.
-/
set_option linter.unusedSimpArgs false
set_option linter.unusedVariables false
namespace Go.Proofs.YtoihkbanmnagkaaGreat
open Go.RowKit Go.Sort

/-- The cells of a list of numbers. -/
def ics (L : List Int) : List Value := L.map fun x => .int .i64 x
theorem ics_len (L : List Int) : (ics L).length = L.length := by simp [ics]
theorem ics_append (L M : List Int) : ics (L ++ M) = ics L ++ ics M := by simp [ics]
theorem ics_one (x : Int) : ics [x] = [.int .i64 x] := rfl
theorem ics_cell (L : List Int) (k : Nat) (h : k < L.length) : (ics L)[k]? = some (.int .i64 L[k]) := by simp [ics, h]
theorem ics_one' (L : List Int) : ∀ u ∈ ics L, u.oneCell' = true := by
  intro u hu
  unfold ics at hu
  rw [List.mem_map] at hu
  obtain ⟨p, -, rfl⟩ := hu
  rfl
theorem set1_take (xs : List Value) (k : Nat) (u : Value) (h : k < xs.length) : (xs.set k u).take (k + 1) = xs.take k ++ [u] := by
  rw [List.take_succ_eq_append_getElem (by rw [List.length_set]; exact h), List.take_set_of_le (Nat.le_refl _)]
  simp
/-- The cells xs lie at p. -/
def IRow (w : World) (p : Option Addr) (L : List Int) : Prop := L = [] ∨ ∃ g o, p = some ⟨g, o, none⟩ ∧ g < w.heap.size ∧ ∀ j u, (ics L)[j]? = some u → w.cell? ⟨g, o + j, none⟩ = some u
theorem IRow.below {w w' : World} {p : Option Addr} {L : List Int} (h : IRow w p L) (hb : Below w.heap.size w w') : IRow w' p L := by
  rcases h with h | ⟨g, o, e, hg, hc⟩
  · exact .inl h
  · exact .inr ⟨g, o, e, Nat.lt_of_lt_of_le hg hb.size, fun j u hu => (hb.cell (p := ⟨g, o + j, none⟩) hg).trans (hc j u hu)⟩
theorem IRow.of_own {w : World} {B n c : Nat} {e : TypeId} {p : Option Addr} {L : List Int} (h : w.ownsRow B e 1 (.slice p n c) n (ics L)) : IRow w p L := by
  by_cases h0 : L = []
  · exact .inl h0
  · have hc := fun g hg => h.cells (g := g) hg
    have hl := h.lt
    rcases h.2 with ⟨e, h1⟩ | ⟨g, cap, cur, e, -, -, -, -, -, -⟩
    · have := h.1
      rw [ics_len, h1] at this
      exact absurd (List.length_eq_zero_iff.1 (by omega)) h0
    · injection e with e1 e2 e3
      subst e1
      refine .inr ⟨g, 0, rfl, (hl g rfl).2, fun j u hu => ?_⟩
      have := hc g rfl j u hu
      rw [Nat.zero_add]
      rwa [show (⟨g, 0, none⟩ : Addr).add j = ⟨g, j, none⟩ by unfold Addr.add; split <;> simp_all] at this
/-- Number k of a row. -/
theorem IRow.at {w : World} {p : Option Addr} {L : List Int} (h : IRow w p L) {k : Nat} (hk : k < L.length) : ∃ g o, p = some ⟨g, o, none⟩ ∧ g < w.heap.size ∧ w.cell? ⟨g, o + k, none⟩ = some (.int .i64 L[k]) := by
  rcases h with h | ⟨g, o, e, hg, hc⟩
  · rw [h] at hk
    simp at hk
  · exact ⟨g, o, e, hg, hc k _ (ics_cell L k hk)⟩
/-- What a function that hands back a new row of numbers does. -/
def GivesInts (f : FuncId) (args : Array Value) (L : List Int) : Prop := ∀ w, Calls Tryz.prog f args w fun e w' => ∃ p c, e = .returned (.slice p L.length c) ∧ w'.ownsRow w.heap.size 3 1 (.slice p L.length c) L.length (ics L) ∧ Below w.heap.size w w'
theorem infoI : (Tryz.prog.info? 3).map (fun i => (i.zero, i.size, i.bytes)) = some (some (.int .i64 0), 1, 8) := by kernel_rfl
/-- One new cell, at the head of its block. -/
theorem one_new {w : World} {g : Nat} {v : Value} (h : w.cell? ⟨g, 0, none⟩ = some v) : ∀ j u, [v][j]? = some u → w.cell? ((⟨g, 0, none⟩ : Addr).add j) = some u := by
  intro j u hj
  match j, hj with
  | 0, hj => simp only [List.getElem?_cons_zero, Option.some.injEq] at hj; subst hj; simpa [Addr.add] using h
theorem own_isnoc {w : World} {B n : Nat} {e : TypeId} {v : Value} {L : List Int} {x : Int} (h : w.ownsRow B e 1 v (n + 1) (ics L ++ [.int .i64 x])) (hn : n = L.length) : w.ownsRow B e 1 v (L ++ [x]).length (ics (L ++ [x])) := by
  rw [ics_append, ics_one, List.length_append, ← hn]
  exact h

end Go.Proofs.YtoihkbanmnagkaaGreat
/-
  Plain mathematics: an address of two words as one number; what is cut, had and ahead, told of that number; the longer prefixes of one, as a row and by doubling. No condition.
-/
set_option linter.unusedSimpArgs false
set_option linter.unusedVariables false
namespace Go.Proofs.YtoihkbanmnagkaaGreat.M

/-- An address of two words as one number, and its words. -/
def val (h l : Nat) : Nat := h * 2 ^ 64 + l
def hiW (a : Nat) : Nat := a / 2 ^ 64
def loW (a : Nat) : Nat := a % 2 ^ 64
/-- A number of 128 bits; a plain word for the walks. -/
def W128 (a : Nat) : Prop := a < 2 ^ 128
theorem hi_val (h l : Nat) (b : W64 l) : hiW (val h l) = h := by unfold hiW val; unfold W64 at b; omega
theorem lo_val (h l : Nat) (b : W64 l) : loW (val h l) = l := by unfold loW val; unfold W64 at b; omega
theorem val_hl (a : Nat) : val (hiW a) (loW a) = a := by unfold val hiW loW; omega
theorem W128.hi {a : Nat} (h : W128 a) : W64 (hiW a) := by unfold W128 at h; unfold W64 hiW; omega
theorem W128.lo {a : Nat} : W64 (loW a) := by unfold W64 loW; omega
theorem W64.val {h l : Nat} (a : W64 h) (b : W64 l) : W128 (val h l) := by unfold W128 M.val; unfold W64 at a b; omega
theorem val_inj {h l h2 l2 : Nat} (b : W64 l) (d : W64 l2) (e : val h l = val h2 l2) : h = h2 ∧ l = l2 := by
  unfold val at e; unfold W64 at b d; omega
theorem hl_inj {a b : Nat} (h : hiW a = hiW b) (l : loW a = loW b) : a = b := by
  rw [← val_hl a, ← val_hl b, h, l]

theorem val_div_hi (h l k : Nat) (b : W64 l) : val h l / 2 ^ (64 + k) = h / 2 ^ k := by
  rw [Nat.pow_add, ← Nat.div_div_eq_div_mul]
  congr 1
  exact hi_val h l b
theorem val_div_lo (h l k : Nat) (hk : k ≤ 64) : val h l / 2 ^ k = h * 2 ^ (64 - k) + l / 2 ^ k := by
  unfold val
  rw [show (2 : Nat) ^ 64 = 2 ^ (64 - k) * 2 ^ k by rw [← Nat.pow_add]; congr 1; omega, ← Nat.mul_assoc, Nat.add_comm, Nat.add_mul_div_right _ _ (Nat.two_pow_pos k), Nat.add_comm]
/-- What is cut, as one number. -/
theorem val_cut (h l n : Nat) (b : W64 l) (hn : n ≤ 128) : val (cutW h n) (cutW l (n - 64)) = val h l / 2 ^ (128 - n) * 2 ^ (128 - n) := by
  by_cases h1 : n ≤ 64
  · rw [show n - 64 = 0 by omega, cutW_zero l b, show 128 - n = 64 + (64 - n) by omega, val_div_hi h l _ b]
    unfold val cutW
    rw [Nat.add_zero, Nat.mul_assoc, ← Nat.pow_add, Nat.add_comm]
  · rw [cutW_full h n (by omega), val_div_lo h l _ (by omega)]
    unfold val cutW
    rw [show 64 - (n - 64) = 128 - n by omega, Nat.add_mul, Nat.mul_assoc, ← Nat.pow_add]
    congr 3
    omega
theorem cut_iff (h l h2 l2 n : Nat) (b : W64 l) (d : W64 l2) (hn : n ≤ 128) : (cutW h n = h2 ∧ cutW l (n - 64) = l2) ↔ val h l / 2 ^ (128 - n) * 2 ^ (128 - n) = val h2 l2 := by
  rw [← val_cut h l n b hn]
  exact ⟨fun ⟨e1, e2⟩ => by rw [e1, e2], fun e => val_inj (b.cut _) d e⟩
theorem dvd_iff (x y : Nat) : x / y * y = x ↔ y ∣ x := Nat.dvd_iff_div_mul_eq x y |>.symm
/-- A prefix, told of the one number. -/
theorem rightB_val (h l : Nat) (n : Int) (b : W64 l) : rightB h l n = true ↔ 0 ≤ n ∧ n ≤ 128 ∧ 2 ^ (128 - n.toNat) ∣ val h l := by
  rw [rightB_iff]
  constructor
  · rintro ⟨h0, h1, h2⟩
    refine ⟨h0, h1, ?_⟩
    rw [← dvd_iff, ← (cut_iff h l h l n.toNat b b (by omega))]
    exact h2
  · rintro ⟨h0, h1, h2⟩
    refine ⟨h0, h1, ?_⟩
    rw [cut_iff h l h l n.toNat b b (by omega), dvd_iff]
    exact h2
theorem hasB_val (h l : Nat) (n : Int) (x y : Nat) (b : W64 l) (d : W64 y) : hasB h l n x y = true ↔ rightB h l n = true ∧ val x y / 2 ^ (128 - n.toNat) = val h l / 2 ^ (128 - n.toNat) := by
  rw [hasB_iff]
  constructor
  · rintro ⟨h0, h1⟩
    have h2 := h0
    rw [rightB_val h l n b] at h2
    obtain ⟨e0, e1, e2⟩ := h2
    rw [cut_iff x y h l n.toNat d b (by omega)] at h1
    refine ⟨h0, ?_⟩
    rw [← h1, Nat.mul_div_cancel _ (Nat.two_pow_pos _)]
  · rintro ⟨h0, h1⟩
    have h2 := h0
    rw [rightB_val h l n b] at h2
    obtain ⟨e0, e1, e2⟩ := h2
    refine ⟨h0, ?_⟩
    rw [cut_iff x y h l n.toNat d b (by omega), h1, dvd_iff]
    exact e2
theorem lessB_val (h1 l1 : Nat) (n1 : Int) (h2 l2 : Nat) (n2 : Int) (b : W64 l1) (d : W64 l2) : lessB h1 l1 n1 h2 l2 n2 = true ↔ val h1 l1 < val h2 l2 ∨ val h1 l1 = val h2 l2 ∧ n1 < n2 := by
  rw [lessB_iff]
  unfold val
  unfold W64 at b d
  omega

/-- A prefix as one number and its length. -/
structure Pf where
  a : Nat
  n : Int
deriving DecidableEq

theorem or_add (x y k : Nat) (hx : 2 ^ k ∣ x) (hy : y < 2 ^ k) : x ||| y = x + y := by
  obtain ⟨q, rfl⟩ := hx
  exact (Nat.two_pow_add_eq_or_of_lt hy q).symm
theorem hi_or (x y : Nat) : hiW (x ||| y) = hiW x ||| hiW y := by
  unfold hiW
  apply Nat.eq_of_testBit_eq; intro i
  rw [Nat.testBit_or, Nat.testBit_div_two_pow, Nat.testBit_div_two_pow, Nat.testBit_div_two_pow, Nat.testBit_or]
theorem lo_or (x y : Nat) : loW (x ||| y) = loW x ||| loW y := by
  unfold loW
  apply Nat.eq_of_testBit_eq; intro i
  simp only [Nat.testBit_mod_two_pow, Nat.testBit_or]
  by_cases h : i < 64 <;> simp [h]
/-- x with k bits behind it, its two words. -/
def raiseH (x k : Nat) : Nat := if 64 ≤ k then x * 2 ^ (k - 64) % 2 ^ 64 else x / 2 ^ (64 - k)
def raiseL (x k : Nat) : Nat := if 64 ≤ k then 0 else x * 2 ^ k % 2 ^ 64
theorem raise_hi (x k : Nat) (h : x * 2 ^ k < 2 ^ 128) : raiseH x k = hiW (x * 2 ^ k) := by
  unfold raiseH hiW
  by_cases h1 : 64 ≤ k
  · rw [if_pos h1]
    have e : 2 ^ k = 2 ^ (k - 64) * 2 ^ 64 := by rw [← Nat.pow_add]; congr 1; omega
    rw [e, ← Nat.mul_assoc] at h
    rw [e, ← Nat.mul_assoc, Nat.mul_div_cancel _ (by decide), Nat.mod_eq_of_lt (by omega)]
  · rw [if_neg h1]
    have e : (2 : Nat) ^ 64 = 2 ^ (64 - k) * 2 ^ k := by rw [← Nat.pow_add]; congr 1; omega
    rw [e, Nat.mul_div_mul_right _ _ (Nat.two_pow_pos k)]
theorem raise_lo (x k : Nat) : raiseL x k = loW (x * 2 ^ k) := by
  unfold raiseL loW
  by_cases h1 : 64 ≤ k
  · rw [if_pos h1]
    have e : 2 ^ k = 2 ^ (k - 64) * 2 ^ 64 := by rw [← Nat.pow_add]; congr 1; omega
    rw [e, ← Nat.mul_assoc, Nat.mul_mod_left]
  · rw [if_neg h1]
/-- A key: an address whose last bits are off, and some of them turned on. -/
theorem key_words (a x m n : Nat) (hmn : m ≤ n) (hn : n ≤ 128) (ha : W128 a) (hd : 2 ^ (128 - m) ∣ a) (hx : x < 2 ^ (n - m)) :
    hiW a ||| raiseH x (128 - n) = hiW (a + x * 2 ^ (128 - n)) ∧ loW a ||| raiseL x (128 - n) = loW (a + x * 2 ^ (128 - n)) ∧ W128 (a + x * 2 ^ (128 - n)) := by
  have h1 : x * 2 ^ (128 - n) < 2 ^ (128 - m) := by
    rw [show 128 - m = (n - m) + (128 - n) by omega, Nat.pow_add]
    exact Nat.mul_lt_mul_of_pos_right hx (Nat.two_pow_pos _)
  have h2 : 2 ^ (128 - m) ≤ 2 ^ 128 := Nat.pow_le_pow_right (by decide) (by omega)
  have e := or_add a (x * 2 ^ (128 - n)) (128 - m) hd h1
  rw [raise_hi x _ (Nat.lt_of_lt_of_le h1 h2), raise_lo, ← hi_or, ← lo_or, e]
  refine ⟨rfl, rfl, ?_⟩
  unfold W128
  rw [← e]
  exact Nat.or_lt_two_pow ha (Nat.lt_of_lt_of_le h1 h2)
/-- The keys of a prefix of m bits, to n bits. -/
def keysN (a m n : Nat) : List Nat := (List.range (2 ^ (n - m))).map fun i => a + i * 2 ^ (128 - n)
/-- Each key, and with one bit more. -/
def dblN (m : Nat) (L : List Nat) : List Nat := L.flatMap fun x => [x, x + 2 ^ (127 - m)]
theorem range_double (k : Nat) : List.range (2 * k) = (List.range k).flatMap fun i => [2 * i, 2 * i + 1] := by
  induction k with
  | zero => rfl
  | succ k ih => rw [show 2 * (k + 1) = 2 * k + 1 + 1 by omega, List.range_succ, List.range_succ, ih, List.range_succ, List.flatMap_append]; simp
theorem dbl_keys (a m j : Nat) (h : m + j < 128) : dblN (m + j) (keysN a m (m + j)) = keysN a m (m + j + 1) := by
  unfold dblN keysN
  rw [show m + j + 1 - m = j + 1 by omega, show m + j - m = j by omega, Nat.pow_succ, Nat.mul_comm (2 ^ j) 2, range_double, List.map_flatMap, List.flatMap_map]
  congr 1
  funext i
  have e : (2 : Nat) ^ (128 - (m + j)) = 2 * 2 ^ (128 - (m + j + 1)) := by rw [← Nat.pow_succ']; congr 1; omega
  rw [show 127 - (m + j) = 128 - (m + j + 1) by omega, e]
  simp only [List.map_cons, List.map_nil, List.cons.injEq, and_true]
  constructor
  · rw [← Nat.mul_assoc, Nat.mul_comm i 2]
  · rw [Nat.add_mul, Nat.one_mul, Nat.add_assoc, ← Nat.mul_assoc, Nat.mul_comm i 2]
theorem keys_self (a m : Nat) : keysN a m m = [a] := by simp [keysN]
theorem keys_len (a m n : Nat) : (keysN a m n).length = 2 ^ (n - m) := by simp [keysN]
theorem dbl_take_succ (m : Nat) (L : List Nat) (k : Nat) (h : k < L.length) : dblN m (L.take (k + 1)) = dblN m (L.take k) ++ [L[k], L[k] + 2 ^ (127 - m)] := by
  unfold dblN
  rw [List.take_succ_eq_append_getElem h, List.flatMap_append]
  simp
theorem dbl_len (m : Nat) (L : List Nat) : (dblN m L).length = 2 * L.length := by
  unfold dblN
  induction L with
  | nil => rfl
  | cons x L ih => simp only [List.flatMap_cons, List.length_append, ih, List.length_cons, List.length_nil]; omega
theorem keys_at (a m n i : Nat) (h : i < (keysN a m n).length) : (keysN a m n)[i] = a + i * 2 ^ (128 - n) := by simp [keysN]
theorem keys_w (a m n : Nat) (hmn : m ≤ n) (hn : n ≤ 128) (ha : W128 a) (hd : 2 ^ (128 - m) ∣ a) : ∀ x ∈ keysN a m n, W128 x ∧ 2 ^ (128 - n) ∣ x := by
  intro x hx
  unfold keysN at hx
  rw [List.mem_map] at hx
  obtain ⟨i, hi, rfl⟩ := hx
  rw [List.mem_range] at hi
  exact ⟨(key_words a i m n hmn hn ha hd hi).2.2, Nat.dvd_add (Nat.dvd_trans (Nat.pow_dvd_pow 2 (by omega)) hd) (Nat.dvd_mul_left _ _)⟩

/-- Bit k turned on, where all from k on are off. -/
theorem on_words (a k : Nat) (hk : k < 128) (ha : W128 a) (hd : 2 ^ (128 - k) ∣ a) : (if k < 64 then hiW a ||| 2 ^ (63 - k) else hiW a) = hiW (a + 2 ^ (127 - k)) ∧ (if k < 64 then loW a else loW a ||| 2 ^ (127 - k)) = loW (a + 2 ^ (127 - k)) ∧ W128 (a + 2 ^ (127 - k)) := by
  have h1 : 2 ^ (127 - k) < 2 ^ (128 - k) := Nat.pow_lt_pow_right (by decide) (by omega)
  have h2 : 2 ^ (127 - k) < 2 ^ 128 := Nat.pow_lt_pow_right (by decide) (by omega)
  have e := or_add a (2 ^ (127 - k)) (128 - k) hd h1
  rw [← e, hi_or, lo_or]
  refine ⟨?_, ?_, Nat.or_lt_two_pow ha h2⟩
  · by_cases h : k < 64
    · rw [if_pos h]
      congr 1
      unfold hiW
      rw [show 127 - k = 63 - k + 64 by omega, Nat.pow_add, Nat.mul_div_cancel _ (by decide)]
    · rw [if_neg h]
      have : hiW (2 ^ (127 - k)) = 0 := Nat.div_eq_of_lt (Nat.pow_lt_pow_right (by decide) (by omega))
      rw [this, Nat.or_zero]
  · by_cases h : k < 64
    · rw [if_pos h]
      have : loW (2 ^ (127 - k)) = 0 := by
        unfold loW
        rw [show 127 - k = 63 - k + 64 by omega, Nat.pow_add, Nat.mul_mod_left]
      rw [this, Nat.or_zero]
    · rw [if_neg h]
      congr 1
      unfold loW
      rw [Nat.mod_eq_of_lt (Nat.pow_lt_pow_right (by decide) (by omega))]

/-- How many of a row of keys have an address. -/
theorem keys_count (a m n b : Nat) (hmn : m ≤ n) (hn : n ≤ 128) (hd : 2 ^ (128 - m) ∣ a) :
    ((List.range (2 ^ (n - m))).filter fun i => decide (b / 2 ^ (128 - n) = (a + i * 2 ^ (128 - n)) / 2 ^ (128 - n))).length = if b / 2 ^ (128 - m) = a / 2 ^ (128 - m) then 1 else 0 := by
  obtain ⟨q, rfl⟩ := hd
  have ep : (2 : Nat) ^ (128 - m) = 2 ^ (n - m) * 2 ^ (128 - n) := by rw [← Nat.pow_add]; congr 1; omega
  rw [ep]
  generalize hu : (2 : Nat) ^ (n - m) = u
  generalize hv : (2 : Nat) ^ (128 - n) = v
  have hu0 : 0 < u := by rw [← hu]; exact Nat.two_pow_pos _
  have hv0 : 0 < v := by rw [← hv]; exact Nat.two_pow_pos _
  have e1 : ∀ i, (u * v * q + i * v) / v = u * q + i := fun i => by
    rw [Nat.add_mul_div_right _ _ hv0, Nat.mul_right_comm, Nat.mul_div_cancel _ hv0]
  have e2 : u * v * q / (u * v) = q := Nat.mul_div_cancel_left _ (Nat.mul_pos hu0 hv0)
  rw [e2, Nat.mul_comm u v, ← Nat.div_div_eq_div_mul]
  have e3 : ∀ i, (v * u * q + i * v) / v = u * q + i := fun i => by rw [Nat.mul_comm v u]; exact e1 i
  simp only [e3]
  generalize b / v = x
  clear e1 e2 e3 hv ep
  have key : ∀ k, k ≤ u → ((List.range k).filter fun i => decide (x = u * q + i)).length = if u * q ≤ x ∧ x < u * q + k then 1 else 0 := by
    intro k
    induction k with
    | zero => intro _; rw [if_neg (by omega)]; rfl
    | succ k ih =>
      intro hk
      rw [List.range_succ, List.filter_append, List.length_append, ih (by omega)]
      by_cases h : x = u * q + k
      · rw [if_neg (by omega), if_pos (by omega)]; simp [h]
      · by_cases h2 : u * q ≤ x ∧ x < u * q + k
        · rw [if_pos h2, if_pos (by omega)]; simp [h]
        · rw [if_neg h2, if_neg (by omega)]; simp [h]
  rw [key u (Nat.le_refl _)]
  have : (u * q ≤ x ∧ x < u * q + u) ↔ x / u = q := by
    rw [Nat.div_eq_iff hu0, Nat.mul_comm u q]
    omega
  by_cases h : x / u = q
  · rw [if_pos h, if_pos (this.2 h)]
  · rw [if_neg h, if_neg (fun e => h (this.1 e))]
/-- The keys of a prefix are those of its two halves. -/
theorem keys_halves (a m n : Nat) (hmn : m < n) (hn : n ≤ 128) : keysN a m n = keysN a (m + 1) n ++ keysN (a + 2 ^ (127 - m)) (m + 1) n := by
  unfold keysN
  have e : (2 : Nat) ^ (n - m) = 2 ^ (n - (m + 1)) + 2 ^ (n - (m + 1)) := by rw [show n - m = n - (m + 1) + 1 by omega, Nat.pow_succ]; omega
  rw [e, List.range_add, List.map_append, List.map_map]
  congr 1
  apply List.map_congr_left
  intro i _
  simp only [Function.comp_apply]
  have e2 : (2 : Nat) ^ (127 - m) = 2 ^ (n - (m + 1)) * 2 ^ (128 - n) := by rw [← Nat.pow_add]; congr 1; omega
  rw [e2, Nat.add_mul, Nat.add_assoc]
/-- How many of the keys of a prefix have an address. -/
theorem keys_filter (a m n b : Nat) (hmn : m ≤ n) (hn : n ≤ 128) (hd : 2 ^ (128 - m) ∣ a) :
    ((keysN a m n).filter fun x => decide (b / 2 ^ (128 - n) = x / 2 ^ (128 - n))).length = if b / 2 ^ (128 - m) = a / 2 ^ (128 - m) then 1 else 0 := by
  rw [← keys_count a m n b hmn hn hd]
  unfold keysN
  rw [List.filter_map, List.length_map]
  rfl
/-- Each key lies in its prefix. -/
theorem key_in (a m n i : Nat) (hmn : m ≤ n) (hn : n ≤ 128) (hd : 2 ^ (128 - m) ∣ a) (hi : i < 2 ^ (n - m)) : (a + i * 2 ^ (128 - n)) / 2 ^ (128 - m) = a / 2 ^ (128 - m) := by
  obtain ⟨q, rfl⟩ := hd
  have h1 : i * 2 ^ (128 - n) < 2 ^ (128 - m) := by
    rw [show 128 - m = (n - m) + (128 - n) by omega, Nat.pow_add]
    exact Nat.mul_lt_mul_of_pos_right hi (Nat.two_pow_pos _)
  rw [Nat.mul_comm (2 ^ (128 - m)) q, Nat.add_comm, Nat.add_mul_div_right _ _ (Nat.two_pow_pos _), Nat.mul_div_cancel _ (Nat.two_pow_pos _), Nat.div_eq_of_lt h1, Nat.zero_add]
theorem filter_take_succ (f : Nat → Bool) (L : List Nat) (i : Nat) (h : i < L.length) : ((L.take (i + 1)).filter f).length = ((L.take i).filter f).length + if f L[i] = true then 1 else 0 := by
  rw [List.take_succ_eq_append_getElem h, List.filter_append, List.length_append]
  by_cases hf : f L[i] = true <;> simp [hf]
end Go.Proofs.YtoihkbanmnagkaaGreat.M
/-
  Rows of prefixes in memory: a list of prefixes as cells, three to each; rows of the call's own, and what is read of them. No condition but those that stand in each.
-/
set_option linter.unusedSimpArgs false
set_option linter.unusedVariables false
namespace Go.Proofs.YtoihkbanmnagkaaGreat
open Go.RowKit Go.Sort M

/-- The cells of a list of prefixes. -/
def pcell (p : Pf) : List Value := [.int .u64 (hiW p.a : Nat), .int .u64 (loW p.a : Nat), .int .i64 p.n]
def pcs (L : List Pf) : List Value := L.flatMap pcell
theorem pcs_len (L : List Pf) : (pcs L).length = L.length * 3 := by
  unfold pcs
  induction L with
  | nil => rfl
  | cons x L ih => simp only [List.flatMap_cons, List.length_append, ih, pcell, List.length_cons, List.length_nil]; omega
theorem pcs_append (L M : List Pf) : pcs (L ++ M) = pcs L ++ pcs M := by simp [pcs]
theorem pcs_cons (x : Pf) (L : List Pf) : pcs (x :: L) = pcell x ++ pcs L := rfl
theorem pcs_one (p : Pf) : pcs [p] = pcell p := by simp [pcs]
theorem pcs_cell : ∀ (L : List Pf) (k j : Nat) (h : k < L.length), j < 3 → (pcs L)[k * 3 + j]? = (pcell L[k])[j]?
  | x :: L, 0, j, _, hj => by
    rw [pcs_cons, List.getElem?_append_left (by simp [pcell]; omega)]
    simp
  | x :: L, k + 1, j, h, hj => by
    rw [pcs_cons, List.getElem?_append_right (by simp [pcell]; omega), show (k + 1) * 3 + j - (pcell x).length = k * 3 + j by simp [pcell]; omega]
    rw [pcs_cell L k j (by simpa using h) hj]
    simp
theorem pcs_one' (L : List Pf) : ∀ u ∈ pcs L, u.oneCell' = true := by
  intro u hu
  unfold pcs at hu
  rw [List.mem_flatMap] at hu
  obtain ⟨p, -, hp⟩ := hu
  simp only [pcell, List.mem_cons, List.not_mem_nil, or_false] at hp
  rcases hp with rfl | rfl | rfl <;> rfl

/-- A row that 'make' lays, of a length and capacity reckoned. -/
theorem make_row {P : Program} {t e : TypeId} {z : Value} {size bytes : Nat} (ht : P.underlying t = some (.slice e)) (hz : (P.info? e).map (fun i => (i.zero, i.size, i.bytes)) = some (some z, size, bytes)) (c : Nat) (hb : bytes * c ≤ 281474976710656) (hm : c ≤ maxLen) (w : World) :
    (Instr.makeSlice t (.int .i64 (c : Int)) (.int .i64 (c : Int))).run P w = .ok (.slice (some ⟨w.heap.size, 0, none⟩) c c) (w.alloc (.cells (madeCells z.cells (c * size)) e)) := by
  obtain ⟨i0, hi0, iz0, iz1, iz2⟩ := info_parts hz
  have h := run_make (P := P) w t e i0 z ht hi0 iz0 .i64 .i64 c c (by omega) (by omega) (by rw [iz2]; have e : ((bytes * c : Nat) : Int) ≤ 281474976710656 := (by omega); rwa [Int.natCast_mul] at e) (by unfold maxLen at hm; omega)
  rw [Int.toNat_natCast, iz1] at h
  exact h
/-- The cells xs lie at p. -/
def Row (w : World) (p : Option Addr) (xs : List Value) : Prop := xs = [] ∨ ∃ g o, p = some ⟨g, o, none⟩ ∧ g < w.heap.size ∧ ∀ j u, xs[j]? = some u → w.cell? ⟨g, o + j, none⟩ = some u
theorem Row.below {w w' : World} {p : Option Addr} {xs : List Value} (h : Row w p xs) (hb : Below w.heap.size w w') : Row w' p xs := by
  rcases h with h | ⟨g, o, e, hg, hc⟩
  · exact .inl h
  · exact .inr ⟨g, o, e, Nat.lt_of_lt_of_le hg hb.size, fun j u hu => (hb.cell (p := ⟨g, o + j, none⟩) hg).trans (hc j u hu)⟩
theorem Row.of_own {w : World} {B n k c : Nat} {e : TypeId} {p : Option Addr} {xs : List Value} (h : w.ownsRow B e k (.slice p n c) n xs) : Row w p xs := by
  by_cases h0 : xs = []
  · exact .inl h0
  · have hc := fun g hg => h.cells (g := g) hg
    have hl := h.lt
    rcases h.2 with ⟨e, h1⟩ | ⟨g, cap, cur, e, -, -, -, -, -, -⟩
    · exact absurd (List.length_eq_zero_iff.1 (by rw [h.1, h1, Nat.zero_mul])) h0
    · injection e with e1 e2 e3
      subst e1
      refine .inr ⟨g, 0, rfl, (hl g rfl).2, fun j u hu => ?_⟩
      have := hc g rfl j u hu
      rw [Nat.zero_add]
      rwa [show (⟨g, 0, none⟩ : Addr).add j = ⟨g, j, none⟩ by unfold Addr.add; split <;> simp_all] at this
/-- Number k of a row of prefixes. -/
theorem Row.at {w : World} {p : Option Addr} {L : List Pf} (h : Row w p (pcs L)) {k : Nat} (hk : k < L.length) : ∃ g o, p = some ⟨g, o, none⟩ ∧ g < w.heap.size ∧
    w.cell? ⟨g, o + k * 3, none⟩ = some (.int .u64 (hiW L[k].a : Nat)) ∧ w.cell? ⟨g, o + k * 3 + 1, none⟩ = some (.int .u64 (loW L[k].a : Nat)) ∧ w.cell? ⟨g, o + k * 3 + 2, none⟩ = some (.int .i64 L[k].n) := by
  rcases h with h | ⟨g, o, e, hg, hc⟩
  · have := pcs_len L
    rw [h] at this
    simp at this; omega
  · exact ⟨g, o, e, hg, hc (k * 3) _ (pcs_cell L k 0 hk (by omega)), hc (k * 3 + 1) _ (pcs_cell L k 1 hk (by omega)), hc (k * 3 + 2) _ (pcs_cell L k 2 hk (by omega))⟩
/-- Three cells are stored in a row of the call's own. -/
theorem store3 {w : World} {B g n c : Nat} {e : TypeId} {xs : List Value} (h : w.ownsRow B e 3 (.slice (some ⟨g, 0, none⟩) n c) n xs) (k : Nat) (u0 u1 u2 : Value) :
    (((w.setCell ⟨g, k * 3, none⟩ u0).setCell ⟨g, k * 3 + 1, none⟩ u1).setCell ⟨g, k * 3 + 2, none⟩ u2).ownsRow B e 3 (.slice (some ⟨g, 0, none⟩) n c) n (((xs.set (k * 3) u0).set (k * 3 + 1) u1).set (k * 3 + 2) u2) :=
  (((h.stored _ _).1.stored _ _).1.stored _ _).1
theorem set3_take (xs : List Value) (k : Nat) (u0 u1 u2 : Value) (h : k * 3 + 3 ≤ xs.length) : (((xs.set (k * 3) u0).set (k * 3 + 1) u1).set (k * 3 + 2) u2).take ((k + 1) * 3) = xs.take (k * 3) ++ [u0, u1, u2] := by
  apply List.ext_getElem?
  intro i
  rw [List.getElem?_take, List.getElem?_append, List.length_take, Nat.min_eq_left (by omega), List.getElem?_take]
  by_cases h1 : i < k * 3
  · rw [if_pos (by omega), if_pos h1, if_pos h1]
    simp only [List.getElem?_set]
    rw [if_neg (by omega), if_neg (by omega), if_neg (by omega)]
  · rw [if_neg h1]
    by_cases h2 : i < (k + 1) * 3
    · rw [if_pos h2]
      simp only [List.getElem?_set, List.length_set]
      rcases (show i = k * 3 ∨ i = k * 3 + 1 ∨ i = k * 3 + 2 by omega) with rfl | rfl | rfl
      · rw [if_neg (by omega), if_neg (by omega), if_pos rfl, if_pos (by omega)]; simp
      · rw [if_neg (by omega), if_pos rfl, if_pos (by omega)]; simp
      · rw [if_pos rfl, if_pos (by omega)]; simp
    · rw [if_neg h2, List.getElem?_eq_none (by simp; omega)]
/-- The cells of a block that has just been laid. -/
theorem new_cells (w : World) (cs : Array Value) (t : TypeId) : ∀ j u, cs.toList[j]? = some u → (w.alloc (.cells cs t)).cell? ((⟨w.heap.size, 0, none⟩ : Addr).add j) = some u := by
  intro j u hu
  rw [show (⟨w.heap.size, 0, none⟩ : Addr).add j = ⟨w.heap.size, j, none⟩ by unfold Addr.add; split <;> simp_all]
  rw [cell_of_row _ _ j cs t (0, 0) (heap_alloc_new w _)]
  simpa using hu
/-- The keys at one length, as prefixes. -/
def pfs (L : List Nat) (m : Int) : List Pf := L.map fun x => ⟨x, m⟩
theorem pfs_len (L : List Nat) (m : Int) : (pfs L m).length = L.length := by simp [pfs]
theorem pfs_at (L : List Nat) (m : Int) (k : Nat) (h : k < (pfs L m).length) : (pfs L m)[k] = ⟨L[k]'(by rw [pfs_len] at h; exact h), m⟩ := by simp [pfs]
theorem pfs_append (L M : List Nat) (m : Int) : pfs (L ++ M) m = pfs L m ++ pfs M m := by simp [pfs]
theorem Row.at_pfs {w : World} {p : Option Addr} {L : List Nat} {m : Int} (h : Row w p (pcs (pfs L m))) {k : Nat} (hk : k < L.length) : ∃ g o, p = some ⟨g, o, none⟩ ∧ g < w.heap.size ∧
    w.cell? ⟨g, o + k * 3, none⟩ = some (.int .u64 (hiW L[k] : Nat)) ∧ w.cell? ⟨g, o + k * 3 + 1, none⟩ = some (.int .u64 (loW L[k] : Nat)) ∧ w.cell? ⟨g, o + k * 3 + 2, none⟩ = some (.int .i64 m) := by
  have := h.at (k := k) (by rw [pfs_len]; exact hk)
  rwa [pfs_at] at this
/-- An old cell, behind a call that leaves all old memory alone, a new block, and an append to a row that lies elsewhere. -/
theorem keep_app {w0 w1 w4 : World} {O : Obj} {B n k : Nat} {e : TypeId} {v : Value} {xs : List Value} (hb : Below w0.heap.size w0 w1) (hY : (w1.alloc O).ownsRow B e k v n xs) (hg : (w1.alloc O).grownBy w4 v.ownBlock) {g o : Nat} {u : Value}
    (hlt : g < B) (hlt0 : g < w0.heap.size) (c : w0.cell? ⟨g, o, none⟩ = some u) : w4.cell? ⟨g, o, none⟩ = some u := by
  have h1 : w1.cell? ⟨g, o, none⟩ = some u := (hb.cell (p := ⟨g, o, none⟩) hlt0).trans c
  have h2 : (w1.alloc O).cell? ⟨g, o, none⟩ = some u := (World.cell?_alloc_lt w1 O ⟨g, o, none⟩ (Nat.lt_of_lt_of_le hlt0 hb.size)).trans h1
  refine hg.cell h2 fun e => ?_
  have := (hY.lt g e.symm).1
  omega
end Go.Proofs.YtoihkbanmnagkaaGreat
