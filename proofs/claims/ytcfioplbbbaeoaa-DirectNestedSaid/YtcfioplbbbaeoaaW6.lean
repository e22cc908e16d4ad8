/-
  What the reference's answers of chapter 6 hand back: the place of a number, the two buckets of a prefix, the row of its places. No condition but that the words are words of 64 bits, and that the count of places is a whole number of 64 bits.
-/
import Derived.Test.YtcfioplbbbaeoaaW5
import Derived.Test.YtcfioplbbbaeoaaW11
import Derived.Test.YtcfioplbbbaeoaaOwn
import Derived.WalkKit
import Derived.Maps.AppendAt
import Derived.Laws.Bits64b
/-
  Plain mathematics: the high word of a product, by halves; that it is below the second factor, and grows with the first; where numbers as far apart as may be lie, and how many lie in one place. No condition but those that stand in each.
-/
set_option linter.unusedSimpArgs false
set_option linter.unusedVariables false
namespace Go.Proofs.Ytcfioplbbbaeoaa.M

/-- The high word of the product of x and m. -/
def redN (x m : Nat) : Nat := x * m / 2 ^ 64
theorem redN_zero (m : Nat) : redN 0 m = 0 := by unfold redN; simp
theorem redN_lt (x m : Nat) (hx : W64 x) (hm : 0 < m) : redN x m < m := by
  unfold redN
  rw [Nat.div_lt_iff_lt_mul (by decide), Nat.mul_comm m]
  exact Nat.mul_lt_mul_of_pos_right hx hm
theorem redN_mono (x y m : Nat) (h : x ≤ y) : redN x m ≤ redN y m := Nat.div_le_div_right (Nat.mul_le_mul_right m h)
theorem redN_last (m : Nat) (h0 : 0 < m) (h1 : m ≤ 2 ^ 64) : redN (2 ^ 64 - 1) m = m - 1 := by
  unfold redN
  rw [Nat.sub_mul, Nat.one_mul]
  omega
/-- .. by halves. -/
theorem redN_halves (x m : Nat) :
    redN x m = x / 2 ^ 32 * (m / 2 ^ 32) + (x / 2 ^ 32 * (m % 2 ^ 32) + x % 2 ^ 32 * (m % 2 ^ 32) / 2 ^ 32) / 2 ^ 32 + (x % 2 ^ 32 * (m / 2 ^ 32) + (x / 2 ^ 32 * (m % 2 ^ 32) + x % 2 ^ 32 * (m % 2 ^ 32) / 2 ^ 32) % 2 ^ 32) / 2 ^ 32 := by
  unfold redN
  have e : x * m = x / 2 ^ 32 * (m / 2 ^ 32) * 2 ^ 64 + x / 2 ^ 32 * (m % 2 ^ 32) * 2 ^ 32 + x % 2 ^ 32 * (m / 2 ^ 32) * 2 ^ 32 + x % 2 ^ 32 * (m % 2 ^ 32) := by
    have h1 : x = x / 2 ^ 32 * 2 ^ 32 + x % 2 ^ 32 := by omega
    have h2 : m = m / 2 ^ 32 * 2 ^ 32 + m % 2 ^ 32 := by omega
    generalize x / 2 ^ 32 = a at h1 ⊢
    generalize x % 2 ^ 32 = b at h1 ⊢
    generalize m / 2 ^ 32 = c at h2 ⊢
    generalize m % 2 ^ 32 = d at h2 ⊢
    rw [h1, h2, Nat.add_mul, Nat.mul_add, Nat.mul_add, show (2 : Nat) ^ 64 = 2 ^ 32 * 2 ^ 32 from by decide]
    generalize (2 : Nat) ^ 32 = k
    rw [show a * k * (c * k) = a * c * (k * k) by rw [Nat.mul_mul_mul_comm], show a * k * d = a * d * k by rw [Nat.mul_right_comm], show b * (c * k) = b * c * k by rw [Nat.mul_assoc]]
    omega
  rw [e]
  generalize x / 2 ^ 32 * (m / 2 ^ 32) = p
  generalize x / 2 ^ 32 * (m % 2 ^ 32) = q
  generalize x % 2 ^ 32 * (m / 2 ^ 32) = r
  generalize x % 2 ^ 32 * (m % 2 ^ 32) = s
  omega
theorem half_mul (a b : Nat) (ha : a < 2 ^ 32) (hb : b < 2 ^ 32) : a * b ≤ 18446744065119617025 := Nat.mul_le_mul (Nat.le_sub_one_of_lt ha) (Nat.le_sub_one_of_lt hb)

/-- m * k numbers, as far apart as may be: in which place number i lies. -/
theorem place_eq (m k i : Nat) (hm0 : 1 ≤ m) (hm : m ≤ 60) (hk0 : 1 ≤ k) (hk : k ≤ 20) (hi0 : 1 ≤ i) (hi : i < m * k) :
    redN (i * ((2 ^ 64 - 1) / (m * k))) m = (i - 1) / k := by
  have hn1 : m * k ≤ 1200 := Nat.mul_le_mul hm hk
  have hn0 : 0 < m * k := Nat.mul_pos hm0 hk0
  have hq : (i - 1) / k < m := by rw [Nat.div_lt_iff_lt_mul hk0]; omega
  have hi2 : i = (i - 1) / k * k + (i - 1) % k + 1 := by have := Nat.div_add_mod' (i - 1) k; omega
  have hr : (i - 1) % k < k := Nat.mod_lt _ hk0
  have hs := Nat.div_add_mod (2 ^ 64 - 1) (m * k)
  have hs2 := Nat.mod_lt (2 ^ 64 - 1) hn0
  generalize (2 ^ 64 - 1) / (m * k) = s at hs ⊢
  generalize (2 ^ 64 - 1) % (m * k) = e at hs hs2
  generalize (i - 1) / k = q at hq hi2 ⊢
  generalize (i - 1) % k = r at hr hi2
  unfold redN
  rw [Nat.mul_assoc]
  have hT : k * (s * m) + e = 2 ^ 64 - 1 := by rw [← hs, Nat.mul_comm m k, Nat.mul_assoc, Nat.mul_comm m s]
  generalize s * m = T at hT ⊢
  have e1 : i * T = q * (k * T) + (r + 1) * T := by rw [hi2, Nat.add_assoc, Nat.add_mul, Nat.mul_assoc]
  have h1 : (r + 1) * T ≤ k * T := Nat.mul_le_mul_right T hr
  have h2 : T ≤ (r + 1) * T := by rw [Nat.add_mul]; omega
  have h3 : k * T ≤ 20 * T := Nat.mul_le_mul_right T hk
  have h4 : q * (k * T) + q * (e + 1) = q * 2 ^ 64 := by rw [← Nat.mul_add]; congr 1; omega
  have h5 : q * (e + 1) ≤ 60 * 1200 := Nat.mul_le_mul (by omega) (by omega)
  rw [e1]
  generalize (r + 1) * T = u at h1 h2 ⊢
  generalize q * (e + 1) = v at h4 h5
  generalize k * T = z at hT h1 h3 h4 ⊢
  generalize q * z = y at h4 ⊢
  omega

/-- How many of the first i numbers lie in place j. -/
def cntN6 (k j i : Nat) : Nat := (if j = 0 ∧ 0 < i then 1 else 0) + min k (i - 1 - j * k)
theorem cntN_start (k j : Nat) : cntN6 k j 0 = 0 := by unfold cntN6; simp
theorem cntN_zero (k j : Nat) : cntN6 k j 1 = if j = 0 then 1 else 0 := by unfold cntN6; simp
theorem cntN_step (k j i : Nat) (hk : 0 < k) (hi : 1 ≤ i) : cntN6 k j (i + 1) = cntN6 k j i + if j = (i - 1) / k then 1 else 0 := by
  unfold cntN6
  have h0 : (if j = 0 ∧ 0 < i + 1 then 1 else 0) = if j = 0 ∧ 0 < i then 1 else 0 := by simp [hi, show 0 < i from hi]
  rw [h0]
  have hd := Nat.div_add_mod' (i - 1) k
  have hr := Nat.mod_lt (i - 1) hk
  generalize (i - 1) / k = q at hd ⊢
  generalize (i - 1) % k = r at hd hr
  by_cases h : j = q
  · subst h
    rw [if_pos rfl]
    omega
  · rw [if_neg h]
    rcases Nat.lt_or_gt_of_ne h with h | h
    · have : (j + 1) * k ≤ q * k := Nat.mul_le_mul_right k h
      rw [Nat.add_mul, Nat.one_mul] at this
      omega
    · have : (q + 1) * k ≤ j * k := Nat.mul_le_mul_right k h
      rw [Nat.add_mul, Nat.one_mul] at this
      omega
theorem cntN_end (m k j : Nat) (hj : j < m) (hk : 0 < k) : k - 1 ≤ cntN6 k j (m * k) ∧ cntN6 k j (m * k) ≤ k + 1 := by
  unfold cntN6
  have : (j + 1) * k ≤ m * k := Nat.mul_le_mul_right k hj
  rw [Nat.add_mul, Nat.one_mul] at this
  split <;> omega
end Go.Proofs.Ytcfioplbbbaeoaa.M
/-
  Rows of whole numbers in memory: a list of numbers as cells, one to each; rows of the call's own, and what is read of them. No condition but those that stand in each.
-/
set_option linter.unusedSimpArgs false
set_option linter.unusedVariables false
namespace Go.Proofs.Ytcfioplbbbaeoaa
open Go.RowKit Go.Sort

/-- The cells of a list of numbers. -/
def ics (L : List Int) : List Value := L.map fun x => .int .i64 x
theorem ics_len (L : List Int) : (ics L).length = L.length := by simp [ics]
theorem ics_append (L M : List Int) : ics (L ++ M) = ics L ++ ics M := by simp [ics]
theorem ics_one (x : Int) : ics [x] = [.int .i64 x] := rfl
theorem ics_cell (L : List Int) (k : Nat) (h : k < L.length) : (ics L)[k]? = some (.int .i64 L[k]) := by simp [ics, h]
theorem ics_one' (L : List Int) : ∀ u ∈ ics L, u.oneCell' = true := by
  intro u hu
  unfold ics at hu
  rw [List.mem_map] at hu
  obtain ⟨p, -, rfl⟩ := hu
  rfl
theorem set1_take (xs : List Value) (k : Nat) (u : Value) (h : k < xs.length) : (xs.set k u).take (k + 1) = xs.take k ++ [u] := by
  rw [List.take_succ_eq_append_getElem (by rw [List.length_set]; exact h), List.take_set_of_le (Nat.le_refl _)]
  simp
/-- The cells xs lie at p. -/
def IRow (w : World) (p : Option Addr) (L : List Int) : Prop := L = [] ∨ ∃ g o, p = some ⟨g, o, none⟩ ∧ g < w.heap.size ∧ ∀ j u, (ics L)[j]? = some u → w.cell? ⟨g, o + j, none⟩ = some u
theorem IRow.below {w w' : World} {p : Option Addr} {L : List Int} (h : IRow w p L) (hb : Below w.heap.size w w') : IRow w' p L := by
  rcases h with h | ⟨g, o, e, hg, hc⟩
  · exact .inl h
  · exact .inr ⟨g, o, e, Nat.lt_of_lt_of_le hg hb.size, fun j u hu => (hb.cell (p := ⟨g, o + j, none⟩) hg).trans (hc j u hu)⟩
theorem IRow.of_own {w : World} {B n c : Nat} {e : TypeId} {p : Option Addr} {L : List Int} (h : w.ownsRow B e 1 (.slice p n c) n (ics L)) : IRow w p L := by
  by_cases h0 : L = []
  · exact .inl h0
  · have hc := fun g hg => h.cells (g := g) hg
    have hl := h.lt
    rcases h.2 with ⟨e, h1⟩ | ⟨g, cap, cur, e, -, -, -, -, -, -⟩
    · have := h.1
      rw [ics_len, h1] at this
      exact absurd (List.length_eq_zero_iff.1 (by omega)) h0
    · injection e with e1 e2 e3
      subst e1
      refine .inr ⟨g, 0, rfl, (hl g rfl).2, fun j u hu => ?_⟩
      have := hc g rfl j u hu
      rw [Nat.zero_add]
      rwa [show (⟨g, 0, none⟩ : Addr).add j = ⟨g, j, none⟩ by unfold Addr.add; split <;> simp_all] at this
/-- Number k of a row. -/
theorem IRow.at {w : World} {p : Option Addr} {L : List Int} (h : IRow w p L) {k : Nat} (hk : k < L.length) : ∃ g o, p = some ⟨g, o, none⟩ ∧ g < w.heap.size ∧ w.cell? ⟨g, o + k, none⟩ = some (.int .i64 L[k]) := by
  rcases h with h | ⟨g, o, e, hg, hc⟩
  · rw [h] at hk
    simp at hk
  · exact ⟨g, o, e, hg, hc k _ (ics_cell L k hk)⟩
/-- What a function that hands back a new row of numbers does. -/
def GivesInts (f : FuncId) (args : Array Value) (L : List Int) : Prop := ∀ w, Calls Try.prog f args w fun e w' => ∃ p c, e = .returned (.slice p L.length c) ∧ w'.ownsRow w.heap.size 3 1 (.slice p L.length c) L.length (ics L) ∧ Below w.heap.size w w'
theorem infoI : (Try.prog.info? 3).map (fun i => (i.zero, i.size, i.bytes)) = some (some (.int .i64 0), 1, 8) := by kernel_rfl
/-- One new cell, at the head of its block. -/
theorem one_new {w : World} {g : Nat} {v : Value} (h : w.cell? ⟨g, 0, none⟩ = some v) : ∀ j u, [v][j]? = some u → w.cell? ((⟨g, 0, none⟩ : Addr).add j) = some u := by
  intro j u hj
  match j, hj with
  | 0, hj => simp only [List.getElem?_cons_zero, Option.some.injEq] at hj; subst hj; simpa [Addr.add] using h
theorem own_isnoc {w : World} {B n : Nat} {e : TypeId} {v : Value} {L : List Int} {x : Int} (h : w.ownsRow B e 1 v (n + 1) (ics L ++ [.int .i64 x])) (hn : n = L.length) : w.ownsRow B e 1 v (L ++ [x]).length (ics (L ++ [x])) := by
  rw [ics_append, ics_one, List.length_append, ← hn]
  exact h

end Go.Proofs.Ytcfioplbbbaeoaa
/-
  What the reference's answers of chapter 6 hand back: the place of a number, the two buckets of a prefix, the row of its places. No condition but that the words are words of 64 bits, and that the count of places is a whole number of 64 bits.
-/
set_option linter.unusedSimpArgs false
set_option linter.unusedVariables false
namespace Go.Proofs.Ytcfioplbbbaeoaa
open Go.RowKit Go.Sort M

/-- The place of a number, of m places. -/
def redI (x : Nat) (m : Int) : Int := if m < 1 then 0 else (redN x m.toNat : Nat)
theorem redI_none {x : Nat} {m : Int} (h : m < 1) : redI x m = 0 := if_pos h
theorem redI_nat (x m : Nat) (h : 0 < m) : redI x (m : Int) = (redN x m : Nat) := by
  unfold redI
  rw [if_neg (by omega), Int.toNat_natCast]
theorem redI_nonneg (x : Nat) (m : Int) : 0 ≤ redI x m := by
  unfold redI
  split <;> omega
theorem redI_lt {x : Nat} {m : Int} (hx : W64 x) (h : 1 ≤ m) : redI x m < m := by
  obtain ⟨k, rfl⟩ := Int.eq_ofNat_of_zero_le (show 0 ≤ m by omega)
  rw [redI_nat x k (by omega)]
  have := redN_lt x k hx (by omega)
  omega

theorem mask32 (a : Nat) (h : W64 a) : bits BinOp.and IntKind.u64 (a : Int) 4294967295 = ((a % 4294967296 : Nat) : Int) := by
  have h := bits_and_u64_nat a 4294967295 h.lt (by omega)
  have e : a &&& 4294967295 = a % 4294967296 := Nat.and_two_pow_sub_one_eq_mod a 32
  rw [e] at h
  exact h
theorem div32 (a : Nat) : (a : Int) / 4294967296 = ((a / 4294967296 : Nat) : Int) := by omega
theorem wrapU (a : Nat) (ha : a < 18446744073709551616) : IntKind.u64.wrap (a : Int) = (a : Int) := by rw [IntKind.wrap_u64]; omega
theorem mulC (a b : Nat) : (a : Int) * (b : Int) = ((a * b : Nat) : Int) := (Int.natCast_mul a b).symm
theorem addC (a b : Nat) : (a : Int) + (b : Int) = ((a + b : Nat) : Int) := (Int.natCast_add a b).symm

theorem rred_eq (x k : Nat) (hx : W64 x) (h0 : 0 < k) (hk : k ≤ 9223372036854775807) :
    wrap64 (IntKind.u64.wrap (IntKind.u64.wrap (IntKind.u64.wrap ((x : Int) / 4294967296 * ((k : Int) / 4294967296)) +
        IntKind.u64.wrap (IntKind.u64.wrap ((x : Int) / 4294967296 * bits BinOp.and IntKind.u64 (k : Int) 4294967295) + IntKind.u64.wrap (bits BinOp.and IntKind.u64 (x : Int) 4294967295 * bits BinOp.and IntKind.u64 (k : Int) 4294967295) / 4294967296) / 4294967296) +
      IntKind.u64.wrap (IntKind.u64.wrap (bits BinOp.and IntKind.u64 (x : Int) 4294967295 * ((k : Int) / 4294967296)) +
        bits BinOp.and IntKind.u64 (IntKind.u64.wrap (IntKind.u64.wrap ((x : Int) / 4294967296 * bits BinOp.and IntKind.u64 (k : Int) 4294967295) + IntKind.u64.wrap (bits BinOp.and IntKind.u64 (x : Int) 4294967295 * bits BinOp.and IntKind.u64 (k : Int) 4294967295) / 4294967296)) 4294967295) / 4294967296)) = ((redN x k : Nat) : Int) := by
  have hxl := hx.lt
  have p1 := half_mul (x / 4294967296) (k % 4294967296) (by omega) (by omega)
  have p2 := half_mul (x % 4294967296) (k % 4294967296) (by omega) (by omega)
  have p3 := half_mul (x % 4294967296) (k / 4294967296) (by omega) (by omega)
  have p4 := half_mul (x / 4294967296) (k / 4294967296) (by omega) (by omega)
  have hlt := redN_lt x k hx h0
  have e := redN_halves x k
  simp only [Nat.reducePow] at e
  have q1 : x / 4294967296 * (k % 4294967296) < 18446744073709551616 := by omega
  have q2 : x % 4294967296 * (k % 4294967296) < 18446744073709551616 := by omega
  have q3 : x % 4294967296 * (k / 4294967296) < 18446744073709551616 := by omega
  have q4 : x / 4294967296 * (k / 4294967296) < 18446744073709551616 := by omega
  have q5 : x / 4294967296 * (k % 4294967296) + x % 4294967296 * (k % 4294967296) / 4294967296 < 18446744073709551616 := by omega
  have q6 : x % 4294967296 * (k / 4294967296) + (x / 4294967296 * (k % 4294967296) + x % 4294967296 * (k % 4294967296) / 4294967296) % 4294967296 < 18446744073709551616 := by omega
  have q7 : x / 4294967296 * (k / 4294967296) + (x / 4294967296 * (k % 4294967296) + x % 4294967296 * (k % 4294967296) / 4294967296) / 4294967296 < 18446744073709551616 := by omega
  have q8 : redN x k < 18446744073709551616 := by omega
  simp only [mask32 x hx, mask32 k (W64.mk (by omega)), div32, mulC, wrapU _ q1, wrapU _ q2, wrapU _ q3, wrapU _ q4, addC, wrapU _ q5, mask32 _ (W64.mk q5), wrapU _ q6, wrapU _ q7]
  rw [← e, wrapU _ q8, IntWalk.wrap64_in _ (by omega)]

/-- The two buckets of a hash. -/
def buckI (h i : Nat) (m : Int) : Int := redI (mixN (h ^^^ i)) m
end Go.Proofs.Ytcfioplbbbaeoaa
