/-
  Old memory as it was, behind calls that make blocks and behind a write to a block of the call's own. No condition but those that stand in each.
-/
import Derived.Test.YtoihkbanmnagkaaGreatOwn
import Derived.Test.YtoihkbanmnagkaaGreatRow
/-
  Plain mathematics of packed counters and of counted bits: digits in base 16 and 256, words that hold sixteen counters, how many bits of a word are on. No condition.
-/
set_option linter.unusedSimpArgs false
set_option linter.unusedVariables false
namespace Go.Proofs.YtoihkbanmnagkaaGreat
namespace M

/-- Digits in base 2^b, the least first. -/
def dg (b : Nat) : List Nat → Nat
  | [] => 0
  | a :: l => 2 ^ b * dg b l + a
theorem and_dg (b y a M m : Nat) (ha : a < 2 ^ b) (hm : m < 2 ^ b) : (2 ^ b * y + a) &&& (2 ^ b * M + m) = 2 ^ b * (y &&& M) + (a &&& m) := by
  apply Nat.eq_of_testBit_eq
  intro i
  rw [Nat.testBit_and, Nat.testBit_two_pow_mul_add y ha, Nat.testBit_two_pow_mul_add M hm, Nat.testBit_two_pow_mul_add (y &&& M) (Nat.lt_of_le_of_lt Nat.and_le_left ha), Nat.testBit_and]
  split <;> simp
theorem dg_lt {b : Nat} : ∀ {l : List Nat}, (∀ a ∈ l, a < 2 ^ b) → dg b l < 2 ^ (b * l.length)
  | [], _ => by simp [dg]
  | a :: l, h => by
    have h1 := h a (by simp)
    have h2 := dg_lt (b := b) (l := l) (fun x hx => h x (by simp [hx]))
    rw [List.length_cons, Nat.mul_add, Nat.mul_one, Nat.pow_add]
    show 2 ^ b * dg b l + a < _
    have : 2 ^ b * (dg b l + 1) ≤ 2 ^ b * 2 ^ (b * l.length) := Nat.mul_le_mul_left _ h2
    rw [Nat.mul_add, Nat.mul_one] at this
    rw [Nat.mul_comm (2 ^ (b * l.length))]
    omega
theorem dg_at {b : Nat} : ∀ {l : List Nat} (k : Nat) (hk : k < l.length), (∀ a ∈ l, a < 2 ^ b) → dg b l / 2 ^ (b * k) % 2 ^ b = l[k]
  | a :: l, 0, _, h => by
    have h1 := h a (by simp)
    simp only [Nat.mul_zero, Nat.pow_zero, Nat.div_one, List.getElem_cons_zero]
    show (2 ^ b * dg b l + a) % 2 ^ b = a
    rw [Nat.mul_add_mod, Nat.mod_eq_of_lt h1]
  | a :: l, k + 1, hk, h => by
    have h1 := h a (by simp)
    have h2 := dg_at (b := b) (l := l) k (by simpa using hk) (fun x hx => h x (by simp [hx]))
    rw [Nat.mul_add, Nat.mul_one, Nat.add_comm (b * k), Nat.pow_add, ← Nat.div_div_eq_div_mul]
    show (2 ^ b * dg b l + a) / 2 ^ b / _ % _ = _
    rw [Nat.mul_add_div (Nat.two_pow_pos b), Nat.div_eq_of_lt h1, Nat.add_zero, h2]
    simp
theorem dg_set {b : Nat} : ∀ {l : List Nat} (k v : Nat) (hk : k < l.length), dg b (l.set k v) + l[k] * 2 ^ (b * k) = dg b l + v * 2 ^ (b * k)
  | a :: l, 0, v, _ => by
    show 2 ^ b * dg b l + v + a * _ = 2 ^ b * dg b l + a + v * _
    simp
    omega
  | a :: l, k + 1, v, hk => by
    have h2 := dg_set (b := b) (l := l) k v (by simpa using hk)
    show 2 ^ b * dg b (l.set k v) + a + (a :: l)[k + 1] * _ = 2 ^ b * dg b l + a + v * _
    rw [List.getElem_cons_succ, Nat.mul_add, Nat.mul_one, Nat.add_comm (b * k), Nat.pow_add]
    have : 2 ^ b * (dg b (l.set k v) + l[k]'(by simpa using hk) * 2 ^ (b * k)) = 2 ^ b * (dg b l + v * 2 ^ (b * k)) := by rw [h2]
    rw [Nat.mul_add, Nat.mul_add] at this
    have e1 : ∀ x : Nat, x * (2 ^ b * 2 ^ (b * k)) = 2 ^ b * (x * 2 ^ (b * k)) := fun x => by rw [Nat.mul_left_comm]
    rw [e1, e1]
    omega

/-- How many of the first k bits of x are on. -/
def popN : Nat → Nat → Nat
  | 0, _ => 0
  | k + 1, x => x % 2 + popN k (x / 2)
theorem popN_add : ∀ (k m x y : Nat), x < 2 ^ k → popN (k + m) (2 ^ k * y + x) = popN k x + popN m y
  | 0, m, x, y, h => by
    obtain rfl : x = 0 := by simpa using h
    simp [popN]
  | k + 1, m, x, y, h => by
    rw [Nat.pow_succ] at h
    rw [show k + 1 + m = k + m + 1 by omega]
    show (2 ^ (k + 1) * y + x) % 2 + popN (k + m) ((2 ^ (k + 1) * y + x) / 2) = x % 2 + popN k (x / 2) + popN m y
    have e : 2 ^ (k + 1) * y = 2 * (2 ^ k * y) := by rw [Nat.pow_succ, Nat.mul_comm (2 ^ k) 2, Nat.mul_assoc]
    rw [e, Nat.mul_add_mod, Nat.mul_add_div (by omega), popN_add k m (x / 2) y (by omega)]
    omega
theorem popN_le : ∀ (k x : Nat), popN k x ≤ k
  | 0, _ => Nat.le_refl _
  | k + 1, x => by
    have := popN_le k (x / 2)
    show x % 2 + popN k (x / 2) ≤ k + 1
    omega
theorem popN_dg {b : Nat} : ∀ (l : List Nat), (∀ a ∈ l, a < 2 ^ b) → popN (b * l.length) (dg b l) = (l.map (popN b)).sum
  | [], _ => by simp [popN]
  | a :: l, h => by
    rw [List.length_cons, Nat.mul_add, Nat.mul_one, Nat.add_comm, List.map_cons, List.sum_cons, ← popN_dg l (fun x hx => h x (by simp [hx]))]
    exact popN_add b _ a _ (h a (by simp))

/-- A mask of one byte, n times. -/
def rep (m : Nat) (n : Nat) : Nat := dg 8 (List.replicate n m)
def by1 (a : Nat) : Nat := (a / 2 &&& 85) + (a &&& 85)
def by2 (a : Nat) : Nat := (a / 4 &&& 51) + (a &&& 51)
def by3 (a : Nat) : Nat := a / 16 + a % 16
theorem t1 : ∀ (a : Fin 256) (c : Fin 2), (128 * c.val + a.val / 2) &&& 85 = a.val / 2 &&& 85 ∧ by1 a.val < 256 := by decide +kernel
theorem t2 : ∀ (a : Fin 256) (c : Fin 4), (64 * c.val + a.val / 4) &&& 51 = a.val / 4 &&& 51 ∧ by2 a.val < 256 := by decide +kernel
theorem t3 : ∀ a : Fin 256, by2 (by1 a.val) / 16 ≤ 4 ∧ by2 (by1 a.val) % 16 ≤ 4 ∧ by3 (by2 (by1 a.val)) = popN 8 a.val := by decide +kernel
theorem by1_dg : ∀ (l : List Nat), (∀ a ∈ l, a < 256) → (dg 8 l / 2 &&& rep 85 l.length) + (dg 8 l &&& rep 85 l.length) = dg 8 (l.map by1)
  | [], _ => by simp [dg]
  | a :: l, h => by
    have ih := by1_dg l (fun x hx => h x (by simp [hx]))
    have h1 := h a (by simp)
    show ((2 ^ 8 * dg 8 l + a) / 2 &&& (2 ^ 8 * rep 85 l.length + 85)) + ((2 ^ 8 * dg 8 l + a) &&& (2 ^ 8 * rep 85 l.length + 85)) = 2 ^ 8 * dg 8 (l.map by1) + by1 a
    rw [← ih, and_dg 8 _ _ _ _ h1 (by decide), show (2 ^ 8 * dg 8 l + a) / 2 = 2 ^ 8 * (dg 8 l / 2) + (128 * (dg 8 l % 2) + a / 2) by omega, and_dg 8 _ _ _ _ (by omega) (by decide)]
    have := (t1 ⟨a, h1⟩ ⟨dg 8 l % 2, by omega⟩).1
    simp only at this
    rw [this]
    unfold by1
    omega
theorem by2_dg : ∀ (l : List Nat), (∀ a ∈ l, a < 256) → (dg 8 l / 4 &&& rep 51 l.length) + (dg 8 l &&& rep 51 l.length) = dg 8 (l.map by2)
  | [], _ => by simp [dg]
  | a :: l, h => by
    have ih := by2_dg l (fun x hx => h x (by simp [hx]))
    have h1 := h a (by simp)
    show ((2 ^ 8 * dg 8 l + a) / 4 &&& (2 ^ 8 * rep 51 l.length + 51)) + ((2 ^ 8 * dg 8 l + a) &&& (2 ^ 8 * rep 51 l.length + 51)) = 2 ^ 8 * dg 8 (l.map by2) + by2 a
    rw [← ih, and_dg 8 _ _ _ _ h1 (by decide), show (2 ^ 8 * dg 8 l + a) / 4 = 2 ^ 8 * (dg 8 l / 4) + (64 * (dg 8 l % 4) + a / 4) by omega, and_dg 8 _ _ _ _ (by omega) (by decide)]
    have := (t2 ⟨a, h1⟩ ⟨dg 8 l % 4, by omega⟩).1
    simp only at this
    rw [this]
    unfold by2
    omega
theorem dg_mod16 : ∀ (l : List Nat), (∀ a ∈ l, a / 16 ≤ 4 ∧ a % 16 ≤ 4) → dg 8 l % 16 ≤ 4
  | [], _ => by simp [dg]
  | a :: l, h => by
    have := (h a (by simp)).2
    show (2 ^ 8 * dg 8 l + a) % 16 ≤ 4
    omega
theorem and15 (a : Nat) : a &&& 15 = a % 16 := Nat.and_two_pow_sub_one_eq_mod a 4
theorem by3_dg : ∀ (l : List Nat), (∀ a ∈ l, a / 16 ≤ 4 ∧ a % 16 ≤ 4) → ((dg 8 l / 16 + dg 8 l) &&& rep 15 l.length) = dg 8 (l.map by3)
  | [], _ => by simp [dg]
  | a :: l, h => by
    have ih := by3_dg l (fun x hx => h x (by simp [hx]))
    have h1 := h a (by simp)
    have h2 := dg_mod16 l (fun x hx => h x (by simp [hx]))
    show (((2 ^ 8 * dg 8 l + a) / 16 + (2 ^ 8 * dg 8 l + a)) &&& (2 ^ 8 * rep 15 l.length + 15)) = 2 ^ 8 * dg 8 (l.map by3) + by3 a
    rw [← ih, show (2 ^ 8 * dg 8 l + a) / 16 + (2 ^ 8 * dg 8 l + a) = 2 ^ 8 * (dg 8 l / 16 + dg 8 l) + (16 * (dg 8 l % 16) + a / 16 + a) by omega, and_dg 8 _ _ _ _ (by omega) (by decide), and15]
    unfold by3
    omega
/-- The eight bytes of a word. -/
def bytes8 (x : Nat) : List Nat := [x % 256, x / 256 % 256, x / 65536 % 256, x / 16777216 % 256, x / 4294967296 % 256, x / 1099511627776 % 256, x / 281474976710656 % 256, x / 72057594037927936]
theorem bytes8_dg (x : Nat) : dg 8 (bytes8 x) = x := by
  simp only [bytes8, dg]
  omega
theorem bytes8_lt (x : Nat) (h : x < 18446744073709551616) : ∀ a ∈ bytes8 x, a < 256 := by
  simp only [bytes8, List.mem_cons, List.not_mem_nil, or_false]
  omega
theorem dg8_le : ∀ (l : List Nat), (∀ a ∈ l, a ≤ 68) → 255 * dg 8 l + 68 ≤ 68 * 2 ^ (8 * l.length)
  | [], _ => by simp [dg]
  | a :: l, h => by
    have h1 := h a (by simp)
    have h2 := dg8_le l (fun x hx => h x (by simp [hx]))
    rw [List.length_cons, Nat.mul_add, Nat.mul_one, Nat.pow_add]
    show 255 * (2 ^ 8 * dg 8 l + a) + 68 ≤ _
    omega
theorem divr (m y r : Nat) (h : r < m) : (m * y + r) / m = y := by
  rw [Nat.mul_add_div (by omega), Nat.div_eq_of_lt h, Nat.add_zero]
theorem sm5 {p0 p1 p2 p3 p4 p5 p6 p7 c : Nat} (hc : c = 256 * (256 * (256 * (256 * (256 * (256 * (256 * p7 + p6) + p5) + p4) + p3) + p2) + p1) + p0) (h0 : p0 ≤ 8) :
    c + c / 256 = 256 * (256 * (256 * (256 * (256 * (256 * (256 * p7 + (p6 + p7)) + (p5 + p6)) + (p4 + p5)) + (p3 + p4)) + (p2 + p3)) + (p1 + p2)) + (p0 + p1) := by
  have : c / 256 = 256 * (256 * (256 * (256 * (256 * (256 * p7 + p6) + p5) + p4) + p3) + p2) + p1 := by rw [hc]; exact divr 256 _ _ (by omega)
  rw [this, hc]
  omega
theorem sm6 {p7 s0 s1 s2 s3 s4 s5 s6 d : Nat} (hd : d = 256 * (256 * (256 * (256 * (256 * (256 * (256 * p7 + s6) + s5) + s4) + s3) + s2) + s1) + s0) (h0 : s0 ≤ 16) (h1 : s1 ≤ 16) :
    d + d / 65536 = 256 * (256 * (256 * (256 * (256 * (256 * (256 * p7 + s6) + (s5 + p7)) + (s4 + s6)) + (s3 + s5)) + (s2 + s4)) + (s1 + s3)) + (s0 + s2) := by
  have : d / 65536 = 256 * (256 * (256 * (256 * (256 * p7 + s6) + s5) + s4) + s3) + s2 := by
    rw [hd, show ∀ y : Nat, 256 * (256 * y + s1) + s0 = 65536 * y + (256 * s1 + s0) by intro y; omega]
    exact divr 65536 _ _ (by omega)
  rw [this, hd]
  omega
theorem sm7 {p7 u0 u1 u2 u3 u4 u5 u6 e : Nat} (he : e = 256 * (256 * (256 * (256 * (256 * (256 * (256 * p7 + u6) + u5) + u4) + u3) + u2) + u1) + u0) (h0 : u0 ≤ 32) (h1 : u1 ≤ 32) (h2 : u2 ≤ 32) (h3 : u3 ≤ 32) :
    e / 4294967296 = 256 * (256 * (256 * p7 + u6) + u5) + u4 := by
  rw [he, show ∀ y : Nat, 256 * (256 * (256 * (256 * y + u3) + u2) + u1) + u0 = 4294967296 * y + (16777216 * u3 + 65536 * u2 + 256 * u1 + u0) by intro y; omega]
  exact divr 4294967296 _ _ (by omega)
theorem sm8 {p7 u0 u1 u2 u3 u4 u5 u6 : Nat} (h0 : u0 + u4 ≤ 64) : (256 * (256 * (256 * (256 * (256 * (256 * (256 * p7 + u6) + u5) + u4) + u3) + u2) + u1) + u0 + (256 * (256 * (256 * p7 + u6) + u5) + u4)) % 128 = u0 + u4 := by
  rw [show ∀ y z : Nat, 256 * y + u0 + (256 * z + u4) = 128 * (2 * y + 2 * z) + (u0 + u4) by intro y z; omega, Nat.mul_add_mod, Nat.mod_eq_of_lt (by omega)]
/-- The count of bits, by the library's steps. -/
theorem ones_steps (x : Nat) (h : x < 18446744073709551616) (a b c d e f : Nat)
    (ha : a = (x / 2 &&& 6148914691236517205) + (x &&& 6148914691236517205)) (hb : b = (a / 4 &&& 3689348814741910323) + (a &&& 3689348814741910323)) (hc : c = ((b / 16 + b) &&& 1085102592571150095))
    (hd : d = c + c / 256) (he : e = d + d / 65536) (hf : f = e + e / 4294967296) : f % 128 = popN 64 x ∧ a < 18446744073709551616 ∧ b < 18446744073709551616 ∧ c ≤ 578721382704613384 ∧ d ≤ 583000000000000000 ∧ e ≤ 584000000000000000 ∧ f < 18446744073709551616 ∧ b ≤ 5000000000000000000 := by
  have hl := bytes8_lt x h
  have hp := popN_dg (b := 8) (bytes8 x) hl
  rw [bytes8_dg, show 8 * (bytes8 x).length = 64 from rfl] at hp
  have h1 := by1_dg (bytes8 x) hl
  rw [bytes8_dg, show (bytes8 x).length = 8 from rfl, show rep 85 8 = 6148914691236517205 by decide +kernel] at h1
  rw [h1] at ha
  have k1 : ∀ y ∈ (bytes8 x).map by1, y < 256 := by
    intro y hy
    rw [List.mem_map] at hy
    obtain ⟨z, hz, rfl⟩ := hy
    exact (t1 ⟨z, hl z hz⟩ 0).2
  have h2 := by2_dg _ k1
  rw [← ha, show ((bytes8 x).map by1).length = 8 from rfl, show rep 51 8 = 3689348814741910323 by decide +kernel] at h2
  rw [h2] at hb
  have k2 : ∀ y ∈ ((bytes8 x).map by1).map by2, y / 16 ≤ 4 ∧ y % 16 ≤ 4 := by
    intro y hy
    rw [List.map_map, List.mem_map] at hy
    obtain ⟨z, hz, rfl⟩ := hy
    exact ⟨(t3 ⟨z, hl z hz⟩).1, (t3 ⟨z, hl z hz⟩).2.1⟩
  have h3 := by3_dg _ k2
  rw [← hb, show (((bytes8 x).map by1).map by2).length = 8 from rfl, show rep 15 8 = 1085102592571150095 by decide +kernel] at h3
  rw [h3] at hc
  have e3 : (((bytes8 x).map by1).map by2).map by3 = (bytes8 x).map (popN 8) := by
    rw [List.map_map, List.map_map]
    apply List.map_congr_left
    intro z hz
    exact (t3 ⟨z, hl z hz⟩).2.2
  rw [e3] at hc
  have ba : a < 2 ^ 64 := by
    rw [ha]
    exact dg_lt (b := 8) k1
  have bb : b < 2 ^ 64 := by
    rw [hb]
    have : ∀ y ∈ ((bytes8 x).map by1).map by2, y < 2 ^ 8 := by
      intro y hy
      have := k2 y hy
      omega
    exact dg_lt this
  have bb2 : b ≤ 5000000000000000000 := by
    have := dg8_le _ (fun y hy => (show y ≤ 68 by have := k2 y hy; omega))
    rw [← hb, show (((bytes8 x).map by1).map by2).length = 8 from rfl, show 2 ^ (8 * 8) = 18446744073709551616 by decide] at this
    omega
  clear h1 h2 h3 k1 k2 e3 ha hb
  simp only [bytes8, List.map_cons, List.map_nil, List.sum_cons, List.sum_nil, dg] at hc hp
  rw [hp]
  have q0 := popN_le 8 (x % 256)
  have q1 := popN_le 8 (x / 256 % 256)
  have q2 := popN_le 8 (x / 65536 % 256)
  have q3 := popN_le 8 (x / 16777216 % 256)
  have q4 := popN_le 8 (x / 4294967296 % 256)
  have q5 := popN_le 8 (x / 1099511627776 % 256)
  have q6 := popN_le 8 (x / 281474976710656 % 256)
  have q7 := popN_le 8 (x / 72057594037927936)
  generalize popN 8 (x % 256) = p0 at *
  generalize popN 8 (x / 256 % 256) = p1 at *
  generalize popN 8 (x / 65536 % 256) = p2 at *
  generalize popN 8 (x / 16777216 % 256) = p3 at *
  generalize popN 8 (x / 4294967296 % 256) = p4 at *
  generalize popN 8 (x / 1099511627776 % 256) = p5 at *
  generalize popN 8 (x / 281474976710656 % 256) = p6 at *
  generalize popN 8 (x / 72057594037927936) = p7 at *
  clear hp hl h
  simp only [Nat.reducePow, Nat.mul_zero, Nat.zero_add, Nat.add_zero] at hc
  have hd' := sm5 hc q0
  rw [← hd] at hd'
  have he' := sm6 hd' (by omega) (by omega)
  rw [← he] at he'
  have hf' := sm7 he' (by omega) (by omega) (by omega) (by omega)
  have h8 := sm8 (p7 := p7) (u0 := p0 + p1 + (p2 + p3)) (u1 := p1 + p2 + (p3 + p4)) (u2 := p2 + p3 + (p4 + p5)) (u3 := p3 + p4 + (p5 + p6)) (u4 := p4 + p5 + (p6 + p7)) (u5 := p5 + p6 + p7) (u6 := p6 + p7) (by omega)
  rw [← he', ← hf', ← hf] at h8
  clear hd he
  have c1 : c ≤ 578721382704613384 := by
    clear hd' he' hf' hf h8 ba bb bb2
    omega
  have d1 : d ≤ 583000000000000000 := by
    clear hc he' hf' hf h8 ba bb bb2
    omega
  have e1 : e ≤ 584000000000000000 := by
    clear hc hd' hf' hf h8 ba bb c1 d1 bb2
    omega
  have f1 : f < 18446744073709551616 := by
    clear hc hd' he' hf' h8 ba bb c1 d1 bb2
    omega
  refine ⟨?_, ba, bb, c1, d1, e1, f1, bb2⟩
  rw [h8]
  clear bb2 hc hd' he' hf' hf h8 ba bb c1 d1 e1 f1
  omega

end M
end Go.Proofs.YtoihkbanmnagkaaGreat
/-
  Plain mathematics of packed counters: words that hold sixteen of them, how many of them are full. No condition.
-/
set_option linter.unusedSimpArgs false
set_option linter.unusedVariables false
namespace Go.Proofs.YtoihkbanmnagkaaGreat
namespace M

/-- The sixteen counters of word j. -/
def nibL (C : List Nat) (j : Nat) : List Nat := (List.range 16).map fun i => C.getD (16 * j + i) 0
def wordN (C : List Nat) (j : Nat) : Nat := dg 4 (nibL C j)
def wordsN (C : List Nat) : List Nat := (List.range ((C.length + 15) / 16)).map (wordN C)
theorem nibL_len (C : List Nat) (j : Nat) : (nibL C j).length = 16 := by simp [nibL]
theorem nibL_at (C : List Nat) (j i : Nat) (h : i < (nibL C j).length) : (nibL C j)[i] = C.getD (16 * j + i) 0 := by simp [nibL]
theorem getD_lt {C : List Nat} (h : ∀ c ∈ C, c ≤ 15) (i : Nat) : C.getD i 0 < 16 := by
  rw [List.getD_eq_getElem?_getD]
  by_cases hi : i < C.length
  · rw [List.getElem?_eq_getElem hi]
    have := h C[i] (List.getElem_mem hi)
    show C[i] < 16
    omega
  · rw [List.getElem?_eq_none (by omega)]
    decide
theorem nibL_lt {C : List Nat} (h : ∀ c ∈ C, c ≤ 15) (j : Nat) : ∀ a ∈ nibL C j, a < 2 ^ 4 := by
  intro a ha
  unfold nibL at ha
  rw [List.mem_map] at ha
  obtain ⟨i, -, rfl⟩ := ha
  exact getD_lt h _
theorem wordN_lt {C : List Nat} (h : ∀ c ∈ C, c ≤ 15) (j : Nat) : wordN C j < 18446744073709551616 := by
  have := dg_lt (nibL_lt h j)
  rwa [nibL_len] at this
theorem wordN_at {C : List Nat} (h : ∀ c ∈ C, c ≤ 15) (k : Nat) : wordN C (k / 16) / 2 ^ (4 * (k % 16)) % 16 = C.getD k 0 := by
  have hk : k % 16 < (nibL C (k / 16)).length := by rw [nibL_len]; omega
  have := dg_at (k % 16) hk (nibL_lt h (k / 16))
  rw [nibL_at, show 16 * (k / 16) + k % 16 = k by omega] at this
  exact this
theorem getD_set {C : List Nat} {k v i : Nat} (hk : k < C.length) : (C.set k v).getD i 0 = if i = k then v else C.getD i 0 := by
  rw [List.getD_eq_getElem?_getD, List.getElem?_set, List.getD_eq_getElem?_getD]
  split
  · rename_i h
    subst h
    simp [hk]
  · rename_i h
    rw [if_neg (fun e => h e.symm)]
theorem nibL_set (C : List Nat) (k v : Nat) (hk : k < C.length) : nibL (C.set k v) (k / 16) = (nibL C (k / 16)).set (k % 16) v := by
  apply List.ext_getElem
  · rw [List.length_set, nibL_len, nibL_len]
  · intro i h1 h2
    rw [nibL_at, getD_set hk, List.getElem_set]
    have : (16 * (k / 16) + i = k) ↔ (k % 16 = i) := by omega
    by_cases e : k % 16 = i
    · rw [if_pos (this.2 e), if_pos e]
    · rw [if_neg (fun x => e (this.1 x)), if_neg e, nibL_at]
theorem nibL_far (C : List Nat) (k v j : Nat) (hk : k < C.length) (hj : j ≠ k / 16) : nibL (C.set k v) j = nibL C j := by
  unfold nibL
  apply List.map_congr_left
  intro i hi
  rw [List.mem_range] at hi
  rw [getD_set hk, if_neg (by omega)]
theorem wordN_set (C : List Nat) (k v : Nat) (hk : k < C.length) : wordN (C.set k v) (k / 16) + C[k] * 2 ^ (4 * (k % 16)) = wordN C (k / 16) + v * 2 ^ (4 * (k % 16)) := by
  unfold wordN
  rw [nibL_set C k v hk]
  have hl : k % 16 < (nibL C (k / 16)).length := by rw [nibL_len]; omega
  have := dg_set (b := 4) (k % 16) v hl
  rw [nibL_at, show 16 * (k / 16) + k % 16 = k by omega, List.getD_eq_getElem?_getD, List.getElem?_eq_getElem hk] at this
  exact this
theorem wordsN_len (C : List Nat) : (wordsN C).length = (C.length + 15) / 16 := by simp [wordsN]
theorem wordsN_at (C : List Nat) (j : Nat) (h : j < (C.length + 15) / 16) : (wordsN C)[j]? = some (wordN C j) := by simp [wordsN, h]
theorem wordsN_set (C : List Nat) (k v : Nat) (hk : k < C.length) : (wordsN C).set (k / 16) (wordN (C.set k v) (k / 16)) = wordsN (C.set k v) := by
  apply List.ext_getElem?
  intro j
  rw [List.getElem?_set, wordsN_len]
  by_cases hj : j < (C.length + 15) / 16
  · rw [wordsN_at (C.set k v) j (by rw [List.length_set]; exact hj)]
    by_cases e : k / 16 = j
    · rw [if_pos e, if_pos (by omega), e]
    · rw [if_neg e, wordsN_at C j hj]
      unfold wordN
      rw [nibL_far C k v j hk (fun h => e h.symm)]
  · rw [List.getElem?_eq_none (l := wordsN (C.set k v)) (by rw [wordsN_len, List.length_set]; omega)]
    split
    · rw [if_neg (by omega)]
    · rw [List.getElem?_eq_none (by rw [wordsN_len]; omega)]
theorem dg_zero (b : Nat) : ∀ n, dg b (List.replicate n 0) = 0
  | 0 => rfl
  | n + 1 => by
    show 2 ^ b * dg b (List.replicate n 0) + 0 = 0
    rw [dg_zero b n]
    rfl
theorem wordsN_zero (n : Nat) : wordsN (List.replicate n 0) = List.replicate ((n + 15) / 16) 0 := by
  unfold wordsN
  rw [List.length_replicate]
  apply List.ext_getElem?
  intro j
  by_cases hj : j < (n + 15) / 16
  · simp only [List.getElem?_map, List.getElem?_range hj, Option.map_some]
    rw [List.getElem?_replicate, if_pos hj]
    congr 1
    unfold wordN
    rw [show nibL (List.replicate n 0) j = List.replicate 16 0 from ?_, dg_zero]
    apply List.ext_getElem
    · simp [nibL]
    · intro i h1 h2
      rw [nibL_at, List.getElem_replicate, List.getD_eq_getElem?_getD, List.getElem?_replicate]
      split <;> rfl
  · rw [List.getElem?_eq_none (by simp; omega), List.getElem?_eq_none (by simp; omega)]

/-- How many counters are at 15. -/
def fullN (C : List Nat) : Nat := (C.filter (· == 15)).length
def all4 (a : Nat) : Nat := if a = 15 then 1 else 0
theorem t4 : ∀ (a : Fin 16) (c : Fin 8), (((((a.val &&& (8 * (c.val % 2) + a.val / 2)) &&& (4 * (c.val % 4) + a.val / 4)) &&& (2 * c.val + a.val / 8)) &&& 1) = all4 a.val) ∧ popN 4 (all4 a.val) = all4 a.val := by decide +kernel
theorem all4_dg : ∀ (l : List Nat), (∀ a ∈ l, a < 16) → (((dg 4 l &&& dg 4 l / 2) &&& dg 4 l / 4) &&& dg 4 l / 8) &&& dg 4 (List.replicate l.length 1) = dg 4 (l.map all4)
  | [], _ => by simp [dg]
  | a :: l, h => by
    have ih := all4_dg l (fun x hx => h x (by simp [hx]))
    have h1 := h a (by simp)
    rw [List.length_cons, List.replicate_succ, List.map_cons]
    show ((((2 ^ 4 * dg 4 l + a) &&& (2 ^ 4 * dg 4 l + a) / 2) &&& (2 ^ 4 * dg 4 l + a) / 4) &&& (2 ^ 4 * dg 4 l + a) / 8) &&& (2 ^ 4 * dg 4 (List.replicate l.length 1) + 1) = 2 ^ 4 * dg 4 (l.map all4) + all4 a
    rw [← ih]
    rw [show (2 ^ 4 * dg 4 l + a) / 2 = 2 ^ 4 * (dg 4 l / 2) + (8 * (dg 4 l % 2) + a / 2) by omega, show (2 ^ 4 * dg 4 l + a) / 4 = 2 ^ 4 * (dg 4 l / 4) + (4 * (dg 4 l % 4) + a / 4) by omega, show (2 ^ 4 * dg 4 l + a) / 8 = 2 ^ 4 * (dg 4 l / 8) + (2 * (dg 4 l % 8) + a / 8) by omega]
    rw [and_dg 4 _ _ _ _ h1 (by omega), and_dg 4 _ _ _ _ (Nat.lt_of_le_of_lt Nat.and_le_left h1) (by omega), and_dg 4 _ _ _ _ (Nat.lt_of_le_of_lt Nat.and_le_left (Nat.lt_of_le_of_lt Nat.and_le_left h1)) (by omega),
      and_dg 4 _ _ _ _ (Nat.lt_of_le_of_lt Nat.and_le_left (Nat.lt_of_le_of_lt Nat.and_le_left (Nat.lt_of_le_of_lt Nat.and_le_left h1))) (by decide)]
    have := (t4 ⟨a, h1⟩ ⟨dg 4 l % 8, by omega⟩).1
    simp only [show dg 4 l % 8 % 2 = dg 4 l % 2 by omega, show dg 4 l % 8 % 4 = dg 4 l % 4 by omega] at this
    rw [this]
theorem all4_lt (a : Nat) : all4 a < 2 ^ 4 := by
  unfold all4
  split <;> decide
/-- Of a word's sixteen counters so many are at 15. -/
theorem full_word {C : List Nat} (h : ∀ c ∈ C, c ≤ 15) (j : Nat) : popN 64 ((((wordN C j &&& wordN C j / 2) &&& wordN C j / 4) &&& wordN C j / 8) &&& 1229782938247303441) = ((nibL C j).map all4).sum := by
  have h1 := all4_dg (nibL C j) (nibL_lt h j)
  rw [nibL_len, show dg 4 (List.replicate 16 1) = 1229782938247303441 by decide +kernel] at h1
  unfold wordN
  rw [h1]
  have h2 := popN_dg (b := 4) ((nibL C j).map all4) (by
    intro a ha
    rw [List.mem_map] at ha
    obtain ⟨x, -, rfl⟩ := ha
    exact all4_lt x)
  rw [List.length_map, nibL_len] at h2
  rw [show popN 64 (dg 4 ((nibL C j).map all4)) = popN (4 * 16) (dg 4 ((nibL C j).map all4)) from rfl, h2, List.map_map]
  have e : List.map (popN 4 ∘ all4) (nibL C j) = List.map all4 (nibL C j) := by
    apply List.map_congr_left
    intro a ha
    show popN 4 (all4 a) = all4 a
    unfold all4
    split <;> rfl
  rw [e]
/-- Counters of the first words, at 15. -/
def fullTo (C : List Nat) (j : Nat) : Nat := fullN (C.take (16 * j))
theorem fullN_append (C D : List Nat) : fullN (C ++ D) = fullN C + fullN D := by simp [fullN]
theorem fullN_le (C : List Nat) : fullN C ≤ C.length := List.length_filter_le _ _
theorem fullN_sum : ∀ C : List Nat, (C.map all4).sum = fullN C
  | [] => rfl
  | a :: l => by
    rw [List.map_cons, List.sum_cons, fullN_sum l]
    unfold fullN all4
    rw [List.filter_cons]
    by_cases h : a = 15 <;> simp [h] <;> omega
theorem nibL_take (C : List Nat) (j : Nat) : (nibL C j).map all4 = ((C.drop (16 * j)).take 16).map all4 ++ List.replicate (16 - ((C.drop (16 * j)).take 16).length) 0 := by
  apply List.ext_getElem
  · simp [nibL]
    omega
  · intro i h1 h2
    rw [List.length_map, nibL_len] at h1
    rw [List.getElem_map, nibL_at, List.getElem_append]
    split
    · rename_i h3
      simp only [List.length_map, List.length_take, List.length_drop] at h3
      rw [List.getElem_map, List.getElem_take, List.getElem_drop, List.getD_eq_getElem?_getD, List.getElem?_eq_getElem (by omega)]
      rfl
    · rename_i h3
      simp only [List.length_map, List.length_take, List.length_drop] at h3
      rw [List.getElem_replicate, List.getD_eq_getElem?_getD, List.getElem?_eq_none (by omega)]
      rfl
theorem sum_zeros : ∀ n : Nat, (List.replicate n 0).sum = 0
  | 0 => rfl
  | n + 1 => by rw [List.replicate_succ, List.sum_cons, sum_zeros n]
theorem full_step {C : List Nat} (h : ∀ c ∈ C, c ≤ 15) (j : Nat) : fullTo C (j + 1) = fullTo C j + popN 64 ((((wordN C j &&& wordN C j / 2) &&& wordN C j / 4) &&& wordN C j / 8) &&& 1229782938247303441) := by
  rw [full_word h, nibL_take, List.sum_append, fullN_sum, sum_zeros]
  unfold fullTo
  rw [Nat.mul_add, Nat.mul_one, List.take_add, fullN_append]
  simp
theorem full_end (C : List Nat) : fullTo C ((C.length + 15) / 16) = fullN C := by
  unfold fullTo
  rw [List.take_of_length_le (by omega)]
theorem fullTo_le (C : List Nat) (j : Nat) : fullTo C j ≤ C.length := by
  have := fullN_le (C.take (16 * j))
  rw [List.length_take] at this
  unfold fullTo
  omega
end M
end Go.Proofs.YtoihkbanmnagkaaGreat
/-
  What the counting of a word's bits, a counter's shift and the making of packed counters hand back. No condition but that the word is a word of 64 bits.
-/
set_option linter.unusedSimpArgs false
set_option linter.unusedVariables false
namespace Go.Proofs.YtoihkbanmnagkaaGreat
open Go.RowKit Go.Sort M

theorem andN (a b : Nat) (ha : a < 18446744073709551616) (hb : b < 18446744073709551616) : bits BinOp.and IntKind.u64 (a : Int) (b : Int) = ((a &&& b : Nat) : Int) := bits_and_u64_nat a b ha hb
theorem and_lt (a b : Nat) (hb : b < 18446744073709551616) : a &&& b < 18446744073709551616 := Nat.lt_of_le_of_lt Nat.and_le_right hb
theorem and127 (a : Nat) (ha : a < 9223372036854775808) : bits BinOp.and IntKind.i64 (wrap64 (a : Int)) 127 = ((a % 128 : Nat) : Int) := by
  have h1 : (BitVec.ofInt 64 (a : Int)).toNat = a := by
    rw [BitVec.ofInt_natCast, BitVec.toNat_ofNat]; exact Nat.mod_eq_of_lt (by omega)
  rw [IntWalk.wrap64_in _ (by omega)]
  show IntKind.i64.wrap ((BitVec.ofInt 64 (a : Int) &&& BitVec.ofInt 64 (127 : Int)).toNat : Int) = _
  rw [BitVec.toNat_and, h1, show (BitVec.ofInt 64 (127 : Int)).toNat = 2 ^ 7 - 1 from rfl, Nat.and_two_pow_sub_one_eq_mod, IntWalk.i64_in _ (by omega)]
theorem wrapN (n : Nat) (h : n < 18446744073709551616) : IntKind.u64.wrap (n : Int) = (n : Int) := by
  rw [IntKind.wrap_u64]
  omega
theorem ones_eq (x : Nat) (hx : W64 x) (a b c d e f : Nat)
    (ha : a = (x / 2 &&& 6148914691236517205) + (x &&& 6148914691236517205)) (hb : b = (a / 4 &&& 3689348814741910323) + (a &&& 3689348814741910323)) (hc : c = ((b / 16 + b) &&& 1085102592571150095))
    (hd : d = c + c / 256) (he : e = d + d / 65536) (hf : f = e + e / 4294967296) :
    IntKind.u64.wrap (bits BinOp.and IntKind.u64 ((x : Int) / 2) 6148914691236517205 + bits BinOp.and IntKind.u64 (x : Int) 6148914691236517205) = (a : Int) ∧
    IntKind.u64.wrap (bits BinOp.and IntKind.u64 ((a : Int) / 4) 3689348814741910323 + bits BinOp.and IntKind.u64 (a : Int) 3689348814741910323) = (b : Int) ∧
    bits BinOp.and IntKind.u64 (IntKind.u64.wrap ((b : Int) / 16 + (b : Int))) 1085102592571150095 = (c : Int) ∧
    IntKind.u64.wrap ((c : Int) + (c : Int) / 256) = (d : Int) ∧ IntKind.u64.wrap ((d : Int) + (d : Int) / 65536) = (e : Int) ∧ IntKind.u64.wrap ((e : Int) + (e : Int) / 4294967296) = (f : Int) ∧
    bits BinOp.and IntKind.i64 (wrap64 (f : Int)) 127 = (popN 64 x : Nat) := by
  obtain ⟨h0, h1, h2, h3, h4, h5, h6, bb⟩ := ones_steps x hx.lt a b c d e f ha hb hc hd he hf
  have hx' := hx.lt
  have m1 : (6148914691236517205 : Int) = ((6148914691236517205 : Nat) : Int) := rfl
  have m2 : (3689348814741910323 : Int) = ((3689348814741910323 : Nat) : Int) := rfl
  have m3 : (1085102592571150095 : Int) = ((1085102592571150095 : Nat) : Int) := rfl
  refine ⟨?_, ?_, ?_, ?_, ?_, ?_, ?_⟩
  · rw [show ((x : Int) / 2) = ((x / 2 : Nat) : Int) by simp, m1, andN _ _ (by omega) (by decide), andN _ _ hx' (by decide), ← Int.natCast_add, ← ha, wrapN a h1]
  · rw [show ((a : Int) / 4) = ((a / 4 : Nat) : Int) by simp, m2, andN _ _ (by omega) (by decide), andN _ _ h1 (by decide), ← Int.natCast_add, ← hb, wrapN b h2]
  · rw [show ((b : Int) / 16 + (b : Int)) = ((b / 16 + b : Nat) : Int) by simp, wrapN _ (by omega), m3, andN _ _ (by omega) (by decide), ← hc]
  · rw [show ((c : Int) + (c : Int) / 256) = ((c + c / 256 : Nat) : Int) by simp, ← hd, wrapN d (by omega)]
  · rw [show ((d : Int) + (d : Int) / 65536) = ((d + d / 65536 : Nat) : Int) by simp, ← he, wrapN e (by omega)]
  · rw [show ((e : Int) + (e : Int) / 4294967296) = ((e + e / 4294967296 : Nat) : Int) by simp, ← hf, wrapN f h6]
  · exact and127 f (by omega) |>.trans (by rw [h0])
theorem shift_any (i : Int) (h0 : 0 ≤ i) (h1 : i ≤ 65536) : Gives Tryz.prog 99 #[.int .i64 i] (.int .i64 (4 * (i.toNat % 16) : Nat)) := by
  intro w
  go_enter Tryz.func99, Tryz.ntmps99
  go_wp2
  go_ret
  refine ⟨ret_num ?_, by go_grown⟩
  omega
end Go.Proofs.YtoihkbanmnagkaaGreat
/-
  Old memory as it was, behind calls that make blocks and behind a write to a block of the call's own. No condition but those that stand in each.
-/
set_option linter.unusedSimpArgs false
set_option linter.unusedVariables false
namespace Go.Proofs.YtoihkbanmnagkaaGreat
open Go.RowKit Go.Sort

theorem grown_below {w w' : World} (hb : Below w.heap.size w w') : w.grownBy w' none := ⟨hb.os, hb.tape, hb.output, hb.size, fun k hk _ => hb.block k hk⟩
/-- Old memory is as it was, behind a write to one of the call's own blocks. -/
theorem below_write {B : Nat} {w w1 w2 : World} {h : Nat} (hw : Below B w w1) (hB : B ≤ w1.heap.size) (hg : w1.grownBy w2 (some h)) (hh : B ≤ h) : Below B w w2 :=
  hw.grown hg hB (fun k e => by cases e; exact hh)
theorem below_grown {w w' : World} (hg : w.grownBy w' none) : Below w.heap.size w w' := ⟨hg.os, hg.tape, hg.output, hg.size, fun k hk => hg.block k hk (by simp)⟩
end Go.Proofs.YtoihkbanmnagkaaGreat
