/-
  Plain mathematics of packed counters and of counted bits: digits in base 16 and 256, words that hold sixteen counters, how many bits of a word are on. No condition.
-/
import Derived.Test.YtodofjkajhhipaaM1
set_option linter.unusedSimpArgs false
set_option linter.unusedVariables false
namespace Go.Proofs.Ytodofjkajhhipaa
namespace M

/-- Digits in base 2^b, the least first. -/
def dg (b : Nat) : List Nat → Nat
  | [] => 0
  | a :: l => 2 ^ b * dg b l + a
theorem and_dg (b y a M m : Nat) (ha : a < 2 ^ b) (hm : m < 2 ^ b) : (2 ^ b * y + a) &&& (2 ^ b * M + m) = 2 ^ b * (y &&& M) + (a &&& m) := by
  apply Nat.eq_of_testBit_eq
  intro i
  rw [Nat.testBit_and, Nat.testBit_two_pow_mul_add y ha, Nat.testBit_two_pow_mul_add M hm, Nat.testBit_two_pow_mul_add (y &&& M) (Nat.lt_of_le_of_lt Nat.and_le_left ha), Nat.testBit_and]
  split <;> simp
theorem dg_lt {b : Nat} : ∀ {l : List Nat}, (∀ a ∈ l, a < 2 ^ b) → dg b l < 2 ^ (b * l.length)
  | [], _ => by simp [dg]
  | a :: l, h => by
    have h1 := h a (by simp)
    have h2 := dg_lt (b := b) (l := l) (fun x hx => h x (by simp [hx]))
    rw [List.length_cons, Nat.mul_add, Nat.mul_one, Nat.pow_add]
    show 2 ^ b * dg b l + a < _
    have : 2 ^ b * (dg b l + 1) ≤ 2 ^ b * 2 ^ (b * l.length) := Nat.mul_le_mul_left _ h2
    rw [Nat.mul_add, Nat.mul_one] at this
    rw [Nat.mul_comm (2 ^ (b * l.length))]
    omega
theorem dg_at {b : Nat} : ∀ {l : List Nat} (k : Nat) (hk : k < l.length), (∀ a ∈ l, a < 2 ^ b) → dg b l / 2 ^ (b * k) % 2 ^ b = l[k]
  | a :: l, 0, _, h => by
    have h1 := h a (by simp)
    simp only [Nat.mul_zero, Nat.pow_zero, Nat.div_one, List.getElem_cons_zero]
    show (2 ^ b * dg b l + a) % 2 ^ b = a
    rw [Nat.mul_add_mod, Nat.mod_eq_of_lt h1]
  | a :: l, k + 1, hk, h => by
    have h1 := h a (by simp)
    have h2 := dg_at (b := b) (l := l) k (by simpa using hk) (fun x hx => h x (by simp [hx]))
    rw [Nat.mul_add, Nat.mul_one, Nat.add_comm (b * k), Nat.pow_add, ← Nat.div_div_eq_div_mul]
    show (2 ^ b * dg b l + a) / 2 ^ b / _ % _ = _
    rw [Nat.mul_add_div (Nat.two_pow_pos b), Nat.div_eq_of_lt h1, Nat.add_zero, h2]
    simp
theorem dg_set {b : Nat} : ∀ {l : List Nat} (k v : Nat) (hk : k < l.length), dg b (l.set k v) + l[k] * 2 ^ (b * k) = dg b l + v * 2 ^ (b * k)
  | a :: l, 0, v, _ => by
    show 2 ^ b * dg b l + v + a * _ = 2 ^ b * dg b l + a + v * _
    simp
    omega
  | a :: l, k + 1, v, hk => by
    have h2 := dg_set (b := b) (l := l) k v (by simpa using hk)
    show 2 ^ b * dg b (l.set k v) + a + (a :: l)[k + 1] * _ = 2 ^ b * dg b l + a + v * _
    rw [List.getElem_cons_succ, Nat.mul_add, Nat.mul_one, Nat.add_comm (b * k), Nat.pow_add]
    have : 2 ^ b * (dg b (l.set k v) + l[k]'(by simpa using hk) * 2 ^ (b * k)) = 2 ^ b * (dg b l + v * 2 ^ (b * k)) := by rw [h2]
    rw [Nat.mul_add, Nat.mul_add] at this
    have e1 : ∀ x : Nat, x * (2 ^ b * 2 ^ (b * k)) = 2 ^ b * (x * 2 ^ (b * k)) := fun x => by rw [Nat.mul_left_comm]
    rw [e1, e1]
    omega

/-- How many of the first k bits of x are on. -/
def popN : Nat → Nat → Nat
  | 0, _ => 0
  | k + 1, x => x % 2 + popN k (x / 2)
theorem popN_add : ∀ (k m x y : Nat), x < 2 ^ k → popN (k + m) (2 ^ k * y + x) = popN k x + popN m y
  | 0, m, x, y, h => by
    obtain rfl : x = 0 := by simpa using h
    simp [popN]
  | k + 1, m, x, y, h => by
    rw [Nat.pow_succ] at h
    rw [show k + 1 + m = k + m + 1 by omega]
    show (2 ^ (k + 1) * y + x) % 2 + popN (k + m) ((2 ^ (k + 1) * y + x) / 2) = x % 2 + popN k (x / 2) + popN m y
    have e : 2 ^ (k + 1) * y = 2 * (2 ^ k * y) := by rw [Nat.pow_succ, Nat.mul_comm (2 ^ k) 2, Nat.mul_assoc]
    rw [e, Nat.mul_add_mod, Nat.mul_add_div (by omega), popN_add k m (x / 2) y (by omega)]
    omega
theorem popN_le : ∀ (k x : Nat), popN k x ≤ k
  | 0, _ => Nat.le_refl _
  | k + 1, x => by
    have := popN_le k (x / 2)
    show x % 2 + popN k (x / 2) ≤ k + 1
    omega
theorem popN_dg {b : Nat} : ∀ (l : List Nat), (∀ a ∈ l, a < 2 ^ b) → popN (b * l.length) (dg b l) = (l.map (popN b)).sum
  | [], _ => by simp [popN]
  | a :: l, h => by
    rw [List.length_cons, Nat.mul_add, Nat.mul_one, Nat.add_comm, List.map_cons, List.sum_cons, ← popN_dg l (fun x hx => h x (by simp [hx]))]
    exact popN_add b _ a _ (h a (by simp))

/-- A mask of one byte, n times. -/
def rep (m : Nat) (n : Nat) : Nat := dg 8 (List.replicate n m)
def by1 (a : Nat) : Nat := (a / 2 &&& 85) + (a &&& 85)
def by2 (a : Nat) : Nat := (a / 4 &&& 51) + (a &&& 51)
def by3 (a : Nat) : Nat := a / 16 + a % 16
theorem t1 : ∀ (a : Fin 256) (c : Fin 2), (128 * c.val + a.val / 2) &&& 85 = a.val / 2 &&& 85 ∧ by1 a.val < 256 := by decide +kernel
theorem t2 : ∀ (a : Fin 256) (c : Fin 4), (64 * c.val + a.val / 4) &&& 51 = a.val / 4 &&& 51 ∧ by2 a.val < 256 := by decide +kernel
theorem t3 : ∀ a : Fin 256, by2 (by1 a.val) / 16 ≤ 4 ∧ by2 (by1 a.val) % 16 ≤ 4 ∧ by3 (by2 (by1 a.val)) = popN 8 a.val := by decide +kernel
theorem by1_dg : ∀ (l : List Nat), (∀ a ∈ l, a < 256) → (dg 8 l / 2 &&& rep 85 l.length) + (dg 8 l &&& rep 85 l.length) = dg 8 (l.map by1)
  | [], _ => by simp [dg]
  | a :: l, h => by
    have ih := by1_dg l (fun x hx => h x (by simp [hx]))
    have h1 := h a (by simp)
    show ((2 ^ 8 * dg 8 l + a) / 2 &&& (2 ^ 8 * rep 85 l.length + 85)) + ((2 ^ 8 * dg 8 l + a) &&& (2 ^ 8 * rep 85 l.length + 85)) = 2 ^ 8 * dg 8 (l.map by1) + by1 a
    rw [← ih, and_dg 8 _ _ _ _ h1 (by decide), show (2 ^ 8 * dg 8 l + a) / 2 = 2 ^ 8 * (dg 8 l / 2) + (128 * (dg 8 l % 2) + a / 2) by omega, and_dg 8 _ _ _ _ (by omega) (by decide)]
    have := (t1 ⟨a, h1⟩ ⟨dg 8 l % 2, by omega⟩).1
    simp only at this
    rw [this]
    unfold by1
    omega
theorem by2_dg : ∀ (l : List Nat), (∀ a ∈ l, a < 256) → (dg 8 l / 4 &&& rep 51 l.length) + (dg 8 l &&& rep 51 l.length) = dg 8 (l.map by2)
  | [], _ => by simp [dg]
  | a :: l, h => by
    have ih := by2_dg l (fun x hx => h x (by simp [hx]))
    have h1 := h a (by simp)
    show ((2 ^ 8 * dg 8 l + a) / 4 &&& (2 ^ 8 * rep 51 l.length + 51)) + ((2 ^ 8 * dg 8 l + a) &&& (2 ^ 8 * rep 51 l.length + 51)) = 2 ^ 8 * dg 8 (l.map by2) + by2 a
    rw [← ih, and_dg 8 _ _ _ _ h1 (by decide), show (2 ^ 8 * dg 8 l + a) / 4 = 2 ^ 8 * (dg 8 l / 4) + (64 * (dg 8 l % 4) + a / 4) by omega, and_dg 8 _ _ _ _ (by omega) (by decide)]
    have := (t2 ⟨a, h1⟩ ⟨dg 8 l % 4, by omega⟩).1
    simp only at this
    rw [this]
    unfold by2
    omega
theorem dg_mod16 : ∀ (l : List Nat), (∀ a ∈ l, a / 16 ≤ 4 ∧ a % 16 ≤ 4) → dg 8 l % 16 ≤ 4
  | [], _ => by simp [dg]
  | a :: l, h => by
    have := (h a (by simp)).2
    show (2 ^ 8 * dg 8 l + a) % 16 ≤ 4
    omega
theorem and15 (a : Nat) : a &&& 15 = a % 16 := Nat.and_two_pow_sub_one_eq_mod a 4
theorem by3_dg : ∀ (l : List Nat), (∀ a ∈ l, a / 16 ≤ 4 ∧ a % 16 ≤ 4) → ((dg 8 l / 16 + dg 8 l) &&& rep 15 l.length) = dg 8 (l.map by3)
  | [], _ => by simp [dg]
  | a :: l, h => by
    have ih := by3_dg l (fun x hx => h x (by simp [hx]))
    have h1 := h a (by simp)
    have h2 := dg_mod16 l (fun x hx => h x (by simp [hx]))
    show (((2 ^ 8 * dg 8 l + a) / 16 + (2 ^ 8 * dg 8 l + a)) &&& (2 ^ 8 * rep 15 l.length + 15)) = 2 ^ 8 * dg 8 (l.map by3) + by3 a
    rw [← ih, show (2 ^ 8 * dg 8 l + a) / 16 + (2 ^ 8 * dg 8 l + a) = 2 ^ 8 * (dg 8 l / 16 + dg 8 l) + (16 * (dg 8 l % 16) + a / 16 + a) by omega, and_dg 8 _ _ _ _ (by omega) (by decide), and15]
    unfold by3
    omega
/-- The eight bytes of a word. -/
def bytes8 (x : Nat) : List Nat := [x % 256, x / 256 % 256, x / 65536 % 256, x / 16777216 % 256, x / 4294967296 % 256, x / 1099511627776 % 256, x / 281474976710656 % 256, x / 72057594037927936]
theorem bytes8_dg (x : Nat) : dg 8 (bytes8 x) = x := by
  simp only [bytes8, dg]
  omega
theorem bytes8_lt (x : Nat) (h : x < 18446744073709551616) : ∀ a ∈ bytes8 x, a < 256 := by
  simp only [bytes8, List.mem_cons, List.not_mem_nil, or_false]
  omega
theorem dg8_le : ∀ (l : List Nat), (∀ a ∈ l, a ≤ 68) → 255 * dg 8 l + 68 ≤ 68 * 2 ^ (8 * l.length)
  | [], _ => by simp [dg]
  | a :: l, h => by
    have h1 := h a (by simp)
    have h2 := dg8_le l (fun x hx => h x (by simp [hx]))
    rw [List.length_cons, Nat.mul_add, Nat.mul_one, Nat.pow_add]
    show 255 * (2 ^ 8 * dg 8 l + a) + 68 ≤ _
    omega
theorem divr (m y r : Nat) (h : r < m) : (m * y + r) / m = y := by
  rw [Nat.mul_add_div (by omega), Nat.div_eq_of_lt h, Nat.add_zero]
theorem sm5 {p0 p1 p2 p3 p4 p5 p6 p7 c : Nat} (hc : c = 256 * (256 * (256 * (256 * (256 * (256 * (256 * p7 + p6) + p5) + p4) + p3) + p2) + p1) + p0) (h0 : p0 ≤ 8) :
    c + c / 256 = 256 * (256 * (256 * (256 * (256 * (256 * (256 * p7 + (p6 + p7)) + (p5 + p6)) + (p4 + p5)) + (p3 + p4)) + (p2 + p3)) + (p1 + p2)) + (p0 + p1) := by
  have : c / 256 = 256 * (256 * (256 * (256 * (256 * (256 * p7 + p6) + p5) + p4) + p3) + p2) + p1 := by rw [hc]; exact divr 256 _ _ (by omega)
  rw [this, hc]
  omega
theorem sm6 {p7 s0 s1 s2 s3 s4 s5 s6 d : Nat} (hd : d = 256 * (256 * (256 * (256 * (256 * (256 * (256 * p7 + s6) + s5) + s4) + s3) + s2) + s1) + s0) (h0 : s0 ≤ 16) (h1 : s1 ≤ 16) :
    d + d / 65536 = 256 * (256 * (256 * (256 * (256 * (256 * (256 * p7 + s6) + (s5 + p7)) + (s4 + s6)) + (s3 + s5)) + (s2 + s4)) + (s1 + s3)) + (s0 + s2) := by
  have : d / 65536 = 256 * (256 * (256 * (256 * (256 * p7 + s6) + s5) + s4) + s3) + s2 := by
    rw [hd, show ∀ y : Nat, 256 * (256 * y + s1) + s0 = 65536 * y + (256 * s1 + s0) by intro y; omega]
    exact divr 65536 _ _ (by omega)
  rw [this, hd]
  omega
theorem sm7 {p7 u0 u1 u2 u3 u4 u5 u6 e : Nat} (he : e = 256 * (256 * (256 * (256 * (256 * (256 * (256 * p7 + u6) + u5) + u4) + u3) + u2) + u1) + u0) (h0 : u0 ≤ 32) (h1 : u1 ≤ 32) (h2 : u2 ≤ 32) (h3 : u3 ≤ 32) :
    e / 4294967296 = 256 * (256 * (256 * p7 + u6) + u5) + u4 := by
  rw [he, show ∀ y : Nat, 256 * (256 * (256 * (256 * y + u3) + u2) + u1) + u0 = 4294967296 * y + (16777216 * u3 + 65536 * u2 + 256 * u1 + u0) by intro y; omega]
  exact divr 4294967296 _ _ (by omega)
theorem sm8 {p7 u0 u1 u2 u3 u4 u5 u6 : Nat} (h0 : u0 + u4 ≤ 64) : (256 * (256 * (256 * (256 * (256 * (256 * (256 * p7 + u6) + u5) + u4) + u3) + u2) + u1) + u0 + (256 * (256 * (256 * p7 + u6) + u5) + u4)) % 128 = u0 + u4 := by
  rw [show ∀ y z : Nat, 256 * y + u0 + (256 * z + u4) = 128 * (2 * y + 2 * z) + (u0 + u4) by intro y z; omega, Nat.mul_add_mod, Nat.mod_eq_of_lt (by omega)]
/-- The count of bits, by the library's steps. -/
theorem ones_steps (x : Nat) (h : x < 18446744073709551616) (a b c d e f : Nat)
    (ha : a = (x / 2 &&& 6148914691236517205) + (x &&& 6148914691236517205)) (hb : b = (a / 4 &&& 3689348814741910323) + (a &&& 3689348814741910323)) (hc : c = ((b / 16 + b) &&& 1085102592571150095))
    (hd : d = c + c / 256) (he : e = d + d / 65536) (hf : f = e + e / 4294967296) : f % 128 = popN 64 x ∧ a < 18446744073709551616 ∧ b < 18446744073709551616 ∧ c ≤ 578721382704613384 ∧ d ≤ 583000000000000000 ∧ e ≤ 584000000000000000 ∧ f < 18446744073709551616 ∧ b ≤ 5000000000000000000 := by
  have hl := bytes8_lt x h
  have hp := popN_dg (b := 8) (bytes8 x) hl
  rw [bytes8_dg, show 8 * (bytes8 x).length = 64 from rfl] at hp
  have h1 := by1_dg (bytes8 x) hl
  rw [bytes8_dg, show (bytes8 x).length = 8 from rfl, show rep 85 8 = 6148914691236517205 by decide +kernel] at h1
  rw [h1] at ha
  have k1 : ∀ y ∈ (bytes8 x).map by1, y < 256 := by
    intro y hy
    rw [List.mem_map] at hy
    obtain ⟨z, hz, rfl⟩ := hy
    exact (t1 ⟨z, hl z hz⟩ 0).2
  have h2 := by2_dg _ k1
  rw [← ha, show ((bytes8 x).map by1).length = 8 from rfl, show rep 51 8 = 3689348814741910323 by decide +kernel] at h2
  rw [h2] at hb
  have k2 : ∀ y ∈ ((bytes8 x).map by1).map by2, y / 16 ≤ 4 ∧ y % 16 ≤ 4 := by
    intro y hy
    rw [List.map_map, List.mem_map] at hy
    obtain ⟨z, hz, rfl⟩ := hy
    exact ⟨(t3 ⟨z, hl z hz⟩).1, (t3 ⟨z, hl z hz⟩).2.1⟩
  have h3 := by3_dg _ k2
  rw [← hb, show (((bytes8 x).map by1).map by2).length = 8 from rfl, show rep 15 8 = 1085102592571150095 by decide +kernel] at h3
  rw [h3] at hc
  have e3 : (((bytes8 x).map by1).map by2).map by3 = (bytes8 x).map (popN 8) := by
    rw [List.map_map, List.map_map]
    apply List.map_congr_left
    intro z hz
    exact (t3 ⟨z, hl z hz⟩).2.2
  rw [e3] at hc
  have ba : a < 2 ^ 64 := by
    rw [ha]
    exact dg_lt (b := 8) k1
  have bb : b < 2 ^ 64 := by
    rw [hb]
    have : ∀ y ∈ ((bytes8 x).map by1).map by2, y < 2 ^ 8 := by
      intro y hy
      have := k2 y hy
      omega
    exact dg_lt this
  have bb2 : b ≤ 5000000000000000000 := by
    have := dg8_le _ (fun y hy => (show y ≤ 68 by have := k2 y hy; omega))
    rw [← hb, show (((bytes8 x).map by1).map by2).length = 8 from rfl, show 2 ^ (8 * 8) = 18446744073709551616 by decide] at this
    omega
  clear h1 h2 h3 k1 k2 e3 ha hb
  simp only [bytes8, List.map_cons, List.map_nil, List.sum_cons, List.sum_nil, dg] at hc hp
  rw [hp]
  have q0 := popN_le 8 (x % 256)
  have q1 := popN_le 8 (x / 256 % 256)
  have q2 := popN_le 8 (x / 65536 % 256)
  have q3 := popN_le 8 (x / 16777216 % 256)
  have q4 := popN_le 8 (x / 4294967296 % 256)
  have q5 := popN_le 8 (x / 1099511627776 % 256)
  have q6 := popN_le 8 (x / 281474976710656 % 256)
  have q7 := popN_le 8 (x / 72057594037927936)
  generalize popN 8 (x % 256) = p0 at *
  generalize popN 8 (x / 256 % 256) = p1 at *
  generalize popN 8 (x / 65536 % 256) = p2 at *
  generalize popN 8 (x / 16777216 % 256) = p3 at *
  generalize popN 8 (x / 4294967296 % 256) = p4 at *
  generalize popN 8 (x / 1099511627776 % 256) = p5 at *
  generalize popN 8 (x / 281474976710656 % 256) = p6 at *
  generalize popN 8 (x / 72057594037927936) = p7 at *
  clear hp hl h
  simp only [Nat.reducePow, Nat.mul_zero, Nat.zero_add, Nat.add_zero] at hc
  have hd' := sm5 hc q0
  rw [← hd] at hd'
  have he' := sm6 hd' (by omega) (by omega)
  rw [← he] at he'
  have hf' := sm7 he' (by omega) (by omega) (by omega) (by omega)
  have h8 := sm8 (p7 := p7) (u0 := p0 + p1 + (p2 + p3)) (u1 := p1 + p2 + (p3 + p4)) (u2 := p2 + p3 + (p4 + p5)) (u3 := p3 + p4 + (p5 + p6)) (u4 := p4 + p5 + (p6 + p7)) (u5 := p5 + p6 + p7) (u6 := p6 + p7) (by omega)
  rw [← he', ← hf', ← hf] at h8
  clear hd he
  have c1 : c ≤ 578721382704613384 := by
    clear hd' he' hf' hf h8 ba bb bb2
    omega
  have d1 : d ≤ 583000000000000000 := by
    clear hc he' hf' hf h8 ba bb bb2
    omega
  have e1 : e ≤ 584000000000000000 := by
    clear hc hd' hf' hf h8 ba bb c1 d1 bb2
    omega
  have f1 : f < 18446744073709551616 := by
    clear hc hd' he' hf' h8 ba bb c1 d1 bb2
    omega
  refine ⟨?_, ba, bb, c1, d1, e1, f1, bb2⟩
  rw [h8]
  clear bb2 hc hd' he' hf' hf h8 ba bb c1 d1 e1 f1
  omega

end M
end Go.Proofs.Ytodofjkajhhipaa
