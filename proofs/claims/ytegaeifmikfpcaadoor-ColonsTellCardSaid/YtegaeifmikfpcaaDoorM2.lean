/-
  Plain mathematics of dotted texts: numbers in decimal, texts cut at a byte, prefixes of 32 bits written and read. No program in it; no condition but those that stand in each theorem.
-/
import Derived.Test.YtegaeifmikfpcaaDoorM1
import Derived.Lib.Bytealg
import Derived.Lib.ItoaNum
set_option linter.unusedSimpArgs false
set_option linter.unusedVariables false
namespace Go.Proofs.YtegaeifmikfpcaaDoor.M

theorem u8_ext {a b : UInt8} (h : a.toNat = b.toNat) : a = b := UInt8.toNat_inj.1 h
def digB (c : UInt8) : Bool := decide (48 ≤ c.toNat) && decide (c.toNat ≤ 57)
theorem digB_iff (c : UInt8) : digB c = true ↔ 48 ≤ c.toNat ∧ c.toNat ≤ 57 := by unfold digB; simp
theorem digB_not (c : UInt8) : digB c = false ↔ c.toNat < 48 ∨ 57 < c.toNat := by
  rw [← Bool.not_eq_true, digB_iff]; omega
/-- A number in decimal, told as soon as it is above m. -/
def numGo (m : Nat) : Nat → List UInt8 → Option Nat
  | acc, [] => some acc
  | acc, c :: l => if digB c = true then if m < acc * 10 + (c.toNat - 48) then none else numGo m (acc * 10 + (c.toNat - 48)) l else none
def zeroed (d : List UInt8) : Bool := d.isEmpty || (decide (1 < d.length) && d.head? == some 48)
def numC (m : Nat) (d : List UInt8) : Option Nat := if zeroed d = true then none else numGo m 0 d
/-- .. without the look at m. -/
def valGo : Nat → List UInt8 → Option Nat
  | acc, [] => some acc
  | acc, c :: l => if digB c = true then valGo (acc * 10 + (c.toNat - 48)) l else none
def numR (m : Nat) (d : List UInt8) : Option Nat := if zeroed d = true ∨ 3 < d.length then none else match valGo 0 d with | none => none | some n => if m < n then none else some n

theorem valGo_ge : ∀ (l : List UInt8) (acc n : Nat), valGo acc l = some n → acc * 10 ^ l.length ≤ n ∧ n < (acc + 1) * 10 ^ l.length
  | [], acc, n, h => by simp only [valGo, Option.some.injEq] at h; subst h; simp
  | c :: l, acc, n, h => by
    unfold valGo at h
    split at h
    · rename_i hc
      rw [digB_iff] at hc
      obtain ⟨h1, h2⟩ := valGo_ge l _ n h
      rw [List.length_cons, Nat.pow_succ]
      have e1 : acc * (10 ^ l.length * 10) = acc * 10 * 10 ^ l.length := by rw [Nat.mul_comm (10 ^ l.length), Nat.mul_assoc]
      have e2 : (acc + 1) * (10 ^ l.length * 10) = (acc * 10 + 10) * 10 ^ l.length := by rw [Nat.mul_comm (10 ^ l.length), ← Nat.mul_assoc, Nat.add_mul]
      rw [e1, e2]
      constructor
      · refine Nat.le_trans (Nat.mul_le_mul_right _ ?_) h1; omega
      · refine Nat.lt_of_lt_of_le h2 (Nat.mul_le_mul_right _ ?_); omega
    · cases h
theorem numGo_val (m : Nat) : ∀ (l : List UInt8) (acc : Nat), acc ≤ m → numGo m acc l = match valGo acc l with | none => none | some n => if m < n then none else some n
  | [], acc, h => by simp [numGo, valGo]; omega
  | c :: l, acc, h => by
    unfold numGo valGo
    by_cases hc : digB c = true
    · rw [if_pos hc, if_pos hc]
      by_cases hm : m < acc * 10 + (c.toNat - 48)
      · rw [if_pos hm]
        cases hv : valGo (acc * 10 + (c.toNat - 48)) l with
        | none => rfl
        | some n =>
          have := (valGo_ge l _ n hv).1
          have h1 : 1 ≤ 10 ^ l.length := Nat.one_le_pow _ _ (by omega)
          have h2 := Nat.mul_le_mul_left (acc * 10 + (c.toNat - 48)) h1
          show none = if m < n then none else some n
          rw [if_pos (by omega)]
      · rw [if_neg hm]
        exact numGo_val m l _ (by omega)
    · rw [if_neg hc, if_neg hc]
theorem numGo_le (m : Nat) : ∀ (l : List UInt8) (acc n : Nat), acc ≤ m → numGo m acc l = some n → n ≤ m
  | [], acc, n, h, e => by simp only [numGo, Option.some.injEq] at e; omega
  | c :: l, acc, n, h, e => by
    unfold numGo at e
    split at e
    · split at e
      · cases e
      · exact numGo_le m l _ n (by omega) e
    · cases e
theorem numC_le {m : Nat} {d : List UInt8} {n : Nat} (h : numC m d = some n) : n ≤ m := by
  unfold numC at h
  split at h
  · cases h
  · exact numGo_le m d 0 n (Nat.zero_le _) h
/-- A number with four digits or more, the first of them not 0, is above 999. -/
theorem numC_eq (m : Nat) (hm : m ≤ 999) (d : List UInt8) : numC m d = numR m d := by
  unfold numC numR
  by_cases hz : zeroed d = true
  · simp [hz]
  · rw [if_neg hz, numGo_val m d 0 (Nat.zero_le _)]
    by_cases h3 : 3 < d.length
    · rw [if_pos (Or.inr h3)]
      cases hv : valGo 0 d with
      | none => rfl
      | some n =>
        match d, h3, hz, hv with
        | c :: l, h3, hz, hv =>
          unfold valGo at hv
          split at hv
          · rename_i hc
            rw [digB_iff] at hc
            have h1 := (valGo_ge l _ n hv).1
            have hne : c.toNat ≠ 48 := fun e => hz (by
              have : c = 48 := u8_ext e
              subst this
              simp only [List.length_cons] at h3
              simp [zeroed]; omega)
            have hl : 3 ≤ l.length := by simp only [List.length_cons] at h3; omega
            have h2 : 10 ^ 3 ≤ 10 ^ l.length := Nat.pow_le_pow_right (by omega) hl
            have h4 : 1 * 10 ^ 3 ≤ (0 * 10 + (c.toNat - 48)) * 10 ^ l.length := Nat.mul_le_mul (by omega) h2
            show (if m < n then none else some n) = none
            rw [if_pos (by omega)]
          · cases hv
    · rw [if_neg (by simp only [not_or]; exact ⟨hz, h3⟩)]
theorem valGo_digs : ∀ (l : List UInt8) (acc n : Nat), valGo acc l = some n → ∀ c ∈ l, digB c = true
  | [], _, _, _, c, hc => by cases hc
  | b :: l, acc, n, h, c, hc => by
    unfold valGo at h
    split at h
    · rename_i hb
      rcases List.mem_cons.1 hc with rfl | h'
      · exact hb
      · exact valGo_digs l _ n h c h'
    · cases h
theorem numC_digs {m : Nat} {d : List UInt8} {n : Nat} (h : numC m d = some n) : ∀ c ∈ d, digB c = true := by
  unfold numC at h
  split at h
  · cases h
  · rw [numGo_val m d 0 (Nat.zero_le _)] at h
    cases hv : valGo 0 d with
    | none => rw [hv] at h; cases h
    | some k => exact valGo_digs d 0 k hv
theorem dig_ne {c b : UInt8} (h : digB c = true) (hb : digB b = false) : c ≠ b := fun e => by subst e; rw [h] at hb; cases hb

/-- A text, split at each such byte. -/
def splitGo (c : UInt8) : List UInt8 → List UInt8 → List (List UInt8)
  | cur, [] => [cur]
  | cur, b :: l => if b = c then cur :: splitGo c [] l else splitGo c (cur ++ [b]) l
def splitB (c : UInt8) (s : List UInt8) : List (List UInt8) := splitGo c [] s
theorem splitGo_none (c : UInt8) : ∀ (s cur : List UInt8), (∀ b ∈ s, b ≠ c) → splitGo c cur s = [cur ++ s]
  | [], cur, _ => by simp [splitGo]
  | b :: l, cur, h => by
    unfold splitGo
    rw [if_neg (h b (by simp)), splitGo_none c l _ (fun x hx => h x (by simp [hx]))]
    simp
theorem splitGo_at (c : UInt8) (t : List UInt8) : ∀ (s cur : List UInt8), (∀ b ∈ s, b ≠ c) → splitGo c cur (s ++ c :: t) = (cur ++ s) :: splitGo c [] t
  | [], cur, _ => by simp [splitGo]
  | b :: l, cur, h => by
    rw [List.cons_append, splitGo, if_neg (h b (by simp)), splitGo_at c t l _ (fun x hx => h x (by simp [hx]))]
    simp
theorem splitB_none {c : UInt8} {s : List UInt8} (h : ∀ b ∈ s, b ≠ c) : splitB c s = [s] := by unfold splitB; rw [splitGo_none c s [] h]; simp
theorem splitB_at {c : UInt8} {s t : List UInt8} (h : ∀ b ∈ s, b ≠ c) : splitB c (s ++ c :: t) = s :: splitB c t := by unfold splitB; rw [splitGo_at c t s [] h]; simp
/-- Each text has such a byte, or none. -/
theorem parts_of (c : UInt8) : ∀ s : List UInt8, (∀ b ∈ s, b ≠ c) ∨ ∃ a t, s = a ++ c :: t ∧ ∀ b ∈ a, b ≠ c
  | [] => Or.inl (by simp)
  | b :: l => by
    by_cases h : b = c
    · subst h; exact Or.inr ⟨[], l, rfl, by simp⟩
    · rcases parts_of c l with h1 | ⟨a, t, rfl, h1⟩
      · exact Or.inl (by simp [h]; exact h1)
      · exact Or.inr ⟨b :: a, t, rfl, by simp [h]; exact h1⟩
theorem splitB_ne (c : UInt8) (s : List UInt8) : splitB c s ≠ [] := by
  rcases parts_of c s with h | ⟨a, t, rfl, h⟩
  · rw [splitB_none h]; simp
  · rw [splitB_at h]; simp
/-- The bytes of a text's parts have no such byte among them; and one part alone is the whole. -/
theorem splitB_one {c : UInt8} {s a : List UInt8} (h : splitB c s = [a]) : s = a ∧ ∀ b ∈ a, b ≠ c := by
  rcases parts_of c s with h1 | ⟨x, t, rfl, h1⟩
  · rw [splitB_none h1] at h
    simp only [List.cons.injEq, and_true] at h
    subst h; exact ⟨rfl, h1⟩
  · rw [splitB_at h1] at h
    simp only [List.cons.injEq] at h
    exact absurd h.2 (splitB_ne _ _)
theorem splitB_cons {c : UInt8} {s a b : List UInt8} {l : List (List UInt8)} (h : splitB c s = a :: b :: l) : ∃ t, s = a ++ c :: t ∧ (∀ x ∈ a, x ≠ c) ∧ splitB c t = b :: l := by
  rcases parts_of c s with h1 | ⟨x, t, rfl, h1⟩
  · rw [splitB_none h1] at h
    simp at h
  · rw [splitB_at h1] at h
    simp only [List.cons.injEq] at h
    obtain ⟨rfl, h⟩ := h
    exact ⟨t, rfl, h1, h⟩

/-- Cut at the first such byte. -/
def cutB (c : UInt8) : List UInt8 → List UInt8 × List UInt8 × Bool
  | [] => ([], [], false)
  | b :: l => if b = c then ([], l, true) else (b :: (cutB c l).1, (cutB c l).2.1, (cutB c l).2.2)
theorem cutB_none {c : UInt8} : ∀ {s : List UInt8}, (∀ b ∈ s, b ≠ c) → cutB c s = (s, [], false)
  | [], _ => rfl
  | b :: l, h => by
    unfold cutB
    rw [if_neg (h b (by simp)), cutB_none (s := l) (fun x hx => h x (by simp [hx]))]
theorem cutB_at {c : UInt8} {t : List UInt8} : ∀ {s : List UInt8}, (∀ b ∈ s, b ≠ c) → cutB c (s ++ c :: t) = (s, t, true)
  | [], _ => by simp [cutB]
  | b :: l, h => by
    rw [List.cons_append]
    unfold cutB
    rw [if_neg (h b (by simp)), cutB_at (s := l) (fun x hx => h x (by simp [hx]))]
open Go.Lib in
theorem indexByte_cut (c : UInt8) : ∀ s : List UInt8, (indexByte s c = -1 ∧ cutB c s = (s, [], false)) ∨ (∃ k : Nat, indexByte s c = k ∧ k < s.length ∧ cutB c s = (s.take k, s.drop (k + 1), true))
  | [] => Or.inl ⟨rfl, rfl⟩
  | b :: l => by
    by_cases hb : b = c
    · subst hb
      exact Or.inr ⟨0, by simp [indexByte], by simp, by simp [cutB]⟩
    · have hb' : (b == c) = false := by simpa using hb
      rcases indexByte_cut c l with ⟨h1, h2⟩ | ⟨k, h1, h2, h3⟩
      · exact Or.inl ⟨by simp [indexByte, hb', h1], by simp [cutB, hb, h2]⟩
      · refine Or.inr ⟨k + 1, ?_, by simpa using h2, by simp [cutB, hb, h3]⟩
        have h4 : ((k : Int) == -1) = false := by simp
        simp [indexByte, hb', h1, h4]

/-- What stands behind number i. -/
def markB (i : Nat) : UInt8 := if i = 3 then 47 else 46
/-- The numbers of an address, one behind the other: f of them left, number i the next; the word so far; the text left. -/
def readGo : Nat → Nat → Nat → List UInt8 → Option (Nat × List UInt8)
  | 0, _, w, s => some (w, s)
  | f + 1, i, w, s => match numC 255 (cutB (markB i) s).1 with
    | none => none
    | some n => if (cutB (markB i) s).2.2 = true then readGo f (i + 1) (w * 256 + n) (cutB (markB i) s).2.1 else none
/-- The address's first word, the length, the error. -/
def readC (s : List UInt8) : Nat × Nat × Nat := match readGo 4 0 0 s with
  | none => (0, 0, 2)
  | some (w, r) => match numC 32 r with
    | none => (0, 0, 2)
    | some n => if rightB (w * 2 ^ 32) 0 n = true then (w * 2 ^ 32, n, 0) else (0, 0, 3)
/-- .. by parts. -/
def quadR : List (List UInt8) → Option Nat
  | [a, b, c, d] => match numR 255 a, numR 255 b, numR 255 c, numR 255 d with
    | some x, some y, some z, some u => some (((x * 256 + y) * 256 + z) * 256 + u)
    | _, _, _, _ => none
  | _ => none
def finV (n w : Option Nat) : Nat × Nat × Nat := match n, w with
  | some n, some w => if rightB (w * 2 ^ 32) 0 n = true then (w * 2 ^ 32, n, 0) else (0, 0, 3)
  | _, _ => (0, 0, 2)
def readR (s : List UInt8) : Nat × Nat × Nat := match splitB 47 s with
  | [a, b] => finV (numR 32 b) (quadR (splitB 46 a))
  | _ => (0, 0, 2)
theorem cut_found {c : UInt8} {s : List UInt8} (h : (cutB c s).2.2 = true) : s = (cutB c s).1 ++ c :: (cutB c s).2.1 ∧ ∀ b ∈ (cutB c s).1, b ≠ c := by
  rcases parts_of c s with h1 | ⟨a, t, rfl, h1⟩
  · rw [cutB_none h1] at h; cases h
  · rw [cutB_at h1]; exact ⟨rfl, h1⟩
theorem readGo_step {f i w : Nat} {s : List UInt8} {x : Nat × List UInt8} (h : readGo (f + 1) i w s = some x) :
    ∃ d n r, s = d ++ markB i :: r ∧ numC 255 d = some n ∧ readGo f (i + 1) (w * 256 + n) r = some x := by
  unfold readGo at h
  split at h
  · cases h
  · rename_i n hn
    split at h
    · rename_i hf
      exact ⟨_, n, _, (cut_found hf).1, hn, h⟩
    · cases h
theorem readGo_mk {f i w n : Nat} {d r : List UInt8} (hd : numC 255 d = some n) : readGo (f + 1) i w (d ++ markB i :: r) = readGo f (i + 1) (w * 256 + n) r := by
  have hne : ∀ b ∈ d, b ≠ markB i := fun b hb => dig_ne (numC_digs hd b hb) (by unfold markB; split <;> decide)
  conv => lhs; unfold readGo
  rw [cutB_at hne, hd]
  simp
/-- What both readers take. -/
def Quad (s : List UInt8) (w : Nat) (r : List UInt8) : Prop := ∃ a b c d x y z u, s = a ++ 46 :: (b ++ 46 :: (c ++ 46 :: (d ++ 47 :: r))) ∧ numC 255 a = some x ∧ numC 255 b = some y ∧ numC 255 c = some z ∧ numC 255 d = some u ∧ w = ((x * 256 + y) * 256 + z) * 256 + u
theorem readGo_quad {s : List UInt8} {w : Nat} {r : List UInt8} : readGo 4 0 0 s = some (w, r) ↔ Quad s w r := by
  constructor
  · intro h
    obtain ⟨a, x, r1, rfl, h1, h⟩ := readGo_step h
    obtain ⟨b, y, r2, rfl, h2, h⟩ := readGo_step h
    obtain ⟨c, z, r3, rfl, h3, h⟩ := readGo_step h
    obtain ⟨d, u, r4, rfl, h4, h⟩ := readGo_step h
    simp only [readGo, Option.some.injEq, Prod.mk.injEq] at h
    obtain ⟨rfl, rfl⟩ := h
    exact ⟨a, b, c, d, x, y, z, u, rfl, h1, h2, h3, h4, by omega⟩
  · rintro ⟨a, b, c, d, x, y, z, u, rfl, h1, h2, h3, h4, rfl⟩
    have e1 := readGo_mk (f := 3) (i := 0) (w := 0) (r := b ++ 46 :: (c ++ 46 :: (d ++ 47 :: r))) h1
    have e2 := readGo_mk (f := 2) (i := 1) (w := 0 * 256 + x) (r := c ++ 46 :: (d ++ 47 :: r)) h2
    have e3 := readGo_mk (f := 1) (i := 2) (w := (0 * 256 + x) * 256 + y) (r := d ++ 47 :: r) h3
    have e4 := readGo_mk (f := 0) (i := 3) (w := ((0 * 256 + x) * 256 + y) * 256 + z) (r := r) h4
    have m0 : markB 0 = 46 := rfl
    have m1 : markB 1 = 46 := rfl
    have m2 : markB 2 = 46 := rfl
    have m3 : markB 3 = 47 := rfl
    rw [m0] at e1
    rw [m1] at e2
    rw [m2] at e3
    rw [m3] at e4
    rw [e1, e2, e3, e4]
    simp [readGo]
theorem digs_ne {m : Nat} {d : List UInt8} {n : Nat} (h : numC m d = some n) (b : UInt8) (hb : digB b = false) : ∀ x ∈ d, x ≠ b := fun x hx => dig_ne (numC_digs h x hx) hb
theorem quadR_some {a : List UInt8} {w : Nat} (h : quadR (splitB 46 a) = some w) :
    ∃ p q r t x y z u, a = p ++ 46 :: (q ++ 46 :: (r ++ 46 :: t)) ∧ numC 255 p = some x ∧ numC 255 q = some y ∧ numC 255 r = some z ∧ numC 255 t = some u ∧ w = ((x * 256 + y) * 256 + z) * 256 + u := by
  match hs : splitB 46 a, h with
  | [p, q, r, t], h =>
    obtain ⟨a1, rfl, -, hs⟩ := splitB_cons hs
    obtain ⟨a2, rfl, -, hs⟩ := splitB_cons hs
    obtain ⟨a3, rfl, -, hs⟩ := splitB_cons hs
    obtain ⟨rfl, -⟩ := splitB_one hs
    cases h1 : numR 255 p with
    | none => simp [quadR, h1] at h
    | some x =>
      cases h2 : numR 255 q with
      | none => simp [quadR, h1, h2] at h
      | some y =>
        cases h3 : numR 255 r with
        | none => simp [quadR, h1, h2, h3] at h
        | some z =>
          cases h4 : numR 255 a3 with
          | none => simp [quadR, h1, h2, h3, h4] at h
          | some u =>
            simp only [quadR, h1, h2, h3, h4, Option.some.injEq] at h
            refine ⟨p, q, r, a3, x, y, z, u, rfl, ?_, ?_, ?_, ?_, h.symm⟩ <;> rw [numC_eq _ (by omega)] <;> assumption
theorem splits_quad {s : List UInt8} {w : Nat} {r : List UInt8} (hr : ∀ b ∈ r, b ≠ 47) (h : Quad s w r) : ∃ a, splitB 47 s = [a, r] ∧ quadR (splitB 46 a) = some w := by
  obtain ⟨a, b, c, d, x, y, z, u, rfl, h1, h2, h3, h4, rfl⟩ := h
  have n1 := digs_ne h1 47 (by decide)
  have n2 := digs_ne h2 47 (by decide)
  have n3 := digs_ne h3 47 (by decide)
  have n4 := digs_ne h4 47 (by decide)
  refine ⟨a ++ 46 :: (b ++ 46 :: (c ++ 46 :: d)), ?_, ?_⟩
  · rw [show a ++ 46 :: (b ++ 46 :: (c ++ 46 :: (d ++ 47 :: r))) = (a ++ 46 :: (b ++ 46 :: (c ++ 46 :: d))) ++ 47 :: r by simp]
    rw [splitB_at, splitB_none hr]
    intro q hq
    simp only [List.mem_append, List.mem_cons] at hq
    rcases hq with hq | rfl | hq | rfl | hq | rfl | hq
    · exact n1 q hq
    · decide
    · exact n2 q hq
    · decide
    · exact n3 q hq
    · decide
    · exact n4 q hq
  · rw [splitB_at (digs_ne h1 46 (by decide)), splitB_at (digs_ne h2 46 (by decide)), splitB_at (digs_ne h3 46 (by decide)), splitB_none (digs_ne h4 46 (by decide))]
    rw [numC_eq _ (by omega)] at h1 h2 h3 h4
    simp [quadR, h1, h2, h3, h4]
theorem read_eq (s : List UInt8) : readC s = readR s := by
  unfold readC readR finV
  cases hg : readGo 4 0 0 s with
  | some x =>
    obtain ⟨w, r⟩ := x
    have hq := readGo_quad.1 hg
    cases hn : numC 32 r with
    | some n =>
      obtain ⟨a, h1, h2⟩ := splits_quad (digs_ne hn 47 (by decide)) hq
      have hn' := hn
      rw [numC_eq _ (by omega)] at hn'
      simp only [h1, h2, hn, hn']
    | none =>
      simp only [hn]
      split
      · rename_i a b hs
        split
        · rename_i n w' h1 h2
          exfalso
          obtain ⟨t, rfl, -, hs⟩ := splitB_cons hs
          obtain ⟨rfl, -⟩ := splitB_one hs
          obtain ⟨p, q, r', t', x, y, z, u, rfl, g1, g2, g3, g4, rfl⟩ := quadR_some h2
          have : Quad (p ++ 46 :: (q ++ 46 :: (r' ++ 46 :: t')) ++ 47 :: t) (((x * 256 + y) * 256 + z) * 256 + u) t := ⟨p, q, r', t', x, y, z, u, by simp, g1, g2, g3, g4, rfl⟩
          rw [readGo_quad.2 this] at hg
          simp only [Option.some.injEq, Prod.mk.injEq] at hg
          obtain ⟨-, rfl⟩ := hg
          rw [numC_eq _ (by omega), h1] at hn
          cases hn
        · rfl
      · rfl
  | none =>
    show (0, 0, 2) = _
    split
    · rename_i a b hs
      split
      · rename_i n w' h1 h2
        exfalso
        obtain ⟨t, rfl, -, hs⟩ := splitB_cons hs
        obtain ⟨rfl, -⟩ := splitB_one hs
        obtain ⟨p, q, r', t', x, y, z, u, rfl, g1, g2, g3, g4, rfl⟩ := quadR_some h2
        have : Quad (p ++ 46 :: (q ++ 46 :: (r' ++ 46 :: t')) ++ 47 :: t) (((x * 256 + y) * 256 + z) * 256 + u) t := ⟨p, q, r', t', x, y, z, u, by simp, g1, g2, g3, g4, rfl⟩
        rw [readGo_quad.2 this] at hg
        cases hg
      · rfl
    · rfl
theorem readGo_lt : ∀ (f i w : Nat) (s : List UInt8) (x : Nat × List UInt8), readGo f i w s = some x → x.1 < (w + 1) * 256 ^ f
  | 0, _, w, s, x, h => by simp only [readGo, Option.some.injEq] at h; subst h; simp
  | f + 1, i, w, s, x, h => by
    obtain ⟨d, n, r, rfl, hn, h⟩ := readGo_step h
    have h1 := readGo_lt f _ _ _ _ h
    have h2 := numC_le hn
    rw [Nat.pow_succ, show (w + 1) * (256 ^ f * 256) = ((w + 1) * 256) * 256 ^ f by rw [Nat.mul_comm (256 ^ f), Nat.mul_assoc]]
    exact Nat.lt_of_lt_of_le h1 (Nat.mul_le_mul_right _ (by omega))

/-- A prefix of an IPv4 address, written. -/
def byteAt (hi i : Nat) : Nat := hi / 2 ^ (56 - 8 * i) % 256
def showL (hi n : Nat) : List UInt8 :=
  Lib.decDigits (byteAt hi 0) ++ 46 :: (Lib.decDigits (byteAt hi 1) ++ 46 :: (Lib.decDigits (byteAt hi 2) ++ 46 :: (Lib.decDigits (byteAt hi 3) ++ 47 :: Lib.decDigits n)))
def showC (hi lo : Nat) (n : Int) : List UInt8 := if rightB hi lo n = true ∧ n ≤ 32 then showL hi n.toNat else []
theorem decDigits_small {u : Nat} (h : u < 10) : Lib.decDigits u = [UInt8.ofNat (48 + u)] := by rw [Lib.decDigits, dif_pos h]
theorem decDigits_more {u : Nat} (h : ¬ u < 10) : Lib.decDigits u = Lib.decDigits (u / 10) ++ [UInt8.ofNat (48 + u % 10)] := by rw [Lib.decDigits, dif_neg h]
theorem dec_digit (k : Nat) (h : k < 10) : digB (UInt8.ofNat (48 + k)) = true ∧ (UInt8.ofNat (48 + k)).toNat - 48 = k := by
  have e : (UInt8.ofNat (48 + k)).toNat = 48 + k := by rw [UInt8.toNat_ofNat']; exact Nat.mod_eq_of_lt (by omega)
  rw [digB_iff, e]; omega
theorem valGo_snoc (c : UInt8) (hc : digB c = true) : ∀ (l : List UInt8) (acc n : Nat), valGo acc l = some n → valGo acc (l ++ [c]) = some (n * 10 + (c.toNat - 48))
  | [], acc, n, h => by simp only [valGo, Option.some.injEq] at h; subst h; simp [valGo, hc]
  | b :: l, acc, n, h => by
    rw [List.cons_append]
    unfold valGo at h ⊢
    split at h
    · rename_i hb
      rw [if_pos hb]
      exact valGo_snoc c hc l _ n h
    · cases h
theorem valGo_dec (u : Nat) : valGo 0 (Lib.decDigits u) = some u := by
  induction u using Nat.strongRecOn with
  | _ u ih =>
    by_cases h : u < 10
    · rw [decDigits_small h]
      obtain ⟨h1, h2⟩ := dec_digit u h
      rw [valGo, if_pos h1, h2]
      simp [valGo]
    · rw [decDigits_more h]
      obtain ⟨h1, h2⟩ := dec_digit (u % 10) (by omega)
      rw [valGo_snoc _ h1 _ _ _ (ih (u / 10) (by omega)), h2]
      congr 1; omega
theorem dec_head (u : Nat) (h : 0 < u) : ∃ c l, Lib.decDigits u = c :: l ∧ c ≠ 48 := by
  induction u using Nat.strongRecOn with
  | _ u ih =>
    by_cases h1 : u < 10
    · refine ⟨_, _, decDigits_small h1, fun e => ?_⟩
      have := congrArg UInt8.toNat e
      rw [UInt8.toNat_ofNat', Nat.mod_eq_of_lt (by omega)] at this
      have h48 : (48 : UInt8).toNat = 48 := rfl
      omega
    · obtain ⟨c, l, e, hc⟩ := ih (u / 10) (by omega) (by omega)
      exact ⟨c, l ++ [_], by rw [decDigits_more h1, e]; rfl, hc⟩
theorem zeroed_dec (u : Nat) : zeroed (Lib.decDigits u) = false := by
  by_cases h : 0 < u
  · obtain ⟨c, l, e, hc⟩ := dec_head u h
    rw [e]; simp [zeroed, hc]
  · obtain rfl : u = 0 := by omega
    rw [decDigits_small (by omega)]; rfl
theorem numC_dec (m u : Nat) (h : u ≤ m) : numC m (Lib.decDigits u) = some u := by
  unfold numC
  rw [zeroed_dec, if_neg (by simp), numGo_val m _ 0 (Nat.zero_le _), valGo_dec]
  show (if m < u then none else some u) = some u
  rw [if_neg (by omega)]
theorem cutW_32 (hi n : Nat) (hn : n ≤ 32) (h : cutW hi n = hi) : hi / 2 ^ 32 * 2 ^ 32 = hi := by
  have : cutW hi 32 = hi := by rw [← h, cutW_cutW, show min n 32 = n by omega]
  unfold cutW at this
  simpa using this
theorem bytes_word (hi : Nat) (h : hi < 2 ^ 64) : ((byteAt hi 0 * 256 + byteAt hi 1) * 256 + byteAt hi 2) * 256 + byteAt hi 3 = hi / 2 ^ 32 := by
  unfold byteAt
  simp only [Nat.mul_zero, Nat.sub_zero, show 56 - 8 * 1 = 48 from rfl, show 56 - 8 * 2 = 40 from rfl, show 56 - 8 * 3 = 32 from rfl]
  simp only [show (2 : Nat) ^ 56 = 72057594037927936 from rfl, show (2 : Nat) ^ 48 = 281474976710656 from rfl, show (2 : Nat) ^ 40 = 1099511627776 from rfl, show (2 : Nat) ^ 32 = 4294967296 from rfl]
  have h' : hi < 18446744073709551616 := h
  omega
theorem byteAt_le (hi i : Nat) : byteAt hi i ≤ 255 := by unfold byteAt; omega
theorem read_show (hi n : Nat) (hw : hi < 2 ^ 64) (hn : n ≤ 32) (hr : rightB hi 0 n = true) : readC (showL hi n) = (hi, n, 0) := by
  have hq : Quad (showL hi n) (hi / 2 ^ 32) (Lib.decDigits n) :=
    ⟨_, _, _, _, _, _, _, _, rfl, numC_dec _ _ (byteAt_le hi 0), numC_dec _ _ (byteAt_le hi 1), numC_dec _ _ (byteAt_le hi 2), numC_dec _ _ (byteAt_le hi 3), (bytes_word hi hw).symm⟩
  have hc : hi / 2 ^ 32 * 2 ^ 32 = hi := cutW_32 hi n hn (by rw [rightB_iff] at hr; simpa using hr.2.2.1)
  unfold readC
  rw [readGo_quad.2 hq]
  simp only [numC_dec 32 n hn, hc, hr, if_true]
theorem show_inj (h1 n1 h2 n2 : Nat) (w1 : h1 < 2 ^ 64) (w2 : h2 < 2 ^ 64) (m1 : n1 ≤ 32) (m2 : n2 ≤ 32) (r1 : rightB h1 0 n1 = true) (r2 : rightB h2 0 n2 = true) : showL h1 n1 = showL h2 n2 ↔ h1 = h2 ∧ n1 = n2 := by
  constructor
  · intro e
    have a := read_show h1 n1 w1 m1 r1
    rw [e, read_show h2 n2 w2 m2 r2] at a
    simp only [Prod.mk.injEq] at a
    exact ⟨a.1.symm, a.2.1.symm⟩
  · rintro ⟨rfl, rfl⟩; rfl
end Go.Proofs.YtegaeifmikfpcaaDoor.M
