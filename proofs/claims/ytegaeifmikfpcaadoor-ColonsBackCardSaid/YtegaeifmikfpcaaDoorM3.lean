/-
  Plain mathematics of texts with colons: numbers in base 16, rows of numbers 0, prefixes of 128 bits written and read. No program in it; no condition but those that stand in each theorem.
-/
import Derived.Test.YtegaeifmikfpcaaDoorM2
import Derived.Lib.IndexMore
import Derived.Lib.IndexLaws
import Derived.Lib.AtoiAll
set_option linter.unusedSimpArgs false
set_option linter.unusedVariables false
namespace Go.Proofs.YtegaeifmikfpcaaDoor.M

/-- A digit of base 16. -/
def hexD (c : UInt8) : Option Nat := if 48 ≤ c.toNat ∧ c.toNat ≤ 57 then some (c.toNat - 48) else if 97 ≤ c.toNat ∧ c.toNat ≤ 102 then some (c.toNat - 87) else if 65 ≤ c.toNat ∧ c.toNat ≤ 70 then some (c.toNat - 55) else none
theorem hexD_lt {c : UInt8} {d : Nat} (h : hexD c = some d) : d < 16 := by
  unfold hexD at h
  split at h
  · injection h with h; omega
  · split at h
    · injection h with h; omega
    · split at h
      · injection h with h; omega
      · cases h
def hexGo : Nat → List UInt8 → Option Nat
  | acc, [] => some acc
  | acc, c :: l => match hexD c with | none => none | some d => hexGo (acc * 16 + d) l
/-- One to four digits. -/
def hexV (d : List UInt8) : Option Nat := if d.isEmpty = true ∨ 4 < d.length then none else hexGo 0 d
theorem hexGo_lt : ∀ (l : List UInt8) (acc n : Nat), hexGo acc l = some n → n < (acc + 1) * 16 ^ l.length
  | [], acc, n, h => by simp only [hexGo, Option.some.injEq] at h; subst h; simp
  | c :: l, acc, n, h => by
    unfold hexGo at h
    cases hd : hexD c with
    | none => rw [hd] at h; cases h
    | some d =>
      rw [hd] at h
      have h1 := hexGo_lt l _ n h
      have h2 := hexD_lt hd
      rw [List.length_cons, Nat.pow_succ, ← Nat.mul_assoc, Nat.mul_right_comm]
      exact Nat.lt_of_lt_of_le h1 (Nat.mul_le_mul_right _ (by omega))
theorem hexV_lt {d : List UInt8} {n : Nat} (h : hexV d = some n) : n < 65536 := by
  unfold hexV at h
  split at h
  · cases h
  · rename_i hh
    have h1 := hexGo_lt d 0 n h
    have h2 : 16 ^ d.length ≤ 16 ^ 4 := Nat.pow_le_pow_right (by omega) (by omega)
    omega
/-- The numbers of a list of texts, behind those that are through. -/
def grpGo : List Nat → List (List UInt8) → Option (List Nat)
  | acc, [] => some acc
  | acc, d :: r => match hexV d with | none => none | some x => grpGo (acc ++ [x]) r
def groupV (l : List UInt8) : Option (List Nat) := if l.isEmpty = true then some [] else grpGo [] (splitB 58 l)
/-- .. but told at once where they are more than eight. -/
def numGo8 : List Nat → List (List UInt8) → Option (List Nat)
  | acc, [] => some acc
  | acc, d :: r => match hexV d with | none => none | some x => if acc.length = 8 then none else numGo8 (acc ++ [x]) r
def numsV (l : List UInt8) : Option (List Nat) := if l.isEmpty = true then some [] else numGo8 [] (splitB 58 l)
def cap8 (x : Option (List Nat)) : Option (List Nat) := match x with | none => none | some l => if l.length ≤ 8 then some l else none
theorem grpGo_len : ∀ (r : List (List UInt8)) (acc l : List Nat), grpGo acc r = some l → l.length = acc.length + r.length
  | [], acc, l, h => by simp only [grpGo, Option.some.injEq] at h; subst h; simp
  | d :: r, acc, l, h => by
    unfold grpGo at h
    cases hd : hexV d with
    | none => rw [hd] at h; cases h
    | some x =>
      rw [hd] at h
      have := grpGo_len r _ l h
      simp at this ⊢; omega
theorem numGo8_eq : ∀ (r : List (List UInt8)) (acc : List Nat), acc.length ≤ 8 → numGo8 acc r = cap8 (grpGo acc r)
  | [], acc, h => by simp [numGo8, grpGo, cap8, h]
  | d :: r, acc, h => by
    unfold numGo8 grpGo
    cases hd : hexV d with
    | none => rfl
    | some x =>
      by_cases h8 : acc.length = 8
      · simp only [h8, if_true]
        cases hg : grpGo (acc ++ [x]) r with
        | none => rfl
        | some l =>
          have := grpGo_len r _ l hg
          simp at this
          simp only [cap8]
          rw [if_neg (by omega)]
      · simp only [h8, if_false]
        exact numGo8_eq r _ (by simp; omega)
theorem numsV_eq (l : List UInt8) : numsV l = cap8 (groupV l) := by
  unfold numsV groupV
  split
  · simp [cap8]
  · exact numGo8_eq _ [] (by simp)
theorem splitB_cut {c : UInt8} {s d r : List UInt8} {f : Bool} (h : cutB c s = (d, r, f)) : splitB c s = d :: (if f = true then splitB c r else []) := by
  rcases parts_of c s with h1 | ⟨a, t, rfl, h1⟩
  · rw [cutB_none h1] at h
    simp only [Prod.mk.injEq] at h
    obtain ⟨rfl, rfl, rfl⟩ := h
    rw [splitB_none h1]; rfl
  · rw [cutB_at h1] at h
    simp only [Prod.mk.injEq] at h
    obtain ⟨rfl, rfl, rfl⟩ := h
    rw [splitB_at h1]; rfl

/-- Where two colons stand the first time. -/
def dblI (l : List UInt8) : Int := Lib.index l [58, 58]
/-- What is ahead of them and behind; eight numbers. -/
def fillV (x y : Option (List Nat)) : Option (List Nat) := match x, y with
  | some x, some y => if x.length + y.length ≤ 7 then some (x ++ List.replicate (8 - (x.length + y.length)) 0 ++ y) else none
  | _, _ => none
def eightV (x : Option (List Nat)) : Option (List Nat) := match x with
  | some x => if x.length = 8 then some x else none
  | none => none
def wordsV (l : List UInt8) : Option (List Nat) := if 0 ≤ dblI l then fillV (groupV (l.take (dblI l).toNat)) (groupV (l.drop ((dblI l).toNat + 2))) else eightV (groupV l)
/-- The same by the way of the program. -/
def wordsP (l : List UInt8) : Option (List Nat) := if 0 ≤ dblI l then fillV (numsV (l.take (dblI l).toNat)) (numsV (l.drop ((dblI l).toNat + 2))) else eightV (numsV l)
theorem wordsP_eq (l : List UInt8) : wordsP l = wordsV l := by
  unfold wordsP wordsV
  split
  · rw [numsV_eq, numsV_eq]
    generalize groupV (l.take _) = x
    generalize groupV (l.drop _) = y
    cases x with
    | none => rfl
    | some x =>
      cases y with
      | none => by_cases h : x.length ≤ 8 <;> simp [cap8, fillV, h]
      | some y =>
        by_cases h : x.length ≤ 8
        · by_cases h' : y.length ≤ 8
          · simp [cap8, h, h']
          · simp [cap8, h, h', fillV]; omega
        · by_cases h' : y.length ≤ 8
          · simp [cap8, h, h', fillV]; omega
          · simp [cap8, h, h', fillV]; omega
  · rw [numsV_eq]
    generalize groupV l = x
    cases x with
    | none => rfl
    | some x =>
      by_cases h : x.length ≤ 8
      · simp [cap8, h]
      · simp [cap8, h, eightV]; omega
theorem grpGo_lt : ∀ (r : List (List UInt8)) (acc l : List Nat), (∀ x ∈ acc, x < 65536) → grpGo acc r = some l → ∀ x ∈ l, x < 65536
  | [], acc, l, ha, h => by simp only [grpGo, Option.some.injEq] at h; subst h; exact ha
  | d :: r, acc, l, ha, h => by
    unfold grpGo at h
    cases hd : hexV d with
    | none => rw [hd] at h; cases h
    | some x =>
      rw [hd] at h
      refine grpGo_lt r _ l (fun z hz => ?_) h
      rcases List.mem_append.1 hz with h1 | h1
      · exact ha z h1
      · have : z = x := by simpa using h1
        subst this; exact hexV_lt hd
theorem groupV_lt {l : List UInt8} {x : List Nat} (h : groupV l = some x) : ∀ z ∈ x, z < 65536 := by
  unfold groupV at h
  split at h
  · cases h; simp
  · exact grpGo_lt _ _ _ (by simp) h
theorem wordsV_8 {l : List UInt8} {x : List Nat} (h : wordsV l = some x) : x.length = 8 ∧ ∀ z ∈ x, z < 65536 := by
  unfold wordsV at h
  split at h
  · cases hx : groupV (l.take (dblI l).toNat) with
    | none => rw [hx] at h; cases h
    | some a =>
      cases hy : groupV (l.drop ((dblI l).toNat + 2)) with
      | none => rw [hx, hy] at h; cases h
      | some b =>
        rw [hx, hy] at h
        simp only [fillV] at h
        split at h
        · cases h
          refine ⟨by simp; omega, fun z hz => ?_⟩
          rcases List.mem_append.1 hz with h1 | h1
          · rcases List.mem_append.1 h1 with h2 | h2
            · exact groupV_lt hx z h2
            · have := (List.mem_replicate.1 h2).2
              omega
          · exact groupV_lt hy z h1
        · cases h
  · cases hx : groupV l with
    | none => rw [hx] at h; cases h
    | some a =>
      rw [hx] at h
      simp only [eightV] at h
      split at h
      · cases h
        exact ⟨by assumption, groupV_lt hx⟩
      · cases h
/-- Eight numbers in two words. -/
def packGo : Nat → List Nat → Nat
  | a, [] => a
  | a, x :: l => packGo (a * 65536 + x) l
def hiOf (l : List Nat) : Nat := packGo 0 (l.take 4)
def loOf (l : List Nat) : Nat := packGo 0 (l.drop 4)
def fin6 (n : Option Nat) (w : Option (List Nat)) : Nat × Nat × Nat × Nat := match n, w with
  | some n, some w => if rightB (hiOf w) (loOf w) n = true then (hiOf w, loOf w, n, 0) else (0, 0, 0, 3)
  | _, _ => (0, 0, 0, 2)
/-- What a text is: its address, its length, the error. -/
def readK (s : List UInt8) : Nat × Nat × Nat × Nat := match splitB 47 s with
  | [a, b] => fin6 (numR 128 b) (wordsV a)
  | _ => (0, 0, 0, 2)
/-- .. by the way of the program. -/
def readP (s : List UInt8) : Nat × Nat × Nat × Nat := if (cutB 47 s).2.2 = true then fin6 (numC 128 (cutB 47 s).2.1) (wordsP (cutB 47 s).1) else (0, 0, 0, 2)
theorem numR_has {m : Nat} {b : List UInt8} (hm : m ≤ 999) (c : UInt8) (hc : digB c = false) (h : c ∈ b) : numR m b = none := by
  rw [← numC_eq m hm]
  cases hn : numC m b with
  | none => rfl
  | some n =>
    have := numC_digs hn c h
    rw [hc] at this; cases this
theorem fin6_none (w : Option (List Nat)) : fin6 none w = (0, 0, 0, 2) := by cases w <;> rfl
theorem readP_eq (s : List UInt8) : readP s = readK s := by
  unfold readP readK
  rcases parts_of 47 s with h1 | ⟨a, t, rfl, h1⟩
  · rw [cutB_none h1, splitB_none h1]; rfl
  · rw [cutB_at h1, splitB_at h1, wordsP_eq, numC_eq 128 (by omega)]
    simp only [if_true]
    rcases parts_of 47 t with h2 | ⟨b, u, rfl, h2⟩
    · rw [splitB_none h2]
    · rw [splitB_at h2, numR_has (by omega) 47 (by decide) (by simp), fin6_none]
      obtain ⟨x, l, hx⟩ : ∃ x l, splitB 47 u = x :: l := by
        cases hu : splitB 47 u with
        | nil => exact absurd hu (splitB_ne 47 u)
        | cons x l => exact ⟨x, l, rfl⟩
      rw [hx]

/-- A number in base 16, of at most f digits. -/
def dg (k : Nat) : UInt8 := if k < 10 then UInt8.ofNat (48 + k) else UInt8.ofNat (87 + k)
def hexF : Nat → Nat → List UInt8
  | 0, _ => []
  | f + 1, n => if n < 16 then [dg n] else hexF f (n / 16) ++ [dg (n % 16)]
def hexS (n : Nat) : List UInt8 := hexF 4 n
def joinH : List Nat → List UInt8
  | [] => []
  | [x] => hexS x
  | x :: y :: l => hexS x ++ 58 :: joinH (y :: l)
def word (w k : Nat) : Nat := w / 2 ^ (48 - 16 * k) % 65536
def wordsL (hi lo : Nat) : List Nat := [word hi 0, word hi 1, word hi 2, word hi 3, word lo 0, word lo 1, word lo 2, word lo 3]
/-- The longest row of numbers 0: where it begins, and ends; by the way of the program. -/
def zGo : Nat → Nat → Nat → Nat → List Bool → Nat × Nat
  | _, f, t, _, [] => (f, t)
  | s, f, t, i, b :: l => if b = false then zGo (i + 1) f t (i + 1) l else if max 1 (t - f) < i + 1 - s then zGo s s (i + 1) (i + 1) l else zGo s f t (i + 1) l
def zrow (l : List Nat) : Nat × Nat := zGo 0 0 0 0 (l.map (fun x => decide (x = 0)))
/-- .. by the way of the reference: its place (9: none), and how many. -/
def runB : List Bool → Nat
  | [] => 0
  | b :: l => if b = true then runB l + 1 else 0
def rGo : Nat → Nat → Nat → List Bool → Nat × Nat
  | at_, m, _, [] => (at_, m)
  | at_, m, i, b :: l => if m < runB (b :: l) then rGo i (runB (b :: l)) (i + 1) l else rGo at_ m (i + 1) l
def showW (l : List Nat) : List UInt8 := if (zrow l).1 < (zrow l).2 then joinH (l.take (zrow l).1) ++ 58 :: 58 :: joinH (l.drop (zrow l).2) else joinH l
def showK (hi lo : Nat) (n : Int) : List UInt8 := if rightB hi lo n = true then showW (wordsL hi lo) ++ 47 :: Lib.decDigits n.toNat else []
def all8 (f : List Bool → Bool) : Bool := [false, true].all fun a => [false, true].all fun b => [false, true].all fun c => [false, true].all fun d => [false, true].all fun e => [false, true].all fun g => [false, true].all fun h => [false, true].all fun k => f [a, b, c, d, e, g, h, k]
theorem all8_spec {f : List Bool → Bool} (h : all8 f = true) (l : List Bool) (hl : l.length = 8) : f l = true := by
  have hb : ∀ (b : Bool) (g : Bool → Bool), ([false, true].all g) = true → g b = true := fun b g hg => List.all_eq_true.1 hg b (by cases b <;> simp)
  match l, hl with
  | [a, b, c, d, e, g, h', k], _ => exact hb k _ (hb h' _ (hb g _ (hb e _ (hb d _ (hb c _ (hb b _ (hb a _ h)))))))
def zOk (l : List Bool) : Bool :=
  let z := zGo 0 0 0 0 l
  let r := rGo 9 1 0 l
  if z.1 < z.2 then decide (r.1 = z.1) && decide (r.2 = z.2 - z.1) && decide (z.2 ≤ 8) && decide (2 ≤ z.2 - z.1) && ((l.take z.2).drop z.1).all id else decide (r.1 = 9)
theorem z_ok (l : List Bool) (hl : l.length = 8) : zOk l = true := all8_spec (by decide +kernel) l hl
theorem zrow_spec {l : List Nat} (hl : l.length = 8) :
    ((zrow l).1 < (zrow l).2 ∧ (rGo 9 1 0 (l.map (fun x => decide (x = 0)))) = ((zrow l).1, (zrow l).2 - (zrow l).1) ∧ (zrow l).2 ≤ 8 ∧ (zrow l).1 + 2 ≤ (zrow l).2 ∧ (l.take (zrow l).2).drop (zrow l).1 = List.replicate ((zrow l).2 - (zrow l).1) 0) ∨
    (¬ (zrow l).1 < (zrow l).2 ∧ (rGo 9 1 0 (l.map (fun x => decide (x = 0)))).1 = 9) := by
  have h := z_ok (l.map (fun x => decide (x = 0))) (by simp [hl])
  unfold zOk at h
  simp only [show zGo 0 0 0 0 (l.map (fun x => decide (x = 0))) = zrow l from rfl] at h
  by_cases hz : (zrow l).1 < (zrow l).2
  · left
    rw [if_pos hz] at h
    simp only [Bool.and_eq_true, decide_eq_true_eq] at h
    obtain ⟨⟨⟨⟨h1, h2⟩, h3⟩, h4⟩, h5⟩ := h
    refine ⟨hz, Prod.ext h1 h2, h3, by omega, ?_⟩
    rw [← List.map_take, ← List.map_drop] at h5
    rw [List.eq_replicate_iff]
    refine ⟨by simp; omega, fun x hx => ?_⟩
    have := List.all_eq_true.1 h5 (decide (x = 0)) (List.mem_map.2 ⟨x, hx, rfl⟩)
    simpa using this
  · right
    rw [if_neg hz] at h
    exact ⟨hz, by simpa using h⟩
end Go.Proofs.YtegaeifmikfpcaaDoor.M
