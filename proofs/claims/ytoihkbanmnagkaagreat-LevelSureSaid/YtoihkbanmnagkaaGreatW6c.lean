/-
  What the reference's row of places hands back: a new row of numbers. No condition but that the words are words of 64 bits, and that the count of places is a whole number of 64 bits.
-/
import Derived.Test.YtoihkbanmnagkaaGreatTouch0
import Derived.Test.YtoihkbanmnagkaaGreatNib
import Derived.Test.YtoihkbanmnagkaaGreatM7b
import Derived.Test.YtoihkbanmnagkaaGreatReg
import Derived.Laws.Bits64b
import Derived.Shelf.Bits.Mul64
import Derived.Test.YtoihkbanmnagkaaGreatProg
/-
  What is kept of packed counters and packed bits where some blocks may be written. No condition but those that stand in each.
-/
set_option linter.unusedSimpArgs false
set_option linter.unusedVariables false
namespace Go.Proofs.YtoihkbanmnagkaaGreat
open Go.RowKit Go.Sort M

section
variable {S T : Nat → Prop} {a b c : World}
theorem Nib.touched {B g h : Nat} {C : List Nat} (H : Nib a B g h C) (ht : Touch S a b) (h1 : ¬ S g) (h2 : ¬ S h) : Nib b B g h C :=
  ⟨H.low, Nat.lt_of_lt_of_le H.lt ht.size, H.ne, ht.cell H.words h1, ht.cell H.num h1, ht.own H.own (fun j e => by cases e; exact h2), H.small, H.len⟩
theorem Bts.touched {B g h : Nat} {C : List Bool} (H : Bts a B g h C) (ht : Touch S a b) (h1 : ¬ S g) (h2 : ¬ S h) : Bts b B g h C :=
  ⟨H.low, Nat.lt_of_lt_of_le H.lt ht.size, H.ne, ht.cell H.words h1, ht.cell H.num h1, ht.own H.own (fun j e => by cases e; exact h2), H.len⟩
end
end Go.Proofs.YtoihkbanmnagkaaGreat
/-
  A row of numbers beside packed counters; what Up and Down leave, counter by counter. No condition but those that stand in each.
-/
set_option linter.unusedSimpArgs false
set_option linter.unusedVariables false
namespace Go.Proofs.YtoihkbanmnagkaaGreat
open Go.RowKit Go.Sort M

def iC (C : List Nat) : List Value := ics (C.map fun (c : Nat) => (c : Int))
theorem getN_at {C : List Nat} {k : Nat} (h : k < C.length) : getN C (k : Int) = C[k] := by
  unfold getN
  rw [if_pos (by omega), Int.toNat_natCast, List.getD_eq_getElem?_getD, List.getElem?_eq_getElem h]
  rfl
theorem Nib.le {w : World} {B B' g h : Nat} {C : List Nat} (H : Nib w B g h C) (hB : B' ≤ B) : Nib w B' g h C :=
  ⟨Nat.le_trans hB H.low, H.lt, H.ne, H.words, H.num, own_le H.own hB, H.small, H.len⟩
theorem upL_len (C : List Nat) (k : Int) : (upL C k).length = C.length := by
  unfold upL
  split <;> simp
theorem downL_len (C : List Nat) (k : Int) : (downL C k).length = C.length := by
  unfold downL
  split <;> simp
theorem up_out {C : List Nat} {k : Int} (h : ¬ (0 ≤ k ∧ k < C.length)) : upB C k = false ∧ upL C k = C := by
  have : upB C k = false := by unfold upB; simp; omega
  exact ⟨this, by simp [upL, this]⟩
theorem down_out {C : List Nat} {k : Int} (h : ¬ (0 ≤ k ∧ k < C.length)) : downB C k = false ∧ downL C k = C := by
  have : downB C k = false := by unfold downB; simp; omega
  exact ⟨this, by simp [downL, this]⟩
theorem up_full {C : List Nat} {k : Nat} (h : k < C.length) (hv : C[k] = 15) : upB C k = false ∧ upL C k = C := by
  have : upB C k = false := by simp [upB, getN_at h, hv]
  exact ⟨this, by simp [upL, this]⟩
theorem up_more {C : List Nat} {k : Nat} (h : k < C.length) (hv : C[k] ≠ 15) : upB C k = true ∧ upL C k = C.set k (C[k] + 1) := by
  have : upB C k = true := by simp [upB, getN_at h, hv, h]
  exact ⟨this, by simp [upL, this, getN_at h]⟩
theorem down_stays {C : List Nat} {k : Nat} (h : k < C.length) (hv : C[k] = 15 ∨ C[k] = 0) : downB C k = false ∧ downL C k = C := by
  have : downB C k = false := by
    rcases hv with hv | hv <;> simp [downB, getN_at h, hv]
  exact ⟨this, by simp [downL, this]⟩
theorem down_less {C : List Nat} {k : Nat} (h : k < C.length) (hv : C[k] ≠ 15) (h0 : C[k] ≠ 0) : downB C k = true ∧ downL C k = C.set k (C[k] - 1) := by
  have : downB C k = true := by simp [downB, getN_at h, hv, h, h0]
  exact ⟨this, by simp [downL, this, getN_at h]⟩
end Go.Proofs.YtoihkbanmnagkaaGreat
/-
  The mathematics of a counting filter: what rows of Ups and Downs leave, counter by counter, in whichever order they come; which bits are on. No condition but those that stand in each.
-/
set_option linter.unusedSimpArgs false
set_option linter.unusedVariables false
namespace Go.Proofs.YtoihkbanmnagkaaGreat
open Go.RowKit Go.Sort M

def addL (C : List Nat) (L : List Int) : List Nat := L.foldl upL C
def remL (C : List Nat) (L : List Int) : List Nat := L.foldl downL C
def mayL (C : List Nat) (L : List Int) : Bool := L.all fun i => decide (getN C i ≠ 0)
def onsC (C : List Nat) : List Bool := C.map fun c => decide (c ≠ 0)
theorem onsC_len (C : List Nat) : (onsC C).length = C.length := by simp [onsC]
theorem onsC_zero (n : Nat) : onsC (List.replicate n 0) = List.replicate n false := by simp [onsC]
theorem addL_len : ∀ (L : List Int) (C : List Nat), (addL C L).length = C.length
  | [], _ => rfl
  | a :: L, C => (addL_len L (upL C a)).trans (upL_len C a)
theorem remL_len : ∀ (L : List Int) (C : List Nat), (remL C L).length = C.length
  | [], _ => rfl
  | a :: L, C => (remL_len L (downL C a)).trans (downL_len C a)
theorem addL_snoc (C : List Nat) (L : List Int) (k : Nat) (h : k < L.length) : addL C (L.take (k + 1)) = upL (addL C (L.take k)) L[k] := by
  unfold addL
  rw [List.take_succ_eq_append_getElem h, List.foldl_append]
  rfl
theorem remL_snoc (C : List Nat) (L : List Int) (k : Nat) (h : k < L.length) : remL C (L.take (k + 1)) = downL (remL C (L.take k)) L[k] := by
  unfold remL
  rw [List.take_succ_eq_append_getElem h, List.foldl_append]
  rfl
theorem mayL_no {C : List Nat} {L : List Int} {k : Nat} (h : k < L.length) (h0 : getN C L[k] = 0) : mayL C L = false := by
  unfold mayL
  rw [List.all_eq_false]
  exact ⟨L[k], List.getElem_mem h, by simp [h0]⟩
theorem mayL_yes {C : List Nat} {L : List Int} (h : ∀ k (hk : k < L.length), getN C L[k] ≠ 0) : mayL C L = true := by
  unfold mayL
  rw [List.all_eq_true]
  intro x hx
  obtain ⟨k, hk, rfl⟩ := List.getElem_of_mem hx
  simpa using h k hk
theorem getB_ons (C : List Nat) (k : Int) : getB (onsC C) k = decide (getN C k ≠ 0) := by
  unfold getB getN
  split
  · rw [List.getD_eq_getElem?_getD, List.getD_eq_getElem?_getD]
    unfold onsC
    rw [List.getElem?_map]
    cases h : C[k.toNat]? <;> simp
  · rfl
theorem ons_set (C : List Nat) (k : Nat) (v : Nat) : onsC (C.set k v) = (onsC C).set k (decide (v ≠ 0)) := by
  unfold onsC
  rw [List.map_set]
theorem set_self {α : Type} : ∀ (L : List α) (k : Nat) (h : k < L.length), L.set k L[k] = L
  | a :: L, 0, _ => rfl
  | a :: L, k + 1, h => congrArg (a :: ·) (set_self L k (Nat.lt_of_succ_lt_succ h))
theorem ons_self {C : List Nat} {k : Nat} (h : k < C.length) (b : Bool) (hb : b = decide (C[k] ≠ 0)) : (onsC C).set k b = onsC C := by
  subst hb
  rw [← ons_set, set_self]
theorem ons_up (C : List Nat) (i : Int) : setB (onsC C) i true = onsC (upL C i) := by
  unfold setB
  rw [onsC_len]
  by_cases h : 0 ≤ i ∧ i < C.length
  · rw [if_pos h]
    obtain ⟨k, rfl⟩ := Int.eq_ofNat_of_zero_le h.1
    have hk : k < C.length := by omega
    rw [Int.toNat_natCast]
    by_cases h15 : C[k] = 15
    · rw [(up_full hk h15).2, ons_self hk true (by simp [h15])]
    · rw [(up_more hk h15).2, ons_set]
      simp
  · rw [if_neg h, (up_out h).2]
theorem ons_down (C : List Nat) (i : Int) : setB (onsC C) i (decide (getN (downL C i) i ≠ 0)) = onsC (downL C i) := by
  unfold setB
  rw [onsC_len]
  by_cases h : 0 ≤ i ∧ i < C.length
  · rw [if_pos h]
    obtain ⟨k, rfl⟩ := Int.eq_ofNat_of_zero_le h.1
    have hk : k < C.length := by omega
    rw [Int.toNat_natCast]
    by_cases hv : C[k] = 15 ∨ C[k] = 0
    · rw [(down_stays hk hv).2, ons_self hk _ (by rw [getN_at hk])]
    · rw [(down_less hk (fun e => hv (.inl e)) (fun e => hv (.inr e))).2, ons_set, getN_at (by simpa using hk)]
      simp
  · rw [if_neg h, (down_out h).2]

theorem downL_get (C : List Nat) (i : Int) (j : Nat) (h : j < C.length) (h16 : C[j] ≤ 15) : getN (downL C i) (j : Int) = if i = j then (if getN C j = 15 then 15 else getN C j - 1) else getN C j := by
  by_cases hi : 0 ≤ i ∧ i < C.length
  · obtain ⟨k, rfl⟩ := Int.eq_ofNat_of_zero_le hi.1
    have hk : k < C.length := by omega
    rw [getN_at h]
    by_cases hv : C[k] = 15 ∨ C[k] = 0
    · rw [(down_stays hk hv).2, getN_at h]
      by_cases e : k = j
      · subst e
        rw [if_pos rfl]
        rcases hv with hv | hv
        · rw [hv, if_pos rfl]
        · rw [hv, if_neg (by decide)]
      · rw [if_neg (by omega)]
    · rw [(down_less hk (fun e => hv (.inl e)) (fun e => hv (.inr e))).2, getN_at (by simpa using h)]
      by_cases e : k = j
      · subst e
        rw [if_pos rfl, if_neg (fun e => hv (.inl e)), List.getElem_set_self]
      · rw [if_neg (by omega), List.getElem_set_ne e]
  · rw [(down_out hi).2, if_neg (by rintro rfl; omega)]
theorem remL_get : ∀ (L : List Int) (C : List Nat) (j : Nat), j < C.length → getN C (j : Int) ≤ 15 → getN (remL C L) (j : Int) = if getN C j = 15 then 15 else getN C j - L.count (j : Int)
  | [], C, j, h, h16 => by
    show getN C j = _
    split
    · assumption
    · simp
  | a :: L, C, j, h, h16 => by
    have hd := downL_get C a j h (by rw [getN_at h] at h16; exact h16)
    show getN (remL (downL C a) L) j = _
    have hl : j < (downL C a).length := by rw [downL_len]; exact h
    by_cases e : a = (j : Int)
    · have hc : (a :: L).count (j : Int) = L.count (j : Int) + 1 := by rw [List.count_cons, if_pos (by simp [e])]
      rw [if_pos e] at hd
      rw [hc]
      by_cases h15 : getN C (j : Int) = 15
      · rw [if_pos h15] at hd
        rw [remL_get L (downL C a) j hl (by omega), if_pos h15, if_pos hd]
      · rw [if_neg h15] at hd
        rw [remL_get L (downL C a) j hl (by omega), if_neg h15, if_neg (by omega), hd]
        omega
    · have hc : (a :: L).count (j : Int) = L.count (j : Int) := by rw [List.count_cons, if_neg (by simpa using e), Nat.add_zero]
      rw [if_neg e] at hd
      rw [hc, remL_get L (downL C a) j hl (by omega), hd]
end Go.Proofs.YtoihkbanmnagkaaGreat
/-
  Plain mathematics: the mixing of words of 64 bits, told step by step, and that no two words are mixed to one. No condition but that the words are words of 64 bits.
-/
set_option linter.unusedSimpArgs false
set_option linter.unusedVariables false
namespace Go.Proofs.YtoihkbanmnagkaaGreat.M

def xsh (s x : Nat) : Nat := x ^^^ (x / 2 ^ s)
def mulW (c x : Nat) : Nat := x * c % 2 ^ 64
def addW (c x : Nat) : Nat := (x + c) % 2 ^ 64
def mixN (x : Nat) : Nat := xsh 31 (mulW 10723151780598845931 (xsh 27 (mulW 13787848793156543929 (xsh 30 (addW 11400714819323198485 x)))))
theorem xsh_w (s x : Nat) (h : W64 x) : W64 (xsh s x) := Nat.xor_lt_two_pow h (Nat.lt_of_le_of_lt (Nat.div_le_self _ _) h)
theorem mulW_w (c x : Nat) : W64 (mulW c x) := Nat.mod_lt _ (by decide)
theorem addW_w (c x : Nat) : W64 (addW c x) := Nat.mod_lt _ (by decide)
theorem mixN_w (x : Nat) : W64 (mixN x) := xsh_w _ _ (mulW_w _ _)
def hashN (seed h l : Nat) (n : Nat) : Nat := mixN (mixN (mixN (seed ^^^ h) ^^^ l) ^^^ n)
end Go.Proofs.YtoihkbanmnagkaaGreat.M
/-
  What package mixer, and the reference's answers to it, hand back, for every number, seed and prefix. No condition on the number that is mixed; that the words of a prefix are words of 64 bits.
-/
set_option linter.unusedSimpArgs false
set_option linter.unusedVariables false
namespace Go.Proofs.YtoihkbanmnagkaaGreat
open Go.RowKit Go.Sort M

def wordZ (n : Int) : Nat := (n % 18446744073709551616).toNat
theorem wordZ_w (n : Int) : W64 (wordZ n) := W64.mk (by unfold wordZ; omega)
theorem wordZ_nat (x : Nat) (h : W64 x) : wordZ (x : Int) = x := by
  have := h.lt
  unfold wordZ
  omega
theorem wrap_word (n : Int) : IntKind.u64.wrap n = (wordZ n : Int) := by
  rw [IntKind.wrap_u64]
  unfold wordZ
  omega
def mixZ (x : Int) : Int := (mixN (wordZ x) : Nat)
theorem mixZ_nat (x : Nat) (h : W64 x) : mixZ (x : Int) = (mixN x : Nat) := by unfold mixZ; rw [wordZ_nat x h]
theorem add_word (x : Int) : IntKind.u64.wrap (x + 11400714819323198485) = (addW 11400714819323198485 (wordZ x) : Nat) := by
  rw [IntKind.wrap_u64]
  unfold addW wordZ
  omega
theorem mul_word (c x : Nat) : IntKind.u64.wrap ((x : Int) * (c : Int)) = (mulW c x : Nat) := by
  rw [IntKind.wrap_u64, ← Int.natCast_mul]
  unfold mulW
  omega
theorem xsh_word (x s : Nat) (h : W64 x) : bits BinOp.xor IntKind.u64 (x : Int) ((x : Int) / (2 ^ s : Nat)) = (xsh s x : Nat) := by
  rw [← Int.natCast_ediv, bits_xor_u64_nat _ _ h.lt (Nat.lt_of_le_of_lt (Nat.div_le_self _ _) h.lt)]
  rfl
theorem mix_eq (x : Int) :
    bits BinOp.xor IntKind.u64 (IntKind.u64.wrap (bits BinOp.xor IntKind.u64 (IntKind.u64.wrap (bits BinOp.xor IntKind.u64 (IntKind.u64.wrap (x + 11400714819323198485)) (IntKind.u64.wrap (x + 11400714819323198485) / 1073741824) * 13787848793156543929)) (IntKind.u64.wrap (bits BinOp.xor IntKind.u64 (IntKind.u64.wrap (x + 11400714819323198485)) (IntKind.u64.wrap (x + 11400714819323198485) / 1073741824) * 13787848793156543929) / 134217728) * 10723151780598845931))
      (IntKind.u64.wrap (bits BinOp.xor IntKind.u64 (IntKind.u64.wrap (bits BinOp.xor IntKind.u64 (IntKind.u64.wrap (x + 11400714819323198485)) (IntKind.u64.wrap (x + 11400714819323198485) / 1073741824) * 13787848793156543929)) (IntKind.u64.wrap (bits BinOp.xor IntKind.u64 (IntKind.u64.wrap (x + 11400714819323198485)) (IntKind.u64.wrap (x + 11400714819323198485) / 1073741824) * 13787848793156543929) / 134217728) * 10723151780598845931) / 2147483648) = mixZ x := by
  have e1 := add_word x
  have w1 := addW_w 11400714819323198485 (wordZ x)
  have e2 := xsh_word _ 30 w1
  have w2 := xsh_w 30 _ w1
  have e3 := mul_word 13787848793156543929 (xsh 30 (addW 11400714819323198485 (wordZ x)))
  have w3 := mulW_w 13787848793156543929 (xsh 30 (addW 11400714819323198485 (wordZ x)))
  have e4 := xsh_word _ 27 w3
  have e5 := mul_word 10723151780598845931 (xsh 27 (mulW 13787848793156543929 (xsh 30 (addW 11400714819323198485 (wordZ x)))))
  have w5 := mulW_w 10723151780598845931 (xsh 27 (mulW 13787848793156543929 (xsh 30 (addW 11400714819323198485 (wordZ x)))))
  have e6 := xsh_word _ 31 w5
  simp only [Nat.reducePow, Int.cast_ofNat_Int] at e2 e3 e4 e5 e6
  rw [e1, e2, e3, e4, e5, e6]
  rfl

set_option maxHeartbeats 400000 in
theorem mix_any (x : Int) : Gives Tryz.prog 24 #[.int .u64 x] (.int .u64 (mixZ x)) := by
  intro w
  go_enter Tryz.func24, Tryz.ntmps24
  go_wp2
  go_ret
  exact ⟨ret_num (mix_eq x), by go_grown⟩
theorem xor_word (x y : Nat) (h : W64 x) (h2 : W64 y) : bits BinOp.xor IntKind.u64 (x : Int) (y : Int) = (x ^^^ y : Nat) := bits_xor_u64_nat _ _ h.lt h2.lt
theorem hash_eq (s h l : Nat) (n : Int) (hs : W64 s) (hh : W64 h) (hl : W64 l) :
    mixZ (bits BinOp.xor IntKind.u64 (mixZ (bits BinOp.xor IntKind.u64 (mixZ (bits BinOp.xor IntKind.u64 (s : Int) (h : Int))) (l : Int))) (IntKind.u64.wrap n)) = (hashN s h l (wordZ n) : Nat) := by
  rw [xor_word s h hs hh, mixZ_nat _ (Nat.xor_lt_two_pow hs hh), xor_word _ l (mixN_w _) hl, mixZ_nat _ (Nat.xor_lt_two_pow (mixN_w _) hl), wrap_word, xor_word _ _ (mixN_w _) (wordZ_w n), mixZ_nat _ (Nat.xor_lt_two_pow (mixN_w _) (wordZ_w n))]
  rfl
set_option maxHeartbeats 400000 in
theorem hash_any (s h l : Nat) (n : Int) (hs : W64 s) (hh : W64 h) (hl : W64 l) :
    Gives Tryz.prog 107 #[.int .u64 s, .agg #[.int .u64 h, .int .u64 l, .int .i64 n]] (.int .u64 (hashN s h l (wordZ n))) := by
  intro w
  have he := Lib.hid (hash_eq s h l n hs hh hl)
  go_enter Tryz.func107, Tryz.ntmps107
  go_wp2_with fail
  have kg := cell_grow
  refine region_whole (by kernel_rfl) (by kernel_rfl) ?_
  repeat (any_goals (first | go_big_quiet_step (first | (go_at_call 24; exact Gives.at (mix_any _) _ _ _)) | quiet_step (first | (go_at_call 24; exact Gives.at (mix_any _) _ _ _))))
  refine wpQuiet_nil ?_
  clear kg
  intro w1 hb1
  obtain ⟨hc1, hf1⟩ := bcell hb1
  have hw1 : Below w.heap.size w w1 := by
    refine Below.trans ?_ (hb1.mono ?_)
    · go_grown
    · first | omega | go_size
  go_wp2
  go_ret
  exact ⟨ret_num he.out, by go_grown⟩
end Go.Proofs.YtoihkbanmnagkaaGreat
/-
  Plain mathematics: the high word of a product, by halves; that it is below the second factor, and grows with the first; where numbers as far apart as may be lie, and how many lie in one place. No condition but those that stand in each.
-/
set_option linter.unusedSimpArgs false
set_option linter.unusedVariables false
namespace Go.Proofs.YtoihkbanmnagkaaGreat.M

def redN (x m : Nat) : Nat := x * m / 2 ^ 64
theorem redN_lt (x m : Nat) (hx : W64 x) (hm : 0 < m) : redN x m < m := by
  unfold redN
  rw [Nat.div_lt_iff_lt_mul (by decide), Nat.mul_comm m]
  exact Nat.mul_lt_mul_of_pos_right hx hm
end Go.Proofs.YtoihkbanmnagkaaGreat.M
/-
  What the reference's answers of chapter 6 hand back: the place of a number, the two buckets of a prefix, the row of its places. No condition but that the words are words of 64 bits, and that the count of places is a whole number of 64 bits.
-/
set_option linter.unusedSimpArgs false
set_option linter.unusedVariables false
namespace Go.Proofs.YtoihkbanmnagkaaGreat
open Go.RowKit Go.Sort M

def redI (x : Nat) (m : Int) : Int := if m < 1 then 0 else (redN x m.toNat : Nat)
theorem redI_none {x : Nat} {m : Int} (h : m < 1) : redI x m = 0 := if_pos h
theorem redI_nat (x m : Nat) (h : 0 < m) : redI x (m : Int) = (redN x m : Nat) := by
  unfold redI
  rw [if_neg (by omega), Int.toNat_natCast]
theorem redI_nonneg (x : Nat) (m : Int) : 0 ≤ redI x m := by
  unfold redI
  split <;> omega
theorem redI_lt {x : Nat} {m : Int} (hx : W64 x) (h : 1 ≤ m) : redI x m < m := by
  obtain ⟨k, rfl⟩ := Int.eq_ofNat_of_zero_le (show 0 ≤ m by omega)
  rw [redI_nat x k (by omega)]
  have := redN_lt x k hx (by omega)
  omega

def buckI (h i : Nat) (m : Int) : Int := redI (mixN (h ^^^ i)) m
end Go.Proofs.YtoihkbanmnagkaaGreat
/-
  What the library's functions hand back, by the shelf's own theorems at this program's numbers. No condition but those that stand in each.
-/
namespace Go.Proofs
open Go.Shelf
def Tryz.lays264_ren : Go.Shelf.Ren := ⟨fun | 264 => 130 | n => n, fun | 53 => 22 | 46 => 100 | n => n, fun | n => n⟩
theorem Tryz.lays264 : Go.Proofs.Lays.n264 Tryz.prog Tryz.lays264_ren := {
  mixed := by kernel_rfl
  f264 := Tryz.func130.trans (congrArg some (by kernel_rfl))
  t46 := Tryz.underlying100
  a46 := Tryz.isAgg100
  z46 := Tryz.sizeOf100
  v46 := Tryz.zeroValue100
  t53 := Tryz.underlying22
  a53 := Tryz.isAgg22
  z53 := Tryz.sizeOf22
  v53 := Tryz.zeroValue22 }
open Go.RowKit Go.Lib in
theorem Tryz.bits_Mul64 (x y : Nat) (hx : x < 18446744073709551616) (hy : y < 18446744073709551616) (w : World) :
    Calls Tryz.prog 130 #[.int .u64 x, .int .u64 y] w fun e w' => e = .returned (.tuple #[.int .u64 ((x * y / 18446744073709551616 : Nat) : Int), .int .u64 ((x * y % 18446744073709551616 : Nat) : Int)]) ∧ w' = w := Any.bits_Mul64 Tryz.lays264 x y hx hy w
end Go.Proofs
/-
  What package pick hands back: the place of a number, the two buckets of a prefix. No condition but that the words are words of 64 bits, and that the count of places is a whole number of 64 bits.
-/
set_option linter.unusedSimpArgs false
set_option linter.unusedVariables false
namespace Go.Proofs.YtoihkbanmnagkaaGreat
open Go.RowKit Go.Sort M

theorem mul64_any (x y : Nat) (hx : W64 x) (hy : W64 y) : Gives Tryz.prog 130 #[.int .u64 x, .int .u64 y] (.tuple #[.int .u64 (redN x y : Nat), .int .u64 (x * y % 18446744073709551616 : Nat)]) :=
  Gives.still fun w => (Tryz.bits_Mul64 x y hx.lt hy.lt w).mono fun e w' ⟨he, hw⟩ => ⟨he, hw.symm⟩

set_option maxHeartbeats 1000000 in
theorem red_any (x : Nat) (m : Int) (hx : W64 x) (hm : m ≤ 9223372036854775807) :
    Gives Tryz.prog 108 #[.int .u64 x, .int .i64 m] (.int .i64 (redI x m)) := by
  intro w
  by_cases h : m < 1
  · rw [redI_none h]
    go_enter Tryz.func108, Tryz.ntmps108
    go_wp2
    go_ret
    exact ⟨rfl, by go_grown⟩
  · obtain ⟨k, rfl⟩ := Int.eq_ofNat_of_zero_le (show 0 ≤ m by omega)
    rw [redI_nat x k (by omega)]
    have hlt := redN_lt x k hx (by omega)
    have HM := Lib.hid (mul64_any x k hx (W64.mk (by omega)))
    have HL := Lib.hid (IntWalk.wrap64_in (redN x k : Nat) (by omega))
    clear hlt
    go_enter Tryz.func108, Tryz.ntmps108
    go_wp2_with fail
    refine (HM.out _).mono ?_
    rintro e0 w0 ⟨rfl, hb0⟩
    have hw0 : Below w.heap.size w w0 := by
      refine Below.trans ?_ (hb0.mono ?_)
      · go_grown
      · go_size
    go_wp2
    go_ret
    exact ⟨ret_num HL.out, hw0⟩
theorem mixx_any (h i : Nat) (hh : W64 h) (hi : W64 i) : Gives Tryz.prog 24 #[.int .u64 (bits BinOp.xor IntKind.u64 (h : Int) (i : Int))] (.int .u64 (mixN (h ^^^ i) : Nat)) := by
  have := mix_any (bits BinOp.xor IntKind.u64 (h : Int) (i : Int))
  rw [xor_word h i hh hi, mixZ_nat _ (Nat.xor_lt_two_pow hh hi)] at this
  rwa [xor_word h i hh hi]
set_option maxHeartbeats 1000000 in
theorem buck_any (s h l : Nat) (n m : Int) (hs : W64 s) (hh : W64 h) (hl : W64 l) (hm : m ≤ 9223372036854775807) :
    Gives Tryz.prog 89 #[.int .u64 s, .agg #[.int .u64 h, .int .u64 l, .int .i64 n], .int .i64 m] (.tuple #[.int .i64 (buckI (hashN s h l (wordZ n)) 1 m), .int .i64 (buckI (hashN s h l (wordZ n)) 2 m)]) := by
  intro w
  have HH := Lib.hid (hash_any s h l n hs hh hl)
  have hw : W64 (hashN s h l (wordZ n)) := mixN_w _
  generalize hashN s h l (wordZ n) = v at HH hw ⊢
  have HM1 := Lib.hid (mixx_any v 1 hw (W64.mk (by omega)))
  have HM2 := Lib.hid (mixx_any v 2 hw (W64.mk (by omega)))
  have HR1 := Lib.hid (red_any (mixN (v ^^^ 1)) m (mixN_w _) hm)
  have HR2 := Lib.hid (red_any (mixN (v ^^^ 2)) m (mixN_w _) hm)
  go_enter Tryz.func89, Tryz.ntmps89
  go_wp2_with fail
  refine (HH.out _).mono ?_
  rintro e0 w0 ⟨rfl, hb0⟩
  have hw0 : Below w.heap.size w w0 := by
    refine Below.trans ?_ (hb0.mono ?_)
    · go_grown
    · go_size
  go_wp2_with fail
  refine (HM1.out _).mono ?_
  rintro e w1 ⟨rfl, hb1⟩
  have hw1 := hw0.trans (hb1.mono hw0.size)
  go_wp2_with fail
  refine (HR1.out _).mono ?_
  rintro e w2 ⟨rfl, hb2⟩
  have hw2 := hw1.trans (hb2.mono hw1.size)
  go_wp2_with fail
  refine (HM2.out _).mono ?_
  rintro e w3 ⟨rfl, hb3⟩
  have hw3 := hw2.trans (hb3.mono hw2.size)
  go_wp2_with fail
  refine (HR2.out _).mono ?_
  rintro e w4 ⟨rfl, hb4⟩
  have hw4 := hw3.trans (hb4.mono hw3.size)
  go_wp2
  go_ret2
  exact ⟨rfl, hw4⟩
end Go.Proofs.YtoihkbanmnagkaaGreat
/-
  What the reference's row of places hands back: a new row of numbers. No condition but that the words are words of 64 bits, and that the count of places is a whole number of 64 bits.
-/
set_option linter.unusedSimpArgs false
set_option linter.unusedVariables false
namespace Go.Proofs.YtoihkbanmnagkaaGreat
open Go.RowKit Go.Sort M

def placeI (h : Nat) (m : Int) (i : Nat) : Int := redI ((h + i * (mixN h ||| 1)) % 18446744073709551616) m
def placesK (h : Nat) (m : Int) (k : Nat) : List Int := (List.range k).map (placeI h m)
theorem placesK_len (h : Nat) (m : Int) (k : Nat) : (placesK h m k).length = k := by simp [placesK]
theorem placesK_succ (h : Nat) (m : Int) (k : Nat) : placesK h m (k + 1) = placesK h m k ++ [placeI h m k] := by simp [placesK, List.range_succ]
theorem placeI_nonneg (h : Nat) (m : Int) (i : Nat) : 0 ≤ placeI h m i := redI_nonneg _ _
theorem placeI_lt (h : Nat) (m : Int) (i : Nat) (hm : 1 ≤ m) : placeI h m i < m := redI_lt (W64.mk (Nat.mod_lt _ (by decide))) hm
def placesI (h : Nat) (k m : Int) : List Int := if m < 1 then [] else placesK h m (min k.toNat 16)
theorem placesI_none {h : Nat} {k m : Int} (hm : m < 1) : placesI h k m = [] := if_pos hm
theorem placesI_few {h : Nat} {k m : Int} (hk : k < 1) : placesI h k m = [] := by
  unfold placesI
  split
  · rfl
  · rw [show k.toNat = 0 by omega]; rfl
theorem placesI_some {h : Nat} {k m : Int} (hm : ¬ m < 1) : placesI h k m = placesK h m (min k.toNat 16) := if_neg hm
theorem or_one (x : Nat) (h : W64 x) : bits BinOp.or IntKind.u64 (x : Int) 1 = ((x ||| 1 : Nat) : Int) := bits_or_u64_nat x 1 h.lt (by omega)
theorem or_one_w (x : Nat) (h : W64 x) : W64 (x ||| 1) := Nat.or_lt_two_pow h (by decide)
end Go.Proofs.YtoihkbanmnagkaaGreat
