/-
  What package mixer, and the reference's answers to it, hand back, for every number, seed and prefix. No condition on the number that is mixed; that the words of a prefix are words of 64 bits.
-/
import Derived.Test.YtcfioplbbbaeoaaM11
import Derived.Test.YtcfioplbbbaeoaaW11
import Derived.Test.YtcfioplbbbaeoaaM1
/-
  Rows of routes in memory: a list of keys with their values as cells, four to each; rows of the call's own, and what is read of them. No condition but those that stand in each.
-/
set_option linter.unusedSimpArgs false
set_option linter.unusedVariables false
namespace Go.Proofs.Ytcfioplbbbaeoaa
open Go.RowKit Go.Sort M

def rcell (r : Rt) : List Value := [.int .u64 (r.k.h : Int), .int .u64 (r.k.l : Int), .int .i64 r.k.n, .int .i64 r.v]
def rcs (L : List Rt) : List Value := L.flatMap rcell
theorem rcs_len (L : List Rt) : (rcs L).length = L.length * 4 := by
  unfold rcs
  induction L with
  | nil => rfl
  | cons x L ih => simp only [List.flatMap_cons, List.length_append, ih, rcell, List.length_cons, List.length_nil]; omega
theorem rcs_append (L M : List Rt) : rcs (L ++ M) = rcs L ++ rcs M := by simp [rcs]
theorem rcs_cons (x : Rt) (L : List Rt) : rcs (x :: L) = rcell x ++ rcs L := rfl
theorem rcs_one (p : Rt) : rcs [p] = rcell p := by simp [rcs]
theorem rcs_cell : ∀ (L : List Rt) (k j : Nat) (h : k < L.length), j < 4 → (rcs L)[k * 4 + j]? = (rcell L[k])[j]?
  | x :: L, 0, j, _, hj => by
    rw [rcs_cons, List.getElem?_append_left (by simp [rcell]; omega)]
    simp
  | x :: L, k + 1, j, h, hj => by
    rw [rcs_cons, List.getElem?_append_right (by simp [rcell]; omega), show (k + 1) * 4 + j - (rcell x).length = k * 4 + j by simp [rcell]; omega]
    rw [rcs_cell L k j (by simpa using h) hj]
    simp
theorem rcs_one' (L : List Rt) : ∀ u ∈ rcs L, u.oneCell' = true := by
  intro u hu
  unfold rcs at hu
  rw [List.mem_flatMap] at hu
  obtain ⟨p, -, hp⟩ := hu
  simp only [rcell, List.mem_cons, List.not_mem_nil, or_false] at hp
  rcases hp with rfl | rfl | rfl | rfl <;> rfl
/-- Number k of a row of routes. -/
theorem Row.rt {w : World} {p : Option Addr} {L : List Rt} (h : Row w p (rcs L)) {k : Nat} (hk : k < L.length) : ∃ g o, p = some ⟨g, o, none⟩ ∧ g < w.heap.size ∧
    w.cell? ⟨g, o + k * 4, none⟩ = some (.int .u64 (L[k].k.h : Int)) ∧ w.cell? ⟨g, o + k * 4 + 1, none⟩ = some (.int .u64 (L[k].k.l : Int)) ∧ w.cell? ⟨g, o + k * 4 + 2, none⟩ = some (.int .i64 L[k].k.n) ∧ w.cell? ⟨g, o + k * 4 + 3, none⟩ = some (.int .i64 L[k].v) := by
  rcases h with h | ⟨g, o, e, hg, hc⟩
  · have := rcs_len L
    rw [h] at this
    simp at this; omega
  · exact ⟨g, o, e, hg, hc (k * 4) _ (rcs_cell L k 0 hk (by omega)), hc (k * 4 + 1) _ (rcs_cell L k 1 hk (by omega)), hc (k * 4 + 2) _ (rcs_cell L k 2 hk (by omega)), hc (k * 4 + 3) _ (rcs_cell L k 3 hk (by omega))⟩
/-- A new row of routes. -/
def NewRts (w w' : World) (e : Ending) (L : List Rt) : Prop := ∃ p c, e = .returned (.slice p L.length c) ∧ w'.ownsRow w.heap.size 43 4 (.slice p L.length c) L.length (rcs L) ∧ Below w.heap.size w w'
theorem infoR : (Try.prog.info? 43).map (fun i => (i.zero, i.size, i.bytes)) = some (some (.agg #[.int .u64 0, .int .u64 0, .int .i64 0, .int .i64 0]), 4, 32) := by kernel_rfl
/-- Four new cells, at the head of their block. -/
theorem four_new {w : World} {g : Nat} {a b c d : Value} (h0 : w.cell? ⟨g, 0, none⟩ = some a) (h1 : w.cell? ⟨g, 1, none⟩ = some b) (h2 : w.cell? ⟨g, 2, none⟩ = some c) (h3 : w.cell? ⟨g, 3, none⟩ = some d) :
    ∀ j u, [a, b, c, d][j]? = some u → w.cell? ((⟨g, 0, none⟩ : Addr).add j) = some u := by
  intro j u hj
  have hlt : j < 4 := (List.getElem?_eq_some_iff.1 hj).1
  have he : (⟨g, 0, none⟩ : Addr).add j = ⟨g, j, none⟩ := by unfold Addr.add; split <;> simp_all
  rw [he]
  rcases (show j = 0 ∨ j = 1 ∨ j = 2 ∨ j = 3 by omega) with rfl | rfl | rfl | rfl <;> (simp only [List.getElem?_cons_zero, List.getElem?_cons_succ, Option.some.injEq] at hj; subst hj; assumption)
theorem own_rsnoc {w : World} {B n : Nat} {e : TypeId} {v : Value} {L : List Rt} {x : Rt} (h : w.ownsRow B e 4 v (n + 1) (rcs L ++ rcell x)) (hn : n = L.length) : w.ownsRow B e 4 v (L ++ [x]).length (rcs (L ++ [x])) := by
  rw [rcs_append, rcs_one, List.length_append, ← hn]
  exact h
end Go.Proofs.Ytcfioplbbbaeoaa
/-
  What All of a bucket hands back: a new row of routes, by place. No condition but that the bucket's cells lie in memory.
-/
set_option linter.unusedSimpArgs false
set_option linter.unusedVariables false
namespace Go.Proofs.Ytcfioplbbbaeoaa
open Go.RowKit Go.Sort M

end Go.Proofs.Ytcfioplbbbaeoaa
/-
  The reference's bucket in memory: twenty cells of a block, from an offset on: four routes, and which of them are there; what its calls hand back, and what it is then. No condition but that its cells lie in memory.
-/
set_option linter.unusedSimpArgs false
set_option linter.unusedVariables false
namespace Go.Proofs.Ytcfioplbbbaeoaa
open Go.RowKit Go.Sort M

structure RBk (w : World) (g o : Nat) (C : List Pl) : Prop where
  four : C.length = 4
  lt : g < w.heap.size
  rt : ∀ (i : Nat) (hi : i < C.length), w.cell? ⟨g, o + i * 4, none⟩ = some (.int .u64 (xh C[i] : Int)) ∧ w.cell? ⟨g, o + i * 4 + 1, none⟩ = some (.int .u64 (xl C[i] : Int)) ∧ w.cell? ⟨g, o + i * 4 + 2, none⟩ = some (.int .i64 (xn C[i])) ∧ w.cell? ⟨g, o + i * 4 + 3, none⟩ = some (.int .i64 (xv C[i]))
  on : ∀ (i : Nat) (hi : i < C.length), w.cell? ⟨g, o + 16 + i, none⟩ = some (.bool C[i].isSome)
  free : ∀ j, j < 20 → w.frozen? ⟨g, o + j, none⟩ = false
theorem RBk.kept {w w' : World} {g o : Nat} {C : List Pl} (H : RBk w g o C) (hs : w.heap.size ≤ w'.heap.size) (h : ∀ x, x < 20 → w'.cell? ⟨g, o + x, none⟩ = w.cell? ⟨g, o + x, none⟩ ∧ w'.frozen? ⟨g, o + x, none⟩ = w.frozen? ⟨g, o + x, none⟩) : RBk w' g o C := by
  have h4 := H.four
  refine ⟨H.four, Nat.lt_of_lt_of_le H.lt hs, fun i hi => ?_, fun i hi => ?_, fun j hj => (h j hj).2.trans (H.free j hj)⟩
  · obtain ⟨a, b, c, d⟩ := H.rt i hi
    simp only [Nat.add_assoc] at *
    exact ⟨(h _ (by omega)).1.trans a, (h _ (by omega)).1.trans b, (h _ (by omega)).1.trans c, (h _ (by omega)).1.trans d⟩
  · have := H.on i hi
    rw [Nat.add_assoc] at *
    exact (h _ (by omega)).1.trans this
theorem RBk.below {w w' : World} {g o : Nat} {C : List Pl} (H : RBk w g o C) (hb : Below w.heap.size w w') : RBk w' g o C :=
  H.kept hb.size fun x _ => ⟨hb.cell (p := ⟨g, o + x, none⟩) H.lt, hb.frozen (p := ⟨g, o + x, none⟩) H.lt⟩
theorem RBk.apart {w w' : World} {g o g' o' n : Nat} {C : List Pl} (H : RBk w g o C) (h : Turn w w' g' o' n) (hne : g ≠ g' ∨ o + 20 ≤ o' ∨ o' + n ≤ o) : RBk w' g o C := by
  refine H.kept h.grown.size fun x hx => ?_
  by_cases e : g = g'
  · subst e
    exact ⟨h.cell _ (by omega), h.frozen _⟩
  · have hb := h.grown.block g H.lt (by simpa using e)
    exact ⟨World.cell?_of_block hb, by unfold World.frozen?; rw [hb]⟩
/-- The four cells of a route are written. -/
def put4 (w : World) (g p : Nat) (x : Pl) : World :=
  (((w.setCell ⟨g, p, none⟩ (.int .u64 (xh x : Int))).setCell ⟨g, p + 1, none⟩ (.int .u64 (xl x : Int))).setCell ⟨g, p + 2, none⟩ (.int .i64 (xn x))).setCell ⟨g, p + 3, none⟩ (.int .i64 (xv x))
theorem turn_put4 (w : World) (g p : Nat) (x : Pl) : Turn w (put4 w g p x) g p 4 :=
  (((turn_one w g p 4 p _ (by omega) (by omega)).trans (turn_one _ g p 4 (p + 1) _ (by omega) (by omega))).trans (turn_one _ g p 4 (p + 2) _ (by omega) (by omega))).trans (turn_one _ g p 4 (p + 3) _ (by omega) (by omega))
def Four (w : World) (g p : Nat) (x : Pl) : Prop := w.cell? ⟨g, p, none⟩ = some (.int .u64 (xh x : Int)) ∧ w.cell? ⟨g, p + 1, none⟩ = some (.int .u64 (xl x : Int)) ∧ w.cell? ⟨g, p + 2, none⟩ = some (.int .i64 (xn x)) ∧ w.cell? ⟨g, p + 3, none⟩ = some (.int .i64 (xv x))
theorem four_put {w : World} {g p : Nat} (x : Pl) {y : Pl} (h : Four w g p y) : Four (put4 w g p x) g p x := by
  obtain ⟨a, b, c, d⟩ := h
  unfold put4
  refine ⟨?_, ?_, ?_, ?_⟩ <;> simp [go_sem, a, b, c, d]
theorem RBk.turned {w : World} {g o : Nat} {C : List Pl} (H : RBk w g o C) {i : Nat} (hi : i < C.length) (x : Pl) {wa wb : World} (h1 : Turn w wa g (o + i * 4) 4) (hc : Four wa g (o + i * 4) x) (h2 : Turn wa wb g (o + 16 + i) 1)
    (hd : wb.cell? ⟨g, o + 16 + i, none⟩ = some (.bool x.isSome)) : RBk wb g o (C.set i x) ∧ Turn w wb g o 20 := by
  have h4 := H.four
  refine ⟨⟨by simpa using h4, Nat.lt_of_lt_of_le H.lt (Nat.le_trans h1.grown.size h2.grown.size), fun k hk => ?_, fun k hk => ?_, fun j hj => (h2.frozen _).trans ((h1.frozen _).trans (H.free j hj))⟩, (h1.mono (by omega) (by omega)).trans (h2.mono (by omega) (by omega))⟩
  · rw [List.length_set] at hk
    by_cases e : i = k
    · subst e
      rw [List.getElem_set_self]
      obtain ⟨a, b, c, d⟩ := hc
      exact ⟨(h2.cell _ (by omega)).trans a, (h2.cell _ (by omega)).trans b, (h2.cell _ (by omega)).trans c, (h2.cell _ (by omega)).trans d⟩
    · rw [List.getElem_set_ne e]
      obtain ⟨a, b, c, d⟩ := H.rt k hk
      exact ⟨((h2.cell _ (by omega)).trans (h1.cell _ (by omega))).trans a, ((h2.cell _ (by omega)).trans (h1.cell _ (by omega))).trans b, ((h2.cell _ (by omega)).trans (h1.cell _ (by omega))).trans c, ((h2.cell _ (by omega)).trans (h1.cell _ (by omega))).trans d⟩
  · rw [List.length_set] at hk
    by_cases e : i = k
    · subst e
      rw [List.getElem_set_self]
      exact hd
    · rw [List.getElem_set_ne e]
      exact ((h2.cell _ (by omega)).trans (h1.cell _ (by omega))).trans (H.on k hk)
end Go.Proofs.Ytcfioplbbbaeoaa
/-
  What is kept of old memory where some blocks may be written: a set of blocks aside, all is as it was. No condition but those that stand in each.
-/
set_option linter.unusedSimpArgs false
set_option linter.unusedVariables false
namespace Go.Proofs.Ytcfioplbbbaeoaa
open Go.RowKit Go.Sort M

/-- The blocks of S aside, all old memory is as it was. -/
structure Touch (S : Nat → Prop) (w w' : World) : Prop where
  os : w'.os = w.os
  tape : w'.tape = w.tape
  output : w'.output = w.output
  size : w.heap.size ≤ w'.heap.size
  block : ∀ k, k < w.heap.size → ¬ S k → w'.heap[k]? = w.heap[k]?
/-- The blocks from lo on, below hi. -/
def In (lo hi : Nat) (k : Nat) : Prop := lo ≤ k ∧ k < hi
section
variable {S T : Nat → Prop} {a b c : World}
theorem Touch.refl (S : Nat → Prop) (w : World) : Touch S w w := ⟨rfl, rfl, rfl, Nat.le_refl _, fun _ _ _ => rfl⟩
theorem Touch.trans (h : Touch S a b) (k : Touch S b c) : Touch S a c :=
  ⟨k.os.trans h.os, k.tape.trans h.tape, k.output.trans h.output, Nat.le_trans h.size k.size, fun i hi hn => (k.block i (Nat.lt_of_lt_of_le hi h.size) hn).trans (h.block i hi hn)⟩
theorem Touch.mono (h : Touch S a b) (hs : ∀ k, k < a.heap.size → S k → T k) : Touch T a b :=
  ⟨h.os, h.tape, h.output, h.size, fun i hi hn => h.block i hi (fun x => hn (hs i hi x))⟩
theorem Touch.of_grown {row : Option Nat} (h : a.grownBy b row) (hs : ∀ k, some k = row → S k) : Touch S a b :=
  ⟨h.os, h.tape, h.output, h.size, fun i hi hn => h.block i hi (fun e => hn (hs i e))⟩
theorem Touch.of_below {B : Nat} (h : Below B a b) (hs : ∀ k, k < a.heap.size → B ≤ k → S k) : Touch S a b :=
  ⟨h.os, h.tape, h.output, h.size, fun i hi hn => h.block i (by
    by_cases e : B ≤ i
    · exact absurd (hs i hi e) hn
    · omega)⟩
theorem Touch.quiet (h : Below a.heap.size a b) : Touch S a b := Touch.of_below h (fun k h1 h2 => absurd h1 (by omega))
theorem Touch.below {B : Nat} (h : Touch S a b) (hB : B ≤ a.heap.size) (hs : ∀ k, S k → B ≤ k) : Below B a b :=
  ⟨h.os, h.tape, h.output, h.size, fun i hi => h.block i (by omega) (fun x => by have := hs i x; omega)⟩
theorem Touch.cell (h : Touch S a b) {p : Addr} {v : Value} (hc : a.cell? p = some v) (hn : ¬ S p.block) : b.cell? p = some v :=
  (World.cell?_of_block (h.block p.block (World.block_lt_of_cell? a p hc) hn)).trans hc
theorem Touch.own {B n k : Nat} {e : TypeId} {v : Value} {xs : List Value} (h : a.ownsRow B e k v n xs) (ht : Touch S a b) (hn : ∀ j, v.ownBlock = some j → ¬ S j) : b.ownsRow B e k v n xs := by
  refine ⟨h.1, ?_⟩
  rcases h.2 with hx | ⟨g, cap, cur, rfl, hb, hgg, rest⟩
  · exact .inl hx
  · refine .inr ⟨g, cap, cur, rfl, hb, ?_, rest⟩
    rw [ht.block g (Array.getElem?_eq_some_iff.1 hgg).1 (hn g rfl)]
    exact hgg
end
end Go.Proofs.Ytcfioplbbbaeoaa
/-
  Plain mathematics: the mixing of words of 64 bits, told step by step, and that no two words are mixed to one. No condition but that the words are words of 64 bits.
-/
set_option linter.unusedSimpArgs false
set_option linter.unusedVariables false
namespace Go.Proofs.Ytcfioplbbbaeoaa.M

/-- A word and itself, shifted, against each other. -/
def xsh (s x : Nat) : Nat := x ^^^ (x / 2 ^ s)
def mulW (c x : Nat) : Nat := x * c % 2 ^ 64
def addW (c x : Nat) : Nat := (x + c) % 2 ^ 64
/-- What a word is mixed to. -/
def mixN (x : Nat) : Nat := xsh 31 (mulW 10723151780598845931 (xsh 27 (mulW 13787848793156543929 (xsh 30 (addW 11400714819323198485 x)))))
theorem xsh_w (s x : Nat) (h : W64 x) : W64 (xsh s x) := Nat.xor_lt_two_pow h (Nat.lt_of_le_of_lt (Nat.div_le_self _ _) h)
theorem mulW_w (c x : Nat) : W64 (mulW c x) := Nat.mod_lt _ (by decide)
theorem addW_w (c x : Nat) : W64 (addW c x) := Nat.mod_lt _ (by decide)
theorem mixN_w (x : Nat) : W64 (mixN x) := xsh_w _ _ (mulW_w _ _)
theorem xsh_inj (s x y : Nat) (hs : 0 < s) (hx : W64 x) (hy : W64 y) (h : xsh s x = xsh s y) : x = y := by
  have bit : ∀ i, x.testBit i = (y.testBit i ^^ (x.testBit (i + s) ^^ y.testBit (i + s))) := fun i => by
    have e := congrArg (fun z => z.testBit i) h
    simp only [xsh, Nat.testBit_xor, Nat.testBit_div_two_pow] at e
    cases h1 : x.testBit i <;> cases h2 : y.testBit i <;> cases h3 : x.testBit (i + s) <;> cases h4 : y.testBit (i + s) <;> simp_all
  have key : ∀ d i, 64 ≤ i + d → x.testBit i = y.testBit i := by
    intro d
    induction d with
    | zero =>
      intro i hi
      have h2 : (2 : Nat) ^ 64 ≤ 2 ^ i := Nat.pow_le_pow_right (by decide) (by omega)
      rw [Nat.testBit_lt_two_pow (Nat.lt_of_lt_of_le hx h2), Nat.testBit_lt_two_pow (Nat.lt_of_lt_of_le hy h2)]
    | succ d ih =>
      intro i hi
      rw [bit i, ih (i + s) (by omega)]
      cases y.testBit i <;> cases y.testBit (i + s) <;> rfl
  exact Nat.eq_of_testBit_eq fun i => key 64 i (by omega)
theorem mulW_inj (c d x y : Nat) (hcd : c * d % 2 ^ 64 = 1) (hx : W64 x) (hy : W64 y) (h : mulW c x = mulW c y) : x = y := by
  have e : ∀ z, W64 z → mulW c z * d % 2 ^ 64 = z := fun z hz => by
    unfold mulW
    rw [Nat.mod_mul_mod, Nat.mul_assoc, Nat.mul_mod, hcd, Nat.mul_one, Nat.mod_mod, Nat.mod_eq_of_lt hz]
  rw [← e x hx, ← e y hy, h]
theorem addW_inj (c x y : Nat) (hx : W64 x) (hy : W64 y) (h : addW c x = addW c y) : x = y := by
  unfold addW at h
  unfold W64 at hx hy
  omega
/-- No two words are mixed to one. -/
theorem mixN_inj (x y : Nat) (hx : W64 x) (hy : W64 y) (h : mixN x = mixN y) : x = y := by
  unfold mixN at h
  have h1 := xsh_inj 31 _ _ (by decide) (mulW_w _ _) (mulW_w _ _) h
  have h2 := mulW_inj _ 3573116690164977347 _ _ (by decide) (xsh_w _ _ (mulW_w _ _)) (xsh_w _ _ (mulW_w _ _)) h1
  have h3 := xsh_inj 27 _ _ (by decide) (mulW_w _ _) (mulW_w _ _) h2
  have h4 := mulW_inj _ 10871156337175269513 _ _ (by decide) (xsh_w _ _ (addW_w _ _)) (xsh_w _ _ (addW_w _ _)) h3
  have h5 := xsh_inj 30 _ _ (by decide) (addW_w _ _) (addW_w _ _) h4
  exact addW_inj _ _ _ hx hy h5
theorem mixN_zero : mixN 0 = 16294208416658607535 := by decide +kernel
/-- The hash of a prefix. -/
def hashN (seed h l : Nat) (n : Nat) : Nat := mixN (mixN (mixN (seed ^^^ h) ^^^ l) ^^^ n)
end Go.Proofs.Ytcfioplbbbaeoaa.M
/-
  What package mixer, and the reference's answers to it, hand back, for every number, seed and prefix. No condition on the number that is mixed; that the words of a prefix are words of 64 bits.
-/
set_option linter.unusedSimpArgs false
set_option linter.unusedVariables false
namespace Go.Proofs.Ytcfioplbbbaeoaa
open Go.RowKit Go.Sort M

/-- A whole number as a word of 64 bits. -/
def wordZ (n : Int) : Nat := (n % 18446744073709551616).toNat
theorem wordZ_w (n : Int) : W64 (wordZ n) := W64.mk (by unfold wordZ; omega)
theorem wordZ_nat (x : Nat) (h : W64 x) : wordZ (x : Int) = x := by
  have := h.lt
  unfold wordZ
  omega
theorem wrap_word (n : Int) : IntKind.u64.wrap n = (wordZ n : Int) := by
  rw [IntKind.wrap_u64]
  unfold wordZ
  omega
/-- What is mixed of a word, as the walks write it. -/
def mixZ (x : Int) : Int := (mixN (wordZ x) : Nat)
theorem mixZ_nat (x : Nat) (h : W64 x) : mixZ (x : Int) = (mixN x : Nat) := by unfold mixZ; rw [wordZ_nat x h]
theorem add_word (x : Int) : IntKind.u64.wrap (x + 11400714819323198485) = (addW 11400714819323198485 (wordZ x) : Nat) := by
  rw [IntKind.wrap_u64]
  unfold addW wordZ
  omega
theorem mul_word (c x : Nat) : IntKind.u64.wrap ((x : Int) * (c : Int)) = (mulW c x : Nat) := by
  rw [IntKind.wrap_u64, ← Int.natCast_mul]
  unfold mulW
  omega
theorem xsh_word (x s : Nat) (h : W64 x) : bits BinOp.xor IntKind.u64 (x : Int) ((x : Int) / (2 ^ s : Nat)) = (xsh s x : Nat) := by
  rw [← Int.natCast_ediv, bits_xor_u64_nat _ _ h.lt (Nat.lt_of_le_of_lt (Nat.div_le_self _ _) h.lt)]
  rfl
theorem mix_eq (x : Int) :
    bits BinOp.xor IntKind.u64 (IntKind.u64.wrap (bits BinOp.xor IntKind.u64 (IntKind.u64.wrap (bits BinOp.xor IntKind.u64 (IntKind.u64.wrap (x + 11400714819323198485)) (IntKind.u64.wrap (x + 11400714819323198485) / 1073741824) * 13787848793156543929)) (IntKind.u64.wrap (bits BinOp.xor IntKind.u64 (IntKind.u64.wrap (x + 11400714819323198485)) (IntKind.u64.wrap (x + 11400714819323198485) / 1073741824) * 13787848793156543929) / 134217728) * 10723151780598845931))
      (IntKind.u64.wrap (bits BinOp.xor IntKind.u64 (IntKind.u64.wrap (bits BinOp.xor IntKind.u64 (IntKind.u64.wrap (x + 11400714819323198485)) (IntKind.u64.wrap (x + 11400714819323198485) / 1073741824) * 13787848793156543929)) (IntKind.u64.wrap (bits BinOp.xor IntKind.u64 (IntKind.u64.wrap (x + 11400714819323198485)) (IntKind.u64.wrap (x + 11400714819323198485) / 1073741824) * 13787848793156543929) / 134217728) * 10723151780598845931) / 2147483648) = mixZ x := by
  have e1 := add_word x
  have w1 := addW_w 11400714819323198485 (wordZ x)
  have e2 := xsh_word _ 30 w1
  have w2 := xsh_w 30 _ w1
  have e3 := mul_word 13787848793156543929 (xsh 30 (addW 11400714819323198485 (wordZ x)))
  have w3 := mulW_w 13787848793156543929 (xsh 30 (addW 11400714819323198485 (wordZ x)))
  have e4 := xsh_word _ 27 w3
  have e5 := mul_word 10723151780598845931 (xsh 27 (mulW 13787848793156543929 (xsh 30 (addW 11400714819323198485 (wordZ x)))))
  have w5 := mulW_w 10723151780598845931 (xsh 27 (mulW 13787848793156543929 (xsh 30 (addW 11400714819323198485 (wordZ x)))))
  have e6 := xsh_word _ 31 w5
  simp only [Nat.reducePow, Int.cast_ofNat_Int] at e2 e3 e4 e5 e6
  rw [e1, e2, e3, e4, e5, e6]
  rfl

theorem xor_word (x y : Nat) (h : W64 x) (h2 : W64 y) : bits BinOp.xor IntKind.u64 (x : Int) (y : Int) = (x ^^^ y : Nat) := bits_xor_u64_nat _ _ h.lt h2.lt
theorem hash_eq (s h l : Nat) (n : Int) (hs : W64 s) (hh : W64 h) (hl : W64 l) :
    mixZ (bits BinOp.xor IntKind.u64 (mixZ (bits BinOp.xor IntKind.u64 (mixZ (bits BinOp.xor IntKind.u64 (s : Int) (h : Int))) (l : Int))) (IntKind.u64.wrap n)) = (hashN s h l (wordZ n) : Nat) := by
  rw [xor_word s h hs hh, mixZ_nat _ (Nat.xor_lt_two_pow hs hh), xor_word _ l (mixN_w _) hl, mixZ_nat _ (Nat.xor_lt_two_pow (mixN_w _) hl), wrap_word, xor_word _ _ (mixN_w _) (wordZ_w n), mixZ_nat _ (Nat.xor_lt_two_pow (mixN_w _) (wordZ_w n))]
  rfl
end Go.Proofs.Ytcfioplbbbaeoaa
