/-
  Plain mathematics of tables of buckets: where a key lies, what is put, deleted, found, listed; what a table has, whatever was put. No condition but those that stand in each.
-/
import Derived.Test.YtlmampklgghngaaReg
import Derived.Test.YtlmampklgghngaaM6
import Derived.WalkKit
import Derived.Maps.AppendAt
import Derived.Laws.Bits64b
/-
  Rows of the call's own, behind calls that leave all old memory as it was. No condition but those that stand in each.
-/
set_option linter.unusedSimpArgs false
set_option linter.unusedVariables false
namespace Go.Proofs.Ytlmampklgghngaa
open Go.RowKit Go.Sort

theorem own_below {B n k : Nat} {e : TypeId} {v : Value} {xs : List Value} {w w' : World} (h : w.ownsRow B e k v n xs) (hb : Below w.heap.size w w') : w'.ownsRow B e k v n xs :=
  h.kept (row := none) ⟨hb.os, hb.tape, hb.output, hb.size, fun j hj _ => hb.block j hj⟩ (by cases hv : v.ownBlock <;> simp)
theorem own_slice {B n k : Nat} {e : TypeId} {v : Value} {xs : List Value} {w : World} (h : w.ownsRow B e k v n xs) : ∃ p cap, v = .slice p n cap := by
  rcases h.2 with ⟨rfl, h0⟩ | ⟨g, cap, _, rfl, _⟩
  · exact ⟨none, 0, by rw [h0]⟩
  · exact ⟨some ⟨g, 0, none⟩, cap, rfl⟩
theorem own_le {B B' n k : Nat} {e : TypeId} {v : Value} {xs : List Value} {w : World} (h : w.ownsRow B e k v n xs) (hb : B' ≤ B) : w.ownsRow B' e k v n xs :=
  ⟨h.1, h.2.elim Or.inl (fun ⟨g, cap, cur, hv, hg, r⟩ => Or.inr ⟨g, cap, cur, hv, Nat.le_trans hb hg, r⟩)⟩
end Go.Proofs.Ytlmampklgghngaa
/-
  Rows of whole numbers in memory: a list of numbers as cells, one to each; rows of the call's own, and what is read of them. No condition but those that stand in each.
-/
set_option linter.unusedSimpArgs false
set_option linter.unusedVariables false
namespace Go.Proofs.Ytlmampklgghngaa
open Go.RowKit Go.Sort

/-- The cells of a list of numbers. -/
def ics (L : List Int) : List Value := L.map fun x => .int .i64 x
theorem ics_len (L : List Int) : (ics L).length = L.length := by simp [ics]
theorem ics_append (L M : List Int) : ics (L ++ M) = ics L ++ ics M := by simp [ics]
theorem ics_one (x : Int) : ics [x] = [.int .i64 x] := rfl
theorem ics_cell (L : List Int) (k : Nat) (h : k < L.length) : (ics L)[k]? = some (.int .i64 L[k]) := by simp [ics, h]
theorem ics_one' (L : List Int) : ∀ u ∈ ics L, u.oneCell' = true := by
  intro u hu
  unfold ics at hu
  rw [List.mem_map] at hu
  obtain ⟨p, -, rfl⟩ := hu
  rfl
theorem set1_take (xs : List Value) (k : Nat) (u : Value) (h : k < xs.length) : (xs.set k u).take (k + 1) = xs.take k ++ [u] := by
  rw [List.take_succ_eq_append_getElem (by rw [List.length_set]; exact h), List.take_set_of_le (Nat.le_refl _)]
  simp
/-- The cells xs lie at p. -/
def IRow (w : World) (p : Option Addr) (L : List Int) : Prop := L = [] ∨ ∃ g o, p = some ⟨g, o, none⟩ ∧ g < w.heap.size ∧ ∀ j u, (ics L)[j]? = some u → w.cell? ⟨g, o + j, none⟩ = some u
theorem IRow.below {w w' : World} {p : Option Addr} {L : List Int} (h : IRow w p L) (hb : Below w.heap.size w w') : IRow w' p L := by
  rcases h with h | ⟨g, o, e, hg, hc⟩
  · exact .inl h
  · exact .inr ⟨g, o, e, Nat.lt_of_lt_of_le hg hb.size, fun j u hu => (hb.cell (p := ⟨g, o + j, none⟩) hg).trans (hc j u hu)⟩
theorem IRow.of_own {w : World} {B n c : Nat} {e : TypeId} {p : Option Addr} {L : List Int} (h : w.ownsRow B e 1 (.slice p n c) n (ics L)) : IRow w p L := by
  by_cases h0 : L = []
  · exact .inl h0
  · have hc := fun g hg => h.cells (g := g) hg
    have hl := h.lt
    rcases h.2 with ⟨e, h1⟩ | ⟨g, cap, cur, e, -, -, -, -, -, -⟩
    · have := h.1
      rw [ics_len, h1] at this
      exact absurd (List.length_eq_zero_iff.1 (by omega)) h0
    · injection e with e1 e2 e3
      subst e1
      refine .inr ⟨g, 0, rfl, (hl g rfl).2, fun j u hu => ?_⟩
      have := hc g rfl j u hu
      rw [Nat.zero_add]
      rwa [show (⟨g, 0, none⟩ : Addr).add j = ⟨g, j, none⟩ by unfold Addr.add; split <;> simp_all] at this
/-- Number k of a row. -/
theorem IRow.at {w : World} {p : Option Addr} {L : List Int} (h : IRow w p L) {k : Nat} (hk : k < L.length) : ∃ g o, p = some ⟨g, o, none⟩ ∧ g < w.heap.size ∧ w.cell? ⟨g, o + k, none⟩ = some (.int .i64 L[k]) := by
  rcases h with h | ⟨g, o, e, hg, hc⟩
  · rw [h] at hk
    simp at hk
  · exact ⟨g, o, e, hg, hc k _ (ics_cell L k hk)⟩
/-- What a function that hands back a new row of numbers does. -/
def GivesInts (f : FuncId) (args : Array Value) (L : List Int) : Prop := ∀ w, Calls Try.prog f args w fun e w' => ∃ p c, e = .returned (.slice p L.length c) ∧ w'.ownsRow w.heap.size 3 1 (.slice p L.length c) L.length (ics L) ∧ Below w.heap.size w w'
theorem infoI : (Try.prog.info? 3).map (fun i => (i.zero, i.size, i.bytes)) = some (some (.int .i64 0), 1, 8) := by kernel_rfl
/-- One new cell, at the head of its block. -/
theorem one_new {w : World} {g : Nat} {v : Value} (h : w.cell? ⟨g, 0, none⟩ = some v) : ∀ j u, [v][j]? = some u → w.cell? ((⟨g, 0, none⟩ : Addr).add j) = some u := by
  intro j u hj
  match j, hj with
  | 0, hj => simp only [List.getElem?_cons_zero, Option.some.injEq] at hj; subst hj; simpa [Addr.add] using h
theorem own_isnoc {w : World} {B n : Nat} {e : TypeId} {v : Value} {L : List Int} {x : Int} (h : w.ownsRow B e 1 v (n + 1) (ics L ++ [.int .i64 x])) (hn : n = L.length) : w.ownsRow B e 1 v (L ++ [x]).length (ics (L ++ [x])) := by
  rw [ics_append, ics_one, List.length_append, ← hn]
  exact h

end Go.Proofs.Ytlmampklgghngaa
/-
  What the reference's answers of chapter 6 hand back: the place of a number, the two buckets of a prefix, the row of its places. No condition but that the words are words of 64 bits, and that the count of places is a whole number of 64 bits.
-/
set_option linter.unusedSimpArgs false
set_option linter.unusedVariables false
namespace Go.Proofs.Ytlmampklgghngaa
open Go.RowKit Go.Sort M

/-- The place of a number, of m places. -/
def redI (x : Nat) (m : Int) : Int := if m < 1 then 0 else (redN x m.toNat : Nat)
theorem redI_none {x : Nat} {m : Int} (h : m < 1) : redI x m = 0 := if_pos h
theorem redI_nat (x m : Nat) (h : 0 < m) : redI x (m : Int) = (redN x m : Nat) := by
  unfold redI
  rw [if_neg (by omega), Int.toNat_natCast]
theorem redI_nonneg (x : Nat) (m : Int) : 0 ≤ redI x m := by
  unfold redI
  split <;> omega
theorem redI_lt {x : Nat} {m : Int} (hx : W64 x) (h : 1 ≤ m) : redI x m < m := by
  obtain ⟨k, rfl⟩ := Int.eq_ofNat_of_zero_le (show 0 ≤ m by omega)
  rw [redI_nat x k (by omega)]
  have := redN_lt x k hx (by omega)
  omega

theorem mask32 (a : Nat) (h : W64 a) : bits BinOp.and IntKind.u64 (a : Int) 4294967295 = ((a % 4294967296 : Nat) : Int) := by
  have h := bits_and_u64_nat a 4294967295 h.lt (by omega)
  have e : a &&& 4294967295 = a % 4294967296 := Nat.and_two_pow_sub_one_eq_mod a 32
  rw [e] at h
  exact h
theorem div32 (a : Nat) : (a : Int) / 4294967296 = ((a / 4294967296 : Nat) : Int) := by omega
theorem wrapU (a : Nat) (ha : a < 18446744073709551616) : IntKind.u64.wrap (a : Int) = (a : Int) := by rw [IntKind.wrap_u64]; omega
theorem mulC (a b : Nat) : (a : Int) * (b : Int) = ((a * b : Nat) : Int) := (Int.natCast_mul a b).symm
theorem addC (a b : Nat) : (a : Int) + (b : Int) = ((a + b : Nat) : Int) := (Int.natCast_add a b).symm

theorem rred_eq (x k : Nat) (hx : W64 x) (h0 : 0 < k) (hk : k ≤ 9223372036854775807) :
    wrap64 (IntKind.u64.wrap (IntKind.u64.wrap (IntKind.u64.wrap ((x : Int) / 4294967296 * ((k : Int) / 4294967296)) +
        IntKind.u64.wrap (IntKind.u64.wrap ((x : Int) / 4294967296 * bits BinOp.and IntKind.u64 (k : Int) 4294967295) + IntKind.u64.wrap (bits BinOp.and IntKind.u64 (x : Int) 4294967295 * bits BinOp.and IntKind.u64 (k : Int) 4294967295) / 4294967296) / 4294967296) +
      IntKind.u64.wrap (IntKind.u64.wrap (bits BinOp.and IntKind.u64 (x : Int) 4294967295 * ((k : Int) / 4294967296)) +
        bits BinOp.and IntKind.u64 (IntKind.u64.wrap (IntKind.u64.wrap ((x : Int) / 4294967296 * bits BinOp.and IntKind.u64 (k : Int) 4294967295) + IntKind.u64.wrap (bits BinOp.and IntKind.u64 (x : Int) 4294967295 * bits BinOp.and IntKind.u64 (k : Int) 4294967295) / 4294967296)) 4294967295) / 4294967296)) = ((redN x k : Nat) : Int) := by
  have hxl := hx.lt
  have p1 := half_mul (x / 4294967296) (k % 4294967296) (by omega) (by omega)
  have p2 := half_mul (x % 4294967296) (k % 4294967296) (by omega) (by omega)
  have p3 := half_mul (x % 4294967296) (k / 4294967296) (by omega) (by omega)
  have p4 := half_mul (x / 4294967296) (k / 4294967296) (by omega) (by omega)
  have hlt := redN_lt x k hx h0
  have e := redN_halves x k
  simp only [Nat.reducePow] at e
  have q1 : x / 4294967296 * (k % 4294967296) < 18446744073709551616 := by omega
  have q2 : x % 4294967296 * (k % 4294967296) < 18446744073709551616 := by omega
  have q3 : x % 4294967296 * (k / 4294967296) < 18446744073709551616 := by omega
  have q4 : x / 4294967296 * (k / 4294967296) < 18446744073709551616 := by omega
  have q5 : x / 4294967296 * (k % 4294967296) + x % 4294967296 * (k % 4294967296) / 4294967296 < 18446744073709551616 := by omega
  have q6 : x % 4294967296 * (k / 4294967296) + (x / 4294967296 * (k % 4294967296) + x % 4294967296 * (k % 4294967296) / 4294967296) % 4294967296 < 18446744073709551616 := by omega
  have q7 : x / 4294967296 * (k / 4294967296) + (x / 4294967296 * (k % 4294967296) + x % 4294967296 * (k % 4294967296) / 4294967296) / 4294967296 < 18446744073709551616 := by omega
  have q8 : redN x k < 18446744073709551616 := by omega
  simp only [mask32 x hx, mask32 k (W64.mk (by omega)), div32, mulC, wrapU _ q1, wrapU _ q2, wrapU _ q3, wrapU _ q4, addC, wrapU _ q5, mask32 _ (W64.mk q5), wrapU _ q6, wrapU _ q7]
  rw [← e, wrapU _ q8, IntWalk.wrap64_in _ (by omega)]

/-- The two buckets of a hash. -/
def buckI (h i : Nat) (m : Int) : Int := redI (mixN (h ^^^ i)) m
end Go.Proofs.Ytlmampklgghngaa
/-
  Plain mathematics of tables of buckets: where a key lies, what is put, deleted, found, listed; what a table has, whatever was put. No condition but those that stand in each.
-/
set_option linter.unusedSimpArgs false
set_option linter.unusedVariables false
namespace Go.Proofs.Ytlmampklgghngaa
open M

def b1 (s : Nat) (k : Ky) (n : Nat) : Nat := (buckI (hashN s k.h k.l (wordZ k.n)) 1 n).toNat
def b2 (s : Nat) (k : Ky) (n : Nat) : Nat := (buckI (hashN s k.h k.l (wordZ k.n)) 2 n).toNat
theorem buck_nat (h i n : Nat) (hn : 1 ≤ n) : ∃ j : Nat, buckI h i n = (j : Int) ∧ j < n := by
  have h0 := redI_nonneg (mixN (h ^^^ i)) (n : Int)
  have h1 := redI_lt (x := mixN (h ^^^ i)) (m := (n : Int)) (mixN_w _) (by omega)
  exact ⟨(buckI h i n).toNat, by unfold buckI; omega, by unfold buckI; omega⟩
theorem b1_lt {s n : Nat} {k : Ky} (hn : 1 ≤ n) : b1 s k n < n := by
  obtain ⟨j, h, hl⟩ := buck_nat (hashN s k.h k.l (wordZ k.n)) 1 n hn
  unfold b1
  rw [h]
  simpa using hl
theorem b2_lt {s n : Nat} {k : Ky} (hn : 1 ≤ n) : b2 s k n < n := by
  obtain ⟨j, h, hl⟩ := buck_nat (hashN s k.h k.l (wordZ k.n)) 2 n hn
  unfold b2
  rw [h]
  simpa using hl
theorem b1_int {s n : Nat} {k : Ky} (hn : 1 ≤ n) : buckI (hashN s k.h k.l (wordZ k.n)) 1 n = (b1 s k n : Int) := by
  obtain ⟨j, h, hl⟩ := buck_nat (hashN s k.h k.l (wordZ k.n)) 1 n hn
  unfold b1
  rw [h]
  simp
theorem b2_int {s n : Nat} {k : Ky} (hn : 1 ≤ n) : buckI (hashN s k.h k.l (wordZ k.n)) 2 n = (b2 s k n : Int) := by
  obtain ⟨j, h, hl⟩ := buck_nat (hashN s k.h k.l (wordZ k.n)) 2 n hn
  unfold b2
  rw [h]
  simp
/-- A table: its seed, its buckets, its stash. -/
structure Tab where
  s : Nat
  B : List (List Pl)
  st : List Rt
def Tab.x1 (T : Tab) (k : Ky) : Nat := b1 T.s k T.B.length
def Tab.x2 (T : Tab) (k : Ky) : Nat := b2 T.s k T.B.length
def Tab.other (T : Tab) (k : Ky) (b : Nat) : Nat := if b = T.x1 k then T.x2 k else T.x1 k
def Tab.bk (T : Tab) (i : Nat) : List Pl := T.B.getD i []
def Tab.set (T : Tab) (i : Nat) (C : List Pl) : Tab := { T with B := T.B.set i C }
def lessK (a b : Ky) : Bool := lessB a.h a.l a.n b.h b.l b.n
/-- A route comes into a row, in its place; of one key it is instead of the other one. -/
def intoS : List Rt → Rt → List Rt
  | [], r => [r]
  | a :: l, r => if lessK a.k r.k then a :: intoS l r else if a.k = r.k then r :: l else r :: a :: l
def outS (l : List Rt) (k : Ky) : List Rt := l.filter fun r => decide (r.k ≠ k)
def findS (l : List Rt) (k : Ky) : Option Nat := l.findIdx? fun r => decide (r.k = k)
def contT (T : Tab) : List Rt := T.B.flatMap allC ++ T.st
/-- What a swap brings out, and the table behind it. -/
def kOut (T : Tab) (b i : Nat) (r : Rt) : Rt := ((swapC (T.bk b) ((i % 4 : Nat) : Int) r.k r.v).map Prod.fst).getD ⟨⟨0, 0, 0⟩, 0⟩
def kTab (T : Tab) (b i : Nat) (r : Rt) : Tab := T.set b (((swapC (T.bk b) ((i % 4 : Nat) : Int) r.k r.v).map Prod.snd).getD (T.bk b))
def kNew (T : Tab) (b i : Nat) (r : Rt) : Nat := (kTab T b i r).other (kOut T b i r).k b
/-- So many kicks from number i on, from bucket b on: the table behind them, and who is left. -/
def kicks : Nat → Nat → Tab → Nat → Rt → Tab × Option Rt
  | 0, _, T, _, r => (T, some r)
  | f + 1, i, T, b, r =>
    match putC ((kTab T b i r).bk (kNew T b i r)) (kOut T b i r).k (kOut T b i r).v with
    | some C => ((kTab T b i r).set (kNew T b i r) C, none)
    | none => kicks f (i + 1) (kTab T b i r) (kNew T b i r) (kOut T b i r)
/-- A put, but for the stash's new one: the table behind it, and who is left. -/
def putIn (T : Tab) (r : Rt) : Tab × Option Rt :=
  if (getC (T.bk (T.x1 r.k)) r.k).isSome then (T.set (T.x1 r.k) ((putC (T.bk (T.x1 r.k)) r.k r.v).getD (T.bk (T.x1 r.k))), none)
  else if (getC (T.bk (T.x2 r.k)) r.k).isSome then (T.set (T.x2 r.k) ((putC (T.bk (T.x2 r.k)) r.k r.v).getD (T.bk (T.x2 r.k))), none)
  else if (findS T.st r.k).isSome then ({ T with st := intoS T.st r }, none)
  else
    match putC (T.bk (T.x1 r.k)) r.k r.v with
    | some C => (T.set (T.x1 r.k) C, none)
    | none =>
      match putC (T.bk (T.x2 r.k)) r.k r.v with
      | some C => (T.set (T.x2 r.k) C, none)
      | none => kicks 16 0 T (T.x2 r.k) r
/-- .. the table, with who is left in the stash; is there anyone? -/
def stay (T : Tab) (r : Rt) : Tab × Bool :=
  match (putIn T r).2 with
  | none => ((putIn T r).1, false)
  | some q => ({ (putIn T r).1 with st := intoS (putIn T r).1.st q }, true)
def emptyT (s n : Nat) : Tab := ⟨s, List.replicate n [none, none, none, none], []⟩
def grows (p : Tab × Bool) : Bool := p.2 && (decide (8 < p.1.st.length) && decide (p.1.B.length < 65536))
def grown (T : Tab) : Tab := emptyT (mixN T.s) (min (2 * T.B.length) 65536)
def putF : Nat → Tab → Rt → Tab
  | 0, T, r => (stay T r).1
  | d + 1, T, r => if grows (stay T r) then (contT (stay T r).1).foldl (putF d) (grown (stay T r).1) else (stay T r).1
def getT (T : Tab) (k : Ky) : Option Int :=
  match getC (T.bk (T.x1 k)) k with
  | some v => some v
  | none =>
    match getC (T.bk (T.x2 k)) k with
    | some v => some v
    | none => (T.st.find? fun r => decide (r.k = k)).map Rt.v
def readT (T : Tab) (k : Ky) : List Int := if (getC (T.bk (T.x1 k)) k).isSome then [(T.x1 k : Int)] else [(T.x1 k : Int), (T.x2 k : Int)]
def delT (T : Tab) (k : Ky) : Tab × Bool :=
  match takeC (T.bk (T.x1 k)) k with
  | some C => (T.set (T.x1 k) C, true)
  | none =>
    match takeC (T.bk (T.x2 k)) k with
    | some C => (T.set (T.x2 k) C, true)
    | none => ({ T with st := outS T.st k }, decide ((outS T.st k).length < T.st.length))
def sortR (l : List Rt) : List Rt := l.foldl intoS []
def allT (T : Tab) : List Rt := sortR (contT T)
end Go.Proofs.Ytlmampklgghngaa
