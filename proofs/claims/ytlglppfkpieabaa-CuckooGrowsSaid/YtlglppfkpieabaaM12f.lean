/-
  Plain mathematics of a put into a table, part by part: where the key is there; kick after kick. No condition but those that stand in each.
-/
import Derived.Test.YtlglppfkpieabaaM12e
set_option linter.unusedSimpArgs false
set_option linter.unusedVariables false
namespace Go.Proofs.Ytlglppfkpieabaa
open M

/-- Where the key is there: the table with the new value. -/
def rep (T : Tab) (r : Rt) : Option Tab :=
  if (getC (T.bk (T.x1 r.k)) r.k).isSome then some (T.set (T.x1 r.k) ((putC (T.bk (T.x1 r.k)) r.k r.v).getD (T.bk (T.x1 r.k))))
  else if (getC (T.bk (T.x2 r.k)) r.k).isSome then some (T.set (T.x2 r.k) ((putC (T.bk (T.x2 r.k)) r.k r.v).getD (T.bk (T.x2 r.k))))
  else if (findS T.st r.k).isSome then some { T with st := intoS T.st r }
  else none
/-- .. where it is not: the first bucket, the second, kicks. -/
def fresh (T : Tab) (r : Rt) : Tab × Option Rt :=
  match putC (T.bk (T.x1 r.k)) r.k r.v with
  | some C => (T.set (T.x1 r.k) C, none)
  | none =>
    match putC (T.bk (T.x2 r.k)) r.k r.v with
    | some C => (T.set (T.x2 r.k) C, none)
    | none => kicks 16 0 T (T.x2 r.k) r
theorem putIn_eq (T : Tab) (r : Rt) : putIn T r = match rep T r with | some T' => (T', none) | none => fresh T r := by
  unfold putIn rep fresh
  split
  · rfl
  · split
    · rfl
    · split <;> rfl
/-- All keys of a table's buckets are of words of 64 bits. -/
def GoodT (T : Tab) : Prop := ∀ i, i < T.B.length → ∀ q, some q ∈ T.bk i → q.k.good
theorem Inv.goodT {T : Tab} (H : Inv T) : GoodT T := fun _ hi q hq => H.good q (mem_bk hi hq)
theorem mem_set {C : List Pl} {j : Nat} {x : Pl} {q : Rt} (h : some q ∈ C.set j x) : some q ∈ C ∨ x = some q := (List.mem_or_eq_of_mem_set h).imp id Eq.symm
theorem mem_put {C : List Pl} {k : Ky} {v : Int} {q : Rt} (h : some q ∈ (putC C k v).getD C) : some q ∈ C ∨ q = ⟨k, v⟩ := by
  unfold putC at h
  split at h
  · exact (mem_set h).imp id (fun e => by injection e with e; exact e.symm)
  · split at h
    · exact (mem_set h).imp id (fun e => by injection e with e; exact e.symm)
    · exact .inl h
theorem GoodT.set {T : Tab} (H : GoodT T) {i : Nat} (hi : i < T.B.length) {C : List Pl} (h : ∀ q, some q ∈ C → q.k.good) : GoodT (T.set i C) := by
  intro k hk q hq
  rw [set_len] at hk
  rw [bk_set T i hi] at hq
  split at hq
  · exact h q hq
  · exact H k hk q hq
theorem GoodT.put {T : Tab} (H : GoodT T) {i : Nat} (hi : i < T.B.length) {r : Rt} (hr : r.k.good) : GoodT (T.set i ((putC (T.bk i) r.k r.v).getD (T.bk i))) :=
  H.set hi fun q hq => (mem_put hq).elim (H i hi q) (fun e => e ▸ hr)
theorem zero_good : (⟨0, 0, 0⟩ : Ky).good := ⟨W64.mk (by decide), W64.mk (by decide)⟩
theorem swapC_out {C : List Pl} {j : Nat} {k : Ky} {v : Int} : (∃ q, C.getD j none = some q ∧ swapC C (j : Int) k v = some (q, C.set j (some ⟨k, v⟩))) ∨ swapC C (j : Int) k v = none := by
  unfold swapC
  rw [if_pos (by omega), Int.toNat_natCast]
  cases h : C.getD j none with
  | none => exact .inr rfl
  | some q => exact .inl ⟨q, rfl, rfl⟩
theorem getD_mem {C : List Pl} {j : Nat} {q : Rt} (h : C.getD j none = some q) : some q ∈ C := by
  rw [List.getD_eq_getElem?_getD] at h
  cases e : C[j]? with
  | none => rw [e] at h; cases h
  | some x =>
    rw [e] at h
    simp only [Option.getD_some] at h
    subst h
    exact List.mem_of_getElem? e
theorem GoodT.kick {T : Tab} (H : GoodT T) {b : Nat} (hb : b < T.B.length) (i : Nat) {r : Rt} (hr : r.k.good) : (kOut T b i r).k.good ∧ GoodT (kTab T b i r) := by
  unfold kOut kTab
  rcases swapC_out (C := T.bk b) (j := i % 4) (k := r.k) (v := r.v) with ⟨q, hq, e⟩ | e
  · rw [e]
    exact ⟨H b hb q (getD_mem hq), H.set hb fun p hp => (mem_set hp).elim (H b hb p) (fun e => by injection e with e; exact e ▸ hr)⟩
  · rw [e]
    exact ⟨zero_good, H.set hb fun p hp => H b hb p hp⟩
theorem kTab_len (T : Tab) (b i : Nat) (r : Rt) : (kTab T b i r).B.length = T.B.length := set_len _ _ _
theorem kTab_s (T : Tab) (b i : Nat) (r : Rt) : (kTab T b i r).s = T.s := rfl
theorem kTab_st (T : Tab) (b i : Nat) (r : Rt) : (kTab T b i r).st = T.st := rfl
theorem kicks_zero (i : Nat) (T : Tab) (b : Nat) (r : Rt) : kicks 0 i T b r = (T, some r) := rfl
theorem kicks_in {f i : Nat} {T : Tab} {b : Nat} {r : Rt} {C : List Pl} (h : putC ((kTab T b i r).bk (kNew T b i r)) (kOut T b i r).k (kOut T b i r).v = some C) : kicks (f + 1) i T b r = ((kTab T b i r).set (kNew T b i r) C, none) := by
  show (match putC ((kTab T b i r).bk (kNew T b i r)) (kOut T b i r).k (kOut T b i r).v with | some C => _ | none => _) = _
  rw [h]
theorem kicks_on {f i : Nat} {T : Tab} {b : Nat} {r : Rt} (h : putC ((kTab T b i r).bk (kNew T b i r)) (kOut T b i r).k (kOut T b i r).v = none) : kicks (f + 1) i T b r = kicks f (i + 1) (kTab T b i r) (kNew T b i r) (kOut T b i r) := by
  show (match putC ((kTab T b i r).bk (kNew T b i r)) (kOut T b i r).k (kOut T b i r).v with | some C => _ | none => _) = _
  rw [h]
end Go.Proofs.Ytlglppfkpieabaa
