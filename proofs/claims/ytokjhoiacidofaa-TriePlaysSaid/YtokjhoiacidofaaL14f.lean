/-
  A trie beside the sorted row of what it has: what its calls tell and leave, and how both lie in memory beside another trie. No condition but those that stand in each.
-/
import Derived.Test.YtokjhoiacidofaaL14c
import Derived.Test.YtokjhoiacidofaaL14e
import Derived.Test.YtokjhoiacidofaaAct14
import Derived.Test.YtokjhoiacidofaaReg5
set_option linter.unusedSimpArgs false
set_option linter.unusedVariables false
namespace Go.Proofs.Ytokjhoiacidofaa
open Go.RowKit Go.Sort M

theorem PtOf.keys {T : Pt} {N : List Rt} (H : PtOf T N) {x : Rt} (hx : x ∈ N) : x.k.good ∧ rightK x.k := Pt.all_mem (all_ok H.ok) ((H.mem x).2 hx)
theorem find_mem {N : List Rt} {k : Ky} {i : Nat} (h : findS N k = some i) : ∃ hi : i < N.length, N[i].k = k := by
  unfold findS at h
  rw [List.findIdx?_eq_some_iff_getElem] at h
  obtain ⟨hi, h1, -⟩ := h
  exact ⟨hi, by simpa using h1⟩
/-- What Get tells, and where Find finds. -/
theorem PtOf.find {T : Pt} {N : List Rt} (H : PtOf T N) {k : Ky} (g : k.good) :
    (getV k T = none ∧ stI N k = -1 ∧ ∀ x ∈ N, x.k ≠ k) ∨ ∃ i, ∃ h : i < N.length, stI N k = (i : Int) ∧ getV k T = some N[i] ∧ N[i].k = k ∧ rightK k := by
  cases e : getV k T with
  | none =>
    have hne : ∀ x ∈ N, x.k ≠ k := fun x hx e2 => by
      have hr := (H.keys hx).2
      rw [e2] at hr
      exact get_none14 H.ok g hr e x ((H.mem x).2 hx) e2
    refine .inl ⟨rfl, stI_none ?_, hne⟩
    exact find_no fun i hi => hne _ (List.getElem_mem hi)
  | some r =>
    obtain ⟨hr, hm, hk⟩ := get_at H.ok g e
    have hrN := (H.mem r).1 hm
    cases f : findS N k with
    | none =>
      unfold findS at f
      rw [List.findIdx?_eq_none_iff] at f
      have := f r hrN
      rw [decide_eq_true hk] at this
      cases this
    | some i =>
      obtain ⟨hi, hik⟩ := find_mem f
      refine .inr ⟨i, hi, stI_some f, ?_, hik, hr⟩
      rw [key_eq H.sort hrN (List.getElem_mem hi) (hk.trans hik.symm)]
theorem out_self14 {N : List Rt} {k : Ky} (h : ∀ x ∈ N, x.k ≠ k) : outS N k = N := by
  unfold outS
  rw [List.filter_eq_self]
  exact fun x hx => by simpa using h x hx
theorem PtOf.dele {T : Pt} {N : List Rt} (H : PtOf T N) {k : Ky} (g : k.good) : PtOf (delT14 k T) (outS N k) ∧ delC14 k T (N.length : Int) = ((outS N k).length : Int) := by
  rcases H.find g with ⟨e, -, hne⟩ | ⟨i, hi, -, e, hk, -⟩
  · unfold delT14 delC14
    rw [e, if_neg (by simp), if_neg (by simp), out_self14 hne]
    exact ⟨H, rfl⟩
  · unfold delT14 delC14
    rw [e, if_pos (show (some N[i]).isSome = true from rfl), if_pos (show (some N[i]).isSome = true from rfl)]
    refine ⟨H.del k, ?_⟩
    have hp := split_key H.sort.nodup (List.getElem_mem hi)
    rw [hk] at hp
    have := hp.length_eq
    rw [List.length_cons] at this
    omega
theorem PtOf.pute {T : Pt} {N : List Rt} (H : PtOf T N) {k : Ky} (g : k.good) (r : rightK k) (x : Int) : PtOf (putT k x T) (intoS N ⟨k, x⟩) ∧ putC14 k T (N.length : Int) = ((intoS N ⟨k, x⟩).length : Int) := by
  have hr : rightB k.h k.l k.n = true := r
  refine ⟨by unfold putT; rw [if_pos hr]; exact H.put (x := ⟨k, x⟩) g r, ?_⟩
  have hl := (intoS_perm ⟨k, x⟩ H.sort).length_eq
  rw [List.length_cons] at hl
  have hl : (intoS N ⟨k, x⟩).length = (outS N k).length + 1 := hl
  rcases H.find g with ⟨e, -, hne⟩ | ⟨i, hi, -, e, hk, -⟩
  · unfold putC14
    rw [e, if_pos ⟨hr, rfl⟩, hl, out_self14 hne]
    omega
  · unfold putC14
    rw [e, if_neg (fun h => by cases h.2), hl]
    have hp := split_key H.sort.nodup (List.getElem_mem hi)
    rw [hk] at hp
    have := hp.length_eq
    rw [List.length_cons] at this
    omega
/-- Nothing is put of a key that is none. -/
theorem put_wrong {k : Ky} (r : ¬ rightK k) (x : Int) (T : Pt) (n : Int) : putT k x T = T ∧ putC14 k T n = n := by
  unfold putT putC14
  have hr : ¬ rightB k.h k.l k.n = true := r
  rw [if_neg hr, if_neg (fun h => hr h.1)]
  exact ⟨rfl, rfl⟩
theorem intoS_key {N : List Rt} (h : Sorted N) (r : Rt) : r ∈ intoS N r := (intoS_perm r h).mem_iff.2 List.mem_cons_self
/-! ### Both in memory -/
structure Play14 (w wr : World) (B t o : Nat) (T : Pt) (N : List Rt) (i : Nat) (vn : Value) : Prop where
  tri : Tri wr (fun k => k ≠ t ∧ k ≠ o) t T (N.length : Int)
  oth : ∃ S m, Tri wr (fun k => k ≠ t ∧ k ≠ o) o S m ∧ -(i : Int) ≤ m ∧ m ≤ (i : Int)
  own : wr.ownsRow B 40 4 vn N.length (rcs N)
  of : PtOf T N
  few : N.length ≤ i
  ne : t ≠ o
  lt : t < B
  lo : o < B
  wt : w.heap.size ≤ t
  wo : w.heap.size ≤ o
  hB : B ≤ wr.heap.size
  below : Below w.heap.size w wr
section
variable {w wr wx : World} {B t o : Nat} {T T' : Pt} {N N' : List Rt} {i : Nat} {vn : Value}
theorem Play14.quiet (H : Play14 w wr B t o T N i vn) (hb : Below wr.heap.size wr wx) : Play14 w wx B t o T N i vn := by
  obtain ⟨S, m, h1, h2⟩ := H.oth
  exact ⟨H.tri.below hb, ⟨S, m, h1.below hb, h2⟩, own_below H.own hb, H.of, H.few, H.ne, H.lt, H.lo, H.wt, H.wo, Nat.le_trans H.hB hb.size, H.below.trans (hb.mono H.below.size)⟩
theorem Play14.turnO (H : Play14 w wr B t o T N i vn) {S : Pt} {m : Int} (hs : Tri wx (fun k => k ≠ t ∧ k ≠ o) o S m) (hm : -((i + 1 : Nat) : Int) ≤ m ∧ m ≤ ((i + 1 : Nat) : Int)) (ht : Touch (fun k => k = o) wr wx) : Play14 w wx B t o T N (i + 1) vn :=
  ⟨H.tri.touched ht (fun g hg => hg.2) H.ne, ⟨S, m, hs, hm⟩, Touch.own H.own ht (fun j e hj => by have h1 := (H.own.lt j e).1; have h2 := H.lo; omega), H.of, by have := H.few; omega, H.ne, H.lt, H.lo, H.wt, H.wo, Nat.le_trans H.hB ht.size, H.below.trans (ht.below H.below.size fun k hk => by rw [hk]; exact H.wo)⟩
theorem Play14.other (H : Play14 w wr B t o T N i vn) (x : Ky) (v : Int) (xg : x.good) (hi : i ≤ 100000) :
    Calls Try.prog 7 #[.pointer (some ⟨o, 0, none⟩), kyV x, .int .i64 v] wr fun e w' => (∃ a b, e = .returned (.tuple #[.int .i64 a, .bool b])) ∧ Play14 w w' B t o T N (i + 1) vn ∧ Touch (fun k => k = o) wr w' := by
  obtain ⟨S, m, hS, h1, h2⟩ := H.oth
  refine (tput_any hS x v xg (by omega) (by omega)).mono ?_
  rintro e w' ⟨rfl, hT, ht⟩
  refine ⟨⟨_, _, rfl⟩, H.turnO hT ?_ ht, ht⟩
  unfold putC14
  split <;> omega
/-- The row made anew where the trie has turned. -/
theorem Play14.row (H : Play14 w wr B t o T N i vn) {n' : Int} (hs : Tri wx (fun k => k ≠ t ∧ k ≠ o) t T' n') (ht : Touch (fun k => k = t) wr wx) {wy : World} {p : Option Addr} {c : Nat} (hy : Below wx.heap.size wx wy)
    (ho : wy.ownsRow wx.heap.size 40 4 (.slice p N'.length c) N'.length (rcs N')) (hP : PtOf T' N') (hn : n' = (N'.length : Int)) (hf : N'.length ≤ i) : Play14 w wy B t o T' N' i (.slice p N'.length c) := by
  obtain ⟨S, m, h1, h2⟩ := H.oth
  subst hn
  exact ⟨hs.below hy, ⟨S, m, (h1.touched ht (fun g hg => hg.1) (fun e => H.ne e.symm)).below hy, h2⟩, own_le ho (Nat.le_trans H.hB ht.size), hP, hf, H.ne, H.lt, H.lo, H.wt, H.wo, Nat.le_trans H.hB (Nat.le_trans ht.size hy.size), (H.below.trans (ht.below H.below.size fun k hk => by rw [hk]; exact H.wt)).trans (hy.mono (Nat.le_trans H.below.size ht.size))⟩
/-- The trie written, and nothing turned. -/
theorem Play14.same (H : Play14 w wr B t o T N i vn) {n' : Int} (hs : Tri wx (fun k => k ≠ t ∧ k ≠ o) t T' n') (ht : Touch (fun k => k = t) wr wx) (hP : T' = T) (hn : n' = (N.length : Int)) : Play14 w wx B t o T N i vn := by
  obtain ⟨S, m, h1, h2⟩ := H.oth
  subst hn hP
  exact ⟨hs, ⟨S, m, h1.touched ht (fun g hg => hg.1) (fun e => H.ne e.symm), h2⟩, Touch.own H.own ht (fun j e hj => by have h1 := (H.own.lt j e).1; have h2 := H.lt; omega), H.of, H.few, H.ne, H.lt, H.lo, H.wt, H.wo, Nat.le_trans H.hB ht.size, H.below.trans (ht.below H.below.size fun k hk => by rw [hk]; exact H.wt)⟩
end
end Go.Proofs.Ytokjhoiacidofaa
