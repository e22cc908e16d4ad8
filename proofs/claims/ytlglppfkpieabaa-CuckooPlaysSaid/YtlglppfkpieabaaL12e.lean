/-
  The program's table and the reference's, each in blocks of its own, with their calls. No condition but those that stand in each.
-/
import Derived.Test.YtlglppfkpieabaaReg4
import Derived.Test.YtlglppfkpieabaaAct12
import Derived.Test.YtlglppfkpieabaaRT9
import Derived.Test.YtlglppfkpieabaaRT2
import Derived.Test.YtlglppfkpieabaaL12d
/-
  As Reg3's, a value may be built among what is taken first; an append to nothing. No condition on the program but that it draws orders in the wide manner.
-/
set_option linter.unusedSimpArgs false
set_option linter.unusedVariables false
namespace Go.Proofs.Ytlglppfkpieabaa
open Go Go.RowKit Go.Sort M

section
variable {P : Program} {ops : Array Oper} {md : Region.Mode} {C : World → Prop} {Q : Exit → Act → World → Prop} {S : World → Prop} {pre : Nat → Bool}
def pairC (ops : Array Oper) (tA tB : List Nat) (x y : Nat) (tl : List Nat) : Bool :=
  decide (x ≠ y) && (ops[x]?).isSome && (ops[y]?).isSome && decide (ops.size = tA.length + (tB.length + (tl.length + 1 + 1))) &&
  takeD .any ops (fun _ => true) (fun l1 => takeD .any ops (fun i => laterB .any ops (fun j => !tl.contains j) i) (fun l2 =>
    decide (Region.ready .any ops l2 = [x, y]) && decide (Region.ready .any ops (l2.setIfInBounds x true) = [y]) && decide (Region.ready .any ops (l2.setIfInBounds y true) = [x]) && tailB .any ops tl ((l2.setIfInBounds x true).setIfInBounds y true)) tB l1) tA (Array.replicate ops.size false)
theorem region_pairC {id : Nat} {a : Act} {w : World} {l : List Oper} (tA tB : List Nat) (x y : Nat) (tl : List Nat) (hm : P.follows .mixedOrders = true) (hQ : ∀ c a w, Q (.panic c) a w → False) (hsel : Region.noSelect l.toArray = true) (hB : pairC l.toArray tA tB x y tl = true)
    (h : wpQuiet P l.toArray (fun _ => True) (fun a1 => wpQuiet P l.toArray (fun w' => ∃ p : Regrown, w' = grow (redrawn w p.d) p.os) (fun a2 => ∀ w', Below w.heap.size w w' → wayQ P l.toArray Q w x y tl a2 w' ∧ wayQ P l.toArray Q w y x tl a2 w') (pickL l.toArray tB) a1) (pickL l.toArray tA) a) :
    (Code.region id l.toArray true).wp P Q a w := by
  generalize l.toArray = ops at *
  simp only [pairC, Bool.and_eq_true, decide_eq_true_eq] at hB
  obtain ⟨⟨⟨⟨hxy, hx⟩, hy⟩, hsz⟩, hB⟩ := hB
  refine wp_region_any hm ?_
  have inv0 : HeadInv .any ops ops.size (Array.replicate ops.size false) :=
    ⟨by simp, fun j oj _ hl => (by rw [getD_replicate_false] at hl; cases hl), fun t h1 h2 => absurd h2 (by omega)⟩
  have hS0 : Rg w { w with drawn := w.drawn + 1 } := ⟨⟨w.drawn + 1, #[]⟩, by rw [grow_empty]; rfl⟩
  have rgb : ∀ {w'}, Below w.heap.size w w' → Rg w w' := fun h => regrown_of_below h
  have pre2 : ∀ i ∈ tl, (!tl.contains i) = false := fun i hi => by simp [hi]
  refine wpAny_of_anyP (S := Rg w) (pre := fun j => !tl.contains j) _ _ _ _ ?_
  suffices hh : anyP P .any ops Q (Rg w) (fun j => !tl.contains j) (tA.length + (tB.length + (tl.length + 1 + 1))) (Array.replicate ops.size false) a { w with drawn := w.drawn + 1 } by
    rw [← hsz] at hh
    exact hh
  have one : ∀ (u v : Nat) (listed : Array Bool) (a2 : Act) (w' : World), (ops[u]?).isSome = true → (ops[v]?).isSome = true → Region.ready .any ops (listed.setIfInBounds u true) = [v] → tailB .any ops tl ((listed.setIfInBounds u true).setIfInBounds v true) = true → wayQ P ops Q w u v tl a2 w' →
      Go.wpOp P ops Q u (fun a' w1 => ((!tl.contains u) = true → Rg w w' → Rg w w1) ∧ anyP P .any ops Q (Rg w) (fun j => !tl.contains j) (tl.length + 1) (listed.setIfInBounds u true) a' w1) a2 w' := by
    intro u v listed a2 w' hu hv hr ht hway
    refine (hway _ (fun a3 w3 hb3 hnext => ⟨fun _ _ => rgb hb3, ?_⟩)).wpOp hu
    refine ⟨fun h1 => (by rw [hr] at h1; cases h1), fun j hj => ?_⟩
    rw [hr] at hj
    have hjv : j = v := by simpa using hj
    subst hjv
    exact (hnext _ (fun a4 w4 hb4 hl4 => ⟨fun _ _ => rgb hb4, anyP_tail tl _ a4 w4 pre2 ht hl4⟩)).wpOp hv
  refine anyP_takesC (T := fun _ => True) hsel hQ (fun _ _ => trivial) (fun _ _ => .inr (fun _ => trivial)) hS0 (fun l1 a1 hF1 inv1 h1 => ?_) tA _ a hB inv0 h
  refine anyP_takesC (T := fun w' => ∃ p : Regrown, w' = grow (redrawn w p.d) p.os) hsel hQ (fun _ h => h) (fun i hi => .inl hi) hS0 (fun l2 a2 hF2 inv2 h2 => ?_) tB l1 a1 hF1 inv1 h1
  simp only [Bool.and_eq_true, decide_eq_true_eq] at hF2
  obtain ⟨⟨⟨r0, r1⟩, r2⟩, ht⟩ := hF2
  have hb0 : Below w.heap.size w { w with drawn := w.drawn + 1 } := ⟨rfl, rfl, rfl, Nat.le_refl _, fun _ _ => rfl⟩
  obtain ⟨wy1, wy2⟩ := h2 _ hb0
  refine ⟨fun h1 => (by rw [r0] at h1; cases h1), fun i hi => ?_⟩
  rw [r0] at hi
  simp only [List.mem_cons, List.not_mem_nil, or_false] at hi
  rcases hi with rfl | rfl
  · exact one i y l2 a2 _ hx hy r1 ht wy1
  · refine one i x l2 a2 _ hy hx r2 ?_ wy2
    rw [Array.setIfInBounds_comm _ _ hxy.symm]
    exact ht
end
/-- An append of a row to nothing. -/
theorem wp_append_nil {o : Oper} {a : Act} {w : World} {K : Act → World → Prop} {Q : Exit → Act → World → Prop} (x : Operand)
    (ho : o.op = .call { callee := .builtin .append, args := #[.const (.slice none 0 0), x], argTypes := #[43, 43] }) (B B2 : Nat) (u : Value) (M : List Rt) (hx : a.eval x = u) (hsrc : w.ownsRow B2 48 4 u M.length (rcs M)) (hlen : M.length ≤ 1099511627776) (hB : B ≤ w.heap.size)
    (h : ∀ v' w', w'.ownsRow B 48 4 v' M.length (rcs M) → w.grownBy w' none → K (a.put o.dst v') w') : o.wp Try.prog a w K Q := by
  rcases hsrc.2 with ⟨hu, h0⟩ | ⟨g, cap, cur, hu, -, -, -, -, -, -⟩
  · subst hu
    have hM := List.length_eq_zero_iff.1 h0
    subst hM
    exact wp_append_none (.const (.slice none 0 0)) x ho rfl hx (h _ _ (World.ownsRow_nil _ _ _ _) ⟨rfl, rfl, rfl, Nat.le_refl _, fun _ _ _ => rfl⟩)
  · have hc := fun hg => hsrc.cells (g := g) hg
    subst hu
    refine wp_append_rt (.const (.slice none 0 0)) x ho B (.slice none 0 0) [] M rfl (World.ownsRow_nil _ _ _ _) ⟨g, 0, none⟩ M.length cap rfl hx (hc rfl) (by simp; omega) hB ?_
    intro v' w' h1 h2 _
    exact h v' w' (by simpa using h1) h2
end Go.Proofs.Ytlglppfkpieabaa
/-
  The program's table and the reference's, each in blocks of its own, with their calls. No condition but those that stand in each.
-/
set_option linter.unusedSimpArgs false
set_option linter.unusedVariables false
namespace Go.Proofs.Ytlglppfkpieabaa
open Go.RowKit Go.Sort M

/-- Both tables, in blocks from that of world w on. -/
def Two (w wr : World) (t rt : Nat) (T U : Tab) : Prop := ∃ g v rg rv, CT wr t g v T ((contT T).length : Int) ∧ Tb RBk wr rt rg rv U ∧ (∀ k, Blk t g v k → w.heap.size ≤ k) ∧ (∀ k, Blk rt rg rv k → w.heap.size ≤ k ∧ ¬ Blk t g v k) ∧ Below w.heap.size w wr
section
variable {w wr wx : World} {t rt : Nat} {T U : Tab}
theorem Two.below (H : Two w wr t rt T U) : Below w.heap.size w wr := by
  obtain ⟨g, v, rg, rv, h1, h2, h3, h4, h5⟩ := H
  exact h5
theorem Two.quiet (H : Two w wr t rt T U) (hb : Below wr.heap.size wr wx) : Two w wx t rt T U := by
  obtain ⟨g, v, rg, rv, h1, h2, h3, h4, h5⟩ := H
  exact ⟨g, v, rg, rv, h1.below hb, h2.below bk_rbk hb, h3, h4, h5.trans (hb.mono h5.size)⟩
theorem Two.stepC {g rg : Nat} {v rv : Value} {T' : Tab} (h2 : Tb RBk wr rt rg rv U) (h3 : ∀ k, Blk t g v k → w.heap.size ≤ k) (h4 : ∀ k, Blk rt rg rv k → w.heap.size ≤ k ∧ ¬ Blk t g v k) (h5 : Below w.heap.size w wr) (hc : CStep wr wx t g v T' ((contT T').length : Int)) : Two w wx t rt T' U := by
  obtain ⟨g', v', h', ht, hs⟩ := hc
  have hz := h5.size
  refine ⟨g', v', rg, rv, h', h2.touched bk_rbk ht (fun k hk => (h4 k hk).2), fun k hk => ?_, fun k hk => ⟨(h4 k hk).1, fun hn => ?_⟩, h5.trans (ht.below hz h3)⟩
  · by_cases e : k < wr.heap.size
    · exact h3 k (hs k hk e)
    · omega
  · exact (h4 k hk).2 (hs k hn (h2.blk k hk))
theorem Two.stepR {g rg : Nat} {v rv : Value} {U' : Tab} (h1 : CT wr t g v T ((contT T).length : Int)) (h3 : ∀ k, Blk t g v k → w.heap.size ≤ k) (h4 : ∀ k, Blk rt rg rv k → w.heap.size ≤ k ∧ ¬ Blk t g v k) (h5 : Below w.heap.size w wr) (hc : RStep wr wx rt rg rv U') : Two w wx t rt T U' := by
  obtain ⟨g', v', h', ht, hs⟩ := hc
  have hz := h5.size
  refine ⟨g, v, g', v', h1.touched ht (fun k hk hn => (h4 k hn).2 hk), h', h3, fun k hk => ?_, h5.trans (ht.below hz fun k hk => (h4 k hk).1)⟩
  by_cases e : k < wr.heap.size
  · exact h4 k (hs k hk e)
  · exact ⟨by omega, fun hn => e (h1.tb.blk k hn)⟩
theorem Two.put (r : Rt) (H : Two w wr t rt T U) (HI : Inv T) (hk : r.k.good) (hfew : (contT T).length < 262144) :
    Calls Try.prog 13 #[.pointer (some ⟨t, 0, none⟩), kyV r.k, .int .i64 r.v] wr fun e w' => e = .returned (.tuple #[]) ∧ Two w w' t rt (putF 16 T r) U := by
  obtain ⟨g, v, rg, rv, h1, h2, h3, h4, h5⟩ := H
  have hlo := HI.lo
  refine (put_any 16 t g v T r wr h1 HI hk hfew (by omega)).mono ?_
  rintro e w' ⟨rfl, hc⟩
  exact ⟨rfl, Two.stepC h2 h3 h4 h5 hc⟩
theorem Two.rput (r : Rt) (H : Two w wr t rt T U) (HI : Inv U) (hk : r.k.good) (hfew : (contT U).length < 262144) :
    Calls Try.prog 14 #[.pointer (some ⟨rt, 0, none⟩), kyV r.k, .int .i64 r.v] wr fun e w' => e = .returned (.tuple #[]) ∧ Two w w' t rt T (putF 16 U r) := by
  obtain ⟨g, v, rg, rv, h1, h2, h3, h4, h5⟩ := H
  have hlo := HI.lo
  refine (rput_any 16 rt rg rv U r wr h2 HI hk hfew (by omega)).mono ?_
  rintro e w' ⟨rfl, hc⟩
  exact ⟨rfl, Two.stepR h1 h3 h4 h5 hc⟩
theorem kept_all (HI : Inv T) : Kept T (allT T) := ⟨HI, (sortR_ok _ HI.keys).1, (sortR_ok _ HI.keys).2.symm⟩
theorem Two.del (k : Ky) (H : Two w wr t rt T U) (HI : Inv T) (hk : k.good) (hfew : (contT T).length < 262144) :
    Calls Try.prog 11 #[.pointer (some ⟨t, 0, none⟩), kyV k] wr fun e w' => e = .returned (.bool (delT T k).2) ∧ Two w w' t rt (delT T k).1 U := by
  obtain ⟨g, v, rg, rv, h1, h2, h3, h4, h5⟩ := H
  have hst := st_le T
  refine (delete12_any t g v T _ k wr h1 HI.num hk (by omega) (by omega) HI.sort (by omega)).mono ?_
  rintro e w' ⟨rfl, hc⟩
  rw [(kept_all HI).del_len] at hc
  exact ⟨rfl, Two.stepC h2 h3 h4 h5 hc⟩
theorem Two.rdel (k : Ky) (H : Two w wr t rt T U) (HI : Inv U) (hk : k.good) (hfew : (contT U).length < 262144) :
    Calls Try.prog 12 #[.pointer (some ⟨rt, 0, none⟩), kyV k] wr fun e w' => e = .returned (.bool (delT U k).2) ∧ Two w w' t rt T (delT U k).1 := by
  obtain ⟨g, v, rg, rv, h1, h2, h3, h4, h5⟩ := H
  have hst := st_le U
  refine (rdelete12_any rt rg rv U k wr h2 HI.num hk (by omega)).mono ?_
  rintro e w' ⟨rfl, hc⟩
  exact ⟨rfl, Two.stepR h1 h3 h4 h5 hc⟩
theorem Two.size (H : Two w wr t rt T U) :
    Calls Try.prog 15 #[.pointer (some ⟨t, 0, none⟩)] wr fun e w' => e = .returned (.tuple #[.int .u64 (T.s : Int), .int .i64 (T.B.length : Int), .int .i64 (T.st.length : Int)]) ∧ Below wr.heap.size wr w' := by
  obtain ⟨g, v, rg, rv, h1, h2, h3, h4, h5⟩ := H
  exact size12_any t g v T _ wr h1
theorem Two.rsize (H : Two w wr t rt T U) :
    Calls Try.prog 16 #[.pointer (some ⟨rt, 0, none⟩)] wr fun e w' => e = .returned (.tuple #[.int .u64 (U.s : Int), .int .i64 (U.B.length : Int), .int .i64 (U.st.length : Int)]) ∧ Below wr.heap.size wr w' := by
  obtain ⟨g, v, rg, rv, h1, h2, h3, h4, h5⟩ := H
  exact rsize12_any rt rg rv U wr h2
theorem Two.len (H : Two w wr t rt T U) :
    Calls Try.prog 20 #[.pointer (some ⟨t, 0, none⟩)] wr fun e w' => e = .returned (.int .i64 ((contT T).length : Int)) ∧ Below wr.heap.size wr w' := by
  obtain ⟨g, v, rg, rv, h1, h2, h3, h4, h5⟩ := H
  exact len12_any t g v T _ wr h1
theorem Two.get (k : Ky) (H : Two w wr t rt T U) (HI : Inv T) (hk : k.good) (hfew : (contT T).length < 262144) :
    Calls Try.prog 21 #[.pointer (some ⟨t, 0, none⟩), kyV k] wr fun e w' => ∃ p c, e = .returned (.tuple #[.int .i64 ((getT T k).getD 0), .bool (getT T k).isSome, .slice p (readT T k).length c]) ∧ w'.ownsRow wr.heap.size 3 1 (.slice p (readT T k).length c) (readT T k).length (ics (readT T k)) ∧ Below wr.heap.size wr w' := by
  obtain ⟨g, v, rg, rv, h1, h2, h3, h4, h5⟩ := H
  have := st_le T
  exact get12_any t g v T _ k wr h1 HI.num hk HI.sort (by omega)
theorem Two.rget (k : Ky) (H : Two w wr t rt T U) (HI : Inv U) (hk : k.good) (hfew : (contT U).length < 262144) :
    Calls Try.prog 22 #[.pointer (some ⟨rt, 0, none⟩), kyV k] wr fun e w' => ∃ p c, e = .returned (.tuple #[.int .i64 ((getT U k).getD 0), .bool (getT U k).isSome, .slice p (readT U k).length c]) ∧ w'.ownsRow wr.heap.size 3 1 (.slice p (readT U k).length c) (readT U k).length (ics (readT U k)) ∧ Below wr.heap.size wr w' := by
  obtain ⟨g, v, rg, rv, h1, h2, h3, h4, h5⟩ := H
  have := st_le U
  exact rget12_any rt rg rv U k wr h2 HI.num hk (by omega)
theorem Two.all (H : Two w wr t rt T U) (HI : Inv T) (hfew : (contT T).length < 262144) :
    Calls Try.prog 19 #[.pointer (some ⟨t, 0, none⟩)] wr fun e w' => ∃ p c, e = .returned (.slice p (allT T).length c) ∧ Row w' p (rcs (allT T)) ∧ Below wr.heap.size wr w' := by
  obtain ⟨g, v, rg, rv, h1, h2, h3, h4, h5⟩ := H
  have hst := st_le T
  have HK := kept_all HI
  refine (all12_any t g v T _ wr h1 HI.num (by omega) HK.nodup).mono ?_
  rintro e w' ⟨p, c, M, rfl, hr, m1, m2, hb⟩
  have := HK.sorted m2 m1
  subst this
  exact ⟨p, c, rfl, hr, hb⟩
theorem Two.rall (H : Two w wr t rt T U) (HI : Inv U) (hfew : (contT U).length < 262144) :
    Calls Try.prog 17 #[.pointer (some ⟨rt, 0, none⟩)] wr fun e w' => NewRts wr w' e (allT U) := by
  obtain ⟨g, v, rg, rv, h1, h2, h3, h4, h5⟩ := H
  have hst := st_le U
  exact rall12_any rt rg rv U wr h2 HI.num (by omega)
end
/-- Two new ones. -/
theorem Two.new {w w1 w2 : World} {t rt g rg s n : Nat} (hb0 : Below w.heap.size w w1) {w0 : World} (hz0 : w.heap.size ≤ w0.heap.size) (h1 : CT w1 t g (.slice none 0 0) (emptyT s n) 0) (ht : w0.heap.size ≤ t) (hg : w0.heap.size ≤ g) (h2 : Tb RBk w2 rt rg (.slice none 0 0) (emptyT s n)) (hb : Below w1.heap.size w1 w2) (hrt : w1.heap.size ≤ rt) (hrg : w1.heap.size ≤ rg) : Two w w2 t rt (emptyT s n) (emptyT s n) := by
  have hz := hb0.size
  have e0 : ((contT (emptyT s n)).length : Int) = 0 := by rw [empty_cont]; rfl
  have hB := h1.tb.blk
  refine ⟨g, _, rg, _, by rw [e0]; exact h1.below hb, h2, fun k hk => ?_, fun k hk => ?_, hb0.trans (hb.mono hz)⟩
  · rcases hk with e | e | e
    · omega
    · omega
    · simp [Value.ownBlock] at e
  · have hk1 : w1.heap.size ≤ k := by
      rcases hk with e | e | e
      · omega
      · omega
      · simp [Value.ownBlock] at e
    exact ⟨by omega, fun hn => by have := hB k hn; omega⟩
/-- How many there may be behind a call. -/
theorem put_few {T : Tab} (HI : Inv T) {r : Rt} (hk : r.k.good) : (contT (putF 16 T r)).length ≤ (contT T).length + 1 := by
  have h := (putF_ok 16 T r HI hk).all.length_eq
  have h2 := outS_le (contT T) r.k
  rw [List.length_cons] at h
  omega
theorem del_few {T : Tab} (HI : Inv T) (k : Ky) : (contT (delT T k).1).length ≤ (contT T).length := by
  have h := (delT_ok HI k).2.1.length_eq
  have h2 := outS_le (contT T) k
  omega
theorem all_len {T : Tab} (HI : Inv T) : (allT T).length = (contT T).length := (sortR_ok _ HI.keys).2.length_eq
theorem all_good {T : Tab} (HI : Inv T) : ∀ r ∈ allT T, r.k.good := fun r hr => HI.good r ((sortR_ok _ HI.keys).2.mem_iff.1 hr)
end Go.Proofs.Ytlglppfkpieabaa
