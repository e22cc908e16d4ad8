/-
  One statement whose order is open and which holds several calls that write, each of which waits for all that stands ahead of it: walked once in the order of the text, phase by phase: within a phase operations read, and calls leave all old memory as it was. No condition on the program but that it draws orders in the wide manner.
-/
import Derived.Test.YtoihkbanmnagkaaGreatReg
set_option linter.unusedSimpArgs false
set_option linter.unusedVariables false
namespace Go.Proofs.YtoihkbanmnagkaaGreat
open Go Go.RowKit Go.Sort

section
variable {P : Program} {ops : Array Oper} {md : Region.Mode} {C : World → Prop}

def waitB (md : Region.Mode) (ops : Array Oper) (n : Nat) : Bool :=
  (List.range ops.size).all fun t => decide (t ≤ n) || (List.range t).any fun j => decide (n ≤ j) && Region.waitsFor md ops t j
theorem waits_all {n : Nat} {listed : Array Bool} (hs : Region.sinkB md ops n = true) (hc : waitB md ops n = true) (inv : HeadInv md ops n listed) (hn : n < ops.size) :
    ∀ (d i : Nat), n - i = d → i < n → listed.getD i true = false → ∀ t, n ≤ t → t ∉ Region.ready md ops listed := by
  intro d
  induction d using Nat.strongRecOn with
  | _ d ih =>
    intro i hd hi hun t ht hr
    obtain ⟨_, ot, hot, hall⟩ := mem_ready.1 hr
    have htlt : t < ops.size := (Array.getElem?_eq_some_iff.1 hot).1
    by_cases htn : t = n
    · subst htn
      have h1 := List.all_eq_true.1 hs i (List.mem_range.2 hi)
      obtain ⟨j, hj, hj2⟩ := List.any_eq_true.1 h1
      simp only [Bool.and_eq_true, decide_eq_true_eq] at hj2
      obtain ⟨oj, hoj, e, he, hb, hon⟩ := Region.waitsFor_spec hj2.2
      have hjle : j ≤ t := by have := List.mem_range.1 hj; omega
      by_cases hjt : j = t
      · subst hjt
        have : oj = ot := Option.some.inj (hoj.symm.trans hot)
        subst this
        have h2 := hall e he hb
        rw [hon, getD_both hun] at h2
        cases h2
      · cases hl : listed.getD j false with
        | true =>
          have h2 := inv.closed j oj hoj hl e he hb
          rw [hon, getD_both hun] at h2
          cases h2
        | false =>
          have hjs : j < listed.size := by rw [inv.size]; omega
          exact ih (t - j) (by omega) j rfl (by omega) (getD_in hjs hl) t (Nat.le_refl _) hr
    · have h1 := List.all_eq_true.1 hc t (List.mem_range.2 htlt)
      simp only [Bool.or_eq_true, decide_eq_true_eq] at h1
      rcases h1 with h1 | h1
      · omega
      · obtain ⟨j, hj, hj2⟩ := List.any_eq_true.1 h1
        simp only [Bool.and_eq_true, decide_eq_true_eq] at hj2
        obtain ⟨o', ho', e, he, hb, hon⟩ := Region.waitsFor_spec hj2.2
        have : o' = ot := Option.some.inj (ho'.symm.trans hot)
        subst this
        have h2 := hall e he hb
        have hjt := List.mem_range.1 hj
        rw [hon, getD_both (inv.tail j hj2.1 (by omega))] at h2
        cases h2
theorem headAny_one {n i : Nat} {oi : Oper} {v : Value} {L : Array Bool → Act → Prop} (hi : ops[i]? = some oi) (hsel : ∀ (j : Nat) (o : Oper) cs b, ops[j]? = some o → o.op ≠ .select cs b)
    (hs : Region.sinkB md ops n = true) (hc : waitB md ops n = true) (hn : n < ops.size) (hin : i < n)
    (hdone : ∀ listed a, L listed a → ∀ j ∈ Region.ready md ops listed, n ≤ j) :
    ∀ (f : Nat) (listed : Array Bool) (a : Act), HeadInv md ops n listed →
      (∀ j oj, ops[j]? = some oj → j ≠ i → listed.getD j true = false → (∀ e ∈ oj.after, Region.binds md e = true → e.on ≠ i) → oi.apart ops oj = true) →
      i ∈ Region.ready md ops listed → YieldsIn P ops C oi v a →
      headAny P md ops C n L f (listed.setIfInBounds i true) (a.put oi.dst v) → headAny P md ops C n L (f + 1) listed a := by
  intro f
  induction f with
  | zero =>
    intro listed a inv _ hr hy H
    refine ⟨fun h => (by rw [h] at hr; cases hr), fun j hj => ?_⟩
    have hjn : j < n := Nat.lt_of_not_le fun h => waits_all hs hc inv hn _ i rfl hin (mem_ready.1 hr).1 j h hj
    refine ⟨hjn, ?_⟩
    by_cases hji : j = i
    · subst hji; exact hy.qOp hi H
    · have := hdone _ _ H j (ready_mono hj hji)
      omega
  | succ f ih =>
    intro listed a inv hfree hr hy H
    have hun := (mem_ready.1 hr).1
    refine ⟨fun h => (by rw [h] at hr; cases hr), fun j hj => ?_⟩
    have hjn : j < n := Nat.lt_of_not_le fun h => waits_all hs hc inv hn _ i rfl hin hun j h hj
    refine ⟨hjn, ?_⟩
    by_cases hji : j = i
    · subst hji; exact hy.qOp hi H
    · have h1 := (H.2 j (ready_mono hj hji)).2
      obtain ⟨hjun, oj, hoj, hall⟩ := mem_ready.1 hj
      have hnot : ∀ e ∈ oj.after, Region.binds md e = true → e.on ≠ i := fun e he hb heq => by
        have h3 := hall e he hb
        rw [heq, getD_both hun] at h3
        cases h3
      have h2 := qOp_put hoj (hfree j oj hoj hji hjun hnot) (fun cs b => hsel i oi cs b hi) (fun cs b => hsel j oj cs b hoj) hy h1
      have hfree' : ∀ k ok, ops[k]? = some ok → k ≠ i → (listed.setIfInBounds j true).getD k true = false →
          (∀ e ∈ ok.after, Region.binds md e = true → e.on ≠ i) → oi.apart ops ok = true := fun k ok hk hki hun2 hno => by
        refine hfree k ok hk hki ?_ hno
        by_cases hjk : j = k
        · subst hjk; exact hjun
        · rw [getD_set_ne true hjk] at hun2; exact hun2
      refine qOp_mono (fun a' h3 => ih (listed.setIfInBounds j true) a' (inv.set hj hjn) hfree' (ready_mono hr (Ne.symm hji)) h3.1 ?_) h2
      rw [Array.setIfInBounds_comm _ _ hji]
      exact h3.2
def lexTo (md : Region.Mode) (ops : Array Oper) (F : Array Bool → Bool) : Nat → Nat → Array Bool → Bool
  | 0, _, listed => F listed
  | f + 1, k, listed => (Region.ready md ops listed).contains k && Region.free md ops listed k && lexTo md ops F f (k + 1) (listed.setIfInBounds k true)
theorem headAny_to {n : Nat} {F : Array Bool → Bool} {Lq : Act → Prop} (hF : ∀ listed, F listed = true → ∀ j ∈ Region.ready md ops listed, n ≤ j) (hsel : Region.noSelect ops = true) (hs : Region.sinkB md ops n = true) (hc : waitB md ops n = true) (hn : n < ops.size) :
    ∀ (l : List Oper) (k : Nat) (listed : Array Bool) (a : Act), (∀ j, j < l.length → l[j]? = ops[k + j]?) → k + l.length = n → HeadInv md ops n listed →
    lexTo md ops F l.length k listed = true → wpQuiet P ops C Lq l a →
    headAny P md ops C n (fun listed' a' => (F listed' = true ∧ HeadInv md ops n listed') ∧ Lq a') l.length listed a
  | [], k, listed, a, _, hk, inv, hB, h => ⟨⟨by simpa [lexTo] using hB, inv⟩, h⟩
  | o :: l, k, listed, a, hl, hk, inv, hB, h => by
    have h0 : ops[k]? = some o := by simpa using (hl 0 (by simp)).symm
    simp only [List.length_cons, lexTo, Bool.and_eq_true] at hB
    obtain ⟨⟨hr, hf⟩, hB'⟩ := hB
    have hkn : k < n := by simp only [List.length_cons] at hk; omega
    have hr' : k ∈ Region.ready md ops listed := by simpa using hr
    have hst : qOp P ops C k (wpQuiet P ops C Lq l) a := by unfold qOp; simp only [h0]; exact h
    obtain ⟨v, hy, hK⟩ := yieldsIn_of_qOp h0 hst
    exact headAny_one h0 (Region.noSelect_spec hsel) hs hc hn hkn (fun listed' a' hL => hF _ hL.1.1) l.length listed a inv (Region.free_spec h0 hf) hr' hy
      (headAny_to hF hsel hs hc hn l (k + 1) _ _ (fun j hj => by have := hl (j + 1) (by simp; omega); simpa [Nat.add_assoc, Nat.add_comm 1 j] using this) (by simp only [List.length_cons] at hk; omega) (inv.set hr' hkn) hB' hK)
def Rg (w : World) (w' : World) : Prop := ∃ p : Regrown, w' = grow (redrawn w p.d) p.os
theorem Rg.self (w : World) : Rg w w := ⟨⟨w.drawn, #[]⟩, by rw [grow_empty]; rfl⟩
def phB (ops : Array Oper) (nT : Nat) : List Nat → Nat → Array Bool → Bool
  | [], k, listed => decide (k ≤ nT) && decide (nT < ops.size) && Region.sinkB .any ops nT && waitB .any ops nT && lexTo .any ops (Region.seqB .any ops (ops.size - nT) nT) (nT - k) k listed
  | n :: ns, k, listed => decide (k ≤ n) && decide (n < ops.size) && Region.sinkB .any ops n && waitB .any ops n && lexTo .any ops (fun l1 => decide (Region.ready .any ops l1 = [n]) && phB ops nT ns (n + 1) (l1.setIfInBounds n true)) (n - k) k listed
def phQ (P : Program) (ops : Array Oper) (Q : Exit → Act → World → Prop) (nT : Nat) : List Nat → Nat → List Oper → Act → World → Prop
  | [], k, l, a, w => wpQuiet P ops (fun w' => ∃ p : Regrown, w' = grow (redrawn w p.d) p.os) (fun a' => ∀ w', Below w.heap.size w w' → wpList P ops Q (l.drop (nT - k)) a' w') (l.take (nT - k)) a
  | n :: ns, k, l, a, w => wpQuiet P ops (fun w' => ∃ p : Regrown, w' = grow (redrawn w p.d) p.os) (fun a' => ∀ w', Below w.heap.size w w' → ∀ (K : Act → World → Prop), (∀ a2 w2, phQ P ops Q nT ns (n + 1) (l.drop (n - k + 1)) a2 w2 → K a2 w2) →
      ∀ o, l[n - k]? = some o → if Region.wanted o (yielded ops a'.tmps) = true then o.wp P a' w' K Q else K (a'.put o.dst undef) w') (l.take (n - k)) a
theorem inv_next {n : Nat} {listed : Array Bool} (inv : HeadInv md ops n listed) (hi : n ∈ Region.ready md ops listed) : HeadInv md ops (n + 1) (listed.setIfInBounds n true) := by
  obtain ⟨_, oi, hoi, hall⟩ := mem_ready.1 hi
  refine ⟨by simp [inv.size], fun j oj hj hl e he hb => ?_, fun t ht ht' => by rw [getD_set_ne true (by omega)]; exact inv.tail t (by omega) ht'⟩
  by_cases hij : n = j
  · subst hij
    have : oj = oi := Option.some.inj (hj.symm.trans hoi)
    subst this
    exact getD_set_true (hall e he hb)
  · rw [getD_set_ne false hij] at hl
    exact getD_set_true (inv.closed j oj hj hl e he hb)
theorem inv_up {k n : Nat} {listed : Array Bool} (inv : HeadInv md ops k listed) (h : k ≤ n) : HeadInv md ops n listed := ⟨inv.size, inv.closed, fun t ht ht' => inv.tail t (by omega) ht'⟩
theorem phases {Q : Exit → Act → World → Prop} {nT : Nat} (hsel : Region.noSelect ops = true) : ∀ (ns : List Nat) (k : Nat) (l : List Oper) (listed : Array Bool) (a : Act) (w wc : World), (∀ j, l[j]? = ops[k + j]?) → HeadInv .any ops k listed →
    phB ops nT ns k listed = true → Rg w wc → phQ P ops Q nT ns k l a w → wpAny P .any ops Q (ops.size - k) listed a wc
  | [], k, l, listed, a, w, wc, hl, inv, hB, hC, h => by
    simp only [phB, Bool.and_eq_true, decide_eq_true_eq] at hB
    obtain ⟨⟨⟨⟨hk, hn⟩, hs⟩, hw⟩, hlex⟩ := hB
    have hll : l.length = ops.size - k := by
      rcases Nat.lt_or_ge l.length (ops.size - k) with h1 | h1
      · have := hl l.length
        rw [List.getElem?_eq_none (Nat.le_refl _), Array.getElem?_eq_getElem (by omega)] at this
        cases this
      · rcases Nat.lt_or_ge (ops.size - k) l.length with h2 | h2
        · have := hl (ops.size - k)
          rw [List.getElem?_eq_getElem h2, Array.getElem?_eq_none (by omega)] at this
          cases this
        · omega
    have htl : (l.take (nT - k)).length = nT - k := by simp; omega
    have hdl : (l.drop (nT - k)).length = ops.size - nT := by simp; omega
    have H := headAny_to (P := P) (C := Rg w) (md := .any) (F := Region.seqB .any ops (ops.size - nT) nT) (fun listed hF => seqB_ready hF) hsel hs hw hn (l.take (nT - k)) k listed a (fun j hj => by
      have hj' : j < nT - k := by rw [htl] at hj; exact hj
      rw [List.getElem?_take, if_pos hj']
      exact hl j) (by rw [htl]; omega) (inv_up inv hk) (by rw [htl]; exact hlex) h
    have := headAny_wp (Q' := Q) (g := ops.size - nT) (fun listed a' w' hw' hL => by
      have := wpAny_of_seq (md := .any) (Q' := Q) (l.drop (nT - k)) nT listed a' w' (fun j => by rw [List.getElem?_drop, hl]; congr 1; omega) (by rw [hdl]; exact hL.1.1) (hL.2 w' (by obtain ⟨p, rfl⟩ := hw'; exact below_regrown _ _ _))
      rwa [hdl] at this) _ _ _ _ hC H
    rw [htl, show nT - k + (ops.size - nT) = ops.size - k by omega] at this
    exact this
  | n :: ns, k, l, listed, a, w, wc, hl, inv, hB, hC, h => by
    simp only [phB, Bool.and_eq_true, decide_eq_true_eq] at hB
    obtain ⟨⟨⟨⟨hk, hn⟩, hs⟩, hw⟩, hlex⟩ := hB
    have hlen : n - k < l.length := by
      rcases Nat.lt_or_ge (n - k) l.length with h1 | h1
      · exact h1
      · have := hl (n - k)
        rw [List.getElem?_eq_none h1, Array.getElem?_eq_getElem (by omega)] at this
        cases this
    have htl : (l.take (n - k)).length = n - k := by simp; omega
    have H := headAny_to (P := P) (C := Rg w) (md := .any) (F := fun l1 => decide (Region.ready .any ops l1 = [n]) && phB ops nT ns (n + 1) (l1.setIfInBounds n true)) (fun listed hF j hj => by
      simp only [Bool.and_eq_true, decide_eq_true_eq] at hF
      rw [hF.1] at hj
      simp at hj
      omega) hsel hs hw hn (l.take (n - k)) k listed a (fun j hj => by
      have hj' : j < n - k := by rw [htl] at hj; exact hj
      rw [List.getElem?_take, if_pos hj']
      exact hl j) (by rw [htl]; omega) (inv_up inv hk) (by rw [htl]; exact hlex) h
    have := headAny_wp (Q' := Q) (g := ops.size - n) (fun listed a' w' hw' hL => by
      obtain ⟨⟨hF, inv'⟩, hq⟩ := hL
      simp only [Bool.and_eq_true, decide_eq_true_eq] at hF
      have h0 : l[n - k]? = some (l[n - k]'hlen) := List.getElem?_eq_getElem hlen
      have h1 : ops[n]? = some (l[n - k]'hlen) := by rw [← h0, hl]; congr 1; omega
      rw [show ops.size - n = (ops.size - (n + 1)) + 1 by omega]
      refine ⟨fun h => (by rw [hF.1] at h; cases h), fun i hi => ?_⟩
      rw [hF.1] at hi
      have hin : i = n := by simpa using hi
      subst hin
      have hq' := hq w' (by obtain ⟨p, rfl⟩ := hw'; exact below_regrown _ _ _) (wpAny P .any ops Q (ops.size - (i + 1)) (listed.setIfInBounds i true)) (fun a2 w2 h2 =>
        phases hsel ns (i + 1) (l.drop (i - k + 1)) (listed.setIfInBounds i true) a2 w2 w2 (fun j => by rw [List.getElem?_drop, hl]; congr 1; omega) (inv_next inv' (by rw [hF.1]; simp)) hF.2 (Rg.self w2) h2) _ h0
      unfold wpOp
      simp only [h1]
      split
      · rename_i hw1
        rw [if_pos hw1] at hq'
        exact .inl hq'
      · rename_i hw1
        rw [if_neg hw1] at hq'
        exact hq') _ _ _ _ hC H
    rw [htl, show n - k + (ops.size - n) = ops.size - k by omega] at this
    exact this
theorem region_phases {id : Nat} {Q : Exit → Act → World → Prop} {a : Act} {w : World} {l : List Oper} (ns : List Nat) (nT : Nat) (hm : P.follows .mixedOrders = true) (hsel : Region.noSelect l.toArray = true) (hB : phB l.toArray nT ns 0 (Array.replicate l.toArray.size false) = true)
    (h : phQ P l.toArray Q nT ns 0 l a w) : (Code.region id l.toArray true).wp P Q a w := by
  refine wp_region_any hm ?_
  have inv0 : HeadInv .any l.toArray 0 (Array.replicate l.toArray.size false) :=
    ⟨by simp, fun j oj _ hl => (by rw [getD_replicate_false] at hl; cases hl), fun t _ ht => getD_in (by simpa using ht) (getD_replicate_false _ _)⟩
  have := phases (P := P) (Q := Q) hsel ns 0 l _ a w _ (fun j => by simp) inv0 hB (⟨⟨w.drawn + 1, #[]⟩, by rw [grow_empty]; rfl⟩ : Rg w { w with drawn := w.drawn + 1 }) h
  simpa using this
end
end Go.Proofs.YtoihkbanmnagkaaGreat
