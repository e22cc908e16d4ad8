/-
  What the reference's answers on addresses hand back: the same as package addr's calls. No condition but that the words are words of 64 bits.
-/
import Derived.Test.YtoihkbanmnagkaaGreatReg8
import Derived.Test.YtoihkbanmnagkaaGreatM18
/-
  One statement whose order is open, with many operations that lay new memory, or are guarded: as the rule of Reg8, but what is asked of the order is asked once for each pair of operations, not along each order: so that there may be twenty of them. No condition but those that stand in each.
-/
set_option linter.unusedSimpArgs false
set_option linter.unusedVariables false
namespace Go.Proofs.YtoihkbanmnagkaaGreat
open Go Go.RowKit Go.Sort

section
variable {P : Program} {ops : Array Oper} {Q : Exit → Act → World → Prop} {S : World → Prop} {pre : Nat → Bool}
def setAll (L : List Nat) (l : Array Bool) : Array Bool := L.foldl (fun l i => l.setIfInBounds i true) l
theorem setAll_snoc (L : List Nat) (i : Nat) (l : Array Bool) : setAll (L ++ [i]) l = (setAll L l).setIfInBounds i true := by unfold setAll; rw [List.foldl_append]; rfl
theorem setAll_at : ∀ (L : List Nat) (l : Array Bool) (j : Nat), (setAll L l)[j]? = if j ∈ L ∧ j < l.size then some true else l[j]?
  | [], l, j => by simp [setAll]
  | i :: L, l, j => by
    show (setAll L (l.setIfInBounds i true))[j]? = _
    rw [setAll_at L]
    simp only [Array.size_setIfInBounds, Array.getElem?_setIfInBounds, List.mem_cons]
    by_cases h1 : j ∈ L ∧ j < l.size
    · rw [if_pos h1, if_pos ⟨.inr h1.1, h1.2⟩]
    · rw [if_neg h1]
      by_cases h2 : i = j
      · subst h2
        by_cases h3 : i < l.size <;> simp [h3]
      · have h3 : j ≠ i := fun h => h2 h.symm
        simp only [if_neg h2]
        rw [if_neg]
        rintro ⟨h4 | h4, h5⟩
        · exact h3 h4
        · exact h1 ⟨h4, h5⟩
theorem nodup_len9 : ∀ {L M : List Nat}, L.Nodup → (∀ k ∈ L, k ∈ M) → L.length ≤ M.length
  | [], _, _, _ => Nat.zero_le _
  | a :: L, M, hn, h => by
    have ha := h a List.mem_cons_self
    have h2 := List.nodup_cons.1 hn
    have := nodup_len9 (M := M.erase a) h2.2 fun k hk => (List.mem_erase_of_ne (fun e => h2.1 (by rw [← e]; exact hk))).2 (h k (List.mem_cons_of_mem _ hk))
    rw [List.length_erase_of_mem ha] at this
    have hp : 0 < M.length := List.length_pos_of_mem ha
    simp only [List.length_cons]
    omega
theorem setAll_perm {L M : List Nat} (h : L.Perm M) (l : Array Bool) : setAll L l = setAll M l := by
  apply Array.ext_getElem?
  intro j
  rw [setAll_at, setAll_at]
  have : j ∈ L ↔ j ∈ M := h.mem_iff
  simp only [this]
def orderB (ops : Array Oper) : Bool := (List.range ops.size).all fun i => match ops[i]? with
  | some o => o.after.all fun e => !Region.binds .any e || decide (e.on < i)
  | none => true
def dep2 (ops : Array Oper) (R : List Nat) (i j : Nat) : Bool := Region.waitsFor .any ops i j || R.any fun s => Region.waitsFor .any ops i s && Region.waitsFor .any ops s j
def freeS (ops : Array Oper) (R tl : List Nat) (l2 : Array Bool) : Bool :=
  R.all (fun i => !l2.getD i false) && (List.range ops.size).all (fun i => l2.getD i true || R.contains i || tl.contains i) && orderB ops &&
  R.all (fun r => tl.all (fun t => Region.waitsFor .any ops t r) || R.any fun s => decide (r < s) && Region.waitsFor .any ops s r) &&
  R.all (fun i => (depOf ops R i).all fun j => dep2 ops R i j) && tailB .any ops tl (setAll R l2)
theorem ready_some {listed : Array Bool} (hO : orderB ops = true) (hs : listed.size = ops.size) {r : Nat} (hr : r < ops.size) (hun : listed.getD r false = false) : Region.ready .any ops listed ≠ [] := by
  intro he
  have all : ∀ n i, i < n → i < ops.size → listed.getD i true = true := by
    intro n
    induction n with
    | zero => intro i h; omega
    | succ n ih =>
      intro i h hi
      cases hl : listed.getD i true with
      | true => rfl
      | false =>
        exfalso
        have hm : i ∈ Region.ready .any ops listed := by
          refine mem_ready.2 ⟨hl, ops[i], Array.getElem?_eq_getElem hi, fun e he hb => ?_⟩
          simp only [orderB, List.all_eq_true, List.mem_range] at hO
          have h1 := hO i hi
          rw [Array.getElem?_eq_getElem hi] at h1
          simp only [Array.all_eq_true'] at h1
          have h2 := h1 e he
          rw [hb] at h2
          simp only [Bool.not_true, Bool.false_or, decide_eq_true_eq] at h2
          have h3 := ih e.on (by omega) (by omega)
          simp only [Array.getD_eq_getD_getElem?] at h3 ⊢
          rw [Array.getElem?_eq_getElem (by omega)] at h3 ⊢
          exact h3
        rw [he] at hm
        cases hm
  have h1 := all (r + 1) r (by omega) hr
  simp only [Array.getD_eq_getD_getElem?] at h1 hun
  rw [Array.getElem?_eq_getElem (by omega)] at h1 hun
  rw [show listed[r] = true from h1] at hun
  cases hun
theorem waits_listed {listed : Array Bool} (inv : HeadInv .any ops ops.size listed) {s r : Nat} (h : Region.waitsFor .any ops s r = true) (hs : (∀ o, ops[s]? = some o → ∀ e ∈ o.after, Region.binds .any e = true → listed.getD e.on false = true)) : listed.getD r false = true := by
  obtain ⟨o, ho, e, he, hb, hon⟩ := Region.waitsFor_spec h
  have := hs o ho e he hb
  rwa [hon] at this
theorem closed_of {listed : Array Bool} (inv : HeadInv .any ops ops.size listed) {s : Nat} (hs : listed.getD s false = true) : ∀ o, ops[s]? = some o → ∀ e ∈ o.after, Region.binds .any e = true → listed.getD e.on false = true := fun o ho => inv.closed s o ho hs
theorem tail_waits {R tl : List Nat} {listed : Array Bool} (inv : HeadInv .any ops ops.size listed) (hC : ∀ r ∈ R, (∀ t ∈ tl, Region.waitsFor .any ops t r = true) ∨ ∃ s ∈ R, r < s ∧ Region.waitsFor .any ops s r = true) (hlt : ∀ r ∈ R, r < ops.size) {t : Nat} (ht : t ∈ tl) (hr : t ∈ Region.ready .any ops listed) :
    ∀ n r, ops.size - r ≤ n → r ∈ R → listed.getD r false = true := by
  obtain ⟨-, ot, hot, hal⟩ := mem_ready.1 hr
  have htl : ∀ o, ops[t]? = some o → ∀ e ∈ o.after, Region.binds .any e = true → listed.getD e.on false = true := fun o ho => by
    obtain rfl : ot = o := by rw [hot] at ho; injection ho
    exact hal
  intro n
  induction n with
  | zero =>
    intro r h1 h2
    have := hlt r h2
    omega
  | succ n ih =>
    intro r h1 h2
    rcases hC r h2 with h | ⟨s, hs, h3, h4⟩
    · exact waits_listed inv (h t ht) htl
    · have := hlt s hs
      exact waits_listed inv h4 (closed_of inv (ih s (by omega) hs))
theorem anyP_free9 {w : World} {R tl : List Nat} {D : Nat → Value → World → Prop} {a0 : Act} (hsel : Region.noSelect ops = true) (hQ : ∀ c a w, Q (.panic c) a w → False) (hd : ∀ i j d, dstN ops i = some d → dstN ops j = some d → i = j)
    (hR : okR ops R = true) (pre2 : ∀ i ∈ tl, pre i = false) (rgb : ∀ {w'}, Below w.heap.size w w' → S w') (hst : ∀ i v W W', Below W.heap.size W W' → D i v W → D i v W') (hF : FreeQ P ops Q w R tl D a0) {l2 : Array Bool} (hS2 : freeS ops R tl l2 = true) (hz2 : l2.size = ops.size) :
    ∀ (f : Nat) (done : List Nat) (vals : Nat → Value) (listed : Array Bool) (W : World), R.length = done.length + f → done.Nodup → (∀ j ∈ done, j ∈ R) → HeadInv .any ops ops.size listed → (∀ j ∈ R, listed.getD j false = true → j ∈ done) → (∀ j ∈ done, listed.getD j false = true) →
      Below w.heap.size w W → (∀ j ∈ done, D j (vals j) W) → listed = setAll done l2 → anyP P .any ops Q S pre (f + tl.length) listed (actOf ops vals done a0) W := by
  have hRn : R.Nodup := by
    simp only [okR, Bool.and_eq_true, decide_eq_true_eq] at hR
    exact hR.1
  have hRo : ∀ i ∈ R, ∃ o d, ops[i]? = some o ∧ o.dst = some d := by
    intro i hi
    simp only [okR, Bool.and_eq_true, List.all_eq_true] at hR
    have := hR.2 i hi
    cases ho : ops[i]? with
    | none => rw [ho] at this; cases this
    | some o =>
      rw [ho] at this
      obtain ⟨d, hdd⟩ := Option.isSome_iff_exists.1 this
      exact ⟨o, d, rfl, hdd⟩
  simp only [freeS, Bool.and_eq_true, List.all_eq_true, Bool.or_eq_true, Bool.not_eq_true', List.any_eq_true, decide_eq_true_eq, List.mem_range] at hS2
  obtain ⟨⟨⟨⟨⟨hs1, hs2⟩, hs3⟩, hs4⟩, hs5⟩, hs6⟩ := hS2
  have hs4' : ∀ r ∈ R, (∀ t ∈ tl, Region.waitsFor .any ops t r = true) ∨ ∃ s ∈ R, r < s ∧ Region.waitsFor .any ops s r = true := hs4
  have hRl : ∀ r ∈ R, r < ops.size := fun r hr => by
    obtain ⟨o, d, ho, -⟩ := hRo r hr
    exact (Array.getElem?_eq_some_iff.1 ho).1
  intro f
  induction f with
  | zero =>
    intro done vals listed W hlen hnd hin inv hall hdl hb hD hB
    have hp : done.Perm R := (List.perm_ext_iff_of_nodup hnd hRn).2 fun j => ⟨hin j, fun hj => by
      by_cases hc : j ∈ done
      · exact hc
      · exfalso
        have := nodup_len9 (L := j :: done) (M := R) (List.nodup_cons.2 ⟨hc, hnd⟩) (fun k hk => by
          rcases List.mem_cons.1 hk with rfl | hk
          · exact hj
          · exact hin k hk)
        simp only [List.length_cons] at this
        omega⟩
    rw [Nat.zero_add, actOf_perm vals hd hp a0]
    exact anyP_tail tl listed _ W pre2 (by rw [hB, setAll_perm hp]; exact hs6) (hF.last vals W hb fun j hj => hD j (hp.mem_iff.2 hj))
  | succ f ih =>
    intro done vals listed W hlen hnd hin inv hall hdl hb hD hB
    rw [show f + 1 + tl.length = (f + tl.length) + 1 by omega]
    obtain ⟨u, huR, hud⟩ : ∃ u ∈ R, u ∉ done := by
      by_cases h : ∃ u ∈ R, u ∉ done
      · exact h
      · exfalso
        have hsub : ∀ x ∈ R, x ∈ done := fun x hx => by
          by_cases hc : x ∈ done
          · exact hc
          · exact absurd ⟨x, hx, hc⟩ h
        have := nodup_len9 hRn hsub
        omega
    have hun0 : listed.getD u false = false := by
      cases hc : listed.getD u false with
      | false => rfl
      | true => exact absurd (hall u huR hc) hud
    refine ⟨fun h1 => absurd h1 (ready_some hs3 inv.size (hRl u huR) hun0), fun i hi => ?_⟩
    have hil0 : i < ops.size := by
      obtain ⟨-, o, ho, -⟩ := mem_ready.1 hi
      exact (Array.getElem?_eq_some_iff.1 ho).1
    have hiR : i ∈ R := by
      have h1 := hs2 i hil0
      rcases h1 with (h1 | h1) | h1
      · exfalso
        have h2 := (mem_ready.1 hi).1
        rw [hB] at h2
        have h3 := setAll_at done l2 i
        simp only [Array.getD_eq_getD_getElem?] at h1 h2
        rw [h3] at h2
        split at h2
        · cases h2
        · rw [h1] at h2
          cases h2
      · simpa using h1
      · exfalso
        have h2 := tail_waits inv hs4' hRl (by simpa using h1) hi ops.size u (by omega) huR
        rw [hun0] at h2
        cases h2
    have hdep : ∀ j ∈ depOf ops R i, listed.getD j false = true := fun j hj => by
      have h1 := hs5 i hiR j hj
      simp only [dep2, Bool.or_eq_true, List.any_eq_true, Bool.and_eq_true] at h1
      obtain ⟨-, oi, hoi, hal⟩ := mem_ready.1 hi
      have hio : ∀ o, ops[i]? = some o → ∀ e ∈ o.after, Region.binds .any e = true → listed.getD e.on false = true := fun o ho => by
        obtain rfl : oi = o := by rw [hoi] at ho; injection ho
        exact hal
      rcases h1 with h1 | ⟨s, -, h2, h3⟩
      · exact waits_listed inv h1 hio
      · exact waits_listed inv h3 (closed_of inv (waits_listed inv h2 hio))
    obtain ⟨o, d, ho, hdst⟩ := hRo i hiR
    have hdn : dstN ops i = some d := by simp [dstN, ho, hdst]
    have hun := (mem_ready.1 hi).1
    have hil : i < listed.size := by rw [inv.size]; exact (Array.getElem?_eq_some_iff.1 ho).1
    have hind : i ∉ done := fun h => by
      have h1 := hdl i h
      rw [getD_both hun] at h1
      cases h1
    have hset : ∀ j, (listed.setIfInBounds i true).getD j false = if j = i then true else listed.getD j false := fun j => by
      simp only [Array.getD_eq_getD_getElem?, Array.getElem?_setIfInBounds]
      by_cases h : i = j
      · subst h; simp [hil]
      · rw [if_neg h, if_neg (fun e => h e.symm)]
    have hdd : ∀ j ∈ depOf ops R i, j ∈ done := fun j hj => hall j (List.mem_filter.1 hj).1 (hdep j hj)
    have hstep := hF.step i hiR vals W hb (fun j hj => hD j (hdd j hj)) (fun a3 w3 => ∃ v, a3 = (actOf ops vals (depOf ops R i) a0).put o.dst v ∧ (Below W.heap.size W w3 ∧ D i v w3)) (fun v W' h1 h2 => ⟨v, by rw [hdn, hdst], h1, h2⟩)
    have he : ∀ x ∈ o.looksAt ops, (actOf ops vals done a0).eval (.tmp x) = (actOf ops vals (depOf ops R i) a0).eval (.tmp x) := by
      intro x hx
      by_cases hex : ∃ j ∈ done, dstN ops j = some x
      · obtain ⟨j, hj, hk⟩ := hex
        have hjR := hin j hj
        have hsz := hF.size j hjR x hk
        have hjd : j ∈ depOf ops R i := by
          refine List.mem_filter.2 ⟨hjR, ?_⟩
          simp only [hk, ho]
          rw [List.contains_iff_mem]
          exact hx
        rw [actOf_at vals hd j x hk done a0 hj hsz, actOf_at vals hd j x hk _ a0 hjd hsz]
      · rw [actOf_far vals (.tmp x) done a0 (fun j hj k hk e => hex ⟨j, hj, by injection e with e; rw [e]; exact hk⟩), actOf_far vals (.tmp x) _ a0 (fun j hj k hk e => hex ⟨j, hdd j hj, by injection e with e; rw [e]; exact hk⟩)]
    have hsw := oneOp_swap (a := actOf ops vals done a0) ho (fun cs b => Region.noSelect_spec hsel i o cs b ho) hdst (by rw [actOf_size]; exact hF.size i hiR d hdn) he hQ hstep
    refine wpOp_mono ?_ (hsw.wpOp (by rw [ho]; rfl))
    rintro a3 w3 ⟨v, rfl, hb1, hDv⟩
    have hb3 := hb.trans (hb1.mono hb.size)
    refine ⟨fun _ _ => rgb hb3, ?_⟩
    have hact : (actOf ops vals done a0).put o.dst v = actOf ops (fun j => if j = i then v else vals j) (done ++ [i]) a0 := by
      rw [actOf_snoc, if_pos rfl, hdn, hdst, actOf_congr (u := fun j => if j = i then v else vals j) (v := vals) done a0 fun j hj => by
        have hne : j ≠ i := fun e => hind (by rw [← e]; exact hj)
        exact if_neg hne]
    rw [hact]
    refine ih (done ++ [i]) _ _ w3 (by rw [List.length_append]; simp; omega) ?_ ?_ (inv_set inv hi) ?_ ?_ hb3 ?_ (by rw [setAll_snoc, ← hB])
    · rw [List.nodup_append]
      exact ⟨hnd, by simp, fun x hx y hy e => hind (by simp at hy; rw [← hy, ← e]; exact hx)⟩
    · intro j hj
      rcases List.mem_append.1 hj with h | h
      · exact hin j h
      · simp at h; rw [h]; exact hiR
    · intro j hj h
      rw [hset] at h
      by_cases e : j = i
      · rw [e]; simp
      · rw [if_neg e] at h
        exact List.mem_append_left _ (hall j hj h)
    · intro j hj
      rw [hset]
      rcases List.mem_append.1 hj with h | h
      · by_cases e : j = i
        · rw [if_pos e]
        · rw [if_neg e]; exact hdl j h
      · simp at h; rw [if_pos h]
    · intro j hj
      by_cases e : j = i
      · subst e; simp only [if_pos]; exact hDv
      · simp only [if_neg e]
        rcases List.mem_append.1 hj with h | h
        · exact hst _ _ _ _ hb1 (hD j h)
        · simp at h; exact absurd h e
def allB9 (ops : Array Oper) (tA tB R tl : List Nat) : Bool :=
  decide (ops.size = tA.length + (tB.length + (R.length + tl.length))) && dstB ops && okR ops R &&
  takeD .any ops (fun _ => true) (fun l1 => takeD .any ops (fun i => laterB .any ops (fun j => !tl.contains j) i) (fun l2 => decide (l2.size = ops.size) && freeS ops R tl l2) tB l1) tA (Array.replicate ops.size false)
/-- THE RULE. -/
theorem region_free9 {id : Nat} {a : Act} {w : World} {l : List Oper} (tA tB R tl : List Nat) (D : Nat → Value → World → Prop) (hst : ∀ i v W W', Below W.heap.size W W' → D i v W → D i v W') (hm : P.follows .mixedOrders = true) (hQ : ∀ c a w, Q (.panic c) a w → False) (hsel : Region.noSelect l.toArray = true) (hB : allB9 l.toArray tA tB R tl = true)
    (h : wpQuiet P l.toArray (fun _ => True) (fun a1 => wpQuiet P l.toArray (fun w' => ∃ p : Regrown, w' = grow (redrawn w p.d) p.os) (fun a2 => FreeQ P l.toArray Q w R tl D a2) (pickL l.toArray tB) a1) (pickL l.toArray tA) a) :
    (Code.region id l.toArray true).wp P Q a w := by
  generalize l.toArray = ops at *
  simp only [allB9, Bool.and_eq_true, decide_eq_true_eq] at hB
  obtain ⟨⟨⟨hsz, hds⟩, hok⟩, hB⟩ := hB
  refine wp_region_any hm ?_
  have inv0 : HeadInv .any ops ops.size (Array.replicate ops.size false) :=
    ⟨by simp, fun j oj _ hl => (by rw [getD_replicate_false] at hl; cases hl), fun t h1 h2 => absurd h2 (by omega)⟩
  have hS0 : Rg w { w with drawn := w.drawn + 1 } := ⟨⟨w.drawn + 1, #[]⟩, by rw [grow_empty]; rfl⟩
  have pre2 : ∀ i ∈ tl, (!tl.contains i) = false := fun i hi => by simp [hi]
  refine wpAny_of_anyP (S := Rg w) (pre := fun j => !tl.contains j) _ _ _ _ ?_
  suffices hh : anyP P .any ops Q (Rg w) (fun j => !tl.contains j) (tA.length + (tB.length + (R.length + tl.length))) (Array.replicate ops.size false) a { w with drawn := w.drawn + 1 } by
    rw [← hsz] at hh
    exact hh
  refine anyP_takesC (T := fun _ => True) hsel hQ (fun _ _ => trivial) (fun _ _ => .inr (fun _ => trivial)) hS0 (fun l1 a1 hF1 inv1 h1 => ?_) tA _ a hB inv0 h
  refine anyP_takesC (T := fun w' => ∃ p : Regrown, w' = grow (redrawn w p.d) p.os) hsel hQ (fun _ h => h) (fun i hi => .inl hi) hS0 (fun l2 a2 hF2 inv2 h2 => ?_) tB l1 a1 hF1 inv1 h1
  have hb0 : Below w.heap.size w { w with drawn := w.drawn + 1 } := ⟨rfl, rfl, rfl, Nat.le_refl _, fun _ _ => rfl⟩
  simp only [Bool.and_eq_true, decide_eq_true_eq] at hF2
  have hF3 := hF2.2
  simp only [freeS, Bool.and_eq_true, List.all_eq_true, Bool.not_eq_true'] at hF3
  exact anyP_free9 hsel hQ (dstB_spec hds) hok pre2 (fun h => regrown_of_below h) hst h2 hF2.2 hF2.1 R.length [] (fun _ => undef) l2 _ (by simp) List.nodup_nil (fun j hj => by cases hj) inv2 (fun j hj hl => by rw [hF3.1.1.1.1.1 j hj] at hl; cases hl) (fun j hj => by cases hj) hb0 (fun j hj => by cases hj) rfl
/-- THE RULE, with each operation's slot and what it reads laid out. -/
theorem region_eff9 {id : Nat} {a : Act} {w : World} {l : List Oper} (tA tB : List Nat) (E : List Eff) (tl : List Nat) (D : Nat → Value → World → Prop) (hst : ∀ i v W W', Below W.heap.size W W' → D i v W → D i v W') (hm : P.follows .mixedOrders = true) (hQ : ∀ c a w, Q (.panic c) a w → False) (hsel : Region.noSelect l.toArray = true)
    (hB : allB9 l.toArray tA tB (E.map (·.1)) tl = true) (hE : effB l.toArray E = true)
    (h : wpQuiet P l.toArray (fun _ => True) (fun a1 => wpQuiet P l.toArray (fun w' => ∃ p : Regrown, w' = grow (redrawn w p.d) p.os) (fun a2 => (E.all fun p => decide (p.2.1 < a2.tmps.size)) = true ∧ stepsQ P l.toArray Q w D a2 E ∧
      ∀ W, Below w.heap.size w W → depsQ D W (E.map fun p => (p.1, p.2.1)) a2 fun b => wpList P l.toArray Q (pickL l.toArray tl) b W) (pickL l.toArray tB) a1) (pickL l.toArray tA) a) :
    (Code.region id l.toArray true).wp P Q a w := by
  refine region_free9 tA tB (E.map (·.1)) tl D hst hm hQ hsel hB (quiet_post (fun a1 h1 => quiet_post (fun a2 h2 => ?_) _ _ h1) _ _ h)
  obtain ⟨hs, hsteps, hlast⟩ := h2
  simp only [effB, List.all_eq_true, Bool.and_eq_true, decide_eq_true_eq] at hE
  have hmap : (E.map fun p => (p.1, p.2.1)).map (·.1) = E.map (·.1) := by rw [List.map_map]; rfl
  refine ⟨fun i hi d hd => ?_, fun i hi vals W hW hD => ?_, fun vals W hW hD => ?_⟩
  · obtain ⟨p, hp, rfl⟩ := List.mem_map.1 hi
    have h1 := (hE p hp).1.1
    rw [h1] at hd
    injection hd with hd
    subst hd
    simp only [List.all_eq_true, decide_eq_true_eq] at hs
    exact hs p hp
  · obtain ⟨p, hp, rfl⟩ := List.mem_map.1 hi
    have he := hE p hp
    rw [he.1.2] at hD ⊢
    rw [he.1.1]
    exact depsQ_use vals p.2.2 a2 he.2 (stepsQ_mem E hsteps p hp W hW) hD
  · have := depsQ_use (ops := l.toArray) vals (E.map fun p => (p.1, p.2.1)) a2 (fun q hq => by
      obtain ⟨p, hp, rfl⟩ := List.mem_map.1 hq
      exact (hE p hp).1.1) (hlast W hW) (by rw [hmap]; exact hD)
    rwa [hmap] at this
end
end Go.Proofs.YtoihkbanmnagkaaGreat
/-
  What the reference's answers on addresses hand back: the same as package addr's calls. No condition but that the words are words of 64 bits.
-/
set_option linter.unusedSimpArgs false
set_option linter.unusedVariables false
namespace Go.Proofs.YtoihkbanmnagkaaGreat
open Go.RowKit Go.Sort M

set_option maxHeartbeats 400000 in
theorem rbit_any (hi lo : Nat) (i : Int) (ha : W64 hi) (hb : W64 lo) :
    Gives Tryz.prog 43 #[.agg #[.int .u64 hi, .int .u64 lo], .int .i64 i] (.int .i64 (bitI hi lo i)) := by
  intro w
  by_cases h : 0 ≤ i ∧ i < 128
  · obtain ⟨h0, h1⟩ := h
    by_cases h2 : i < 64
    · go_enter Tryz.func43, Tryz.ntmps43
      go_wp2
      go_ret
      refine ⟨?_, by go_grown⟩
      show Ending.returned (.int .i64 (wrap64 (bits BinOp.and IntKind.u64 _ 1))) = _
      obtain ⟨k, rfl⟩ := Int.eq_ofNat_of_zero_le h0
      rw [show (63 - (k : Int)).toNat = 63 - k by omega, shr_and_wrap hi _ ha, bitI_hi hi lo k (by omega)]
    · go_enter Tryz.func43, Tryz.ntmps43
      go_wp2
      go_ret
      refine ⟨?_, by go_grown⟩
      show Ending.returned (.int .i64 (wrap64 (bits BinOp.and IntKind.u64 _ 1))) = _
      obtain ⟨k, rfl⟩ := Int.eq_ofNat_of_zero_le h0
      rw [show (127 - (k : Int)).toNat = 127 - k by omega, shr_and_wrap lo _ hb, bitI_lo hi lo k (by omega) (by omega)]
  · have hz := bitI_out hi lo i (by omega)
    have HZ := Lib.hid hz
    clear hz
    go_enter Tryz.func43, Tryz.ntmps43
    go_wp2
    all_goals
      go_ret
      exact ⟨by rw [HZ.out]; rfl, by go_grown⟩

theorem shl_one (k : Nat) (h : k < 64) : IntKind.u64.wrap (2 ^ k) = ((2 ^ k : Nat) : Int) := by
  have h1 : 2 ^ k < 2 ^ 64 := Nat.pow_lt_pow_right (by decide) h
  have e : (2 ^ k : Int) = ((2 ^ k : Nat) : Int) := by simp
  rw [e, IntKind.wrap_u64]
  generalize 2 ^ k = x at *
  omega
theorem or_shl (x k : Nat) (hx : W64 x) (h : k < 64) : bits BinOp.or IntKind.u64 (x : Int) (IntKind.u64.wrap (2 ^ k)) = ((x ||| 2 ^ k : Nat) : Int) := by
  rw [shl_one k h, bits_or_u64_nat _ _ hx.lt (Nat.pow_lt_pow_right (by decide) h : 2 ^ k < 2 ^ 64)]

set_option maxHeartbeats 400000 in
theorem cap_any (n lo hi : Int) (w : World) :
    Calls Tryz.prog 42 #[.int .i64 n, .int .i64 lo, .int .i64 hi] w fun e w' => e = .returned (.int .i64 (if n < lo then lo else if hi < n then hi else n)) ∧ w = w' := by
  by_cases h1 : n < lo
  · go_enter Tryz.func42, Tryz.ntmps42
    go_wp2
    go_ret
    exact ⟨ret_num (by simp [h1]), rfl⟩
  · by_cases h2 : hi < n
    · go_enter Tryz.func42, Tryz.ntmps42
      go_wp2
      go_ret
      exact ⟨ret_num (by simp [h1, h2]), rfl⟩
    · go_enter Tryz.func42, Tryz.ntmps42
      go_wp2
      go_ret
      exact ⟨ret_num (by simp [h1, h2]), rfl⟩

/-- An address with bit k turned on. -/
def onHi (hi k : Nat) : Nat := if k < 64 then hi ||| 2 ^ (63 - k) else hi
def onLo (lo k : Nat) : Nat := if k < 64 then lo else lo ||| 2 ^ (127 - k)

set_option maxHeartbeats 400000 in
theorem with_any (hi lo : Nat) (k : Nat) (ha : W64 hi) (hb : W64 lo) (h1 : k < 128) :
    Gives Tryz.prog 44 #[.agg #[.int .u64 hi, .int .u64 lo], .int .i64 k] (.agg #[.int .u64 (onHi hi k), .int .u64 (onLo lo k)]) := by
  intro w
  obtain ⟨i, hi'⟩ : ∃ i : Int, i = k := ⟨_, rfl⟩
  have HI := Lib.hid hi'
  rw [← hi']
  have h0 : 0 ≤ i := by omega
  have h1' : i < 128 := by omega
  clear hi' h1
  by_cases h2 : i < 64
  · go_enter Tryz.func44, Tryz.ntmps44
    go_wp2
    refine bodyPost_ret (by simp [results, Tryz.results44, go_sem]; try rfl) rfl ?_
    have hk := HI.out
    have e : (63 - i).toNat = 63 - k := by omega
    have hk2 : k < 64 := by omega
    exact ⟨by rw [e, or_shl hi _ ha (by omega)]; simp [onHi, onLo, hk2], by go_grown⟩
  · go_enter Tryz.func44, Tryz.ntmps44
    go_wp2
    refine bodyPost_ret (by simp [results, Tryz.results44, go_sem]; try rfl) rfl ?_
    have hk := HI.out
    have e : (127 - i).toNat = 127 - k := by omega
    have hk2 : ¬ k < 64 := by omega
    exact ⟨by rw [e, or_shl lo _ hb (by omega)]; simp [onHi, onLo, hk2], by go_grown⟩

theorem on_cut (hi lo k : Nat) (hb : W64 lo) (h : k < 128) (hbit : bitN hi lo k = true) : onHi (cutW hi k) k = cutW hi (k + 1) ∧ onLo (cutW lo (k - 64)) k = cutW lo (k + 1 - 64) := by
  unfold bitN at hbit
  unfold onHi onLo
  by_cases h1 : k < 64
  · rw [if_pos h1] at hbit
    rw [if_pos h1, if_pos h1, cutW_succ hi k h1, if_pos hbit, show k - 64 = 0 by omega, show k + 1 - 64 = 0 by omega]
    exact ⟨rfl, rfl⟩
  · rw [if_neg h1, if_pos h] at hbit
    rw [if_neg h1, if_neg h1, cutW_full hi k (by omega), cutW_full hi (k + 1) (by omega), show k + 1 - 64 = (k - 64) + 1 by omega, cutW_succ lo (k - 64) (by omega), show 63 - (k - 64) = 127 - k by omega, if_pos hbit]
    exact ⟨rfl, rfl⟩
theorem off_cut (hi lo k : Nat) (h : k < 128) (hbit : bitN hi lo k = false) : cutW hi k = cutW hi (k + 1) ∧ cutW lo (k - 64) = cutW lo (k + 1 - 64) := by
  unfold bitN at hbit
  by_cases h1 : k < 64
  · rw [if_pos h1] at hbit
    rw [cutW_succ hi k h1, hbit, show k - 64 = 0 by omega, show k + 1 - 64 = 0 by omega]
    exact ⟨rfl, rfl⟩
  · rw [if_neg h1, if_pos h] at hbit
    rw [cutW_full hi k (by omega), cutW_full hi (k + 1) (by omega), show k + 1 - 64 = (k - 64) + 1 by omega, cutW_succ lo (k - 64) (by omega), show 63 - (k - 64) = 127 - k by omega, hbit]
    exact ⟨rfl, rfl⟩
theorem cutW_w64 (x n : Nat) (h : W64 x) : W64 (cutW x n) := Nat.lt_of_le_of_lt (cutW_le x n) h
theorem cutW_cap (x n : Nat) : cutW x (min n 128) = cutW x n ∧ cutW x (min n 128 - 64) = cutW x (n - 64) := by
  unfold cutW
  rw [show 64 - min n 128 = 64 - n by omega, show 64 - (min n 128 - 64) = 64 - (n - 64) by omega]
  exact ⟨rfl, rfl⟩

set_option maxHeartbeats 400000 in
theorem rcut_any (hi lo : Nat) (n : Int) (ha : W64 hi) (hb : W64 lo) :
    Gives Tryz.prog 21 #[.agg #[.int .u64 hi, .int .u64 lo], .int .i64 n] (.agg #[.int .u64 (cutW hi n.toNat), .int .u64 (cutW lo (n.toNat - 64))]) := by
  intro w
  obtain ⟨m, hm⟩ : ∃ m : Nat, m = min n.toNat 128 := ⟨_, rfl⟩
  have hc : ∀ w, Calls Tryz.prog 42 #[.int .i64 n, .int .i64 0, .int .i64 128] w fun e w' => e = .returned (.int .i64 m) ∧ w = w' := fun w =>
    (cap_any n 0 128 w).mono fun e w' ⟨he, hw⟩ => ⟨by rw [he]; exact ret_num (by split <;> (try split) <;> omega), hw⟩
  have HC := Lib.hid hc
  have HM := Lib.hid hm
  have hm2 : m ≤ 128 := by omega
  clear hc hm
  have e1 := cutW_zero hi ha
  have e2 := cutW_zero lo hb
  have E1 := Lib.hid e1
  have E2 := Lib.hid e2
  clear e1 e2
  go_enter Tryz.func21, Tryz.ntmps21
  go_wp2_with (go_at_call 42; refine (HC.out _).mono ?_; rintro e w' ⟨rfl, rfl⟩)
  go_loopw [6] (fun i wr => ∃ k : Nat, k ≤ m ∧ i = .int .i64 k ∧ Below w.heap.size w wr ∧ w.heap.size + 3 ≤ wr.heap.size ∧ wr.cell? ⟨w.heap.size, 0, none⟩ = some (.int .u64 hi) ∧ wr.cell? ⟨w.heap.size, 1, none⟩ = some (.int .u64 lo) ∧
      wr.cell? ⟨w.heap.size + 1, 0, none⟩ = some (.int .u64 0) ∧ wr.cell? ⟨w.heap.size + 1, 1, none⟩ = some (.int .u64 0) ∧
      wr.cell? ⟨w.heap.size + 2, 0, none⟩ = some (.int .u64 (cutW hi k)) ∧ wr.cell? ⟨w.heap.size + 2, 1, none⟩ = some (.int .u64 (cutW lo (k - 64))) ∧
      wr.frozen? ⟨w.heap.size + 1, 0, none⟩ = false ∧ wr.frozen? ⟨w.heap.size + 1, 1, none⟩ = false ∧ wr.frozen? ⟨w.heap.size + 2, 0, none⟩ = false ∧ wr.frozen? ⟨w.heap.size + 2, 1, none⟩ = false)
    (fun i _ => m - (intOf i).toNat)
  case atStart =>
    refine ⟨0, Nat.zero_le _, rfl, by go_grown, by go_size, ?_⟩
    simp [go_sem, E1.out, E2.out]
  case round =>
    obtain ⟨k, hk, rfl, hw0, hz, c0, c1, c2, c3, c4, c5, f0, f1, f2, f3⟩ := hrel
    by_cases hlt : k < m
    · have hB : Gives Tryz.prog 43 #[.agg #[.int .u64 hi, .int .u64 lo], .int .i64 (k : Int)] (.int .i64 (bitI hi lo k)) := rbit_any hi lo k ha hb
      have hW : Gives Tryz.prog 44 #[.agg #[.int .u64 (cutW hi k), .int .u64 (cutW lo (k - 64))], .int .i64 (k : Int)] (.agg #[.int .u64 (onHi (cutW hi k) k), .int .u64 (onLo (cutW lo (k - 64)) k)]) :=
        with_any _ _ k (cutW_w64 _ _ ha) (cutW_w64 _ _ hb) (by omega)
      rw [bitI_nat] at hB
      cases hbit : bitN hi lo k
      · obtain ⟨g1, g2⟩ := off_cut hi lo k (by omega) hbit
        rw [hbit] at hB
        have HB := Lib.hid hB
        have G1 := Lib.hid g1
        have G2 := Lib.hid g2
        clear hB hW hbit g1 g2
        go_wp2_with fail
        refine (HB.out _).mono ?_
        rintro e w1 ⟨rfl, hb1⟩
        obtain ⟨hc1, hf1⟩ := bcell hb1
        have c0 := (hc1 _ _ (by omega)).trans c0
        have c1 := (hc1 _ _ (by omega)).trans c1
        have c2 := (hc1 _ _ (by omega)).trans c2
        have c3 := (hc1 _ _ (by omega)).trans c3
        have c4 := (hc1 _ _ (by omega)).trans c4
        have c5 := (hc1 _ _ (by omega)).trans c5
        have f0 := (hf1 _ _ (by omega)).trans f0
        have f1 := (hf1 _ _ (by omega)).trans f1
        have f2 := (hf1 _ _ (by omega)).trans f2
        have f3 := (hf1 _ _ (by omega)).trans f3
        have hw0 := Below.trans hw0 (hb1.mono (by omega))
        have hz := Nat.lt_of_lt_of_le hz hb1.size
        clear hc1 hf1 hb1
        go_wp2
        go_roundw
        case rel =>
          refine ⟨k + 1, by omega, by go_num, hw0, hz, c0, c1, c2, c3, ?_, ?_, f0, f1, f2, f3⟩
          · rw [← G1.out]; exact c4
          · rw [← G2.out]; exact c5
        case measure => simp [intOf]; omega
      · obtain ⟨g1, g2⟩ := on_cut hi lo k hb (by omega) hbit
        rw [hbit] at hB
        rw [g1, g2] at hW
        have HB := Lib.hid hB
        have HW := Lib.hid hW
        clear hB hW hbit g1 g2
        go_wp2_with fail
        refine (HB.out _).mono ?_
        rintro e w1 ⟨rfl, hb1⟩
        obtain ⟨hc1, hf1⟩ := bcell hb1
        have c0 := (hc1 _ _ (by omega)).trans c0
        have c1 := (hc1 _ _ (by omega)).trans c1
        have c2 := (hc1 _ _ (by omega)).trans c2
        have c3 := (hc1 _ _ (by omega)).trans c3
        have c4 := (hc1 _ _ (by omega)).trans c4
        have c5 := (hc1 _ _ (by omega)).trans c5
        have f0 := (hf1 _ _ (by omega)).trans f0
        have f1 := (hf1 _ _ (by omega)).trans f1
        have f2 := (hf1 _ _ (by omega)).trans f2
        have f3 := (hf1 _ _ (by omega)).trans f3
        have hw0 := Below.trans hw0 (hb1.mono (by omega))
        have hz := Nat.lt_of_lt_of_le hz hb1.size
        clear hc1 hf1 hb1
        go_wp2_with fail
        refine (HW.out _).mono ?_
        rintro e w2 ⟨rfl, hb2⟩
        obtain ⟨hc2, hf2⟩ := bcell hb2
        have c0 := (hc2 _ _ (by omega)).trans c0
        have c1 := (hc2 _ _ (by omega)).trans c1
        have c2 := (hc2 _ _ (by omega)).trans c2
        have c3 := (hc2 _ _ (by omega)).trans c3
        have c4 := (hc2 _ _ (by omega)).trans c4
        have c5 := (hc2 _ _ (by omega)).trans c5
        have f0 := (hf2 _ _ (by omega)).trans f0
        have f1 := (hf2 _ _ (by omega)).trans f1
        have f2 := (hf2 _ _ (by omega)).trans f2
        have f3 := (hf2 _ _ (by omega)).trans f3
        have hw0 := Below.trans hw0 (hb2.mono (by omega))
        have hz := Nat.lt_of_lt_of_le hz hb2.size
        clear hc2 hf2 hb2
        go_wp2
        go_roundw
        case rel =>
          refine ⟨k + 1, by omega, by go_num, by go_grown, by go_size, ?_⟩
          simp [go_sem, c0, c1, c2, c3, c4, c5, f0, f1, f2, f3]
        case measure => simp [intOf]; omega
    · go_wp2
      refine bodyPost_ret (by simp [results, Tryz.results21, go_sem, c2, c3, f0, f1]; try rfl) rfl ?_
      have e : k = m := by omega
      obtain ⟨g1, g2⟩ := cutW_cap hi n.toNat
      obtain ⟨g3, g4⟩ := cutW_cap lo n.toNat
      exact ⟨by rw [e, HM.out, g1, g4], by go_grown⟩

set_option maxHeartbeats 400000 in
theorem rright_any (hi lo : Nat) (n : Int) (ha : W64 hi) (hb : W64 lo) :
    Gives Tryz.prog 19 #[.agg #[.int .u64 hi, .int .u64 lo, .int .i64 n]] (.bool (rightB hi lo n)) := by
  intro w
  have ea := eql_addr
  by_cases h0 : 0 ≤ n
  · have d0 : decide (0 ≤ n) = true := by simpa using h0
    by_cases h1 : n ≤ 128
    · have d1 : decide (n ≤ 128) = true := by simpa using h1
      go_enter Tryz.func19, Tryz.ntmps19
      go_wp2_with fail
      have kg := cell_grow
      refine region_whole (by kernel_rfl) (by kernel_rfl) ?_
      repeat (any_goals (first | go_big_quiet_step ((go_at_call 21; exact Gives.at (rcut_any hi lo n ha hb) _ _ _)) | quiet_step ((go_at_call 21; exact Gives.at (rcut_any hi lo n ha hb) _ _ _))))
      refine wpQuiet_nil ?_
      clear kg
      intro w1 hb1
      obtain ⟨hc1, hf1⟩ := bcell hb1
      have hw1 : Below w.heap.size w w1 := by
        refine Below.trans ?_ (hb1.mono ?_)
        · go_grown
        · first | omega | go_size
      go_wp2
      go_ret
      refine ⟨ret_bool ?_, by go_grown⟩
      simp [rightB, h0, h1]
    · have d1 : decide (n ≤ 128) = false := by simpa using h1
      go_enter Tryz.func19, Tryz.ntmps19
      go_wp2_with fail
      have kg := cell_grow
      refine region_whole (by kernel_rfl) (by kernel_rfl) ?_
      repeat (any_goals (first | go_big_quiet_step (fail) | quiet_step (fail)))
      refine wpQuiet_nil ?_
      clear kg
      intro w1 hb1
      obtain ⟨hc1, hf1⟩ := bcell hb1
      have hw1 : Below w.heap.size w w1 := by
        refine Below.trans ?_ (hb1.mono ?_)
        · go_grown
        · first | omega | go_size
      go_wp2
      go_ret
      refine ⟨ret_bool ?_, by go_grown⟩
      unfold rightB
      rw [eq_comm, decide_eq_false_iff_not]
      omega
  · have d0 : decide (0 ≤ n) = false := by simpa using h0
    go_enter Tryz.func19, Tryz.ntmps19
    go_wp2_with fail
    have kg := cell_grow
    refine region_whole (by kernel_rfl) (by kernel_rfl) ?_
    repeat (any_goals (first | go_big_quiet_step (fail) | quiet_step (fail)))
    refine wpQuiet_nil ?_
    clear kg
    intro w1 hb1
    obtain ⟨hc1, hf1⟩ := bcell hb1
    have hw1 : Below w.heap.size w w1 := by
      refine Below.trans ?_ (hb1.mono ?_)
      · go_grown
      · first | omega | go_size
    go_wp2
    go_ret
    refine ⟨ret_bool ?_, by go_grown⟩
    unfold rightB
    rw [eq_comm, decide_eq_false_iff_not]
    omega

set_option maxHeartbeats 400000 in
theorem rless_any (h1 l1 : Nat) (n1 : Int) (h2 l2 : Nat) (n2 : Int) :
    Gives Tryz.prog 41 #[.agg #[.int .u64 h1, .int .u64 l1, .int .i64 n1], .agg #[.int .u64 h2, .int .u64 l2, .int .i64 n2]] (.bool (lessB h1 l1 n1 h2 l2 n2)) := by
  intro w
  by_cases e1 : h1 = h2
  · by_cases e2 : l1 = l2
    · subst e1 e2
      go_enter Tryz.func41, Tryz.ntmps41
      go_wp2
      go_ret
      refine ⟨ret_bool ?_, by go_grown⟩
      simp [lessB]
    · subst e1
      go_enter Tryz.func41, Tryz.ntmps41
      go_wp2
      go_ret
      refine ⟨ret_bool ?_, by go_grown⟩
      simp [lessB, e2]
  · go_enter Tryz.func41, Tryz.ntmps41
    go_wp2
    go_ret
    refine ⟨ret_bool ?_, by go_grown⟩
    simp [lessB, e1]

end Go.Proofs.YtoihkbanmnagkaaGreat
