/-
  One statement whose order is open, with one tail in one order that may write: what only reads, or builds a value, is taken first, wherever it stands. No condition on the program but that it draws orders in the wide manner.
-/
import Derived.Test.YtmdjbdhnenpjeaaRef18b
import Derived.Test.YtmdjbdhnenpjeaaReg3
/-
  What chapter 18's laws share: what is asked of the program's Hop and Set; the document's example; an append of an argument to nil in a drawn region. No condition but those that stand in each.
-/
set_option linter.unusedSimpArgs false
set_option linter.unusedVariables false
namespace Go.Proofs.Ytmdjbdhnenpjeaa
open Go Go.RowKit Go.Sort M

/-- What the program's Hop and Set hand back. -/
def HopC : Prop := ∀ (p : Option Addr) (c : Nat) (L : List Rt) (k : Ky) (low : Int) (W : World), Row W p (rcs L) → (∀ x ∈ L, x.k.good) → k.good → (p = none → c = 0) → L.length ≤ c → L.length ≤ 4000 →
  Calls Try.prog 6 #[.slice p L.length c, kyA k, .int .i64 low] W fun e w' => e = .returned (hopA (sortR L) low k) ∧ Below W.heap.size W w'
def SetC : Prop := ∀ (p : Option Addr) (c : Nat) (L : List Rt) (low high : Int) (W : World), Row W p (rcs L) → (∀ x ∈ L, x.k.good) → (p = none → c = 0) → L.length ≤ c → L.length ≤ 4000 →
  Calls Try.prog 9 #[.slice p L.length c, .int .i64 low, .int .i64 high] W fun e w' => NewRts W w' e (setS (sortR L) low high)
theorem run_append_none18 {P : Program} (w : World) (t ty e : TypeId) (i : TypeInfo) (c : Nat) (ht : P.underlying t = some (.slice e)) (hi : P.info? e = some i) :
    (Builtin.append_ #[t, t] ty #[.slice none 0 0, .slice none 0 c]).run P w = .ok (.slice none 0 0) w := by
  simp [Builtin.append_, run_underlying ht, sizeOf, typeInfo, hi, Builtin.lenOf, Builtin.firstCells]
theorem own_cap18 {w : World} {B n m d k : Nat} {e : TypeId} {q : Option Addr} {xs : List Value} (h : w.ownsRow B e k (.slice q n d) m xs) : n ≤ d := by
  rcases h.2 with ⟨e1, _⟩ | ⟨g, cap, cur, e1, _, _, hc, _⟩
  · injection e1 with _ e2 e3
    omega
  · injection e1 with _ e2 e3
    omega
/-- An append of an argument to nil, one operation of whatever statement. -/
theorem wp_append_arg18 {o : Oper} {a : Act} {w : World} {K : Act → World → Prop} {Q : Exit → Act → World → Prop} (x : Operand)
    (ho : o.op = .call { callee := .builtin .append, args := #[.const (.slice none 0 0), x], argTypes := #[22, 22] }) (M : List Rt) (q : Option Addr) (c : Nat) (hx : a.eval x = .slice q M.length c)
    (hsrc : Row w q (rcs M)) (hlen : M.length ≤ 1099511627776)
    (h : ∀ p' c' w', Below w.heap.size w w' → Row w' p' (rcs M) → (p' = none → c' = 0) → M.length ≤ c' → K (a.put o.dst (.slice p' M.length c')) w') : o.wp Try.prog a w K Q := by
  cases q with
  | none =>
    have hM : M = [] := by
      rcases hsrc with h | ⟨g, o, h, -⟩
      · have := rcs_len M
        rw [h] at this
        exact List.length_eq_zero_iff.1 (by simp at this; omega)
      · cases h
    subst hM
    obtain ⟨i0, hi0, iz0, iz1, iz2⟩ := info_parts infoR
    have hrun := run_append_none18 w 22 o.type 36 i0 c Try.underlying22 hi0
    have hx : a.eval x = .slice none 0 c := hx
    have hs : a.eval (.const (.slice none 0 0)) = .slice none 0 0 := rfl
    unfold Oper.wp
    simp [execOp, ho, resolve, invoke, builtin, hs, hx, hrun, Result.andThen]
    exact h none 0 w (Below.refl _ _) (.inl rfl) (fun _ => rfl) (Nat.le_refl _)
  | some ad =>
    refine wp_append_rt (.const (.slice none 0 0)) x ho w.heap.size (.slice none 0 0) [] M rfl (World.ownsRow_nil _ _ _ _) ad M.length c rfl hx ?_ (by simp; omega) (Nat.le_refl _) ?_
    · intro j u hu
      rcases hsrc with h | ⟨g, o, h, hg, hc⟩
      · rw [h] at hu
        cases hu
      · injection h with h
        subst h
        rw [show (⟨g, o, none⟩ : Addr).add j = ⟨g, o + j, none⟩ by unfold Addr.add; split <;> simp_all]
        exact hc j u hu
    · intro v' w' h1 h2 _
      rw [List.nil_append] at h1
      obtain ⟨p', c', rfl⟩ := own_slice h1
      refine h p' c' w' ((Below.refl w.heap.size w).grown h2 (Nat.le_refl _) (fun k e => by simp [Value.ownBlock] at e)) (Row.of_own h1) (fun e => ?_) (own_cap18 h1)
      subst e
      rcases h1.2 with ⟨e, -⟩ | ⟨g, cap, cur, e, -⟩
      · injection e
      · injection e with e
        cases e
theorem wpList_append_arg18 {ops : Array Oper} {rest : List Oper} {o : Oper} {a : Act} {w : World} {Q : Exit → Act → World → Prop} (hgd : o.guard = none) (x : Operand)
    (ho : o.op = .call { callee := .builtin .append, args := #[.const (.slice none 0 0), x], argTypes := #[22, 22] }) (M : List Rt) (q : Option Addr) (c : Nat) (hx : a.eval x = .slice q M.length c)
    (hsrc : Row w q (rcs M)) (hlen : M.length ≤ 1099511627776)
    (h : ∀ p' c' w', Below w.heap.size w w' → Row w' p' (rcs M) → (p' = none → c' = 0) → M.length ≤ c' → wpList Try.prog ops Q rest (a.put o.dst (.slice p' M.length c')) w') : wpList Try.prog ops Q (o :: rest) a w :=
  wpList_plain hgd fun K hK => wp_append_arg18 x ho M q c hx hsrc hlen fun p' c' w' h1 h2 h3 h4 => hK _ _ (h p' c' w' h1 h2 h3 h4)
theorem alive18_math : setS (sortR [⟨⟨0, 0, 0⟩, 6⟩]) (-1) 1 = [⟨⟨0, 0, 1⟩, 6⟩, ⟨⟨9223372036854775808, 0, 1⟩, 6⟩] := by decide +kernel
set_option maxHeartbeats 1000000 in
theorem alive18_any (HS : SetC) (w : World) : Calls Try.prog 5 #[] w fun e w' => e = .returned (.bool true) ∧ Below w.heap.size w w' := by
  have hlit := fun W : World => World.ownsRow_lit (base := W.heap.size) (e := 36) (size := 4) W #[.int .u64 0, .int .u64 0, .int .i64 0, .int .i64 6] 1 (Nat.le_refl _) (by unfold maxLen; omega) rfl
  have h1 := fun W (p : Option Addr) (h : Row W p (rcs [⟨⟨0, 0, 0⟩, 6⟩])) => HS p 1 [⟨⟨0, 0, 0⟩, 6⟩] (-1) 1 W h (fun x hx => by simp at hx; subst hx; exact ⟨W64.mk (by decide), W64.mk (by decide)⟩) (fun e => by subst e; rcases h with h | ⟨_, _, h, _⟩ <;> cases h) (Nat.le_refl _) (by simp)
  have h2 := fun W => HS none 0 [] 0 8 W (.inl rfl) (fun x hx => by cases hx) (fun _ => rfl) (Nat.le_refl _) (by simp)
  rw [alive18_math] at h1
  rw [show setS (sortR []) 0 8 = [] by decide +kernel] at h2
  have H1 : Hid (∀ W (p : Option Addr), Row W p (rcs [⟨⟨0, 0, 0⟩, 6⟩]) → Calls Try.prog 9 #[.slice p 1 1, .int .i64 (-1), .int .i64 1] W fun e w' => ∃ p c, e = .returned (.slice p 2 c) ∧ w'.ownsRow W.heap.size 36 4 (.slice p 2 c) 2 (rcs [⟨⟨0, 0, 1⟩, 6⟩, ⟨⟨9223372036854775808, 0, 1⟩, 6⟩]) ∧ Below W.heap.size W w') := Lib.hid h1
  have H2 : Hid (∀ W, Calls Try.prog 9 #[.slice none 0 0, .int .i64 0, .int .i64 8] W fun e w' => ∃ p c, e = .returned (.slice p 0 c) ∧ w'.ownsRow W.heap.size 36 4 (.slice p 0 c) 0 (rcs []) ∧ Below W.heap.size W w') := Lib.hid h2
  have HL := Lib.hid hlit
  clear h1 h2 hlit
  go_enter Try.func5, Try.ntmps5
  go_wp2_with fail
  refine (H1.out _ _ (Row.of_own (HL.out w))).mono ?_
  rintro e w1 ⟨p1, c1, rfl, ho1, hb1⟩
  have hw1 : Below w.heap.size w w1 := Below.trans (by go_grown) (hb1.mono (by simp))
  obtain ⟨g, o, rfl, hg, -, -, -, x3⟩ := (Row.of_own ho1).rt (L := [⟨⟨0, 0, 1⟩, 6⟩, ⟨⟨9223372036854775808, 0, 1⟩, 6⟩]) (k := 0) (by simp)
  simp only [Nat.zero_mul, Nat.add_zero, List.getElem_cons_zero] at x3
  clear ho1 hb1
  go_wp2_with fail
  refine (H2.out _).mono ?_
  rintro e w2 ⟨p2, c2, rfl, -, hb2⟩
  have x3 := (hb2.cell (p := ⟨g, o + 3, none⟩) hg).trans x3
  have hw2 := hw1.trans (hb2.mono hw1.size)
  go_wp2
  go_ret
  exact ⟨rfl, hw2⟩
end Go.Proofs.Ytmdjbdhnenpjeaa
/-
  One statement whose order is open, with one tail in one order that may write: what only reads, or builds a value, is taken first, wherever it stands. No condition on the program but that it draws orders in the wide manner.
-/
set_option linter.unusedSimpArgs false
set_option linter.unusedVariables false
namespace Go.Proofs.Ytmdjbdhnenpjeaa
open Go Go.RowKit Go.Sort

section
variable {P : Program} {ops : Array Oper} {md : Region.Mode} {C : World → Prop} {Q : Exit → Act → World → Prop} {S : World → Prop} {pre : Nat → Bool}
/-- .. or a value is built. -/
def stillC (o : Oper) : Bool :=
  stillB o || match o.op with
  | .build _ _ => true
  | _ => false
theorem still_valueC {o : Oper} (hs : stillC o = true) {a : Act} {w : World} {v : Value} (h : Oper.quietUpon P C w v ((execOp a.eval o).run P w)) : (execOp a.eval o).run P w = .ok (.value v) w := by
  unfold stillC at hs
  rw [Bool.or_eq_true] at hs
  rcases hs with hs | hs
  · exact still_value hs h
  have key : ∀ n w', (execOp a.eval o).run P w = .ok n w' → ∃ u, n = .value u := by
    intro n w' hr
    unfold execOp at hr
    split at hs
    · rename_i he
      simp only [he] at hr
      exact value_only _ w n w' hr
    · cases hs
  generalize (execOp a.eval o).run P w = r at h key
  cases r with
  | ok n w' =>
    obtain ⟨u, rfl⟩ := key n w' rfl
    obtain ⟨rfl, rfl⟩ := h
    rfl
  | halt x w' => exact h.elim
/-- These may be taken first, one behind the other; behind them F. -/
def takeD (md : Region.Mode) (ops : Array Oper) (ok : Nat → Bool) (F : Array Bool → Bool) : List Nat → Array Bool → Bool
  | [], listed => F listed
  | i :: t, listed => (Region.ready md ops listed).contains i && Region.free md ops listed i && ok i && ((ops[i]?).map stillC).getD false && takeD md ops ok F t (listed.setIfInBounds i true)
theorem anyP_takesC {T : World → Prop} {F : Array Bool → Bool} {ok : Nat → Bool} {Lq : Act → Prop} {g : Nat} {w : World} (hsel : Region.noSelect ops = true) (hQ : ∀ c a w, Q (.panic c) a w → False) (hST : ∀ w, S w → T w) (hok : ∀ i, ok i = true → (laterB md ops pre i = true ∨ ∀ w, T w)) (hS : S w)
    (hL : ∀ listed a, F listed = true → HeadInv md ops ops.size listed → Lq a → anyP P md ops Q S pre g listed a w) :
    ∀ (t : List Nat) (listed : Array Bool) (a : Act), takeD md ops ok F t listed = true → HeadInv md ops ops.size listed → wpQuiet P ops T Lq (pickL ops t) a → anyP P md ops Q S pre (t.length + g) listed a w
  | [], listed, a, hB, inv, h => by rw [List.length_nil, Nat.zero_add]; exact hL listed a hB inv h
  | i :: t, listed, a, hB, inv, h => by
    simp only [takeD, Bool.and_eq_true] at hB
    obtain ⟨⟨⟨⟨hr, hf⟩, ho⟩, hst⟩, hB'⟩ := hB
    have hr' : i ∈ Region.ready md ops listed := by simpa using hr
    obtain ⟨_, oi, hoi, _⟩ := mem_ready.1 hr'
    rw [hoi] at hst
    simp only [Option.map_some, Option.getD_some] at hst
    have hp : pickL ops (i :: t) = oi :: pickL ops t := by unfold pickL; rw [List.filterMap_cons, hoi]
    rw [hp] at h
    have hq : qOp P ops T i (wpQuiet P ops T Lq (pickL ops t)) a := by unfold qOp; simp only [hoi]; exact h
    obtain ⟨v, hy, hK⟩ := yieldsIn_of_qOp hoi hq
    have hy' : YieldsIf P ops T oi v a := hy.imp (fun ⟨hw, hv⟩ => ⟨hw, fun w hw2 => still_valueC hst (hv w hw2)⟩) id
    rw [List.length_cons, show t.length + 1 + g = (t.length + g) + 1 by omega]
    exact anyP_first hoi (Region.noSelect_spec hsel) hQ hST (fun j l1 inv1 hun hj hne => (hok i ho).imp (fun hl => later_spec hl j l1 inv1 hun hj hne) id) _ listed a w inv (Region.free_spec hoi hf) hr' hy' (.inl hS)
      (anyP_takesC hsel hQ hST hok hS hL t _ _ hB' (inv_set inv hr') hK)
def oneB (ops : Array Oper) (tA tB tl : List Nat) : Bool :=
  decide (ops.size = tA.length + (tB.length + tl.length)) &&
  takeD .any ops (fun _ => true) (fun l1 => takeD .any ops (fun i => laterB .any ops (fun j => !tl.contains j) i) (fun l2 => tailB .any ops tl l2) tB l1) tA (Array.replicate ops.size false)
theorem region_one {id : Nat} {a : Act} {w : World} {l : List Oper} (tA tB tl : List Nat) (hm : P.follows .mixedOrders = true) (hQ : ∀ c a w, Q (.panic c) a w → False) (hsel : Region.noSelect l.toArray = true) (hB : oneB l.toArray tA tB tl = true)
    (h : wpQuiet P l.toArray (fun _ => True) (fun a1 => wpQuiet P l.toArray (fun w' => ∃ p : Regrown, w' = grow (redrawn w p.d) p.os) (fun a2 => ∀ w', Below w.heap.size w w' → wpList P l.toArray Q (pickL l.toArray tl) a2 w') (pickL l.toArray tB) a1) (pickL l.toArray tA) a) :
    (Code.region id l.toArray true).wp P Q a w := by
  generalize l.toArray = ops at *
  simp only [oneB, Bool.and_eq_true, decide_eq_true_eq] at hB
  obtain ⟨hsz, hB⟩ := hB
  refine wp_region_any hm ?_
  have inv0 : HeadInv .any ops ops.size (Array.replicate ops.size false) :=
    ⟨by simp, fun j oj _ hl => (by rw [getD_replicate_false] at hl; cases hl), fun t h1 h2 => absurd h2 (by omega)⟩
  have hS0 : Rg w { w with drawn := w.drawn + 1 } := ⟨⟨w.drawn + 1, #[]⟩, by rw [grow_empty]; rfl⟩
  have pre2 : ∀ i ∈ tl, (!tl.contains i) = false := fun i hi => by simp [hi]
  refine wpAny_of_anyP (S := Rg w) (pre := fun j => !tl.contains j) _ _ _ _ ?_
  suffices hh : anyP P .any ops Q (Rg w) (fun j => !tl.contains j) (tA.length + (tB.length + tl.length)) (Array.replicate ops.size false) a { w with drawn := w.drawn + 1 } by
    rw [← hsz] at hh
    exact hh
  refine anyP_takesC (T := fun _ => True) hsel hQ (fun _ _ => trivial) (fun _ _ => .inr (fun _ => trivial)) hS0 (fun l1 a1 hF1 inv1 h1 => ?_) tA _ a hB inv0 h
  refine anyP_takesC (T := fun w' => ∃ p : Regrown, w' = grow (redrawn w p.d) p.os) hsel hQ (fun _ h => h) (fun i hi => .inl hi) hS0 (fun l2 a2 hF2 inv2 h2 => ?_) tB l1 a1 hF1 inv1 h1
  have hb0 : Below w.heap.size w { w with drawn := w.drawn + 1 } := ⟨rfl, rfl, rfl, Nat.le_refl _, fun _ _ => rfl⟩
  exact anyP_tail tl _ a2 _ pre2 hF2 (h2 _ hb0)
theorem anyP_takesF {F : Array Bool → Bool} {Lq : Act → Prop} {g : Nat} {w : World} (hsel : Region.noSelect ops = true) (hQ : ∀ c a w, Q (.panic c) a w → False)
    (hL : ∀ listed a, F listed = true → HeadInv md ops ops.size listed → Lq a → anyP P md ops Q S pre g listed a w) :
    ∀ (t : List Nat) (listed : Array Bool) (a : Act), takeD md ops (fun _ => true) F t listed = true → HeadInv md ops ops.size listed → wpQuiet P ops (fun _ => True) Lq (pickL ops t) a → anyP P md ops Q S pre (t.length + g) listed a w
  | [], listed, a, hB, inv, h => by rw [List.length_nil, Nat.zero_add]; exact hL listed a hB inv h
  | i :: t, listed, a, hB, inv, h => by
    simp only [takeD, Bool.and_eq_true] at hB
    obtain ⟨⟨⟨⟨hr, hf⟩, ho⟩, hst⟩, hB'⟩ := hB
    have hr' : i ∈ Region.ready md ops listed := by simpa using hr
    obtain ⟨_, oi, hoi, _⟩ := mem_ready.1 hr'
    rw [hoi] at hst
    simp only [Option.map_some, Option.getD_some] at hst
    have hp : pickL ops (i :: t) = oi :: pickL ops t := by unfold pickL; rw [List.filterMap_cons, hoi]
    rw [hp] at h
    have hq : qOp P ops (fun _ => True) i (wpQuiet P ops (fun _ => True) Lq (pickL ops t)) a := by unfold qOp; simp only [hoi]; exact h
    obtain ⟨v, hy, hK⟩ := yieldsIn_of_qOp hoi hq
    have hy' : YieldsIf P ops (fun _ => True) oi v a := hy.imp (fun ⟨hw, hv⟩ => ⟨hw, fun w hw2 => still_valueC hst (hv w hw2)⟩) id
    rw [List.length_cons, show t.length + 1 + g = (t.length + g) + 1 by omega]
    exact anyP_first hoi (Region.noSelect_spec hsel) hQ (fun _ _ => trivial) (fun j l1 inv1 hun hj hne => .inr fun _ => trivial) _ listed a w inv (Region.free_spec hoi hf) hr' hy' (.inr fun _ => trivial)
      (anyP_takesF hsel hQ hL t _ _ hB' (inv_set inv hr') hK)
/-- .. one call, behind it what reads no memory, in any order, then the tail. -/
def twoB (ops : Array Oper) (tA tB : List Nat) (x : Nat) (tC tl : List Nat) : Bool :=
  decide (ops.size = tA.length + (tB.length + (tC.length + tl.length + 1))) && (ops[x]?).isSome && !(tA ++ tB).contains x && (tl.all fun i => !(tA ++ tB).contains i) &&
  takeD .any ops (fun _ => true) (fun l1 => takeD .any ops (fun i => laterB .any ops (fun j => (tA ++ tB).contains j) i) (fun l2 =>
    decide (Region.ready .any ops l2 = [x]) && takeD .any ops (fun _ => true) (fun l3 => tailB .any ops tl l3) tC (l2.setIfInBounds x true)) tB l1) tA (Array.replicate ops.size false)
theorem region_two {id : Nat} {a : Act} {w : World} {l : List Oper} (tA tB : List Nat) (x : Nat) (tC tl : List Nat) (hm : P.follows .mixedOrders = true) (hQ : ∀ c a w, Q (.panic c) a w → False) (hsel : Region.noSelect l.toArray = true) (hB : twoB l.toArray tA tB x tC tl = true)
    (h : wpQuiet P l.toArray (fun _ => True) (fun a1 => wpQuiet P l.toArray (fun w' => ∃ p : Regrown, w' = grow (redrawn w p.d) p.os) (fun a2 => ∀ w', Below w.heap.size w w' →
      ∀ K : Act → World → Prop, (∀ a3 w3, wpQuiet P l.toArray (fun _ => True) (fun a4 => wpList P l.toArray Q (pickL l.toArray tl) a4 w3) (pickL l.toArray tC) a3 → K a3 w3) → oneOp P l.toArray Q x K a2 w') (pickL l.toArray tB) a1) (pickL l.toArray tA) a) :
    (Code.region id l.toArray true).wp P Q a w := by
  generalize l.toArray = ops at *
  simp only [twoB, Bool.and_eq_true, decide_eq_true_eq] at hB
  obtain ⟨⟨⟨⟨hsz, hx⟩, hxp⟩, htp⟩, hB⟩ := hB
  refine wp_region_any hm ?_
  have inv0 : HeadInv .any ops ops.size (Array.replicate ops.size false) :=
    ⟨by simp, fun j oj _ hl => (by rw [getD_replicate_false] at hl; cases hl), fun t h1 h2 => absurd h2 (by omega)⟩
  have hS0 : Rg w { w with drawn := w.drawn + 1 } := ⟨⟨w.drawn + 1, #[]⟩, by rw [grow_empty]; rfl⟩
  have pre2 : ∀ i ∈ tl, ((tA ++ tB).contains i) = false := fun i hi => by simpa using List.all_eq_true.1 htp i hi
  refine wpAny_of_anyP (S := Rg w) (pre := fun j => (tA ++ tB).contains j) _ _ _ _ ?_
  suffices hh : anyP P .any ops Q (Rg w) (fun j => (tA ++ tB).contains j) (tA.length + (tB.length + (tC.length + tl.length + 1))) (Array.replicate ops.size false) a { w with drawn := w.drawn + 1 } by
    rw [← hsz] at hh
    exact hh
  refine anyP_takesC (T := fun _ => True) hsel hQ (fun _ _ => trivial) (fun _ _ => .inr (fun _ => trivial)) hS0 (fun l1 a1 hF1 inv1 h1 => ?_) tA _ a hB inv0 h
  refine anyP_takesC (T := fun w' => ∃ p : Regrown, w' = grow (redrawn w p.d) p.os) hsel hQ (fun _ h => h) (fun i hi => .inl hi) hS0 (fun l2 a2 hF2 inv2 h2 => ?_) tB l1 a1 hF1 inv1 h1
  have hb0 : Below w.heap.size w { w with drawn := w.drawn + 1 } := ⟨rfl, rfl, rfl, Nat.le_refl _, fun _ _ => rfl⟩
  simp only [Bool.and_eq_true, decide_eq_true_eq] at hF2
  obtain ⟨r0, hF3⟩ := hF2
  refine ⟨fun h1 => (by rw [r0] at h1; cases h1), fun i hi => ?_⟩
  have hi' := hi
  rw [r0] at hi
  have hix : i = x := by simpa using hi
  subst hix
  refine (h2 _ hb0 _ (fun a3 w3 h3 => ⟨fun hp => ?_, ?_⟩)).wpOp hx
  · have hp2 : (tA ++ tB).contains i = true := hp
    rw [hp2] at hxp
    cases hxp
  · exact anyP_takesF hsel hQ (fun l4 a4 hF4 inv4 h4 => anyP_tail tl l4 a4 w3 pre2 hF4 h4) tC _ a3 hF3 (inv_set inv2 hi') h3
end
end Go.Proofs.Ytmdjbdhnenpjeaa
