/-
  One statement whose order is open, with one tail in one order that may write: what only reads, or builds a value, is taken first, wherever it stands. No condition on the program but that it draws orders in the wide manner.
-/
import Derived.Test.YtlmampklgghngaaM19
import Derived.Test.YtlmampklgghngaaM14c
import Derived.Test.YtlmampklgghngaaReg3
/-
  Plain mathematics of what turns in a level: when a route comes, or goes, nothing turns but keys that it has, and at most 256. No condition but those that stand in each.
-/
set_option linter.unusedSimpArgs false
set_option linter.unusedVariables false
namespace Go.Proofs.Ytlmampklgghngaa
open M

theorem dep_get (N : List Rt) (ah al m : Nat) : depV N ah al m = getS N (cutK ah al m) := rfl
/-- The hop of a key by what the row has of it at each length. -/
theorem hop_best {N : List Rt} (hN : Sorted N) (low : Int) (k : Ky) : hopK N low k = (bestM (depV N k.h k.l) low k.n 129).bind (depV N k.h k.l) := by
  unfold hopK
  rcases lng_best (N := N) k.h k.l low k.n with ⟨h1, h2⟩ | ⟨b, hb, m, h1, h2, h3⟩
  · rw [h1, h2]; rfl
  · rw [h1, h2]
    show some (N.getD b _).v = depV N k.h k.l m
    rw [getD_at hb, dep_of hN.nodup (List.getElem_mem hb) h3]
theorem getS_set {N : List Rt} {low high : Int} (hl : low < high) (k : Ky) : getS (setS N low high) k = if k ∈ keysS N low high then some (hopV N low k) else none := by
  by_cases h : k ∈ keysS N low high
  · rw [if_pos h]
    exact (getS_some (set_sorted N low high)).2 ((mem_setS _ _ _ _).2 ⟨hl, h, rfl⟩)
  · rw [if_neg h, getS_none]
    unfold keysR
    rw [List.mem_map]
    rintro ⟨q, hq, rfl⟩
    exact h ((mem_setS _ _ _ _).1 hq).2.1
theorem mem_keysS {N : List Rt} {low high : Int} {k : Ky} : k ∈ keysS N low high ↔ ∃ j ∈ keysR N, low < j.n ∧ j.n ≤ high ∧ k ∈ sprK j high := by
  unfold keysS keysR insB
  simp only [List.mem_flatMap, List.mem_filter, Bool.and_eq_true, decide_eq_true_eq, List.mem_map]
  constructor
  · rintro ⟨r, ⟨hr, h1, h2⟩, hk⟩
    exact ⟨r.k, ⟨r, hr, rfl⟩, h1, h2, hk⟩
  · rintro ⟨_, ⟨r, hr, rfl⟩, h1, h2, hk⟩
    exact ⟨r, ⟨hr, h1, h2⟩, hk⟩
/-- The routes with p leading to hop, or without p. -/
def lvlM (N : List Rt) (p : Ky) (hop : Int) : List Rt := if 0 ≤ hop then intoS (outS N p) ⟨p, hop⟩ else outS N p
theorem lvl_sorted {N : List Rt} (h : Sorted N) (p : Ky) (hop : Int) : Sorted (lvlM N p hop) := by
  unfold lvlM
  split
  · exact intoS_sorted _ (outS_sorted _ h)
  · exact outS_sorted _ h
theorem lvl_far {N : List Rt} (h : Sorted N) {p k : Ky} (hop : Int) (hk : k ≠ p) : getS (lvlM N p hop) k = getS N k := by
  unfold lvlM
  split
  · rw [getS_into (outS_sorted _ h), if_neg hk, getS_out h, if_neg hk]
  · rw [getS_out h, if_neg hk]
theorem lvl_good {N : List Rt} (hg : ∀ r ∈ N, W64 r.k.h ∧ W64 r.k.l) {p : Ky} (hp : W64 p.h ∧ W64 p.l) (h : Sorted N) (hop : Int) : ∀ r ∈ lvlM N p hop, W64 r.k.h ∧ W64 r.k.l := by
  intro r hr
  unfold lvlM at hr
  split at hr
  · rcases (mem_into (outS_sorted _ h)).1 hr with e | ⟨e, _⟩
    · rw [e]; exact hp
    · exact hg r (mem_outS.1 e).1
  · exact hg r (mem_outS.1 hr).1
theorem keysR_good {N : List Rt} (hg : ∀ r ∈ N, W64 r.k.h ∧ W64 r.k.l) {j : Ky} (hj : j ∈ keysR N) : W64 j.h ∧ W64 j.l := by
  unfold keysR at hj
  obtain ⟨r, hr, rfl⟩ := List.mem_map.1 hj
  exact hg r hr
theorem keysS_n {N : List Rt} (hg : ∀ r ∈ N, W64 r.k.h ∧ W64 r.k.l) {low high : Int} {k : Ky} (h : k ∈ keysS N low high) : k.n = high := by
  obtain ⟨j, hj, -, -, hk⟩ := mem_keysS.1 h
  have := keysR_good hg hj
  exact ((mem_spr this.1 this.2 _ _).1 hk).2.2.2.1
/-- NOTHING TURNS BUT KEYS THAT THE ROUTE HAS. -/
theorem few {N : List Rt} (hN : Sorted N) (hg : ∀ r ∈ N, W64 r.k.h ∧ W64 r.k.l) {p : Ky} (hp : W64 p.h ∧ W64 p.l) (hop : Int) {low high : Int} (hl : low < high) {c : Ch} (hc : c ∈ ofS (setS N low high) (setS (lvlM N p hop) low high)) :
    c.k.n = high ∧ hasB p.h p.l p.n c.k.h c.k.l = true ∧ low < p.n ∧ p.n ≤ high ∧ c.k ∈ sprK p high := by
  obtain ⟨h1, -⟩ := (mem_of _ _ c).1 hc
  generalize c.k = k at h1 ⊢
  have hM := lvl_sorted hN p hop
  have hgM := lvl_good hg hp hN hop
  rw [getS_set hl, getS_set hl] at h1
  have hn : k.n = high := by
    by_cases e1 : k ∈ keysS N low high
    · exact keysS_n hg e1
    · by_cases e2 : k ∈ keysS (lvlM N p hop) low high
      · exact keysS_n hgM e2
      · rw [if_neg e1, if_neg e2] at h1; exact absurd rfl h1
  have hkeys : ∀ j, j ≠ p → (j ∈ keysR (lvlM N p hop) ↔ j ∈ keysR N) := fun j hj => by
    have e := lvl_far hN hop hj
    have a := getS_none (N := lvlM N p hop) (k := j)
    have b := getS_none (N := N) (k := j)
    rw [e] at a
    constructor
    · intro h3
      by_cases h4 : j ∈ keysR N
      · exact h4
      · exact absurd h3 (a.1 (b.2 h4))
    · intro h3
      by_cases h4 : j ∈ keysR (lvlM N p hop)
      · exact h4
      · exact absurd h3 (b.1 (a.2 h4))
  have main : ¬ (hasB p.h p.l p.n k.h k.l = true ∧ low < p.n ∧ p.n ≤ high ∧ k ∈ sprK p high) → False := by
    intro hno
    have hin : k ∈ keysS N low high ↔ k ∈ keysS (lvlM N p hop) low high := by
      rw [mem_keysS, mem_keysS]
      constructor
      · rintro ⟨j, hj, h2, h3, h4⟩
        have hjp : j ≠ p := fun e => by
          subst e
          exact hno ⟨((mem_spr hp.1 hp.2 _ _).1 h4).2.2.2.2.2.2.2, h2, h3, h4⟩
        exact ⟨j, (hkeys j hjp).2 hj, h2, h3, h4⟩
      · rintro ⟨j, hj, h2, h3, h4⟩
        have hjp : j ≠ p := fun e => by
          subst e
          exact hno ⟨((mem_spr hp.1 hp.2 _ _).1 h4).2.2.2.2.2.2.2, h2, h3, h4⟩
        exact ⟨j, (hkeys j hjp).1 hj, h2, h3, h4⟩
    by_cases hk : k ∈ keysS N low high
    · rw [if_pos hk, if_pos (hin.1 hk)] at h1
      apply h1
      congr 1
      have hw : W64 k.h ∧ W64 k.l ∧ rightB k.h k.l k.n = true := by
        obtain ⟨j, hj, -, -, h4⟩ := mem_keysS.1 hk
        have := keysR_good hg hj
        have h5 := (mem_spr this.1 this.2 _ _).1 h4
        exact ⟨h5.2.2.2.2.1, h5.2.2.2.2.2.1, by rw [hn]; exact h5.2.2.2.2.2.2.1⟩
      have h128 : high ≤ 128 := by
        have := (rightB_val _ _ _ hw.2.1).1 hw.2.2
        omega
      obtain ⟨j, hj, hj1, hj2, hj3⟩ := mem_keysS.1 hk
      have hg4 := keysR_good hg hj
      have h5 := (mem_spr hg4.1 hg4.2 _ _).1 hj3
      obtain ⟨mj, hmj, hje⟩ := (has_cutK _ _ _).1 h5.2.2.2.2.2.2.2
      have hjn : j.n = (mj : Int) := by rw [hje]; rfl
      have hD : ∀ m : Nat, mj ≤ m → low < (m : Int) → (m : Int) ≤ high → depV (lvlM N p hop) k.h k.l m = depV N k.h k.l m := fun m h0 h2 h3 => by
        rw [dep_get, dep_get]
        refine lvl_far hN hop fun e => ?_
        have hh : hasB p.h p.l p.n k.h k.l = true := (has_cutK _ _ _).2 ⟨m, by omega, e.symm⟩
        have hpn : p.n = (m : Int) := by rw [← e]; rfl
        exact hno ⟨hh, by omega, by omega, (mem_spr hp.1 hp.2 _ _).2 ⟨by omega, by omega, by omega, hn, hw.1, hw.2.1, by rw [← hn]; exact hw.2.2, hh⟩⟩
      unfold hopV
      rw [hop_best hN, hop_best hM, hn]
      have hdj : (depV N k.h k.l mj).isSome = true := by
        rw [dep_get, ← hje]
        cases h6 : getS N j with
        | some v => rfl
        | none => exact absurd hj (getS_none.1 h6)
      obtain ⟨b, hbm⟩ : ∃ b, bestM (depV N k.h k.l) low high 129 = some b := by
        cases hb : bestM (depV N k.h k.l) low high 129 with
        | some b => exact ⟨b, rfl⟩
        | none => exact absurd ⟨by omega, by omega, hdj⟩ (best_none.1 hb mj (by omega))
      obtain ⟨b1, b2, b3⟩ := best_some.1 hbm
      have hbj : mj ≤ b := by
        by_cases h6 : mj ≤ b
        · exact h6
        · exact absurd ⟨by omega, by omega, hdj⟩ (b3 mj (by omega) (by omega))
      have hbm2 : bestM (depV (lvlM N p hop) k.h k.l) low high 129 = some b := best_some.2 ⟨b1, ⟨b2.1, b2.2.1, by rw [hD b hbj b2.1 b2.2.1]; exact b2.2.2⟩, fun m m1 m2 m3 => b3 m m1 m2 ⟨m3.1, m3.2.1, by rw [← hD m (by omega) m3.1 m3.2.1]; exact m3.2.2⟩⟩
      rw [hbm, hbm2]
      show (depV N k.h k.l b).getD 0 = (depV (lvlM N p hop) k.h k.l b).getD 0
      rw [hD b hbj b2.1 b2.2.1]
    · rw [if_neg hk, if_neg (fun h => hk (hin.2 h))] at h1
      exact h1 rfl
  by_cases hcc : hasB p.h p.l p.n k.h k.l = true ∧ low < p.n ∧ p.n ≤ high ∧ k ∈ sprK p high
  · exact ⟨hn, hcc⟩
  · exact (main hcc).elim
theorem nodup_le : ∀ {L M : List Ky}, L.Nodup → (∀ k ∈ L, k ∈ M) → L.length ≤ M.length
  | [], _, _, _ => Nat.zero_le _
  | a :: L, M, hn, h => by
    have ha := h a List.mem_cons_self
    have h2 := List.nodup_cons.1 hn
    have := nodup_le (M := M.erase a) h2.2 fun k hk => (List.mem_erase_of_ne (fun e => h2.1 (by rw [← e]; exact hk))).2 (h k (List.mem_cons_of_mem _ hk))
    rw [List.length_erase_of_mem ha] at this
    have hp : 0 < M.length := List.length_pos_of_mem ha
    simp only [List.length_cons]
    omega
theorem few_len {N : List Rt} (hN : Sorted N) (hg : ∀ r ∈ N, W64 r.k.h ∧ W64 r.k.l) {p : Ky} (hp : W64 p.h ∧ W64 p.l) (hop : Int) {low high : Int} (hl : low < high) (hw8 : high - low ≤ 8) : (ofS (setS N low high) (setS (lvlM N p hop) low high)).length ≤ 256 := by
  have h := nodup_le (L := (ofS (setS N low high) (setS (lvlM N p hop) low high)).map Ch.k) (M := sprK p high) (of_nodup _ _) fun k hk => by
    obtain ⟨c, hc, rfl⟩ := List.mem_map.1 hk
    exact (few hN hg hp hop hl hc).2.2.2.2
  rw [List.length_map] at h
  refine Nat.le_trans h ?_
  unfold sprK
  rw [List.length_map, keysV_len _ _ _ _ hp.2]
  exact cnt_le _ _ _ _
end Go.Proofs.Ytlmampklgghngaa
/-
  One statement whose order is open, with one tail in one order that may write: what only reads, or builds a value, is taken first, wherever it stands. No condition on the program but that it draws orders in the wide manner.
-/
set_option linter.unusedSimpArgs false
set_option linter.unusedVariables false
namespace Go.Proofs.Ytlmampklgghngaa
open Go Go.RowKit Go.Sort

section
variable {P : Program} {ops : Array Oper} {md : Region.Mode} {C : World → Prop} {Q : Exit → Act → World → Prop} {S : World → Prop} {pre : Nat → Bool}
/-- .. or a value is built. -/
def stillC (o : Oper) : Bool :=
  stillB o || match o.op with
  | .build _ _ => true
  | _ => false
theorem still_valueC {o : Oper} (hs : stillC o = true) {a : Act} {w : World} {v : Value} (h : Oper.quietUpon P C w v ((execOp a.eval o).run P w)) : (execOp a.eval o).run P w = .ok (.value v) w := by
  unfold stillC at hs
  rw [Bool.or_eq_true] at hs
  rcases hs with hs | hs
  · exact still_value hs h
  have key : ∀ n w', (execOp a.eval o).run P w = .ok n w' → ∃ u, n = .value u := by
    intro n w' hr
    unfold execOp at hr
    split at hs
    · rename_i he
      simp only [he] at hr
      exact value_only _ w n w' hr
    · cases hs
  generalize (execOp a.eval o).run P w = r at h key
  cases r with
  | ok n w' =>
    obtain ⟨u, rfl⟩ := key n w' rfl
    obtain ⟨rfl, rfl⟩ := h
    rfl
  | halt x w' => exact h.elim
/-- These may be taken first, one behind the other; behind them F. -/
def takeD (md : Region.Mode) (ops : Array Oper) (ok : Nat → Bool) (F : Array Bool → Bool) : List Nat → Array Bool → Bool
  | [], listed => F listed
  | i :: t, listed => (Region.ready md ops listed).contains i && Region.free md ops listed i && ok i && ((ops[i]?).map stillC).getD false && takeD md ops ok F t (listed.setIfInBounds i true)
theorem anyP_takesC {T : World → Prop} {F : Array Bool → Bool} {ok : Nat → Bool} {Lq : Act → Prop} {g : Nat} {w : World} (hsel : Region.noSelect ops = true) (hQ : ∀ c a w, Q (.panic c) a w → False) (hST : ∀ w, S w → T w) (hok : ∀ i, ok i = true → (laterB md ops pre i = true ∨ ∀ w, T w)) (hS : S w)
    (hL : ∀ listed a, F listed = true → HeadInv md ops ops.size listed → Lq a → anyP P md ops Q S pre g listed a w) :
    ∀ (t : List Nat) (listed : Array Bool) (a : Act), takeD md ops ok F t listed = true → HeadInv md ops ops.size listed → wpQuiet P ops T Lq (pickL ops t) a → anyP P md ops Q S pre (t.length + g) listed a w
  | [], listed, a, hB, inv, h => by rw [List.length_nil, Nat.zero_add]; exact hL listed a hB inv h
  | i :: t, listed, a, hB, inv, h => by
    simp only [takeD, Bool.and_eq_true] at hB
    obtain ⟨⟨⟨⟨hr, hf⟩, ho⟩, hst⟩, hB'⟩ := hB
    have hr' : i ∈ Region.ready md ops listed := by simpa using hr
    obtain ⟨_, oi, hoi, _⟩ := mem_ready.1 hr'
    rw [hoi] at hst
    simp only [Option.map_some, Option.getD_some] at hst
    have hp : pickL ops (i :: t) = oi :: pickL ops t := by unfold pickL; rw [List.filterMap_cons, hoi]
    rw [hp] at h
    have hq : qOp P ops T i (wpQuiet P ops T Lq (pickL ops t)) a := by unfold qOp; simp only [hoi]; exact h
    obtain ⟨v, hy, hK⟩ := yieldsIn_of_qOp hoi hq
    have hy' : YieldsIf P ops T oi v a := hy.imp (fun ⟨hw, hv⟩ => ⟨hw, fun w hw2 => still_valueC hst (hv w hw2)⟩) id
    rw [List.length_cons, show t.length + 1 + g = (t.length + g) + 1 by omega]
    exact anyP_first hoi (Region.noSelect_spec hsel) hQ hST (fun j l1 inv1 hun hj hne => (hok i ho).imp (fun hl => later_spec hl j l1 inv1 hun hj hne) id) _ listed a w inv (Region.free_spec hoi hf) hr' hy' (.inl hS)
      (anyP_takesC hsel hQ hST hok hS hL t _ _ hB' (inv_set inv hr') hK)
def oneB (ops : Array Oper) (tA tB tl : List Nat) : Bool :=
  decide (ops.size = tA.length + (tB.length + tl.length)) &&
  takeD .any ops (fun _ => true) (fun l1 => takeD .any ops (fun i => laterB .any ops (fun j => !tl.contains j) i) (fun l2 => tailB .any ops tl l2) tB l1) tA (Array.replicate ops.size false)
theorem region_one {id : Nat} {a : Act} {w : World} {l : List Oper} (tA tB tl : List Nat) (hm : P.follows .mixedOrders = true) (hQ : ∀ c a w, Q (.panic c) a w → False) (hsel : Region.noSelect l.toArray = true) (hB : oneB l.toArray tA tB tl = true)
    (h : wpQuiet P l.toArray (fun _ => True) (fun a1 => wpQuiet P l.toArray (fun w' => ∃ p : Regrown, w' = grow (redrawn w p.d) p.os) (fun a2 => ∀ w', Below w.heap.size w w' → wpList P l.toArray Q (pickL l.toArray tl) a2 w') (pickL l.toArray tB) a1) (pickL l.toArray tA) a) :
    (Code.region id l.toArray true).wp P Q a w := by
  generalize l.toArray = ops at *
  simp only [oneB, Bool.and_eq_true, decide_eq_true_eq] at hB
  obtain ⟨hsz, hB⟩ := hB
  refine wp_region_any hm ?_
  have inv0 : HeadInv .any ops ops.size (Array.replicate ops.size false) :=
    ⟨by simp, fun j oj _ hl => (by rw [getD_replicate_false] at hl; cases hl), fun t h1 h2 => absurd h2 (by omega)⟩
  have hS0 : Rg w { w with drawn := w.drawn + 1 } := ⟨⟨w.drawn + 1, #[]⟩, by rw [grow_empty]; rfl⟩
  have pre2 : ∀ i ∈ tl, (!tl.contains i) = false := fun i hi => by simp [hi]
  refine wpAny_of_anyP (S := Rg w) (pre := fun j => !tl.contains j) _ _ _ _ ?_
  suffices hh : anyP P .any ops Q (Rg w) (fun j => !tl.contains j) (tA.length + (tB.length + tl.length)) (Array.replicate ops.size false) a { w with drawn := w.drawn + 1 } by
    rw [← hsz] at hh
    exact hh
  refine anyP_takesC (T := fun _ => True) hsel hQ (fun _ _ => trivial) (fun _ _ => .inr (fun _ => trivial)) hS0 (fun l1 a1 hF1 inv1 h1 => ?_) tA _ a hB inv0 h
  refine anyP_takesC (T := fun w' => ∃ p : Regrown, w' = grow (redrawn w p.d) p.os) hsel hQ (fun _ h => h) (fun i hi => .inl hi) hS0 (fun l2 a2 hF2 inv2 h2 => ?_) tB l1 a1 hF1 inv1 h1
  have hb0 : Below w.heap.size w { w with drawn := w.drawn + 1 } := ⟨rfl, rfl, rfl, Nat.le_refl _, fun _ _ => rfl⟩
  exact anyP_tail tl _ a2 _ pre2 hF2 (h2 _ hb0)
theorem anyP_takesF {F : Array Bool → Bool} {Lq : Act → Prop} {g : Nat} {w : World} (hsel : Region.noSelect ops = true) (hQ : ∀ c a w, Q (.panic c) a w → False)
    (hL : ∀ listed a, F listed = true → HeadInv md ops ops.size listed → Lq a → anyP P md ops Q S pre g listed a w) :
    ∀ (t : List Nat) (listed : Array Bool) (a : Act), takeD md ops (fun _ => true) F t listed = true → HeadInv md ops ops.size listed → wpQuiet P ops (fun _ => True) Lq (pickL ops t) a → anyP P md ops Q S pre (t.length + g) listed a w
  | [], listed, a, hB, inv, h => by rw [List.length_nil, Nat.zero_add]; exact hL listed a hB inv h
  | i :: t, listed, a, hB, inv, h => by
    simp only [takeD, Bool.and_eq_true] at hB
    obtain ⟨⟨⟨⟨hr, hf⟩, ho⟩, hst⟩, hB'⟩ := hB
    have hr' : i ∈ Region.ready md ops listed := by simpa using hr
    obtain ⟨_, oi, hoi, _⟩ := mem_ready.1 hr'
    rw [hoi] at hst
    simp only [Option.map_some, Option.getD_some] at hst
    have hp : pickL ops (i :: t) = oi :: pickL ops t := by unfold pickL; rw [List.filterMap_cons, hoi]
    rw [hp] at h
    have hq : qOp P ops (fun _ => True) i (wpQuiet P ops (fun _ => True) Lq (pickL ops t)) a := by unfold qOp; simp only [hoi]; exact h
    obtain ⟨v, hy, hK⟩ := yieldsIn_of_qOp hoi hq
    have hy' : YieldsIf P ops (fun _ => True) oi v a := hy.imp (fun ⟨hw, hv⟩ => ⟨hw, fun w hw2 => still_valueC hst (hv w hw2)⟩) id
    rw [List.length_cons, show t.length + 1 + g = (t.length + g) + 1 by omega]
    exact anyP_first hoi (Region.noSelect_spec hsel) hQ (fun _ _ => trivial) (fun j l1 inv1 hun hj hne => .inr fun _ => trivial) _ listed a w inv (Region.free_spec hoi hf) hr' hy' (.inr fun _ => trivial)
      (anyP_takesF hsel hQ hL t _ _ hB' (inv_set inv hr') hK)
/-- .. one call, behind it what reads no memory, in any order, then the tail. -/
def twoB (ops : Array Oper) (tA tB : List Nat) (x : Nat) (tC tl : List Nat) : Bool :=
  decide (ops.size = tA.length + (tB.length + (tC.length + tl.length + 1))) && (ops[x]?).isSome && !(tA ++ tB).contains x && (tl.all fun i => !(tA ++ tB).contains i) &&
  takeD .any ops (fun _ => true) (fun l1 => takeD .any ops (fun i => laterB .any ops (fun j => (tA ++ tB).contains j) i) (fun l2 =>
    decide (Region.ready .any ops l2 = [x]) && takeD .any ops (fun _ => true) (fun l3 => tailB .any ops tl l3) tC (l2.setIfInBounds x true)) tB l1) tA (Array.replicate ops.size false)
theorem region_two {id : Nat} {a : Act} {w : World} {l : List Oper} (tA tB : List Nat) (x : Nat) (tC tl : List Nat) (hm : P.follows .mixedOrders = true) (hQ : ∀ c a w, Q (.panic c) a w → False) (hsel : Region.noSelect l.toArray = true) (hB : twoB l.toArray tA tB x tC tl = true)
    (h : wpQuiet P l.toArray (fun _ => True) (fun a1 => wpQuiet P l.toArray (fun w' => ∃ p : Regrown, w' = grow (redrawn w p.d) p.os) (fun a2 => ∀ w', Below w.heap.size w w' →
      ∀ K : Act → World → Prop, (∀ a3 w3, wpQuiet P l.toArray (fun _ => True) (fun a4 => wpList P l.toArray Q (pickL l.toArray tl) a4 w3) (pickL l.toArray tC) a3 → K a3 w3) → oneOp P l.toArray Q x K a2 w') (pickL l.toArray tB) a1) (pickL l.toArray tA) a) :
    (Code.region id l.toArray true).wp P Q a w := by
  generalize l.toArray = ops at *
  simp only [twoB, Bool.and_eq_true, decide_eq_true_eq] at hB
  obtain ⟨⟨⟨⟨hsz, hx⟩, hxp⟩, htp⟩, hB⟩ := hB
  refine wp_region_any hm ?_
  have inv0 : HeadInv .any ops ops.size (Array.replicate ops.size false) :=
    ⟨by simp, fun j oj _ hl => (by rw [getD_replicate_false] at hl; cases hl), fun t h1 h2 => absurd h2 (by omega)⟩
  have hS0 : Rg w { w with drawn := w.drawn + 1 } := ⟨⟨w.drawn + 1, #[]⟩, by rw [grow_empty]; rfl⟩
  have pre2 : ∀ i ∈ tl, ((tA ++ tB).contains i) = false := fun i hi => by simpa using List.all_eq_true.1 htp i hi
  refine wpAny_of_anyP (S := Rg w) (pre := fun j => (tA ++ tB).contains j) _ _ _ _ ?_
  suffices hh : anyP P .any ops Q (Rg w) (fun j => (tA ++ tB).contains j) (tA.length + (tB.length + (tC.length + tl.length + 1))) (Array.replicate ops.size false) a { w with drawn := w.drawn + 1 } by
    rw [← hsz] at hh
    exact hh
  refine anyP_takesC (T := fun _ => True) hsel hQ (fun _ _ => trivial) (fun _ _ => .inr (fun _ => trivial)) hS0 (fun l1 a1 hF1 inv1 h1 => ?_) tA _ a hB inv0 h
  refine anyP_takesC (T := fun w' => ∃ p : Regrown, w' = grow (redrawn w p.d) p.os) hsel hQ (fun _ h => h) (fun i hi => .inl hi) hS0 (fun l2 a2 hF2 inv2 h2 => ?_) tB l1 a1 hF1 inv1 h1
  have hb0 : Below w.heap.size w { w with drawn := w.drawn + 1 } := ⟨rfl, rfl, rfl, Nat.le_refl _, fun _ _ => rfl⟩
  simp only [Bool.and_eq_true, decide_eq_true_eq] at hF2
  obtain ⟨r0, hF3⟩ := hF2
  refine ⟨fun h1 => (by rw [r0] at h1; cases h1), fun i hi => ?_⟩
  have hi' := hi
  rw [r0] at hi
  have hix : i = x := by simpa using hi
  subst hix
  refine (h2 _ hb0 _ (fun a3 w3 h3 => ⟨fun hp => ?_, ?_⟩)).wpOp hx
  · have hp2 : (tA ++ tB).contains i = true := hp
    rw [hp2] at hxp
    cases hxp
  · exact anyP_takesF hsel hQ (fun l4 a4 hF4 inv4 h4 => anyP_tail tl l4 a4 w3 pre2 hF4 h4) tC _ a3 hF3 (inv_set inv2 hi') h3
end
end Go.Proofs.Ytlmampklgghngaa
