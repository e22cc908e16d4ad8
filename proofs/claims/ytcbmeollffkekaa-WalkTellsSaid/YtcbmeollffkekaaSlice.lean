/-
  A slice that comes in as an argument, its elements of one or more cells: its rows as a list, at an address in old memory. No condition but those that stand in each.
-/
import Derived.Test.YtcbmeollffkekaaBkt
import Derived.Test.YtcbmeollffkekaaRows
import Derived.WalkKit
import Derived.ProofKit
import Derived.OpenShut
import Derived.Carry
import Derived.Lib.SmallJoins
import Derived.ChangeMaps5
import Derived.Test.YtcbmeollffkekaaM1
import Derived.Deep.Slices
/-
  One statement whose order is open, with a guard in it: what lies ahead of the guard lays memory only; behind it loads, moves, then a tail in one order that may write. No condition on the program but that it draws orders in the wide manner.
-/
set_option linter.unusedSimpArgs false
set_option linter.unusedVariables false
namespace Go.Proofs.Ytcbmeollffkekaa
open Go Go.RowKit Go.Sort

section
variable {P : Program} {ops : Array Oper} {md : Region.Mode} {C : World → Prop} {Q : Exit → Act → World → Prop} {S : World → Prop} {pre : Nat → Bool}
def guardB (ops : Array Oper) (n : Nat) (tB tA tl : List Nat) : Bool :=
  decide (n < ops.size) && decide (ops.size - (n + 1) = tB.length + (tA.length + tl.length)) && Region.sinkB .any ops n && waitB .any ops n &&
  lexTo .any ops (fun l1 => decide (Region.ready .any ops l1 = [n]) && takeD .any ops (fun i => laterB .any ops (fun j => !tl.contains j) i) (fun l2 => takeD .any ops (fun _ => true) (fun l3 => tailB .any ops tl l3) tA l2) tB (l1.setIfInBounds n true)) n 0 (Array.replicate ops.size false)
/-- What is asked behind the guard. -/
def gQ (P : Program) (ops : Array Oper) (Q : Exit → Act → World → Prop) (tB tA tl : List Nat) (a : Act) (w : World) : Prop :=
  wpQuiet P ops (fun w' => ∃ p : Regrown, w' = grow (redrawn w p.d) p.os) (fun a3 => wpQuiet P ops (fun _ => True) (fun a4 => ∀ w', Below w.heap.size w w' → wpList P ops Q (pickL ops tl) a4 w') (pickL ops tA) a3) (pickL ops tB) a
theorem region_guard {id : Nat} {a : Act} {w : World} {l : List Oper} (n : Nat) (tB tA tl : List Nat) (hm : P.follows .mixedOrders = true) (hQ : ∀ c a w, Q (.panic c) a w → False) (hsel : Region.noSelect l.toArray = true) (hB : guardB l.toArray n tB tA tl = true)
    (h : wpQuiet P l.toArray (fun w' => ∃ p : Regrown, w' = grow (redrawn w p.d) p.os) (fun a1 => ∀ w1, Below w.heap.size w w1 → ∀ (K : Act → World → Prop), (∀ a2 w2, gQ P l.toArray Q tB tA tl a2 w2 → K a2 w2) →
      ∀ o, l[n]? = some o → if Region.wanted o (yielded l.toArray a1.tmps) = true then o.wp P a1 w1 K Q else K (a1.put o.dst undef) w1) (l.take n) a) :
    (Code.region id l.toArray true).wp P Q a w := by
  have hl : ∀ j : Nat, l[j]? = l.toArray[j]? := fun j => by simp
  have hls : l.length = l.toArray.size := by simp
  generalize l.toArray = ops at *
  simp only [guardB, Bool.and_eq_true, decide_eq_true_eq] at hB
  obtain ⟨⟨⟨⟨hn, hsz⟩, hs⟩, hw⟩, hlex⟩ := hB
  refine wp_region_any hm ?_
  have inv0 : HeadInv .any ops 0 (Array.replicate ops.size false) :=
    ⟨by simp, fun j oj _ hl => (by rw [getD_replicate_false] at hl; cases hl), fun t _ ht => getD_in (by simpa using ht) (getD_replicate_false _ _)⟩
  have hS0 : Rg w { w with drawn := w.drawn + 1 } := ⟨⟨w.drawn + 1, #[]⟩, by rw [grow_empty]; rfl⟩
  have hlen : n < l.length := by omega
  have htl : (l.take n).length = n := by simp; omega
  have pre2 : ∀ i ∈ tl, (!tl.contains i) = false := fun i hi => by simp [hi]
  have H := headAny_to (P := P) (C := Rg w) (md := .any) (F := fun l1 => decide (Region.ready .any ops l1 = [n]) && takeD .any ops (fun i => laterB .any ops (fun j => !tl.contains j) i) (fun l2 => takeD .any ops (fun _ => true) (fun l3 => tailB .any ops tl l3) tA l2) tB (l1.setIfInBounds n true)) (fun listed hF j hj => by
    simp only [Bool.and_eq_true, decide_eq_true_eq] at hF
    rw [hF.1] at hj
    simp at hj
    omega) hsel hs hw hn (l.take n) 0 _ a (fun j hj => by
    have hj' : j < n := by rw [htl] at hj; exact hj
    rw [List.getElem?_take, if_pos hj', hl, Nat.zero_add]) (by rw [htl]; omega) (inv_up inv0 (Nat.zero_le n)) (by rw [htl]; exact hlex) h
  have := headAny_wp (Q' := Q) (g := ops.size - n) (fun listed a' w' hw' hL => by
    obtain ⟨⟨hF, inv'⟩, hq⟩ := hL
    simp only [Bool.and_eq_true, decide_eq_true_eq] at hF
    have h0 : l[n]? = some (l[n]'hlen) := List.getElem?_eq_getElem hlen
    have h1 : ops[n]? = some (l[n]'hlen) := by rw [← h0, hl]
    rw [show ops.size - n = (ops.size - (n + 1)) + 1 by omega]
    refine ⟨fun h => (by rw [hF.1] at h; cases h), fun i hi => ?_⟩
    rw [hF.1] at hi
    have hin : i = n := by simpa using hi
    subst hin
    have hq' := hq w' (by obtain ⟨p, rfl⟩ := hw'; exact below_regrown _ _ _) (wpAny P .any ops Q (ops.size - (i + 1)) (listed.setIfInBounds i true)) (fun a2 w2 h2 => by
      have invN := inv_up (inv_next inv' (by rw [hF.1]; simp)) (show i + 1 ≤ ops.size by omega)
      refine wpAny_of_anyP (S := Rg w2) (pre := fun j => !tl.contains j) _ _ _ _ ?_
      rw [hsz]
      refine anyP_takesC (T := fun w' => ∃ p : Regrown, w' = grow (redrawn w2 p.d) p.os) hsel hQ (fun _ h => h) (fun i hi => .inl hi) (Rg.self w2) (fun l2 a3 hF2 inv2 h3 => ?_) tB _ a2 hF.2 invN h2
      refine anyP_takesC (T := fun _ => True) hsel hQ (fun _ _ => trivial) (fun _ _ => .inr (fun _ => trivial)) (Rg.self w2) (fun l3 a4 hF3 inv3 h4 => ?_) tA l2 a3 hF2 inv2 h3
      exact anyP_tail tl _ a4 _ pre2 hF3 (h4 _ ⟨rfl, rfl, rfl, Nat.le_refl _, fun _ _ => rfl⟩)) _ h0
    unfold wpOp
    simp only [h1]
    split
    · rename_i hw1
      rw [if_pos hw1] at hq'
      exact .inl hq'
    · rename_i hw1
      rw [if_neg hw1] at hq'
      exact hq') _ _ _ _ hS0 H
  rw [htl, show n + (ops.size - n) = ops.size by omega] at this
  exact this
end
end Go.Proofs.Ytcbmeollffkekaa
/-
  From a law's walk to its given statement: what an argument that leaves all old memory alone reads as behind the call, and how an address, a prefix and a number are opened. No condition.
-/
set_option linter.unusedSimpArgs false
set_option linter.unusedVariables false
namespace Go.Proofs.Ytcbmeollffkekaa
open Go.ChangeShapes Go.WideShapes Go.ChangeAt Go.RowKit Go.Joins M

section
variable {H : Type} {enc : TypeId × Value → H} {P : Program}

/-- Arguments read as they did, wherever all that they reach is as it was. -/
theorem all_stays (hl : laidOutB P = true) {W W' : World} {sp : Nat → Bool} : ∀ (ts : List TypeId) (vs : List Value) (ds : List (DataW H)) (p : List MemPlace), ts.all (fun t => P.readableRec t && decide (t < P.types.size)) = true →
    DataW.TrodAll enc P W 0 (fun _ => true) true ts vs ds p → (∀ x ∈ p, W.sameAt W' x) → (∀ x ∈ p, sp x.block = true) → DataW.TrodAll enc P W' 0 sp true ts vs ds p
  | [], [], [], _, _, h, _, _ => h
  | t :: ts, v :: vs, d :: ds, p, ht, h, hsame, hs => by
    obtain ⟨p1, p2, h1, h2, rfl⟩ := h
    simp only [List.all_cons, Bool.and_eq_true, decide_eq_true_eq] at ht
    exact ⟨p1, p2, WideElems.Trod_stays hl ht.1.1 ht.1.2 h1 (fun x hx => hsame x (List.mem_append_left _ hx)) (fun x hx => hs x (List.mem_append_left _ hx)),
      all_stays hl ts vs ds p2 ht.2 h2 (fun x hx => hsame x (List.mem_append_right _ hx)) (fun x hx => hs x (List.mem_append_right _ hx)), rfl⟩
  | [], _ :: _, _, _, _, h, _, _ => h.elim
  | [], [], _ :: _, _, _, h, _, _ => h.elim
  | _ :: _, [], _, _, _, h, _, _ => h.elim
  | _ :: _, _ :: _, [], _, _, h, _, _ => h.elim

/-- WHAT A LAW OWES: its walk hands back true and leaves all that was there as it was. -/
theorem law_post {f : Func} {s : ChangeSpec} {apart : Bool} {W W' : World} {args : Array Value} {ds gs : List (DataW H)} {before : List MemPlace} {tb : TypeId}
    (hl : laidOutB P = true) (hts : f.params.toList.all (fun t => P.readableRec t && decide (t < P.types.size)) = true) (hr : f.resultTypes = #[tb]) (htb : P.underlying tb = some .bool) (hv : s.vars = [])
    (hW : DataW.Whole enc P f.params.toList s.vars apart W args.toList ds gs before) (hfn : s.fn H (ds ++ gs) = { results := [.lit (.bool true)], args := ds }) (hb : Below W.heap.size W W') :
    s.post enc P f apart true false false W args (.bool true) W' := by
  have hlt : ∀ p ∈ before, p.block < W.heap.size := fun p hp => hW.lt p hp
  have hold : ∀ p ∈ before, (fun b => decide (b < W.heap.size)) p.block = true := fun p hp => by simpa using hlt p hp
  have hW2 := hW
  obtain ⟨p, q, hA, hV, hpq, hz, hn⟩ := hW2
  rw [hv] at hV
  have hV2 := hV
  obtain ⟨hg, hq⟩ := trodVars_none hV
  subst hg hq
  rw [List.append_nil] at hpq
  subst hpq
  have hres : ∀ (b : Nat) (sp : Nat → Bool) (hd : Bool), DataW.TrodAll enc P W' b sp hd f.resultTypes.toList ((Value.bool true).resultList f.resultTypes.size) (s.fn H (ds ++ [])).results [] := fun b sp hd => by
    rw [hfn, hr]
    exact trodAll_cons_mk (shut_bool htb _) trodAll_mk0
  have hargs : ∀ sp : Nat → Bool, (∀ x ∈ before, sp x.block = true) → DataW.TrodAll enc P W' 0 sp true f.params.toList args.toList (s.fn H (ds ++ [])).args before := fun sp hsp => by
    rw [hfn]
    exact all_stays hl _ _ _ _ hts hA (fun x hx => hb.same (hlt x hx)) hsp
  have hvars : ∀ sp : Nat → Bool, DataW.TrodVars enc P W' sp s.vars (s.fn H (ds ++ [])).vars [] := fun sp => by
    rw [hfn, hv]
    rfl
  have hok : ∀ (j : Nat) (t : TypeId) (r : Value), f.resultTypes[j]? = some t → ((Value.bool true).resultList f.resultTypes.size)[j]? = some r → Value.okWide P W' .any 0 t r :=
    ok_one hr rfl (okWide_bool_mk htb _)
  refine ⟨ds, [], before, [], before, [], hW, hres _ _ _, hargs _ hold, hvars _, World.keptBut_mono (fun p hp => ⟨hp, Or.inr (by simpa using hp)⟩) (hb.frame (· ∈ before)), fun _ => ?_⟩
  refine ⟨hok, _, _, ([] ++ before) ++ [], ⟨[] ++ before, [], trodAll_append (hargs _ (fun _ _ => rfl)) (hres _ _ _), hvars _, rfl, ?_, ?_⟩, ?_⟩
  · intro b off hp
    have hin : MemPlace.cell b off ∈ before := by simpa using hp
    rw [hb.frozen (hlt _ hin)]
    exact hz b off hin
  · intro ha
    simpa using hn ha
  · intro p hp _
    simpa using hp
end

section
variable {H : Type} {enc : TypeId × Value → H} {w : World} {base : Nat} {spare : Nat → Bool} {held : Bool} {r : Reach} {b0 : Nat}

theorem wf_u64 {n : Int} (h : (Lit.int .u64 n).wf = true) : ∃ k : Nat, n = k ∧ W64 k := by
  obtain ⟨h0, h1⟩ := bounds_u64 h
  obtain ⟨k, rfl⟩ := Int.eq_ofNat_of_zero_le h0
  exact ⟨k, rfl, W64.mk (by omega)⟩

theorem cellsA : Try.prog.cellsOf 35 = 2 := by kernel_rfl
theorem cells64 : Try.prog.cellsOf 33 = 1 := by kernel_rfl
set_option maxRecDepth 100000 in
/-- An address by value. -/
theorem open_addr {v : Value} {d : DataW H} {p : List MemPlace} (hv : Value.okWide Try.prog w r b0 35 v) (h : DataW.Trod enc Try.prog w base spare held 35 v d p) :
    ∃ hi lo : Nat, v = .agg #[.int .u64 hi, .int .u64 lo] ∧ W64 hi ∧ W64 lo := by
  obtain ⟨c0, c1, y0, y1, m, rfl, -, -, h0, h1⟩ := open_agg2 Try.underlying35 (by kernel_rfl) cellsA hv h
  obtain ⟨a, e0, -, wa⟩ := DataW.trod_int Try.underlying33 h0
  obtain ⟨b, e1, -, wb⟩ := DataW.trod_int Try.underlying33 h1
  simp only [List.cons.injEq, and_true] at e0 e1
  obtain ⟨i, rfl, hi⟩ := wf_u64 wa
  obtain ⟨j, rfl, hj⟩ := wf_u64 wb
  exact ⟨i, j, by rw [e0, e1], hi, hj⟩

theorem cellsP : Try.prog.cellsOf 37 = 3 := by kernel_rfl
theorem cellsI : Try.prog.cellsOf 3 = 1 := by kernel_rfl
/-- A prefix's cells. -/
theorem open_pfx_cells {n : Nat} {cs : List Value} {x : DataW H × List MemPlace} (h : DataW.trod enc Try.prog w base spare held n 37 cs = some x) :
    ∃ (hi lo : Nat) (k : Int), cs = [.int .u64 hi, .int .u64 lo, .int .i64 k] ∧ W64 hi ∧ W64 lo ∧ (Lit.int .i64 k).wf = true := by
  obtain ⟨xs, m, -, -, hl, hxl, hf⟩ := DataW.trod_struct Try.underlying37 h
  rw [cellsP] at hl
  have h0 : DataW.trod enc Try.prog w base spare held m 35 ((cs.drop 0).take (Try.prog.cellsOf 35)) = xs[0]? := hf 0 _ rfl
  have h1 : DataW.trod enc Try.prog w base spare held m 3 ((cs.drop 2).take (Try.prog.cellsOf 3)) = xs[1]? := hf 1 _ rfl
  rw [cellsA] at h0
  rw [cellsI] at h1
  obtain ⟨c0, c1, c2, rfl⟩ : ∃ c0 c1 c2, cs = [c0, c1, c2] := by
    rcases cs with _ | ⟨c0, _ | ⟨c1, _ | ⟨c2, _ | ⟨c3, cs⟩⟩⟩⟩ <;> simp at hl
    exact ⟨c0, c1, c2, rfl⟩
  simp only [List.drop_zero, List.take_succ_cons, List.take_zero, List.drop_succ_cons] at h0 h1
  rw [List.getElem?_eq_getElem (by rw [hxl]; decide)] at h0 h1
  obtain ⟨ys, m', -, -, hl', hyl, hg⟩ := DataW.trod_struct Try.underlying35 h0
  have g0 : DataW.trod enc Try.prog w base spare held m' 33 (([c0, c1].drop 0).take (Try.prog.cellsOf 33)) = ys[0]? := hg 0 _ rfl
  have g1 : DataW.trod enc Try.prog w base spare held m' 33 (([c0, c1].drop 1).take (Try.prog.cellsOf 33)) = ys[1]? := hg 1 _ rfl
  rw [cells64] at g0 g1
  simp only [List.drop_zero, List.take_succ_cons, List.take_zero, List.drop_succ_cons] at g0 g1
  rw [List.getElem?_eq_getElem (by rw [hyl]; decide)] at g0 g1
  obtain ⟨a, e0, -, wa⟩ := DataW.trod_int Try.underlying33 g0
  obtain ⟨b, e1, -, wb⟩ := DataW.trod_int Try.underlying33 g1
  obtain ⟨c, e2, -, wc⟩ := DataW.trod_int Try.underlying3 h1
  simp only [List.cons.injEq, and_true] at e0 e1 e2
  obtain ⟨i, rfl, hi⟩ := wf_u64 wa
  obtain ⟨j, rfl, hj⟩ := wf_u64 wb
  exact ⟨i, j, c, by rw [e0, e1, e2], hi, hj, wc⟩
set_option maxRecDepth 100000 in
/-- A prefix by value. -/
theorem open_pfx {v : Value} {d : DataW H} {p : List MemPlace} (hv : Value.okWide Try.prog w r b0 37 v) (h : DataW.Trod enc Try.prog w base spare held 37 v d p) :
    ∃ (hi lo : Nat) (k : Int), v = .agg #[.int .u64 hi, .int .u64 lo, .int .i64 k] ∧ W64 hi ∧ W64 lo ∧ (Lit.int .i64 k).wf = true := by
  obtain ⟨cs, rfl, hsz⟩ := okWide_struct Try.underlying37 hv
  obtain ⟨m, hm⟩ := h
  obtain ⟨hi, lo, k, e, h1, h2, h3⟩ := open_pfx_cells hm
  refine ⟨hi, lo, k, ?_, h1, h2, h3⟩
  obtain ⟨l⟩ := cs
  have e' : l = _ := e
  rw [e']
end
end Go.Proofs.Ytcbmeollffkekaa
/-
  A slice that comes in as an argument, its elements of one or more cells: its rows as a list, at an address in old memory. No condition but those that stand in each.
-/
set_option linter.unusedSimpArgs false
set_option linter.unusedVariables false
namespace Go.Proofs.Ytcbmeollffkekaa
open Go.ChangeShapes Go.WideShapes Go.ChangeAt Go.RowKit Go.Joins Go.Deep M

/-- The elements L, each of k cells, lie at p. -/
def RowA {α : Type} (k : Nat) (cells : α → List Value) (w : World) (p : Option Addr) (L : List α) : Prop :=
  L = [] ∨ ∃ g o, p = some ⟨g, o, none⟩ ∧ g < w.heap.size ∧ ∀ (i : Nat) (hi : i < L.length) (j : Nat) (u : Value), (cells L[i])[j]? = some u → w.cell? ⟨g, o + i * k + j, none⟩ = some u
theorem RowA.below {α : Type} {k : Nat} {cells : α → List Value} {w w' : World} {p : Option Addr} {L : List α} (h : RowA k cells w p L) (hb : Below w.heap.size w w') : RowA k cells w' p L := by
  rcases h with h | ⟨g, o, e, hg, hc⟩
  · exact .inl h
  · exact .inr ⟨g, o, e, Nat.lt_of_lt_of_le hg hb.size, fun i hi j u hu => (hb.cell (p := ⟨g, o + i * k + j, none⟩) hg).trans (hc i hi j u hu)⟩
theorem RowA.at {α : Type} {k : Nat} {cells : α → List Value} {w : World} {p : Option Addr} {L : List α} (h : RowA k cells w p L) {i : Nat} (hi : i < L.length) :
    ∃ g o, p = some ⟨g, o, none⟩ ∧ g < w.heap.size ∧ ∀ (j : Nat) (u : Value), (cells L[i])[j]? = some u → w.cell? ⟨g, o + i * k + j, none⟩ = some u := by
  rcases h with h | ⟨g, o, e, hg, hc⟩
  · subst h
    simp at hi
  · exact ⟨g, o, e, hg, fun j u hu => hc i hi j u hu⟩
section
variable {H : Type} {enc : TypeId × Value → H} {P : Program} {w : World} {base : Nat} {spare : Nat → Bool} {held : Bool} {r : Reach} {b0 : Nat}
theorem open_elems {α : Type} [Inhabited α] {t e : TypeId} {k : Nat} {cells : α → List Value} {good : α → Prop} (ht : P.underlying t = some (.slice e)) (hC : P.cellsOf e = k) (hk : 0 < k) (hcell : ∀ a, good a → 0 < (cells a).length)
    (elem : ∀ n cs x, DataW.trod enc P w base spare held n e cs = some x → ∃ a, cs = cells a ∧ good a)
    {v : Value} {d : DataW H} {p : List MemPlace} (hv : Value.okWide P w r b0 t v) (h : DataW.Trod enc P w base spare held t v d p) :
    ∃ (q : Option Addr) (c : Nat) (L : List α), v = .slice q L.length c ∧ RowA k cells w q L ∧ (∀ a ∈ L, good a) ∧ L.length ≤ maxLen := by
  obtain ⟨q, len, c, rfl⟩ := okWide_slice ht hv
  obtain ⟨fuel, hf⟩ := h
  rcases open_slice ht hf with ⟨h0, -⟩ | ⟨a, len', cap, m, n, D, Pl, hcs, -, hl, hm, hmm, -, hx⟩
  · simp only [Value.cells, List.cons.injEq, Value.slice.injEq, and_true] at h0
    obtain ⟨rfl, rfl, rfl⟩ := h0
    exact ⟨none, 0, [], rfl, .inl rfl, by simp, by simp⟩
  · simp only [Value.cells, List.cons.injEq, Value.slice.injEq, and_true] at hcs
    obtain ⟨rfl, rfl, rfl⟩ := hcs
    have hlm : len ≤ m := by
      rw [hmm]
      split <;> omega
    obtain ⟨V, hV⟩ := choose_lt (α := α) (n := len) (p := fun i x => good x ∧ ∀ (j : Nat) (u : Value), (cells x)[j]? = some u → w.cell? (a.add (i * k + j)) = some u) (fun i hi => by
      obtain ⟨cs', h1, h2⟩ := hx i (by omega)
      obtain ⟨x, rfl, hg⟩ := elem _ _ _ h2
      refine ⟨x, hg, fun j u hu => ?_⟩
      obtain ⟨_, hlen, hat⟩ := World.cells?_some h1
      rw [hC] at hat hlen
      have hj : j < k := by
        have := (List.getElem?_eq_some_iff.1 hu).1
        omega
      have := hat j hj
      rw [← hu, ← this, Go.Deep.add_add])
    have hL : ((List.range len).map V).length = len := by simp
    refine ⟨some a, c, (List.range len).map V, by rw [hL], ?_, ?_, by rw [hL]; omega⟩
    · by_cases h0 : len = 0
      · subst h0
        exact .inl rfl
      · right
        obtain ⟨g, o, spot⟩ := a
        have hw0 := hcell _ (hV 0 (by omega)).1
        have h00 := (hV 0 (by omega)).2 0 _ (List.getElem?_eq_getElem hw0)
        rw [Nat.zero_mul, Nat.zero_add] at h00
        have hspot : spot = none := by simpa [Addr.add] using World.cell?_spot h00
        subst hspot
        refine ⟨g, o, rfl, ?_, fun i hi j u hu => ?_⟩
        · have := World.block_lt_of_cell? w _ h00
          simpa [Addr.add] using this
        · rw [hL] at hi
          have := (hV i hi).2 j u (by simpa using hu)
          rw [show (⟨g, o, none⟩ : Addr).add (i * k + j) = ⟨g, o + i * k + j, none⟩ by unfold Addr.add; split <;> simp_all <;> omega] at this
          exact this
    · intro x hx
      rw [List.mem_map] at hx
      obtain ⟨i, hi, rfl⟩ := hx
      exact (hV i (List.mem_range.1 hi)).1
end
end Go.Proofs.Ytcbmeollffkekaa
