/-
  What the laws of chapter 21 are given, as it comes in: rows of changes, of addresses. No condition.
-/
import Derived.Test.YtoihkbanmnagkaaGreatRows
import Derived.WalkKit
import Derived.ProofKit
import Derived.OpenShut
import Derived.Carry
import Derived.Lib.SmallJoins
import Derived.ChangeMaps5
import Derived.Test.YtoihkbanmnagkaaGreatM4
import Derived.Deep.Slices
import Derived.Test.YtoihkbanmnagkaaGreatW11c
import Derived.Test.YtoihkbanmnagkaaGreatAppR
/-
  From a law's walk to its given statement: what an argument that leaves all old memory alone reads as behind the call, and how an address, a prefix and a number are opened. No condition.
-/
set_option linter.unusedSimpArgs false
set_option linter.unusedVariables false
namespace Go.Proofs.YtoihkbanmnagkaaGreat
open Go.ChangeShapes Go.WideShapes Go.ChangeAt Go.RowKit Go.Joins M

section
variable {H : Type} {enc : TypeId × Value → H} {P : Program}

theorem all_stays (hl : laidOutB P = true) {W W' : World} {sp : Nat → Bool} : ∀ (ts : List TypeId) (vs : List Value) (ds : List (DataW H)) (p : List MemPlace), ts.all (fun t => P.readableRec t && decide (t < P.types.size)) = true →
    DataW.TrodAll enc P W 0 (fun _ => true) true ts vs ds p → (∀ x ∈ p, W.sameAt W' x) → (∀ x ∈ p, sp x.block = true) → DataW.TrodAll enc P W' 0 sp true ts vs ds p
  | [], [], [], _, _, h, _, _ => h
  | t :: ts, v :: vs, d :: ds, p, ht, h, hsame, hs => by
    obtain ⟨p1, p2, h1, h2, rfl⟩ := h
    simp only [List.all_cons, Bool.and_eq_true, decide_eq_true_eq] at ht
    exact ⟨p1, p2, WideElems.Trod_stays hl ht.1.1 ht.1.2 h1 (fun x hx => hsame x (List.mem_append_left _ hx)) (fun x hx => hs x (List.mem_append_left _ hx)),
      all_stays hl ts vs ds p2 ht.2 h2 (fun x hx => hsame x (List.mem_append_right _ hx)) (fun x hx => hs x (List.mem_append_right _ hx)), rfl⟩
  | [], _ :: _, _, _, _, h, _, _ => h.elim
  | [], [], _ :: _, _, _, h, _, _ => h.elim
  | _ :: _, [], _, _, _, h, _, _ => h.elim
  | _ :: _, _ :: _, [], _, _, h, _, _ => h.elim

theorem law_post {f : Func} {s : ChangeSpec} {apart : Bool} {W W' : World} {args : Array Value} {ds gs : List (DataW H)} {before : List MemPlace} {tb : TypeId}
    (hl : laidOutB P = true) (hts : f.params.toList.all (fun t => P.readableRec t && decide (t < P.types.size)) = true) (hr : f.resultTypes = #[tb]) (htb : P.underlying tb = some .bool) (hv : s.vars = [])
    (hW : DataW.Whole enc P f.params.toList s.vars apart W args.toList ds gs before) (hfn : s.fn H (ds ++ gs) = { results := [.lit (.bool true)], args := ds }) (hb : Below W.heap.size W W') :
    s.post enc P f apart true false false W args (.bool true) W' := by
  have hlt : ∀ p ∈ before, p.block < W.heap.size := fun p hp => hW.lt p hp
  have hold : ∀ p ∈ before, (fun b => decide (b < W.heap.size)) p.block = true := fun p hp => by simpa using hlt p hp
  have hW2 := hW
  obtain ⟨p, q, hA, hV, hpq, hz, hn⟩ := hW2
  rw [hv] at hV
  have hV2 := hV
  obtain ⟨hg, hq⟩ := trodVars_none hV
  subst hg hq
  rw [List.append_nil] at hpq
  subst hpq
  have hres : ∀ (b : Nat) (sp : Nat → Bool) (hd : Bool), DataW.TrodAll enc P W' b sp hd f.resultTypes.toList ((Value.bool true).resultList f.resultTypes.size) (s.fn H (ds ++ [])).results [] := fun b sp hd => by
    rw [hfn, hr]
    exact trodAll_cons_mk (shut_bool htb _) trodAll_mk0
  have hargs : ∀ sp : Nat → Bool, (∀ x ∈ before, sp x.block = true) → DataW.TrodAll enc P W' 0 sp true f.params.toList args.toList (s.fn H (ds ++ [])).args before := fun sp hsp => by
    rw [hfn]
    exact all_stays hl _ _ _ _ hts hA (fun x hx => hb.same (hlt x hx)) hsp
  have hvars : ∀ sp : Nat → Bool, DataW.TrodVars enc P W' sp s.vars (s.fn H (ds ++ [])).vars [] := fun sp => by
    rw [hfn, hv]
    rfl
  have hok : ∀ (j : Nat) (t : TypeId) (r : Value), f.resultTypes[j]? = some t → ((Value.bool true).resultList f.resultTypes.size)[j]? = some r → Value.okWide P W' .any 0 t r :=
    ok_one hr rfl (okWide_bool_mk htb _)
  refine ⟨ds, [], before, [], before, [], hW, hres _ _ _, hargs _ hold, hvars _, World.keptBut_mono (fun p hp => ⟨hp, Or.inr (by simpa using hp)⟩) (hb.frame (· ∈ before)), fun _ => ?_⟩
  refine ⟨hok, _, _, ([] ++ before) ++ [], ⟨[] ++ before, [], trodAll_append (hargs _ (fun _ _ => rfl)) (hres _ _ _), hvars _, rfl, ?_, ?_⟩, ?_⟩
  · intro b off hp
    have hin : MemPlace.cell b off ∈ before := by simpa using hp
    rw [hb.frozen (hlt _ hin)]
    exact hz b off hin
  · intro ha
    simpa using hn ha
  · intro p hp _
    simpa using hp
end

section
variable {H : Type} {enc : TypeId × Value → H} {w : World} {base : Nat} {spare : Nat → Bool} {held : Bool} {r : Reach} {b0 : Nat}

theorem wf_u64 {n : Int} (h : (Lit.int .u64 n).wf = true) : ∃ k : Nat, n = k ∧ W64 k := by
  obtain ⟨h0, h1⟩ := bounds_u64 h
  obtain ⟨k, rfl⟩ := Int.eq_ofNat_of_zero_le h0
  exact ⟨k, rfl, W64.mk (by omega)⟩

theorem cellsA : Tryz.prog.cellsOf 36 = 2 := by kernel_rfl
theorem cells64 : Tryz.prog.cellsOf 22 = 1 := by kernel_rfl
theorem cellsP : Tryz.prog.cellsOf 38 = 3 := by kernel_rfl
theorem cellsI : Tryz.prog.cellsOf 3 = 1 := by kernel_rfl
theorem open_pfx_cells {n : Nat} {cs : List Value} {x : DataW H × List MemPlace} (h : DataW.trod enc Tryz.prog w base spare held n 38 cs = some x) :
    ∃ (hi lo : Nat) (k : Int), cs = [.int .u64 hi, .int .u64 lo, .int .i64 k] ∧ W64 hi ∧ W64 lo ∧ (Lit.int .i64 k).wf = true := by
  obtain ⟨xs, m, -, -, hl, hxl, hf⟩ := DataW.trod_struct Tryz.underlying38 h
  rw [cellsP] at hl
  have h0 : DataW.trod enc Tryz.prog w base spare held m 36 ((cs.drop 0).take (Tryz.prog.cellsOf 36)) = xs[0]? := hf 0 _ rfl
  have h1 : DataW.trod enc Tryz.prog w base spare held m 3 ((cs.drop 2).take (Tryz.prog.cellsOf 3)) = xs[1]? := hf 1 _ rfl
  rw [cellsA] at h0
  rw [cellsI] at h1
  obtain ⟨c0, c1, c2, rfl⟩ : ∃ c0 c1 c2, cs = [c0, c1, c2] := by
    rcases cs with _ | ⟨c0, _ | ⟨c1, _ | ⟨c2, _ | ⟨c3, cs⟩⟩⟩⟩ <;> simp at hl
    exact ⟨c0, c1, c2, rfl⟩
  simp only [List.drop_zero, List.take_succ_cons, List.take_zero, List.drop_succ_cons] at h0 h1
  rw [List.getElem?_eq_getElem (by rw [hxl]; decide)] at h0 h1
  obtain ⟨ys, m', -, -, hl', hyl, hg⟩ := DataW.trod_struct Tryz.underlying36 h0
  have g0 : DataW.trod enc Tryz.prog w base spare held m' 22 (([c0, c1].drop 0).take (Tryz.prog.cellsOf 22)) = ys[0]? := hg 0 _ rfl
  have g1 : DataW.trod enc Tryz.prog w base spare held m' 22 (([c0, c1].drop 1).take (Tryz.prog.cellsOf 22)) = ys[1]? := hg 1 _ rfl
  rw [cells64] at g0 g1
  simp only [List.drop_zero, List.take_succ_cons, List.take_zero, List.drop_succ_cons] at g0 g1
  rw [List.getElem?_eq_getElem (by rw [hyl]; decide)] at g0 g1
  obtain ⟨a, e0, -, wa⟩ := DataW.trod_int Tryz.underlying22 g0
  obtain ⟨b, e1, -, wb⟩ := DataW.trod_int Tryz.underlying22 g1
  obtain ⟨c, e2, -, wc⟩ := DataW.trod_int Tryz.underlying3 h1
  simp only [List.cons.injEq, and_true] at e0 e1 e2
  obtain ⟨i, rfl, hi⟩ := wf_u64 wa
  obtain ⟨j, rfl, hj⟩ := wf_u64 wb
  exact ⟨i, j, c, by rw [e0, e1, e2], hi, hj, wc⟩
end
end Go.Proofs.YtoihkbanmnagkaaGreat
/-
  A slice that comes in as an argument, its elements of one or more cells: its rows as a list, at an address in old memory. No condition but those that stand in each.
-/
set_option linter.unusedSimpArgs false
set_option linter.unusedVariables false
namespace Go.Proofs.YtoihkbanmnagkaaGreat
open Go.ChangeShapes Go.WideShapes Go.ChangeAt Go.RowKit Go.Joins Go.Deep M

def RowA {α : Type} (k : Nat) (cells : α → List Value) (w : World) (p : Option Addr) (L : List α) : Prop :=
  L = [] ∨ ∃ g o, p = some ⟨g, o, none⟩ ∧ g < w.heap.size ∧ ∀ (i : Nat) (hi : i < L.length) (j : Nat) (u : Value), (cells L[i])[j]? = some u → w.cell? ⟨g, o + i * k + j, none⟩ = some u
theorem RowA.below {α : Type} {k : Nat} {cells : α → List Value} {w w' : World} {p : Option Addr} {L : List α} (h : RowA k cells w p L) (hb : Below w.heap.size w w') : RowA k cells w' p L := by
  rcases h with h | ⟨g, o, e, hg, hc⟩
  · exact .inl h
  · exact .inr ⟨g, o, e, Nat.lt_of_lt_of_le hg hb.size, fun i hi j u hu => (hb.cell (p := ⟨g, o + i * k + j, none⟩) hg).trans (hc i hi j u hu)⟩
theorem RowA.at {α : Type} {k : Nat} {cells : α → List Value} {w : World} {p : Option Addr} {L : List α} (h : RowA k cells w p L) {i : Nat} (hi : i < L.length) :
    ∃ g o, p = some ⟨g, o, none⟩ ∧ g < w.heap.size ∧ ∀ (j : Nat) (u : Value), (cells L[i])[j]? = some u → w.cell? ⟨g, o + i * k + j, none⟩ = some u := by
  rcases h with h | ⟨g, o, e, hg, hc⟩
  · subst h
    simp at hi
  · exact ⟨g, o, e, hg, fun j u hu => hc i hi j u hu⟩
section
variable {H : Type} {enc : TypeId × Value → H} {P : Program} {w : World} {base : Nat} {spare : Nat → Bool} {held : Bool} {r : Reach} {b0 : Nat}
theorem open_elems {α : Type} [Inhabited α] {t e : TypeId} {k : Nat} {cells : α → List Value} {good : α → Prop} (ht : P.underlying t = some (.slice e)) (hC : P.cellsOf e = k) (hk : 0 < k) (hcell : ∀ a, good a → 0 < (cells a).length)
    (elem : ∀ n cs x, DataW.trod enc P w base spare held n e cs = some x → ∃ a, cs = cells a ∧ good a)
    {v : Value} {d : DataW H} {p : List MemPlace} (hv : Value.okWide P w r b0 t v) (h : DataW.Trod enc P w base spare held t v d p) :
    ∃ (q : Option Addr) (c : Nat) (L : List α), v = .slice q L.length c ∧ RowA k cells w q L ∧ (∀ a ∈ L, good a) ∧ L.length ≤ maxLen := by
  obtain ⟨q, len, c, rfl⟩ := okWide_slice ht hv
  obtain ⟨fuel, hf⟩ := h
  rcases open_slice ht hf with ⟨h0, -⟩ | ⟨a, len', cap, m, n, D, Pl, hcs, -, hl, hm, hmm, -, hx⟩
  · simp only [Value.cells, List.cons.injEq, Value.slice.injEq, and_true] at h0
    obtain ⟨rfl, rfl, rfl⟩ := h0
    exact ⟨none, 0, [], rfl, .inl rfl, by simp, by simp⟩
  · simp only [Value.cells, List.cons.injEq, Value.slice.injEq, and_true] at hcs
    obtain ⟨rfl, rfl, rfl⟩ := hcs
    have hlm : len ≤ m := by
      rw [hmm]
      split <;> omega
    obtain ⟨V, hV⟩ := choose_lt (α := α) (n := len) (p := fun i x => good x ∧ ∀ (j : Nat) (u : Value), (cells x)[j]? = some u → w.cell? (a.add (i * k + j)) = some u) (fun i hi => by
      obtain ⟨cs', h1, h2⟩ := hx i (by omega)
      obtain ⟨x, rfl, hg⟩ := elem _ _ _ h2
      refine ⟨x, hg, fun j u hu => ?_⟩
      obtain ⟨_, hlen, hat⟩ := World.cells?_some h1
      rw [hC] at hat hlen
      have hj : j < k := by
        have := (List.getElem?_eq_some_iff.1 hu).1
        omega
      have := hat j hj
      rw [← hu, ← this, Go.Deep.add_add])
    have hL : ((List.range len).map V).length = len := by simp
    refine ⟨some a, c, (List.range len).map V, by rw [hL], ?_, ?_, by rw [hL]; omega⟩
    · by_cases h0 : len = 0
      · subst h0
        exact .inl rfl
      · right
        obtain ⟨g, o, spot⟩ := a
        have hw0 := hcell _ (hV 0 (by omega)).1
        have h00 := (hV 0 (by omega)).2 0 _ (List.getElem?_eq_getElem hw0)
        rw [Nat.zero_mul, Nat.zero_add] at h00
        have hspot : spot = none := by simpa [Addr.add] using World.cell?_spot h00
        subst hspot
        refine ⟨g, o, rfl, ?_, fun i hi j u hu => ?_⟩
        · have := World.block_lt_of_cell? w _ h00
          simpa [Addr.add] using this
        · rw [hL] at hi
          have := (hV i hi).2 j u (by simpa using hu)
          rw [show (⟨g, o, none⟩ : Addr).add (i * k + j) = ⟨g, o + i * k + j, none⟩ by unfold Addr.add; split <;> simp_all <;> omega] at this
          exact this
    · intro x hx
      rw [List.mem_map] at hx
      obtain ⟨i, hi, rfl⟩ := hx
      exact (hV i (List.mem_range.1 hi)).1
end
end Go.Proofs.YtoihkbanmnagkaaGreat
/-
  What the laws of chapter 14 are given, as it comes in: rows of calls, of routes, of marks. No condition.
-/
set_option linter.unusedSimpArgs false
set_option linter.unusedVariables false
namespace Go.Proofs.YtoihkbanmnagkaaGreat
open Go.ChangeShapes Go.WideShapes Go.ChangeAt Go.RowKit Go.Joins Go.Deep M

section
variable {H : Type} {enc : TypeId × Value → H} {w : World} {base : Nat} {spare : Nat → Bool} {held : Bool} {r : Reach} {b0 : Nat}
end
end Go.Proofs.YtoihkbanmnagkaaGreat
/-
  What the laws of chapter 21 are given, as it comes in: rows of changes, of addresses. No condition.
-/
set_option linter.unusedSimpArgs false
set_option linter.unusedVariables false
namespace Go.Proofs.YtoihkbanmnagkaaGreat
open Go.ChangeShapes Go.WideShapes Go.ChangeAt Go.RowKit Go.Joins Go.Deep M

theorem RowA.chs {w : World} {p : Option Addr} {L : List Ch} (h : RowA 5 ccell w p L) : Row w p (ccs L) := by
  rcases h with h | ⟨g, o, e, hg, hc⟩
  · subst h
    exact .inl rfl
  · refine .inr ⟨g, o, e, hg, fun j u hu => ?_⟩
    have hj : j < L.length * 5 := by
      have := (List.getElem?_eq_some_iff.1 hu).1
      rwa [ccs_len] at this
    have e1 : j / 5 * 5 + j % 5 = j := by omega
    have hlt : j / 5 < L.length := by omega
    rw [← e1, ccs_cell L (j / 5) (j % 5) hlt (by omega)] at hu
    have := hc (j / 5) hlt (j % 5) u hu
    rw [show o + j / 5 * 5 + j % 5 = o + j by omega] at this
    exact this
def adrA (a : Nat × Nat) : List Value := [.int .u64 (a.1 : Int), .int .u64 (a.2 : Int)]
theorem RowA.adr {w : World} {p : Option Addr} {T : List (Nat × Nat)} (h : RowA 2 adrA w p T) {i : Nat} (hi : i < T.length) : ∃ g o, p = some ⟨g, o, none⟩ ∧ g < w.heap.size ∧ w.cell? ⟨g, o + i * 2, none⟩ = some (.int .u64 (T[i].1 : Int)) ∧ w.cell? ⟨g, o + i * 2 + 1, none⟩ = some (.int .u64 (T[i].2 : Int)) := by
  rcases h with h | ⟨g, o, e, hg, hc⟩
  · rw [h] at hi
    simp at hi
  · exact ⟨g, o, e, hg, hc i hi 0 _ rfl, hc i hi 1 _ rfl⟩
section
variable {H : Type} {enc : TypeId × Value → H} {w : World} {base : Nat} {spare : Nat → Bool} {held : Bool} {r : Reach} {b0 : Nat}
set_option maxRecDepth 100000 in
theorem elemCh (n : Nat) (cs : List Value) (x : DataW H × List MemPlace) (h : DataW.trod enc Tryz.prog w base spare held n 41 cs = some x) : ∃ a : Ch, cs = ccell a ∧ a.k.good := by
  obtain ⟨xs, m, -, -, hl, hxl, hf⟩ := DataW.trod_struct Tryz.underlying41 h
  rw [show Tryz.prog.cellsOf 41 = 5 by kernel_rfl] at hl
  have h1 : DataW.trod enc Tryz.prog w base spare held m 38 ((cs.drop 0).take (Tryz.prog.cellsOf 38)) = xs[0]? := hf 0 _ rfl
  have h2 : DataW.trod enc Tryz.prog w base spare held m 3 ((cs.drop 3).take (Tryz.prog.cellsOf 3)) = xs[1]? := hf 1 _ rfl
  have h3 : DataW.trod enc Tryz.prog w base spare held m 3 ((cs.drop 4).take (Tryz.prog.cellsOf 3)) = xs[2]? := hf 2 _ rfl
  rw [show Tryz.prog.cellsOf 3 = 1 by kernel_rfl] at h2 h3
  rw [cellsP] at h1
  obtain ⟨c0, c1, c2, c3, c4, rfl⟩ : ∃ c0 c1 c2 c3 c4, cs = [c0, c1, c2, c3, c4] := by
    rcases cs with _ | ⟨c0, _ | ⟨c1, _ | ⟨c2, _ | ⟨c3, _ | ⟨c4, _ | ⟨c5, cs⟩⟩⟩⟩⟩⟩ <;> simp at hl
    exact ⟨c0, c1, c2, c3, c4, rfl⟩
  simp only [List.drop_zero, List.take_succ_cons, List.take_zero, List.drop_succ_cons] at h1 h2 h3
  rw [List.getElem?_eq_getElem (by rw [hxl]; decide)] at h1 h2 h3
  obtain ⟨hi, lo, k, e1, w1, w2, -⟩ := open_pfx_cells h1
  obtain ⟨b, e2, -, -⟩ := DataW.trod_int Tryz.underlying3 h2
  obtain ⟨d, e5, -, -⟩ := DataW.trod_int Tryz.underlying3 h3
  simp only [List.cons.injEq, and_true] at e1 e2 e5
  obtain ⟨e1, e3, e4⟩ := e1
  exact ⟨⟨⟨hi, lo, k⟩, b, d⟩, by rw [e1, e2, e3, e4, e5]; rfl, w1, w2⟩
set_option maxRecDepth 100000 in
theorem open_changes {v : Value} {d : DataW H} {p : List MemPlace} (hv : Value.okWide Tryz.prog w r b0 23 v) (h : DataW.Trod enc Tryz.prog w base spare held 23 v d p) :
    ∃ (q : Option Addr) (c : Nat) (L : List Ch), v = .slice q L.length c ∧ Row w q (ccs L) ∧ (∀ a ∈ L, a.k.good) ∧ L.length ≤ maxLen := by
  haveI : Inhabited Ch := ⟨⟨⟨0, 0, 0⟩, 0, 0⟩⟩
  obtain ⟨q, c, L, e, hr, hg, hl⟩ := open_elems Tryz.underlying23 (show Tryz.prog.cellsOf 41 = 5 by kernel_rfl) (by decide) (fun _ _ => by simp [ccell]) elemCh hv h
  exact ⟨q, c, L, e, hr.chs, hg, hl⟩
set_option maxRecDepth 100000 in
theorem elemAdr (n : Nat) (cs : List Value) (x : DataW H × List MemPlace) (h : DataW.trod enc Tryz.prog w base spare held n 36 cs = some x) : ∃ a : Nat × Nat, cs = adrA a ∧ (W64 a.1 ∧ W64 a.2) := by
  obtain ⟨xs, m, -, -, hl, hxl, hf⟩ := DataW.trod_struct Tryz.underlying36 h
  rw [cellsA] at hl
  have h1 : DataW.trod enc Tryz.prog w base spare held m 22 ((cs.drop 0).take (Tryz.prog.cellsOf 22)) = xs[0]? := hf 0 _ rfl
  have h2 : DataW.trod enc Tryz.prog w base spare held m 22 ((cs.drop 1).take (Tryz.prog.cellsOf 22)) = xs[1]? := hf 1 _ rfl
  rw [cells64] at h1 h2
  obtain ⟨c0, c1, rfl⟩ : ∃ c0 c1, cs = [c0, c1] := by
    rcases cs with _ | ⟨c0, _ | ⟨c1, _ | ⟨c2, cs⟩⟩⟩ <;> simp at hl
    exact ⟨c0, c1, rfl⟩
  simp only [List.drop_zero, List.take_succ_cons, List.take_zero, List.drop_succ_cons] at h1 h2
  rw [List.getElem?_eq_getElem (by rw [hxl]; decide)] at h1 h2
  obtain ⟨a, e1, -, w1⟩ := DataW.trod_int Tryz.underlying22 h1
  obtain ⟨b, e2, -, w2⟩ := DataW.trod_int Tryz.underlying22 h2
  simp only [List.cons.injEq, and_true] at e1 e2
  obtain ⟨i, rfl, hi⟩ := wf_u64 w1
  obtain ⟨j, rfl, hj⟩ := wf_u64 w2
  exact ⟨(i, j), by rw [e1, e2]; rfl, hi, hj⟩
set_option maxRecDepth 100000 in
theorem open_addrs {v : Value} {d : DataW H} {p : List MemPlace} (hv : Value.okWide Tryz.prog w r b0 24 v) (h : DataW.Trod enc Tryz.prog w base spare held 24 v d p) :
    ∃ (q : Option Addr) (c : Nat) (L : List (Nat × Nat)), v = .slice q L.length c ∧ RowA 2 adrA w q L ∧ (∀ a ∈ L, W64 a.1 ∧ W64 a.2) ∧ L.length ≤ maxLen :=
  open_elems Tryz.underlying24 cellsA (by decide) (fun _ _ => by simp [adrA]) elemAdr hv h
end
end Go.Proofs.YtoihkbanmnagkaaGreat
