/-
  What the reference's NewFilter makes. No condition but those that stand in each.
-/
import Derived.Test.YtoihkbanmnagkaaGreatRows
import Derived.WalkKit
import Derived.ProofKit
import Derived.OpenShut
import Derived.Carry
import Derived.Lib.SmallJoins
import Derived.ChangeMaps5
import Derived.Test.YtoihkbanmnagkaaGreatOwn
import Derived.Deep.Slices
import Derived.Test.YtoihkbanmnagkaaGreatL12
import Derived.Test.YtoihkbanmnagkaaGreatW12k
import Derived.Test.YtoihkbanmnagkaaGreatW12l
import Derived.Test.YtoihkbanmnagkaaGreatRT2
import Derived.Test.YtoihkbanmnagkaaGreatL21b
import Derived.Deep.RegionHeld3
import Derived.Deep.LoopGhost
import Derived.Test.YtoihkbanmnagkaaGreatRFil2c
/-
  From a law's walk to its given statement: what an argument that leaves all old memory alone reads as behind the call, and how an address, a prefix and a number are opened. No condition.
-/
set_option linter.unusedSimpArgs false
set_option linter.unusedVariables false
namespace Go.Proofs.YtoihkbanmnagkaaGreat
open Go.ChangeShapes Go.WideShapes Go.ChangeAt Go.RowKit Go.Joins M

section
variable {H : Type} {enc : TypeId × Value → H} {P : Program}

/-- Arguments read as they did, wherever all that they reach is as it was. -/
theorem all_stays (hl : laidOutB P = true) {W W' : World} {sp : Nat → Bool} : ∀ (ts : List TypeId) (vs : List Value) (ds : List (DataW H)) (p : List MemPlace), ts.all (fun t => P.readableRec t && decide (t < P.types.size)) = true →
    DataW.TrodAll enc P W 0 (fun _ => true) true ts vs ds p → (∀ x ∈ p, W.sameAt W' x) → (∀ x ∈ p, sp x.block = true) → DataW.TrodAll enc P W' 0 sp true ts vs ds p
  | [], [], [], _, _, h, _, _ => h
  | t :: ts, v :: vs, d :: ds, p, ht, h, hsame, hs => by
    obtain ⟨p1, p2, h1, h2, rfl⟩ := h
    simp only [List.all_cons, Bool.and_eq_true, decide_eq_true_eq] at ht
    exact ⟨p1, p2, WideElems.Trod_stays hl ht.1.1 ht.1.2 h1 (fun x hx => hsame x (List.mem_append_left _ hx)) (fun x hx => hs x (List.mem_append_left _ hx)),
      all_stays hl ts vs ds p2 ht.2 h2 (fun x hx => hsame x (List.mem_append_right _ hx)) (fun x hx => hs x (List.mem_append_right _ hx)), rfl⟩
  | [], _ :: _, _, _, _, h, _, _ => h.elim
  | [], [], _ :: _, _, _, h, _, _ => h.elim
  | _ :: _, [], _, _, _, h, _, _ => h.elim
  | _ :: _, _ :: _, [], _, _, h, _, _ => h.elim

/-- WHAT A LAW OWES: its walk hands back true and leaves all that was there as it was. -/
theorem law_post {f : Func} {s : ChangeSpec} {apart : Bool} {W W' : World} {args : Array Value} {ds gs : List (DataW H)} {before : List MemPlace} {tb : TypeId}
    (hl : laidOutB P = true) (hts : f.params.toList.all (fun t => P.readableRec t && decide (t < P.types.size)) = true) (hr : f.resultTypes = #[tb]) (htb : P.underlying tb = some .bool) (hv : s.vars = [])
    (hW : DataW.Whole enc P f.params.toList s.vars apart W args.toList ds gs before) (hfn : s.fn H (ds ++ gs) = { results := [.lit (.bool true)], args := ds }) (hb : Below W.heap.size W W') :
    s.post enc P f apart true false false W args (.bool true) W' := by
  have hlt : ∀ p ∈ before, p.block < W.heap.size := fun p hp => hW.lt p hp
  have hold : ∀ p ∈ before, (fun b => decide (b < W.heap.size)) p.block = true := fun p hp => by simpa using hlt p hp
  have hW2 := hW
  obtain ⟨p, q, hA, hV, hpq, hz, hn⟩ := hW2
  rw [hv] at hV
  have hV2 := hV
  obtain ⟨hg, hq⟩ := trodVars_none hV
  subst hg hq
  rw [List.append_nil] at hpq
  subst hpq
  have hres : ∀ (b : Nat) (sp : Nat → Bool) (hd : Bool), DataW.TrodAll enc P W' b sp hd f.resultTypes.toList ((Value.bool true).resultList f.resultTypes.size) (s.fn H (ds ++ [])).results [] := fun b sp hd => by
    rw [hfn, hr]
    exact trodAll_cons_mk (shut_bool htb _) trodAll_mk0
  have hargs : ∀ sp : Nat → Bool, (∀ x ∈ before, sp x.block = true) → DataW.TrodAll enc P W' 0 sp true f.params.toList args.toList (s.fn H (ds ++ [])).args before := fun sp hsp => by
    rw [hfn]
    exact all_stays hl _ _ _ _ hts hA (fun x hx => hb.same (hlt x hx)) hsp
  have hvars : ∀ sp : Nat → Bool, DataW.TrodVars enc P W' sp s.vars (s.fn H (ds ++ [])).vars [] := fun sp => by
    rw [hfn, hv]
    rfl
  have hok : ∀ (j : Nat) (t : TypeId) (r : Value), f.resultTypes[j]? = some t → ((Value.bool true).resultList f.resultTypes.size)[j]? = some r → Value.okWide P W' .any 0 t r :=
    ok_one hr rfl (okWide_bool_mk htb _)
  refine ⟨ds, [], before, [], before, [], hW, hres _ _ _, hargs _ hold, hvars _, World.keptBut_mono (fun p hp => ⟨hp, Or.inr (by simpa using hp)⟩) (hb.frame (· ∈ before)), fun _ => ?_⟩
  refine ⟨hok, _, _, ([] ++ before) ++ [], ⟨[] ++ before, [], trodAll_append (hargs _ (fun _ _ => rfl)) (hres _ _ _), hvars _, rfl, ?_, ?_⟩, ?_⟩
  · intro b off hp
    have hin : MemPlace.cell b off ∈ before := by simpa using hp
    rw [hb.frozen (hlt _ hin)]
    exact hz b off hin
  · intro ha
    simpa using hn ha
  · intro p hp _
    simpa using hp
end

section
variable {H : Type} {enc : TypeId × Value → H} {w : World} {base : Nat} {spare : Nat → Bool} {held : Bool} {r : Reach} {b0 : Nat}

theorem wf_u64 {n : Int} (h : (Lit.int .u64 n).wf = true) : ∃ k : Nat, n = k ∧ W64 k := by
  obtain ⟨h0, h1⟩ := bounds_u64 h
  obtain ⟨k, rfl⟩ := Int.eq_ofNat_of_zero_le h0
  exact ⟨k, rfl, W64.mk (by omega)⟩

theorem cellsA : Tryz.prog.cellsOf 36 = 2 := by kernel_rfl
theorem cells64 : Tryz.prog.cellsOf 22 = 1 := by kernel_rfl
set_option maxRecDepth 100000 in
/-- An address by value. -/
theorem open_addr {v : Value} {d : DataW H} {p : List MemPlace} (hv : Value.okWide Tryz.prog w r b0 36 v) (h : DataW.Trod enc Tryz.prog w base spare held 36 v d p) :
    ∃ hi lo : Nat, v = .agg #[.int .u64 hi, .int .u64 lo] ∧ W64 hi ∧ W64 lo := by
  obtain ⟨c0, c1, y0, y1, m, rfl, -, -, h0, h1⟩ := open_agg2 Tryz.underlying36 (by kernel_rfl) cellsA hv h
  obtain ⟨a, e0, -, wa⟩ := DataW.trod_int Tryz.underlying22 h0
  obtain ⟨b, e1, -, wb⟩ := DataW.trod_int Tryz.underlying22 h1
  simp only [List.cons.injEq, and_true] at e0 e1
  obtain ⟨i, rfl, hi⟩ := wf_u64 wa
  obtain ⟨j, rfl, hj⟩ := wf_u64 wb
  exact ⟨i, j, by rw [e0, e1], hi, hj⟩

theorem cellsP : Tryz.prog.cellsOf 38 = 3 := by kernel_rfl
theorem cellsI : Tryz.prog.cellsOf 3 = 1 := by kernel_rfl
/-- A prefix's cells. -/
theorem open_pfx_cells {n : Nat} {cs : List Value} {x : DataW H × List MemPlace} (h : DataW.trod enc Tryz.prog w base spare held n 38 cs = some x) :
    ∃ (hi lo : Nat) (k : Int), cs = [.int .u64 hi, .int .u64 lo, .int .i64 k] ∧ W64 hi ∧ W64 lo ∧ (Lit.int .i64 k).wf = true := by
  obtain ⟨xs, m, -, -, hl, hxl, hf⟩ := DataW.trod_struct Tryz.underlying38 h
  rw [cellsP] at hl
  have h0 : DataW.trod enc Tryz.prog w base spare held m 36 ((cs.drop 0).take (Tryz.prog.cellsOf 36)) = xs[0]? := hf 0 _ rfl
  have h1 : DataW.trod enc Tryz.prog w base spare held m 3 ((cs.drop 2).take (Tryz.prog.cellsOf 3)) = xs[1]? := hf 1 _ rfl
  rw [cellsA] at h0
  rw [cellsI] at h1
  obtain ⟨c0, c1, c2, rfl⟩ : ∃ c0 c1 c2, cs = [c0, c1, c2] := by
    rcases cs with _ | ⟨c0, _ | ⟨c1, _ | ⟨c2, _ | ⟨c3, cs⟩⟩⟩⟩ <;> simp at hl
    exact ⟨c0, c1, c2, rfl⟩
  simp only [List.drop_zero, List.take_succ_cons, List.take_zero, List.drop_succ_cons] at h0 h1
  rw [List.getElem?_eq_getElem (by rw [hxl]; decide)] at h0 h1
  obtain ⟨ys, m', -, -, hl', hyl, hg⟩ := DataW.trod_struct Tryz.underlying36 h0
  have g0 : DataW.trod enc Tryz.prog w base spare held m' 22 (([c0, c1].drop 0).take (Tryz.prog.cellsOf 22)) = ys[0]? := hg 0 _ rfl
  have g1 : DataW.trod enc Tryz.prog w base spare held m' 22 (([c0, c1].drop 1).take (Tryz.prog.cellsOf 22)) = ys[1]? := hg 1 _ rfl
  rw [cells64] at g0 g1
  simp only [List.drop_zero, List.take_succ_cons, List.take_zero, List.drop_succ_cons] at g0 g1
  rw [List.getElem?_eq_getElem (by rw [hyl]; decide)] at g0 g1
  obtain ⟨a, e0, -, wa⟩ := DataW.trod_int Tryz.underlying22 g0
  obtain ⟨b, e1, -, wb⟩ := DataW.trod_int Tryz.underlying22 g1
  obtain ⟨c, e2, -, wc⟩ := DataW.trod_int Tryz.underlying3 h1
  simp only [List.cons.injEq, and_true] at e0 e1 e2
  obtain ⟨i, rfl, hi⟩ := wf_u64 wa
  obtain ⟨j, rfl, hj⟩ := wf_u64 wb
  exact ⟨i, j, c, by rw [e0, e1, e2], hi, hj, wc⟩
set_option maxRecDepth 100000 in
/-- A prefix by value. -/
theorem open_pfx {v : Value} {d : DataW H} {p : List MemPlace} (hv : Value.okWide Tryz.prog w r b0 38 v) (h : DataW.Trod enc Tryz.prog w base spare held 38 v d p) :
    ∃ (hi lo : Nat) (k : Int), v = .agg #[.int .u64 hi, .int .u64 lo, .int .i64 k] ∧ W64 hi ∧ W64 lo ∧ (Lit.int .i64 k).wf = true := by
  obtain ⟨cs, rfl, hsz⟩ := okWide_struct Tryz.underlying38 hv
  obtain ⟨m, hm⟩ := h
  obtain ⟨hi, lo, k, e, h1, h2, h3⟩ := open_pfx_cells hm
  refine ⟨hi, lo, k, ?_, h1, h2, h3⟩
  obtain ⟨l⟩ := cs
  have e' : l = _ := e
  rw [e']
end
end Go.Proofs.YtoihkbanmnagkaaGreat
/-
  A slice that comes in as an argument, its elements of one or more cells: its rows as a list, at an address in old memory. No condition but those that stand in each.
-/
set_option linter.unusedSimpArgs false
set_option linter.unusedVariables false
namespace Go.Proofs.YtoihkbanmnagkaaGreat
open Go.ChangeShapes Go.WideShapes Go.ChangeAt Go.RowKit Go.Joins Go.Deep M

/-- The elements L, each of k cells, lie at p. -/
def RowA {α : Type} (k : Nat) (cells : α → List Value) (w : World) (p : Option Addr) (L : List α) : Prop :=
  L = [] ∨ ∃ g o, p = some ⟨g, o, none⟩ ∧ g < w.heap.size ∧ ∀ (i : Nat) (hi : i < L.length) (j : Nat) (u : Value), (cells L[i])[j]? = some u → w.cell? ⟨g, o + i * k + j, none⟩ = some u
theorem RowA.below {α : Type} {k : Nat} {cells : α → List Value} {w w' : World} {p : Option Addr} {L : List α} (h : RowA k cells w p L) (hb : Below w.heap.size w w') : RowA k cells w' p L := by
  rcases h with h | ⟨g, o, e, hg, hc⟩
  · exact .inl h
  · exact .inr ⟨g, o, e, Nat.lt_of_lt_of_le hg hb.size, fun i hi j u hu => (hb.cell (p := ⟨g, o + i * k + j, none⟩) hg).trans (hc i hi j u hu)⟩
theorem RowA.at {α : Type} {k : Nat} {cells : α → List Value} {w : World} {p : Option Addr} {L : List α} (h : RowA k cells w p L) {i : Nat} (hi : i < L.length) :
    ∃ g o, p = some ⟨g, o, none⟩ ∧ g < w.heap.size ∧ ∀ (j : Nat) (u : Value), (cells L[i])[j]? = some u → w.cell? ⟨g, o + i * k + j, none⟩ = some u := by
  rcases h with h | ⟨g, o, e, hg, hc⟩
  · subst h
    simp at hi
  · exact ⟨g, o, e, hg, fun j u hu => hc i hi j u hu⟩
section
variable {H : Type} {enc : TypeId × Value → H} {P : Program} {w : World} {base : Nat} {spare : Nat → Bool} {held : Bool} {r : Reach} {b0 : Nat}
theorem open_elems {α : Type} [Inhabited α] {t e : TypeId} {k : Nat} {cells : α → List Value} {good : α → Prop} (ht : P.underlying t = some (.slice e)) (hC : P.cellsOf e = k) (hk : 0 < k) (hcell : ∀ a, good a → 0 < (cells a).length)
    (elem : ∀ n cs x, DataW.trod enc P w base spare held n e cs = some x → ∃ a, cs = cells a ∧ good a)
    {v : Value} {d : DataW H} {p : List MemPlace} (hv : Value.okWide P w r b0 t v) (h : DataW.Trod enc P w base spare held t v d p) :
    ∃ (q : Option Addr) (c : Nat) (L : List α), v = .slice q L.length c ∧ RowA k cells w q L ∧ (∀ a ∈ L, good a) ∧ L.length ≤ maxLen := by
  obtain ⟨q, len, c, rfl⟩ := okWide_slice ht hv
  obtain ⟨fuel, hf⟩ := h
  rcases open_slice ht hf with ⟨h0, -⟩ | ⟨a, len', cap, m, n, D, Pl, hcs, -, hl, hm, hmm, -, hx⟩
  · simp only [Value.cells, List.cons.injEq, Value.slice.injEq, and_true] at h0
    obtain ⟨rfl, rfl, rfl⟩ := h0
    exact ⟨none, 0, [], rfl, .inl rfl, by simp, by simp⟩
  · simp only [Value.cells, List.cons.injEq, Value.slice.injEq, and_true] at hcs
    obtain ⟨rfl, rfl, rfl⟩ := hcs
    have hlm : len ≤ m := by
      rw [hmm]
      split <;> omega
    obtain ⟨V, hV⟩ := choose_lt (α := α) (n := len) (p := fun i x => good x ∧ ∀ (j : Nat) (u : Value), (cells x)[j]? = some u → w.cell? (a.add (i * k + j)) = some u) (fun i hi => by
      obtain ⟨cs', h1, h2⟩ := hx i (by omega)
      obtain ⟨x, rfl, hg⟩ := elem _ _ _ h2
      refine ⟨x, hg, fun j u hu => ?_⟩
      obtain ⟨_, hlen, hat⟩ := World.cells?_some h1
      rw [hC] at hat hlen
      have hj : j < k := by
        have := (List.getElem?_eq_some_iff.1 hu).1
        omega
      have := hat j hj
      rw [← hu, ← this, Go.Deep.add_add])
    have hL : ((List.range len).map V).length = len := by simp
    refine ⟨some a, c, (List.range len).map V, by rw [hL], ?_, ?_, by rw [hL]; omega⟩
    · by_cases h0 : len = 0
      · subst h0
        exact .inl rfl
      · right
        obtain ⟨g, o, spot⟩ := a
        have hw0 := hcell _ (hV 0 (by omega)).1
        have h00 := (hV 0 (by omega)).2 0 _ (List.getElem?_eq_getElem hw0)
        rw [Nat.zero_mul, Nat.zero_add] at h00
        have hspot : spot = none := by simpa [Addr.add] using World.cell?_spot h00
        subst hspot
        refine ⟨g, o, rfl, ?_, fun i hi j u hu => ?_⟩
        · have := World.block_lt_of_cell? w _ h00
          simpa [Addr.add] using this
        · rw [hL] at hi
          have := (hV i hi).2 j u (by simpa using hu)
          rw [show (⟨g, o, none⟩ : Addr).add (i * k + j) = ⟨g, o + i * k + j, none⟩ by unfold Addr.add; split <;> simp_all <;> omega] at this
          exact this
    · intro x hx
      rw [List.mem_map] at hx
      obtain ⟨i, hi, rfl⟩ := hx
      exact (hV i (List.mem_range.1 hi)).1
end
end Go.Proofs.YtoihkbanmnagkaaGreat
/-
  The calls that the laws of chapter 12 make, as they come in: rows of ways, values and keys. No condition.
-/
set_option linter.unusedSimpArgs false
set_option linter.unusedVariables false
namespace Go.Proofs.YtoihkbanmnagkaaGreat
open Go.ChangeShapes Go.WideShapes Go.ChangeAt Go.RowKit Go.Joins Go.Deep M

/-- A call: its way, and the route. -/
def act12 (a : Int × Rt) : List Value := [.int .i64 a.1, .int .i64 a.2.v, .int .u64 (a.2.k.h : Int), .int .u64 (a.2.k.l : Int), .int .i64 a.2.k.n]
theorem RowA.act12 {w : World} {p : Option Addr} {T : List (Int × Rt)} (h : RowA 5 act12 w p T) {i : Nat} (hi : i < T.length) : ∃ g o, p = some ⟨g, o, none⟩ ∧ g < w.heap.size ∧
    w.cell? ⟨g, o + i * 5, none⟩ = some (.int .i64 T[i].1) ∧ w.cell? ⟨g, o + i * 5 + 1, none⟩ = some (.int .i64 T[i].2.v) ∧ w.cell? ⟨g, o + i * 5 + 2, none⟩ = some (.int .u64 (T[i].2.k.h : Int)) ∧ w.cell? ⟨g, o + i * 5 + 3, none⟩ = some (.int .u64 (T[i].2.k.l : Int)) ∧ w.cell? ⟨g, o + i * 5 + 4, none⟩ = some (.int .i64 T[i].2.k.n) := by
  rcases h with h | ⟨g, o, e, hg, hc⟩
  · rw [h] at hi
    simp at hi
  · exact ⟨g, o, e, hg, hc i hi 0 _ rfl, hc i hi 1 _ rfl, hc i hi 2 _ rfl, hc i hi 3 _ rfl, hc i hi 4 _ rfl⟩
section
variable {H : Type} {enc : TypeId × Value → H} {w : World} {base : Nat} {spare : Nat → Bool} {held : Bool} {r : Reach} {b0 : Nat}
end
end Go.Proofs.YtoihkbanmnagkaaGreat
/-
  CuckooKeeps as a walk: it hands back true, for every input. No condition but that the seed is a word of 64 bits, the count a whole number of 64 bits, and that the row of calls lies in old memory.
-/
set_option linter.unusedSimpArgs false
set_option linter.unusedVariables false
namespace Go.Proofs.YtoihkbanmnagkaaGreat
open Go.RowKit Go.Sort M

theorem outS_len : ∀ (L : List Rt) (k : Ky), (keysR L).Nodup → (outS L k).length + (if k ∈ keysR L then 1 else 0) = L.length
  | [], k, _ => by simp [outS, keysR]
  | a :: L, k, h => by
    have h1 : a.k ∉ keysR L ∧ (keysR L).Nodup := by
      unfold keysR at *
      rw [List.map_cons, List.nodup_cons] at h
      exact h
    have ih := outS_len L k h1.2
    by_cases e : a.k = k
    · have e1 : outS (a :: L) k = outS L k := by unfold outS; rw [List.filter_cons, if_neg (by simp [e])]
      have e2 : k ∈ keysR (a :: L) := by unfold keysR; simp [e]
      have e3 : k ∉ keysR L := by rw [← e]; exact h1.1
      rw [e1, if_pos e2, List.length_cons]
      rw [if_neg e3] at ih
      omega
    · have e1 : outS (a :: L) k = a :: outS L k := by unfold outS; rw [List.filter_cons, if_pos (by simp [e])]
      have e2 : k ∈ keysR (a :: L) ↔ k ∈ keysR L := by unfold keysR; simp [Ne.symm e]
      rw [e1, List.length_cons, List.length_cons]
      by_cases hm : k ∈ keysR L
      · rw [if_pos (e2.2 hm)]
        rw [if_pos hm] at ih
        omega
      · rw [if_neg (fun x => hm (e2.1 x))]
        rw [if_neg hm] at ih
        omega
theorem Kept.nodup {T : Tab} {N : List Rt} (H : Kept T N) : (keysR (contT T)).Nodup := (keysR_perm H.all).nodup_iff.2 H.sort.nodup
theorem Kept.del_len {T : Tab} {N : List Rt} (H : Kept T N) (k : Ky) : (if (delT T k).2 = true then ((contT T).length : Int) - 1 else ((contT T).length : Int)) = ((contT (delT T k).1).length : Int) := by
  have h := delT_ok H.inv k
  have h1 := h.2.1.length_eq
  have h2 := outS_len (contT T) k H.nodup
  by_cases e : (delT T k).2 = true
  · rw [if_pos e]
    rw [if_pos (h.2.2.1 e)] at h2
    omega
  · rw [if_neg e]
    rw [if_neg (fun x => e (h.2.2.2 x))] at h2
    omega
theorem into_len {N : List Rt} (r : Rt) (h : Sorted N) : (intoS N r).length ≤ N.length + 1 := by
  rw [(intoS_perm r h).length_eq, List.length_cons]
  have : (outS N r.k).length ≤ N.length := List.length_filter_le _ _
  omega
theorem outS_le (N : List Rt) (k : Ky) : (outS N k).length ≤ N.length := List.length_filter_le _ _
theorem del_B (T : Tab) (k : Ky) : (delT T k).1.B.length = T.B.length := by
  unfold delT
  split
  · simp [Tab.set]
  · split
    · simp [Tab.set]
    · rfl
theorem Seat.del {P : Nat → Prop} (t : Nat) (T : Tab) {N : List Rt} (k : Ky) (w : World) (H : Seat P w t T) (HK : Kept T N) (hk : k.good) (hfew : (contT T).length < 262144) (hP : ∀ k, w.heap.size ≤ k → P k) :
    Calls Tryz.prog 47 #[.pointer (some ⟨t, 0, none⟩), kyV k] w fun e w' => e = .returned (.bool (delT T k).2) ∧ Seat P w' t (delT T k).1 ∧ Touch P w w' := by
  obtain ⟨g, v, h, hp⟩ := H
  have hst := st_le T
  refine (delete12_any t g v T _ k w h HK.inv.num hk (by omega) (by omega) HK.inv.sort (by omega)).mono ?_
  rintro e w' ⟨rfl, g', v', h', ht, hs⟩
  rw [HK.del_len] at h'
  refine ⟨rfl, ⟨g', v', h', fun k hk' => ?_⟩, ht.mono fun k _ hk => hp k hk⟩
  by_cases e : k < w.heap.size
  · exact hp k (hs k hk' e)
  · exact hP k (by omega)
theorem Seat.all {P : Nat → Prop} (t : Nat) (T : Tab) {N : List Rt} (w : World) (H : Seat P w t T) (HK : Kept T N) (hfew : (contT T).length < 262144) :
    Calls Tryz.prog 39 #[.pointer (some ⟨t, 0, none⟩)] w fun e w' => ∃ p c, e = .returned (.slice p N.length c) ∧ Row w' p (rcs N) ∧ Below w.heap.size w w' := by
  obtain ⟨g, v, h, hp⟩ := H
  have hst := st_le T
  refine (all12_any t g v T _ w h HK.inv.num (by omega) HK.nodup).mono ?_
  rintro e w' ⟨p, c, M, rfl, hr, m1, m2, hb⟩
  have := HK.sorted m2 m1
  subst this
  exact ⟨p, c, rfl, hr, hb⟩
/-- The table and the law's own row, each in blocks of its own. -/
structure KeepsP (w wr : World) (t : Nat) (T : Tab) (N : List Rt) (vn : Value) : Prop where
  seat : Seat (fun k => w.heap.size ≤ k ∧ vn.ownBlock ≠ some k) wr t T
  own : wr.ownsRow w.heap.size 58 4 vn N.length (rcs N)
  below : Below w.heap.size w wr
theorem KeepsP.quiet {w wr wx : World} {t : Nat} {T : Tab} {N : List Rt} {vn : Value} (H : KeepsP w wr t T N vn) (hb : Below wr.heap.size wr wx) : KeepsP w wx t T N vn := ⟨H.seat.below hb, own_below H.own hb, H.below.trans (hb.mono H.below.size)⟩
theorem KeepsP.turn {w wr wx : World} {t : Nat} {T T' : Tab} {N : List Rt} {vn : Value} (H : KeepsP w wr t T N vn) (hs : Seat (fun k => w.heap.size ≤ k ∧ vn.ownBlock ≠ some k) wx t T') (ht : Touch (fun k => w.heap.size ≤ k ∧ vn.ownBlock ≠ some k) wr wx) : KeepsP w wx t T' N vn :=
  ⟨hs, Touch.own H.own ht (fun j e hj => hj.2 e), H.below.trans (ht.below H.below.size fun k hk => hk.1)⟩
theorem KeepsP.row {w wr wx : World} {t : Nat} {T : Tab} {N M : List Rt} {vn : Value} {p : Option Addr} {c : Nat} (H : KeepsP w wr t T N vn) (ho : wx.ownsRow wr.heap.size 58 4 (.slice p M.length c) M.length (rcs M)) (hb : Below wr.heap.size wr wx) : KeepsP w wx t T M (.slice p M.length c) := by
  refine ⟨(H.seat.mono (Q := fun k => w.heap.size ≤ k ∧ (Value.slice p M.length c).ownBlock ≠ some k) fun k hk hp => ⟨hp.1, fun e => ?_⟩).below hb, own_le ho H.below.size, H.below.trans (hb.mono H.below.size)⟩
  have := (ho.lt k e).1
  omega
theorem KeepsP.new {w wr : World} {t : Nat} {T : Tab} {N : List Rt} {vn : Value} (H : KeepsP w wr t T N vn) : ∀ k, wr.heap.size ≤ k → w.heap.size ≤ k ∧ vn.ownBlock ≠ some k := by
  intro k hk
  exact ⟨Nat.le_trans H.below.size hk, fun e => by have := (H.own.lt k e).2; omega⟩
theorem stI_ge (L : List Rt) (k : Ky) : decide (0 ≤ stI L k) = decide (k ∈ keysR L) := by
  rw [decide_eq_decide, ← find_tells]
  unfold stI
  cases h : findS L k with
  | none => simp
  | some i => simp
end Go.Proofs.YtoihkbanmnagkaaGreat
/-
  What Add of the reference's filter does. No condition but those that stand in each.
-/
set_option linter.unusedSimpArgs false
set_option linter.unusedVariables false
namespace Go.Proofs.YtoihkbanmnagkaaGreat
open Go.RowKit Go.Sort M

set_option maxHeartbeats 2000000 in
theorem radd_any (lo hi f g s : Nat) (k : Int) (C : List Nat) (h l : Nat) (n : Int) (w : World) (H : RFil w lo hi f g s k C) (wh : W64 h) (wl : W64 l) :
    Calls Tryz.prog 32 #[.pointer (some ⟨f, 0, none⟩), .agg #[.int .u64 h, .int .u64 l, .int .i64 n]] w fun e w' => e = .returned (.tuple #[]) ∧
      RFil w' lo hi f g s k (addL C (plc s h l n k C.length)) ∧ Touch (In lo hi) w w' := by
  have HC := Lib.hid H
  have hP := rplaces_any s h l n k C.length H.ws wh wl (by have := H.len; omega)
  change GivesInts _ _ (plc s h l n k C.length) at hP
  have hL16 := plc_len s h l n k C.length
  have hin := plc_in s h l n k C.length
  have c0 := H.c0
  have c1 := H.c1
  have c2 := H.c2
  have hl := H.lt
  have hlen := H.len
  generalize plc s h l n k C.length = L at *
  have HP := Lib.hid hP
  have HIN := Lib.hid hin
  clear H hP hin
  go_enter Tryz.func32, Tryz.ntmps32
  go_wp2_with fail
  have kg := cell_grow
  refine region_tail 14 (by kernel_rfl) (by kernel_rfl) ?_
  simp only [List.take_succ_cons, List.take_zero, List.drop_succ_cons, List.drop_zero]
  repeat (any_goals (first | go_big_quiet_step (fail) | quiet_step (fail)))
  refine wpQuiet_nil ?_
  clear kg
  intro w0 hb0
  obtain ⟨hc0, hf0⟩ := bcell hb0
  have hw0 : Below w.heap.size w w0 := by
    refine Below.trans ?_ (hb0.mono ?_)
    · go_grown
    · first | omega | go_size
  go_wp2_with fail
  refine (HP.out _).mono ?_
  rintro e w1 ⟨p, c, rfl, hown, hb1⟩
  have hw1 := hw0.trans (hb1.mono hw0.size)
  have hown2 := own_le (B' := w.heap.size) hown hw0.size
  have H1 := HC.out.below hw1
  have htop := HC.out.top
  clear hown hb1 hb0 hw0 HP HC c0 c1 c2 hl
  go_wp2
  go_loopw [5] (fun i5 wr => ∃ i : Nat, i ≤ L.length ∧ i5 = .int .i64 i ∧ RFil wr lo hi f g s k (addL C (L.take i)) ∧ wr.ownsRow w.heap.size 3 1 (.slice p L.length c) L.length (ics L) ∧ Touch (In lo hi) w wr) (fun i5 _ => L.length - (intOf i5).toNat)
  case atStart => exact ⟨0, Nat.zero_le _, rfl, H1, hown2, Touch.quiet hw1⟩
  case round =>
    clear H1 hown2 hw1
    obtain ⟨i, hi2, rfl, H, hown, ht⟩ := hrel
    have hz := ht.size
    have hAL : (addL C (L.take i)).length = C.length := addL_len _ _
    by_cases hlt : i < L.length
    · skip
      obtain ⟨gr, orr, rfl, hgr, d0⟩ := (IRow.of_own hown).at hlt
      have hsn := addL_snoc C L i hlt
      have hlow := (hown.lt gr rfl).1
      obtain ⟨hx0, hx1⟩ := HIN.out i hlt
      generalize hx : L[i] = x at *
      generalize hA : addL C (L.take i) = A at *
      obtain ⟨j, rfl⟩ := Int.eq_ofNat_of_zero_le hx0
      have hja : j < A.length := by rw [hAL]; omega
      have c2 := H.c2
      have hl := H.lt
      have hr := H.lt2
      have q0 : wr.cell? ⟨g, j, none⟩ = some (.int .i64 (A[j] : Nat)) := (H.own.cellAt j (by omega)).trans (iC_at A j hja)
      have f0 := H.own.frozenAt j
      have hsm := H.small _ (List.getElem_mem hja)
      have HH := Lib.hid H
      have HO := Lib.hid hown
      have HSN := Lib.hid hsn
      clear hx hA hsn H hown
      by_cases h15 : A[j] = 15
      · have hfu := (up_full hja h15).2
        generalize A[j] = v at *
        have HFU := Lib.hid hfu
        have v15 : ¬ (v : Int) < 15 := by omega
        have n15 : ¬ v < 15 := by omega
        clear hfu h15 hsm
        go_wp2_with fail
        have kg := cell_grow
        refine region_whole (by kernel_rfl) (by kernel_rfl) ?_
        repeat (any_goals (first | go_big_quiet_step (fail) | quiet_step (fail)))
        refine wpQuiet_nil ?_
        clear kg
        intro w2 hb2
        obtain ⟨hc2, hf2⟩ := bcell hb2
        go_wp2
        go_roundw
        case rel => exact ⟨i + 1, by omega, by go_num, by rw [HSN.out, HFU.out]; exact HH.out.below hb2, own_below HO.out hb2, ht.trans (Touch.quiet hb2)⟩
        case measure => simp [intOf]; omega
      · have hmo := (up_more hja h15).2
        generalize A[j] = v at *
        have HMO := Lib.hid hmo
        have v15 : (v : Int) < 15 := by omega
        have n15 : v < 15 := by omega
        have HV1 : Hid (v + 1 ≤ 15) := Lib.hid (by omega)
        have HV2 : Hid ((v : Int) + 1 = ((v + 1 : Nat) : Int)) := Lib.hid (by omega)
        have s0 : wrap64 ((v : Int) + 1) = (v : Int) + 1 := IntWalk.wrap64_in _ (by omega)
        clear hmo h15
        go_wp2_with fail
        have kg := cell_grow
        refine region_whole (by kernel_rfl) (by kernel_rfl) ?_
        repeat (any_goals (first | go_big_quiet_step (fail) | quiet_step (fail)))
        refine wpQuiet_nil ?_
        clear kg
        intro w2 hb2
        obtain ⟨hc2, hf2⟩ := bcell hb2
        have d2 := (hc2 gr (orr + i) hgr).trans d0
        have c22 := (hc2 f 2 hl).trans c2
        have q2 := (hc2 g j hr).trans q0
        have f2 := (hf2 g j hr).trans f0
        have z2 := hb2.size
        have hl2 : f < w2.heap.size := by omega
        have hr2 : g < w2.heap.size := by omega
        have hgr2 : gr < w2.heap.size := by omega
        obtain ⟨HS, hts⟩ := (HH.out.below hb2).store j (v + 1) HV1.out ((v : Int) + 1) HV2.out
        have HO3 := Touch.own (own_below HO.out hb2) hts (fun j e hj => by cases e; exact absurd (show gr < hi from hj.2) (by omega))
        have ht3 := (ht.trans (Touch.quiet hb2)).trans hts
        rw [← HMO.out, ← HSN.out] at HS
        have HHS := Lib.hid HS
        have HHO := Lib.hid HO3
        have HHT := Lib.hid ht3
        clear HS HO3 ht3 hts d0 c2 q0 f0 hc2 hf2 hb2 HH HO ht hl hr hgr
        go_wp2_with fail
        go_region
        go_wp2
        go_roundw
        case rel => exact ⟨i + 1, by omega, by go_num, HHS.out.below (by go_grown), own_below HHO.out (by go_grown), HHT.out.trans (Touch.quiet (by go_grown))⟩
        case measure => simp [intOf]; omega
    · go_wp2
      go_end0
      rw [List.take_of_length_le (by omega)] at H
      exact ⟨rfl, H, ht⟩
end Go.Proofs.YtoihkbanmnagkaaGreat
/-
  What Remove of the reference's filter does. No condition but those that stand in each.
-/
set_option linter.unusedSimpArgs false
set_option linter.unusedVariables false
namespace Go.Proofs.YtoihkbanmnagkaaGreat
open Go.RowKit Go.Sort M

set_option maxHeartbeats 2000000 in
theorem rrem_any (lo hi f g s : Nat) (k : Int) (C : List Nat) (h l : Nat) (n : Int) (w : World) (H : RFil w lo hi f g s k C) (wh : W64 h) (wl : W64 l) :
    Calls Tryz.prog 34 #[.pointer (some ⟨f, 0, none⟩), .agg #[.int .u64 h, .int .u64 l, .int .i64 n]] w fun e w' => e = .returned (.tuple #[]) ∧
      RFil w' lo hi f g s k (remL C (plc s h l n k C.length)) ∧ Touch (In lo hi) w w' := by
  have HC := Lib.hid H
  have hP := rplaces_any s h l n k C.length H.ws wh wl (by have := H.len; omega)
  change GivesInts _ _ (plc s h l n k C.length) at hP
  have hL16 := plc_len s h l n k C.length
  have hin := plc_in s h l n k C.length
  have c0 := H.c0
  have c1 := H.c1
  have c2 := H.c2
  have hl := H.lt
  have hlen := H.len
  generalize plc s h l n k C.length = L at *
  have HP := Lib.hid hP
  have HIN := Lib.hid hin
  clear H hP hin
  go_enter Tryz.func34, Tryz.ntmps34
  go_wp2_with fail
  have kg := cell_grow
  refine region_tail 14 (by kernel_rfl) (by kernel_rfl) ?_
  simp only [List.take_succ_cons, List.take_zero, List.drop_succ_cons, List.drop_zero]
  repeat (any_goals (first | go_big_quiet_step (fail) | quiet_step (fail)))
  refine wpQuiet_nil ?_
  clear kg
  intro w0 hb0
  obtain ⟨hc0, hf0⟩ := bcell hb0
  have hw0 : Below w.heap.size w w0 := by
    refine Below.trans ?_ (hb0.mono ?_)
    · go_grown
    · first | omega | go_size
  go_wp2_with fail
  refine (HP.out _).mono ?_
  rintro e w1 ⟨p, c, rfl, hown, hb1⟩
  have hw1 := hw0.trans (hb1.mono hw0.size)
  have hown2 := own_le (B' := w.heap.size) hown hw0.size
  have H1 := HC.out.below hw1
  have htop := HC.out.top
  clear hown hb1 hb0 hw0 HP HC c0 c1 c2 hl
  go_wp2
  go_loopw [5] (fun i5 wr => ∃ i : Nat, i ≤ L.length ∧ i5 = .int .i64 i ∧ RFil wr lo hi f g s k (remL C (L.take i)) ∧ wr.ownsRow w.heap.size 3 1 (.slice p L.length c) L.length (ics L) ∧ Touch (In lo hi) w wr) (fun i5 _ => L.length - (intOf i5).toNat)
  case atStart => exact ⟨0, Nat.zero_le _, rfl, H1, hown2, Touch.quiet hw1⟩
  case round =>
    clear H1 hown2 hw1
    obtain ⟨i, hi2, rfl, H, hown, ht⟩ := hrel
    have hz := ht.size
    have hAL : (remL C (L.take i)).length = C.length := remL_len _ _
    by_cases hlt : i < L.length
    · skip
      obtain ⟨gr, orr, rfl, hgr, d0⟩ := (IRow.of_own hown).at hlt
      have hsn := remL_snoc C L i hlt
      have hlow := (hown.lt gr rfl).1
      obtain ⟨hx0, hx1⟩ := HIN.out i hlt
      generalize hx : L[i] = x at *
      generalize hA : remL C (L.take i) = A at *
      obtain ⟨j, rfl⟩ := Int.eq_ofNat_of_zero_le hx0
      have hja : j < A.length := by rw [hAL]; omega
      have c2 := H.c2
      have hl := H.lt
      have hr := H.lt2
      have q0 : wr.cell? ⟨g, j, none⟩ = some (.int .i64 (A[j] : Nat)) := (H.own.cellAt j (by omega)).trans (iC_at A j hja)
      have f0 := H.own.frozenAt j
      have hsm := H.small _ (List.getElem_mem hja)
      have HH := Lib.hid H
      have HO := Lib.hid hown
      have HSN := Lib.hid hsn
      clear hx hA hsn H hown
      by_cases h0 : A[j] = 0
      · have hfu := (down_stays hja (.inr h0)).2
        rw [h0] at q0
        have HFU := Lib.hid hfu
        clear hfu h0 hsm
        go_wp2_with fail
        have kg := cell_grow
        refine region_whole (by kernel_rfl) (by kernel_rfl) ?_
        repeat (any_goals (first | go_big_quiet_step (fail) | quiet_step (fail)))
        refine wpQuiet_nil ?_
        clear kg
        intro w2 hb2
        obtain ⟨hc2, hf2⟩ := bcell hb2
        go_wp2
        go_roundw
        case rel => exact ⟨i + 1, by omega, by go_num, by rw [HSN.out, HFU.out]; exact HH.out.below hb2, own_below HO.out hb2, ht.trans (Touch.quiet hb2)⟩
        case measure => simp [intOf]; omega
      by_cases h15 : A[j] = 15
      · have hfu := (down_stays hja (.inl h15)).2
        generalize A[j] = v at *
        have HFU := Lib.hid hfu
        have v0 : (0 : Int) < (v : Int) := by omega
        have v15 : ¬ (v : Int) < 15 := by omega
        have n15 : ¬ v < 15 := by omega
        have n0 : 0 < v := by omega
        clear hfu h15 hsm h0
        go_wp2_with fail
        have kg := cell_grow
        refine region_whole (by kernel_rfl) (by kernel_rfl) ?_
        repeat (any_goals (first | go_big_quiet_step (fail) | quiet_step (fail)))
        refine wpQuiet_nil ?_
        clear kg
        intro w2 hb2
        obtain ⟨hc2, hf2⟩ := bcell hb2
        go_wp2
        go_roundw
        case rel => exact ⟨i + 1, by omega, by go_num, by rw [HSN.out, HFU.out]; exact HH.out.below hb2, own_below HO.out hb2, ht.trans (Touch.quiet hb2)⟩
        case measure => simp [intOf]; omega
      · have hmo := (down_less hja h15 h0).2
        generalize A[j] = v at *
        have HMO := Lib.hid hmo
        have v0 : (0 : Int) < (v : Int) := by omega
        have v15 : (v : Int) < 15 := by omega
        have n15 : v < 15 := by omega
        have n0 : 0 < v := by omega
        have HV1 : Hid (v - 1 ≤ 15) := Lib.hid (by omega)
        have HV2 : Hid ((v : Int) - 1 = ((v - 1 : Nat) : Int)) := Lib.hid (by omega)
        have s0 : wrap64 ((v : Int) - 1) = (v : Int) - 1 := IntWalk.wrap64_in _ (by omega)
        clear hmo h15 h0
        go_wp2_with fail
        have kg := cell_grow
        refine region_whole (by kernel_rfl) (by kernel_rfl) ?_
        repeat (any_goals (first | go_big_quiet_step (fail) | quiet_step (fail)))
        refine wpQuiet_nil ?_
        clear kg
        intro w2 hb2
        obtain ⟨hc2, hf2⟩ := bcell hb2
        have d2 := (hc2 gr (orr + i) hgr).trans d0
        have c22 := (hc2 f 2 hl).trans c2
        have q2 := (hc2 g j hr).trans q0
        have f2 := (hf2 g j hr).trans f0
        have z2 := hb2.size
        have hl2 : f < w2.heap.size := by omega
        have hr2 : g < w2.heap.size := by omega
        have hgr2 : gr < w2.heap.size := by omega
        obtain ⟨HS, hts⟩ := (HH.out.below hb2).store j (v - 1) HV1.out ((v : Int) - 1) HV2.out
        have HO3 := Touch.own (own_below HO.out hb2) hts (fun j e hj => by cases e; exact absurd (show gr < hi from hj.2) (by omega))
        have ht3 := (ht.trans (Touch.quiet hb2)).trans hts
        rw [← HMO.out, ← HSN.out] at HS
        have HHS := Lib.hid HS
        have HHO := Lib.hid HO3
        have HHT := Lib.hid ht3
        clear HS HO3 ht3 hts d0 c2 q0 f0 hc2 hf2 hb2 HH HO ht hl hr hgr
        go_wp2_with fail
        go_region
        go_wp2
        go_roundw
        case rel => exact ⟨i + 1, by omega, by go_num, HHS.out.below (by go_grown), own_below HHO.out (by go_grown), HHT.out.trans (Touch.quiet (by go_grown))⟩
        case measure => simp [intOf]; omega
    · go_wp2
      go_end0
      rw [List.take_of_length_le (by omega)] at H
      exact ⟨rfl, H, ht⟩
end Go.Proofs.YtoihkbanmnagkaaGreat
/-
  What the reference's NewFilter makes. No condition but those that stand in each.
-/
set_option linter.unusedSimpArgs false
set_option linter.unusedVariables false
namespace Go.Proofs.YtoihkbanmnagkaaGreat
open Go.RowKit Go.Sort M

set_option maxHeartbeats 2000000 in
theorem rnew_bad (s : Nat) (k m : Int) (h : ¬ (1 ≤ k ∧ k ≤ 16 ∧ 1 ≤ m ∧ m ≤ 65536)) (w : World) :
    Calls Tryz.prog 25 #[.int .u64 s, .int .i64 k, .int .i64 m] w fun e w' => e = .returned (.tuple #[.pointer none, .int .i64 1]) ∧ Below w.heap.size w w' := by
  by_cases k0 : k < 1
  · go_enter Tryz.func25, Tryz.ntmps25
    go_wp2
    go_ret2
    exact ⟨rfl, by go_grown⟩
  · by_cases k1 : 16 < k
    · go_enter Tryz.func25, Tryz.ntmps25
      go_wp2
      go_ret2
      exact ⟨rfl, by go_grown⟩
    · by_cases m0 : m < 1
      · go_enter Tryz.func25, Tryz.ntmps25
        go_wp2
        go_ret2
        exact ⟨rfl, by go_grown⟩
      · have m1 : 65536 < m := by omega
        clear h
        go_enter Tryz.func25, Tryz.ntmps25
        go_wp2
        go_ret2
        exact ⟨rfl, by go_grown⟩
set_option maxHeartbeats 2000000 in
theorem rnew_any (s : Nat) (k : Int) (m : Nat) (ws : W64 s) (k0 : 1 ≤ k) (k1 : k ≤ 16) (m0 : 1 ≤ m) (m1 : m ≤ 65536) (w : World) :
    Calls Tryz.prog 25 #[.int .u64 s, .int .i64 k, .int .i64 m] w fun e w' => ∃ f g, e = .returned (.tuple #[.pointer (some ⟨f, 0, none⟩), .int .i64 0]) ∧ RFil w' w.heap.size w'.heap.size f g s k (List.replicate m 0) ∧ Below w.heap.size w w' := by
  have hmk := make_row (P := Tryz.prog) (t := 78) Tryz.underlying78 infoI m (by omega) (by unfold maxLen; omega)
  go_enter Tryz.func25, Tryz.ntmps25
  go_wp2
  go_ret2
  refine ⟨w.heap.size + 1, w.heap.size, by simp, ?_, by go_grown⟩
  refine ⟨by simp [go_sem], by simp [go_sem], by simp [go_sem], ?_, fun c hc => by rw [List.eq_of_mem_replicate hc]; omega, by simpa using m1, by simp, ⟨by omega, by simp⟩, by simp; omega, by omega, ws⟩
  rw [List.length_replicate, iC_zero]
  refine World.ownsRow.alloc ?_ _
  have := World.ownsRow_lit (base := w.heap.size) (e := 3) (size := 1) w (madeCells #[.int .i64 0] m) m (Nat.le_refl _) (by unfold maxLen; omega) (by simp [madeCells])
  exact this
end Go.Proofs.YtoihkbanmnagkaaGreat
