/-
  DirectNested, proved: for every input the law returns true, and each argument reads as it read before. No condition.
-/
import Derived.Test.YtcfioplbbbaeoaaOpenI
import Derived.Test.YtcfioplbbbaeoaaW5
import Derived.Test.YtcfioplbbbaeoaaL20d
import Derived.Test.YtcfioplbbbaeoaaW20
/-
  What the laws of chapter 14 are given, as it comes in: rows of calls, of routes, of marks. No condition.
-/
set_option linter.unusedSimpArgs false
set_option linter.unusedVariables false
namespace Go.Proofs.Ytcfioplbbbaeoaa
open Go.ChangeShapes Go.WideShapes Go.ChangeAt Go.RowKit Go.Joins Go.Deep M

/-- A call: whether it takes out, and the route. -/
def act14 (a : Bool × Rt) : List Value := [.bool a.1, .int .u64 (a.2.k.h : Int), .int .u64 (a.2.k.l : Int), .int .i64 a.2.k.n, .int .i64 a.2.v]
theorem RowA.act14 {w : World} {p : Option Addr} {T : List (Bool × Rt)} (h : RowA 5 act14 w p T) {i : Nat} (hi : i < T.length) : ∃ g o, p = some ⟨g, o, none⟩ ∧ g < w.heap.size ∧
    w.cell? ⟨g, o + i * 5, none⟩ = some (.bool T[i].1) ∧ w.cell? ⟨g, o + i * 5 + 1, none⟩ = some (.int .u64 (T[i].2.k.h : Int)) ∧ w.cell? ⟨g, o + i * 5 + 2, none⟩ = some (.int .u64 (T[i].2.k.l : Int)) ∧ w.cell? ⟨g, o + i * 5 + 3, none⟩ = some (.int .i64 T[i].2.k.n) ∧ w.cell? ⟨g, o + i * 5 + 4, none⟩ = some (.int .i64 T[i].2.v) := by
  rcases h with h | ⟨g, o, e, hg, hc⟩
  · rw [h] at hi
    simp at hi
  · exact ⟨g, o, e, hg, hc i hi 0 _ rfl, hc i hi 1 _ rfl, hc i hi 2 _ rfl, hc i hi 3 _ rfl, hc i hi 4 _ rfl⟩
theorem RowA.rts {w : World} {p : Option Addr} {L : List Rt} (h : RowA 4 rcell w p L) : Row w p (rcs L) := by
  rcases h with h | ⟨g, o, e, hg, hc⟩
  · subst h
    exact .inl rfl
  · refine .inr ⟨g, o, e, hg, fun j u hu => ?_⟩
    have hj : j < L.length * 4 := by
      have := (List.getElem?_eq_some_iff.1 hu).1
      rwa [rcs_len] at this
    have e1 : j / 4 * 4 + j % 4 = j := by omega
    have hlt : j / 4 < L.length := by omega
    rw [← e1, rcs_cell L (j / 4) (j % 4) hlt (by omega)] at hu
    have := hc (j / 4) hlt (j % 4) u hu
    rw [show o + j / 4 * 4 + j % 4 = o + j by omega] at this
    exact this
/-- Number k of a row of marks. -/
theorem RowA.mark {w : World} {p : Option Addr} {L : List Bool} (h : RowA 1 (fun x => [Value.bool x]) w p L) {i : Nat} (hi : i < L.length) : ∃ g o, p = some ⟨g, o, none⟩ ∧ g < w.heap.size ∧ w.cell? ⟨g, o + i, none⟩ = some (.bool L[i]) := by
  rcases h with h | ⟨g, o, e, hg, hc⟩
  · rw [h] at hi
    simp at hi
  · refine ⟨g, o, e, hg, ?_⟩
    have := hc i hi 0 _ rfl
    rwa [Nat.mul_one, Nat.add_zero] at this
section
variable {H : Type} {enc : TypeId × Value → H} {w : World} {base : Nat} {spare : Nat → Bool} {held : Bool} {r : Reach} {b0 : Nat}
set_option maxRecDepth 100000 in
theorem elemRt (n : Nat) (cs : List Value) (x : DataW H × List MemPlace) (h : DataW.trod enc Try.prog w base spare held n 43 cs = some x) : ∃ a : Rt, cs = rcell a ∧ a.k.good := by
  obtain ⟨xs, m, -, -, hl, hxl, hf⟩ := DataW.trod_struct Try.underlying43 h
  rw [show Try.prog.cellsOf 43 = 4 by kernel_rfl] at hl
  have h1 : DataW.trod enc Try.prog w base spare held m 41 ((cs.drop 0).take (Try.prog.cellsOf 41)) = xs[0]? := hf 0 _ rfl
  have h2 : DataW.trod enc Try.prog w base spare held m 3 ((cs.drop 3).take (Try.prog.cellsOf 3)) = xs[1]? := hf 1 _ rfl
  rw [show Try.prog.cellsOf 3 = 1 by kernel_rfl] at h2
  rw [cellsP] at h1
  obtain ⟨c0, c1, c2, c3, rfl⟩ : ∃ c0 c1 c2 c3, cs = [c0, c1, c2, c3] := by
    rcases cs with _ | ⟨c0, _ | ⟨c1, _ | ⟨c2, _ | ⟨c3, _ | ⟨c4, cs⟩⟩⟩⟩⟩ <;> simp at hl
    exact ⟨c0, c1, c2, c3, rfl⟩
  simp only [List.drop_zero, List.take_succ_cons, List.take_zero, List.drop_succ_cons] at h1 h2
  rw [List.getElem?_eq_getElem (by rw [hxl]; decide)] at h1 h2
  obtain ⟨hi, lo, k, e1, w1, w2, -⟩ := open_pfx_cells h1
  obtain ⟨b, e2, -, -⟩ := DataW.trod_int Try.underlying3 h2
  simp only [List.cons.injEq, and_true] at e1 e2
  obtain ⟨e1, e3, e4⟩ := e1
  exact ⟨⟨⟨hi, lo, k⟩, b⟩, by rw [e1, e2, e3, e4]; rfl, w1, w2⟩
set_option maxRecDepth 100000 in
theorem open_routes {v : Value} {d : DataW H} {p : List MemPlace} (hv : Value.okWide Try.prog w r b0 34 v) (h : DataW.Trod enc Try.prog w base spare held 34 v d p) :
    ∃ (q : Option Addr) (c : Nat) (L : List Rt), v = .slice q L.length c ∧ Row w q (rcs L) ∧ (∀ a ∈ L, a.k.good) ∧ L.length ≤ maxLen := by
  haveI : Inhabited Rt := ⟨⟨⟨0, 0, 0⟩, 0⟩⟩
  obtain ⟨q, c, L, e, hr, hg, hl⟩ := open_elems Try.underlying34 (show Try.prog.cellsOf 43 = 4 by kernel_rfl) (by decide) (fun _ _ => by simp [rcell]) elemRt hv h
  exact ⟨q, c, L, e, hr.rts, hg, hl⟩
end
end Go.Proofs.Ytcfioplbbbaeoaa
/-
  Slices of slices that come in as an argument: each row as a list, at an address in old memory. No condition but those that stand in each.
-/
set_option linter.unusedSimpArgs false
set_option linter.unusedVariables false
namespace Go.Proofs.Ytcfioplbbbaeoaa
open Go.ChangeShapes Go.WideShapes Go.ChangeAt Go.RowKit Go.Joins Go.Deep M

/-- A slice as it lies in a cell: its address, its capacity, its elements. -/
structure Sl (α : Type) where
  q : Option Addr
  c : Nat
  L : List α
def Sl.v {α : Type} (s : Sl α) : Value := .slice s.q s.L.length s.c
structure Sl.ok {α : Type} (s : Sl α) (k : Nat) (cells : α → List Value) (good : α → Prop) (w : World) : Prop where
  row : RowA k cells w s.q s.L
  good : ∀ a ∈ s.L, good a
  cap : s.L.length ≤ s.c
  nil : s.q = none → s.c = 0
  len : s.L.length ≤ maxLen
theorem Sl.ok.below {α : Type} {s : Sl α} {k : Nat} {cells : α → List Value} {good : α → Prop} {w w' : World} (h : s.ok k cells good w) (hb : Below w.heap.size w w') : s.ok k cells good w' := ⟨h.row.below hb, h.good, h.cap, h.nil, h.len⟩
section
variable {H : Type} {enc : TypeId × Value → H} {P : Program} {w : World} {base : Nat} {spare : Nat → Bool} {held : Bool} {r : Reach} {b0 : Nat}
theorem trod_elems {α : Type} [Inhabited α] {t e : TypeId} {k : Nat} {cells : α → List Value} {good : α → Prop} (ht : P.underlying t = some (.slice e)) (hC : P.cellsOf e = k) (hk : 0 < k) (hcell : ∀ a, good a → 0 < (cells a).length)
    (elem : ∀ n cs x, DataW.trod enc P w base spare held n e cs = some x → ∃ a, cs = cells a ∧ good a)
    {f : Nat} {cs : List Value} {x : DataW H × List MemPlace} (h : DataW.trod enc P w base spare held f t cs = some x) :
    ∃ s : Sl α, cs = [s.v] ∧ s.ok k cells good w := by
  rcases open_slice ht h with ⟨h0, -⟩ | ⟨a, len, cap, m, n, D, Pl, hcs, -, hl, hm, hmm, -, hx⟩
  · exact ⟨⟨none, 0, []⟩, h0, .inl rfl, by simp, by simp, fun _ => rfl, by simp⟩
  · have hlm : len ≤ m := by
      rw [hmm]
      split <;> omega
    obtain ⟨V, hV⟩ := choose_lt (α := α) (n := len) (p := fun i x => good x ∧ ∀ (j : Nat) (u : Value), (cells x)[j]? = some u → w.cell? (a.add (i * k + j)) = some u) (fun i hi => by
      obtain ⟨cs', h1, h2⟩ := hx i (by omega)
      obtain ⟨x, rfl, hg⟩ := elem _ _ _ h2
      refine ⟨x, hg, fun j u hu => ?_⟩
      obtain ⟨_, hlen, hat⟩ := World.cells?_some h1
      rw [hC] at hat hlen
      have hj : j < k := by
        have := (List.getElem?_eq_some_iff.1 hu).1
        omega
      have := hat j hj
      rw [← hu, ← this, Go.Deep.add_add])
    have hL : ((List.range len).map V).length = len := by simp
    refine ⟨⟨some a, cap, (List.range len).map V⟩, by rw [hcs]; unfold Sl.v; simp only; rw [hL], ?_, ?_, by rw [hL]; exact hl, fun e => by (cases e), by rw [hL]; omega⟩
    · by_cases h0 : len = 0
      · subst h0
        exact .inl rfl
      · right
        obtain ⟨g, o, spot⟩ := a
        have hw0 := hcell _ (hV 0 (by omega)).1
        have h00 := (hV 0 (by omega)).2 0 _ (List.getElem?_eq_getElem hw0)
        rw [Nat.zero_mul, Nat.zero_add] at h00
        have hspot : spot = none := by simpa [Addr.add] using World.cell?_spot h00
        subst hspot
        refine ⟨g, o, rfl, ?_, fun i hi j u hu => ?_⟩
        · have := World.block_lt_of_cell? w _ h00
          simpa [Addr.add] using this
        · rw [hL] at hi
          have := (hV i hi).2 j u (by simpa using hu)
          rw [show (⟨g, o, none⟩ : Addr).add (i * k + j) = ⟨g, o + i * k + j, none⟩ by unfold Addr.add; split <;> simp_all <;> omega] at this
          exact this
    · intro x hx
      rw [List.mem_map] at hx
      obtain ⟨i, hi, rfl⟩ := hx
      exact (hV i (List.mem_range.1 hi)).1
/-- A slice of slices. -/
theorem open_nest {α : Type} [Inhabited α] {t e e2 : TypeId} {k : Nat} {cells : α → List Value} {good : α → Prop} (ht : P.underlying t = some (.slice e)) (ht2 : P.underlying e = some (.slice e2)) (hC : P.cellsOf e = 1) (hC2 : P.cellsOf e2 = k) (hk : 0 < k) (hcell : ∀ a, good a → 0 < (cells a).length)
    (elem : ∀ n cs x, DataW.trod enc P w base spare held n e2 cs = some x → ∃ a, cs = cells a ∧ good a)
    {v : Value} {d : DataW H} {p : List MemPlace} (hv : Value.okWide P w r b0 t v) (h : DataW.Trod enc P w base spare held t v d p) :
    ∃ (q : Option Addr) (c : Nat) (T : List (Sl α)), v = .slice q T.length c ∧ RowA 1 (fun s => [s.v]) w q T ∧ (∀ s ∈ T, s.ok k cells good w) ∧ T.length ≤ maxLen :=
  haveI : Inhabited (Sl α) := ⟨⟨none, 0, []⟩⟩
  open_elems (cells := fun s : Sl α => [s.v]) (good := fun s => s.ok k cells good w) ht hC (by decide) (fun _ _ => by simp) (fun n cs x hx => trod_elems ht2 hC2 hk hcell elem hx) hv h
set_option maxRecDepth 100000 in
theorem open_rss {v : Value} {d : DataW H} {p : List MemPlace} (hv : Value.okWide Try.prog w r b0 22 v) (h : DataW.Trod enc Try.prog w base spare held 22 v d p) :
    ∃ (q : Option Addr) (c : Nat) (T : List (Sl Rt)), v = .slice q T.length c ∧ RowA 1 (fun s => [s.v]) w q T ∧ (∀ s ∈ T, s.ok 4 rcell (fun a => a.k.good) w) ∧ T.length ≤ maxLen :=
  haveI : Inhabited Rt := ⟨⟨⟨0, 0, 0⟩, 0⟩⟩
  open_nest Try.underlying22 Try.underlying34 (show Try.prog.cellsOf 34 = 1 by kernel_rfl) (show Try.prog.cellsOf 43 = 4 by kernel_rfl) (by decide) (fun _ _ => by simp [rcell]) elemRt hv h
end
/-- Row k of rows of routes. -/
theorem RowA.sl {α : Type} {w : World} {p : Option Addr} {T : List (Sl α)} (h : RowA 1 (fun s => [s.v]) w p T) {i : Nat} (hi : i < T.length) : ∃ g o, p = some ⟨g, o, none⟩ ∧ g < w.heap.size ∧ w.cell? ⟨g, o + i, none⟩ = some (.slice T[i].q T[i].L.length T[i].c) := by
  rcases h with h | ⟨g, o, e, hg, hc⟩
  · rw [h] at hi
    simp at hi
  · refine ⟨g, o, e, hg, ?_⟩
    have := hc i hi 0 _ rfl
    rwa [Nat.mul_one, Nat.add_zero] at this
theorem Sl.ok.rts {s : Sl Rt} {w : World} (h : s.ok 4 rcell (fun a => a.k.good) w) : Row w s.q (rcs s.L) := h.row.rts
end Go.Proofs.Ytcfioplbbbaeoaa
/-
  A slice that comes in as an argument: its length is at most its capacity. No condition but those that stand in each.
-/
set_option linter.unusedSimpArgs false
set_option linter.unusedVariables false
namespace Go.Proofs.Ytcfioplbbbaeoaa
open Go.ChangeShapes Go.WideShapes Go.ChangeAt Go.RowKit Go.Joins Go.Deep M

section
variable {H : Type} {enc : TypeId × Value → H} {P : Program} {w : World} {base : Nat} {spare : Nat → Bool} {held : Bool} {r : Reach} {b0 : Nat}
theorem open_cap {t e : TypeId} {q : Option Addr} {n c : Nat} {d : DataW H} {p : List MemPlace} (ht : P.underlying t = some (.slice e)) (hv : Value.okWide P w r b0 t (.slice q n c)) (h : DataW.Trod enc P w base spare held t (.slice q n c) d p) : n ≤ c := by
  obtain ⟨fuel, hf⟩ := h
  rcases open_slice ht hf with ⟨h0, -⟩ | ⟨a, len', cap, m, n', D, Pl, hcs, -, hl, hm, hmm, -, hx⟩
  · simp only [Value.cells, List.cons.injEq, Value.slice.injEq, and_true] at h0
    omega
  · simp only [Value.cells, List.cons.injEq, Value.slice.injEq, and_true] at hcs
    omega
/-- .. and a nil one has none. -/
theorem open_nil {t e : TypeId} {q : Option Addr} {n c : Nat} {d : DataW H} {p : List MemPlace} (ht : P.underlying t = some (.slice e)) (hv : Value.okWide P w r b0 t (.slice q n c)) (h : DataW.Trod enc P w base spare held t (.slice q n c) d p) (hq : q = none) : c = 0 := by
  obtain ⟨fuel, hf⟩ := h
  rcases open_slice ht hf with ⟨h0, -⟩ | ⟨a, len', cap, m, n', D, Pl, hcs, -, hl, hm, hmm, -, hx⟩
  · simp only [Value.cells, List.cons.injEq, Value.slice.injEq, and_true] at h0
    omega
  · simp only [Value.cells, List.cons.injEq, Value.slice.injEq, and_true] at hcs
    rw [hq] at hcs
    exact absurd hcs.1 (by simp)
end
end Go.Proofs.Ytcfioplbbbaeoaa
/-
  DirectNested, proved: for every input the law returns true, and each argument reads as it read before. No condition.
-/
set_option linter.unusedSimpArgs false
set_option linter.unusedVariables false
namespace Go.Proofs.Ytcfioplbbbaeoaa
open Go.ChangeShapes Go.WideShapes Go.ChangeAt Go.RowKit Go.Joins M

namespace lawDirectNested
set_option maxRecDepth 100000 in
theorem lifted (os : Os) (started : os.Started) (H : Type) (enc : TypeId × Value → H) :
    ReturnsInHanded {} Try.checked os 4 .any (Rows.directNestedSpec.pre6 enc Try.prog Try.f4 Rows.directNestedRow.domain false) (Rows.directNestedSpec.post enc Try.prog Try.f4 false true false false) := by
  refine returnsInHanded_of_change (C := Try.checked) (show ownKnob Try.prog.godebug = none by kernel_rfl) started (by kernel_rfl) Try.func4
    (ChangeSpec.witness6 (enc := enc) (C := Try.checked) false ⟨#[], #[.int .i64 0, .agg #[.int .u64 0, .int .u64 0], .slice none 0 0], []⟩ 8 (by kernel_rfl) (by kernel_rfl) (by kernel_rfl) (by kernel_rfl)) ?_
  intro W base args ds gs before hval0 hW hcnd _
  have hval : ∀ (j : Nat) t v, Try.f4.params[j]? = some t → args[j]? = some v → Value.okWide Try.prog W .any base t v := hval0
  have hW' := hW
  obtain ⟨p, q, hA0, hV, -, -, -⟩ := hW
  have hA : DataW.TrodAll enc Try.prog W 0 (fun _ => true) true Try.f4.params.toList args.toList ds p := hA0
  rw [Try.params4] at hA hval
  obtain ⟨v0, vs0, d0, ds0, p0, q0, hargs, rfl, rfl, t0, r0⟩ := trodAll_cons hA
  obtain ⟨v1, vs1, d1, ds1, p1, q1, rfl, rfl, rfl, t1, r1⟩ := trodAll_cons r0
  obtain ⟨v2, vs2, d2, ds2, p2, q2, rfl, rfl, rfl, t2, r2⟩ := trodAll_cons r1
  obtain ⟨rfl, rfl, rfl⟩ := trodAll_nil r2
  obtain rfl : args = #[v0, v1, v2] := by cases args; simp_all
  obtain ⟨n0, rfl, -, -, w0⟩ := open_int Try.underlying3 (hval 0 3 v0 rfl rfl) t0
  obtain ⟨h1, l1, rfl, a1, b1⟩ := open_addr (hval 1 25 v1 rfl rfl) t1
  obtain ⟨s2, k2, n2, rfl, a2, b2, w2⟩ := open_ints (hval 2 38 v2 rfl rfl) t2
  obtain ⟨rfl, -⟩ := trodVars_none hV
  refine (dirnest_walk dir_ok n0 h1 l1 s2 k2 n2 W a1 b1 a2 w2).mono fun e W' ⟨he, hg⟩ => ?_
  subst he
  exact ⟨_, rfl, law_post (by kernel_rfl) (by kernel_rfl) rfl Try.underlying4 rfl hW' rfl hg⟩
theorem holds : Rows.DirectNestedSaid :=
  OpenClaim.holds_of_wide 4 Try.f4 rfl rfl rfl rfl rfl rfl rfl ⟨rfl, rfl, rfl, rfl, rfl⟩ rfl rfl rfl rfl rfl (by kernel_rfl) Try.func4 (by kernel_rfl)
    (of_decide_eq_true (by kernel_rfl)) (by unfold Func.isWrapper; first | (rw [if_pos (by decide +kernel)]; kernel_rfl) | (rw [if_neg (by decide +kernel)]; exact ⟨rfl, rfl⟩))
    (fun os started H enc _ => lifted os started H enc)
#print axioms holds
end lawDirectNested
end Go.Proofs.Ytcfioplbbbaeoaa
