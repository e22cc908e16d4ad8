/-
  What the laws of chapter 14 are given, as it comes in: rows of calls, of routes, of marks. No condition.
-/
import Derived.Test.YtokjhoiacidofaaSlice
import Derived.Test.YtokjhoiacidofaaTouch0
set_option linter.unusedSimpArgs false
set_option linter.unusedVariables false
namespace Go.Proofs.Ytokjhoiacidofaa
open Go.ChangeShapes Go.WideShapes Go.ChangeAt Go.RowKit Go.Joins Go.Deep M

/-- A call: whether it takes out, and the route. -/
def act14 (a : Bool × Rt) : List Value := [.bool a.1, .int .u64 (a.2.k.h : Int), .int .u64 (a.2.k.l : Int), .int .i64 a.2.k.n, .int .i64 a.2.v]
theorem RowA.act14 {w : World} {p : Option Addr} {T : List (Bool × Rt)} (h : RowA 5 act14 w p T) {i : Nat} (hi : i < T.length) : ∃ g o, p = some ⟨g, o, none⟩ ∧ g < w.heap.size ∧
    w.cell? ⟨g, o + i * 5, none⟩ = some (.bool T[i].1) ∧ w.cell? ⟨g, o + i * 5 + 1, none⟩ = some (.int .u64 (T[i].2.k.h : Int)) ∧ w.cell? ⟨g, o + i * 5 + 2, none⟩ = some (.int .u64 (T[i].2.k.l : Int)) ∧ w.cell? ⟨g, o + i * 5 + 3, none⟩ = some (.int .i64 T[i].2.k.n) ∧ w.cell? ⟨g, o + i * 5 + 4, none⟩ = some (.int .i64 T[i].2.v) := by
  rcases h with h | ⟨g, o, e, hg, hc⟩
  · rw [h] at hi
    simp at hi
  · exact ⟨g, o, e, hg, hc i hi 0 _ rfl, hc i hi 1 _ rfl, hc i hi 2 _ rfl, hc i hi 3 _ rfl, hc i hi 4 _ rfl⟩
theorem RowA.rts {w : World} {p : Option Addr} {L : List Rt} (h : RowA 4 rcell w p L) : Row w p (rcs L) := by
  rcases h with h | ⟨g, o, e, hg, hc⟩
  · subst h
    exact .inl rfl
  · refine .inr ⟨g, o, e, hg, fun j u hu => ?_⟩
    have hj : j < L.length * 4 := by
      have := (List.getElem?_eq_some_iff.1 hu).1
      rwa [rcs_len] at this
    have e1 : j / 4 * 4 + j % 4 = j := by omega
    have hlt : j / 4 < L.length := by omega
    rw [← e1, rcs_cell L (j / 4) (j % 4) hlt (by omega)] at hu
    have := hc (j / 4) hlt (j % 4) u hu
    rw [show o + j / 4 * 4 + j % 4 = o + j by omega] at this
    exact this
/-- Number k of a row of marks. -/
theorem RowA.mark {w : World} {p : Option Addr} {L : List Bool} (h : RowA 1 (fun x => [Value.bool x]) w p L) {i : Nat} (hi : i < L.length) : ∃ g o, p = some ⟨g, o, none⟩ ∧ g < w.heap.size ∧ w.cell? ⟨g, o + i, none⟩ = some (.bool L[i]) := by
  rcases h with h | ⟨g, o, e, hg, hc⟩
  · rw [h] at hi
    simp at hi
  · refine ⟨g, o, e, hg, ?_⟩
    have := hc i hi 0 _ rfl
    rwa [Nat.mul_one, Nat.add_zero] at this
section
variable {H : Type} {enc : TypeId × Value → H} {w : World} {base : Nat} {spare : Nat → Bool} {held : Bool} {r : Reach} {b0 : Nat}
set_option maxRecDepth 100000 in
theorem elem14 (n : Nat) (cs : List Value) (x : DataW H × List MemPlace) (h : DataW.trod enc Try.prog w base spare held n 35 cs = some x) : ∃ a : Bool × Rt, cs = act14 a ∧ a.2.k.good := by
  obtain ⟨xs, m, -, -, hl, hxl, hf⟩ := DataW.trod_struct Try.underlying35 h
  rw [show Try.prog.cellsOf 35 = 5 by kernel_rfl] at hl
  have h0 : DataW.trod enc Try.prog w base spare held m 4 ((cs.drop 0).take (Try.prog.cellsOf 4)) = xs[0]? := hf 0 _ rfl
  have h1 : DataW.trod enc Try.prog w base spare held m 27 ((cs.drop 1).take (Try.prog.cellsOf 27)) = xs[1]? := hf 1 _ rfl
  have h2 : DataW.trod enc Try.prog w base spare held m 3 ((cs.drop 4).take (Try.prog.cellsOf 3)) = xs[2]? := hf 2 _ rfl
  rw [show Try.prog.cellsOf 4 = 1 by kernel_rfl] at h0
  rw [show Try.prog.cellsOf 3 = 1 by kernel_rfl] at h2
  rw [cellsP] at h1
  obtain ⟨c0, c1, c2, c3, c4, rfl⟩ : ∃ c0 c1 c2 c3 c4, cs = [c0, c1, c2, c3, c4] := by
    rcases cs with _ | ⟨c0, _ | ⟨c1, _ | ⟨c2, _ | ⟨c3, _ | ⟨c4, _ | ⟨c5, cs⟩⟩⟩⟩⟩⟩ <;> simp at hl
    exact ⟨c0, c1, c2, c3, c4, rfl⟩
  simp only [List.drop_zero, List.take_succ_cons, List.take_zero, List.drop_succ_cons] at h0 h1 h2
  rw [List.getElem?_eq_getElem (by rw [hxl]; decide)] at h0 h1 h2
  obtain ⟨a, e0, -⟩ := DataW.trod_bool Try.underlying4 h0
  obtain ⟨hi, lo, k, e1, w1, w2, -⟩ := open_pfx_cells h1
  obtain ⟨b, e2, -, -⟩ := DataW.trod_int Try.underlying3 h2
  simp only [List.cons.injEq, and_true] at e0 e1 e2
  obtain ⟨e1, e3, e4⟩ := e1
  exact ⟨(a, ⟨⟨hi, lo, k⟩, b⟩), by rw [e0, e1, e2, e3, e4]; rfl, w1, w2⟩
set_option maxRecDepth 100000 in
theorem open_acts14 {v : Value} {d : DataW H} {p : List MemPlace} (hv : Value.okWide Try.prog w r b0 22 v) (h : DataW.Trod enc Try.prog w base spare held 22 v d p) :
    ∃ (q : Option Addr) (c : Nat) (L : List (Bool × Rt)), v = .slice q L.length c ∧ RowA 5 act14 w q L ∧ (∀ a ∈ L, a.2.k.good) ∧ L.length ≤ maxLen :=
  haveI : Inhabited (Bool × Rt) := ⟨(false, ⟨⟨0, 0, 0⟩, 0⟩)⟩
  open_elems Try.underlying22 (show Try.prog.cellsOf 35 = 5 by kernel_rfl) (by decide) (fun _ _ => by simp [act14]) elem14 hv h
set_option maxRecDepth 100000 in
theorem elemRt (n : Nat) (cs : List Value) (x : DataW H × List MemPlace) (h : DataW.trod enc Try.prog w base spare held n 40 cs = some x) : ∃ a : Rt, cs = rcell a ∧ a.k.good := by
  obtain ⟨xs, m, -, -, hl, hxl, hf⟩ := DataW.trod_struct Try.underlying40 h
  rw [show Try.prog.cellsOf 40 = 4 by kernel_rfl] at hl
  have h1 : DataW.trod enc Try.prog w base spare held m 27 ((cs.drop 0).take (Try.prog.cellsOf 27)) = xs[0]? := hf 0 _ rfl
  have h2 : DataW.trod enc Try.prog w base spare held m 3 ((cs.drop 3).take (Try.prog.cellsOf 3)) = xs[1]? := hf 1 _ rfl
  rw [show Try.prog.cellsOf 3 = 1 by kernel_rfl] at h2
  rw [cellsP] at h1
  obtain ⟨c0, c1, c2, c3, rfl⟩ : ∃ c0 c1 c2 c3, cs = [c0, c1, c2, c3] := by
    rcases cs with _ | ⟨c0, _ | ⟨c1, _ | ⟨c2, _ | ⟨c3, _ | ⟨c4, cs⟩⟩⟩⟩⟩ <;> simp at hl
    exact ⟨c0, c1, c2, c3, rfl⟩
  simp only [List.drop_zero, List.take_succ_cons, List.take_zero, List.drop_succ_cons] at h1 h2
  rw [List.getElem?_eq_getElem (by rw [hxl]; decide)] at h1 h2
  obtain ⟨hi, lo, k, e1, w1, w2, -⟩ := open_pfx_cells h1
  obtain ⟨b, e2, -, -⟩ := DataW.trod_int Try.underlying3 h2
  simp only [List.cons.injEq, and_true] at e1 e2
  obtain ⟨e1, e3, e4⟩ := e1
  exact ⟨⟨⟨hi, lo, k⟩, b⟩, by rw [e1, e2, e3, e4]; rfl, w1, w2⟩
set_option maxRecDepth 100000 in
theorem open_routes {v : Value} {d : DataW H} {p : List MemPlace} (hv : Value.okWide Try.prog w r b0 33 v) (h : DataW.Trod enc Try.prog w base spare held 33 v d p) :
    ∃ (q : Option Addr) (c : Nat) (L : List Rt), v = .slice q L.length c ∧ Row w q (rcs L) ∧ (∀ a ∈ L, a.k.good) ∧ L.length ≤ maxLen := by
  haveI : Inhabited Rt := ⟨⟨⟨0, 0, 0⟩, 0⟩⟩
  obtain ⟨q, c, L, e, hr, hg, hl⟩ := open_elems Try.underlying33 (show Try.prog.cellsOf 40 = 4 by kernel_rfl) (by decide) (fun _ _ => by simp [rcell]) elemRt hv h
  exact ⟨q, c, L, e, hr.rts, hg, hl⟩
set_option maxRecDepth 100000 in
theorem open_bools {v : Value} {d : DataW H} {p : List MemPlace} (hv : Value.okWide Try.prog w r b0 49 v) (h : DataW.Trod enc Try.prog w base spare held 49 v d p) :
    ∃ (q : Option Addr) (c : Nat) (L : List Bool), v = .slice q L.length c ∧ RowA 1 (fun x => [Value.bool x]) w q L ∧ (∀ a ∈ L, True) ∧ L.length ≤ maxLen :=
  open_elems Try.underlying49 (show Try.prog.cellsOf 4 = 1 by kernel_rfl) (by decide) (fun _ _ => by simp) (fun n cs x h => by obtain ⟨a, e, -⟩ := DataW.trod_bool Try.underlying4 h; exact ⟨a, e, trivial⟩) hv h
end
end Go.Proofs.Ytokjhoiacidofaa
