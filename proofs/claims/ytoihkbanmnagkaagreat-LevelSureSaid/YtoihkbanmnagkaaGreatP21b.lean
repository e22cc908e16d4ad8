/-
  LevelSure, proved: for every input the law returns true, and each argument reads as it read before. No condition.
-/
import Derived.Test.YtoihkbanmnagkaaGreatW21d
import Derived.Test.YtoihkbanmnagkaaGreatRFil2d
import Derived.Test.YtoihkbanmnagkaaGreatRBkt
import Derived.Test.YtoihkbanmnagkaaGreatAppR
import Derived.Test.YtoihkbanmnagkaaGreatFil2b
/-
  The program's level, as chapter 21's laws ask it. No condition.
-/
set_option linter.unusedSimpArgs false
set_option linter.unusedVariables false
namespace Go.Proofs.YtoihkbanmnagkaaGreat
open Go Go.RowKit Go.Sort M

set_option maxRecDepth 100000 in
set_option maxHeartbeats 1000000 in
theorem pkeys21_any (w : World) (K : Nat → Prop) (t : Nat) (V : Lv) (N : List Rt) (H : LevP w K t V) (HV : LvOk V N) (hl : N.length ≤ 100000) :
    Calls Tryz.prog 14 #[.pointer (some ⟨t, 0, none⟩)] w fun e w' => ∃ p c, e = .returned (.slice p N.length c) ∧ Row w' p (rcs N) ∧ Below w.heap.size w w' := by
  obtain ⟨lo, hi, f, u, H⟩ := H
  have hcl := HV.kept.len
  have hall := fun (Q : Nat → Prop) W (h : Seat Q W u V.T) => Seat.all u V.T W h HV.kept (by omega)
  have HALL := Lib.hid hall
  have HB := Lib.hid H
  have d2 := H.c2
  have dl := H.lt
  clear H HV hl hcl hall
  go_enter Tryz.func14, Tryz.ntmps14
  go_wp2_with fail
  refine (HALL.out _ _ HB.out.tab).mono ?_
  rintro e w1 ⟨p, c, rfl, hr, hb⟩
  have HR := Lib.hid hr
  clear hr
  go_wp2
  go_ret
  exact ⟨p, c, rfl, HR.out, hb⟩
set_option maxRecDepth 100000 in
set_option maxHeartbeats 1000000 in
theorem pbits21_any (w : World) (K : Nat → Prop) (t : Nat) (V : Lv) (H : LevP w K t V) :
    Calls Tryz.prog 16 #[.pointer (some ⟨t, 0, none⟩)] w fun e w' => e = .returned (.int .i64 V.n) ∧ Below w.heap.size w w' := by
  obtain ⟨lo, hi, f, u, H⟩ := H
  have d0 := H.c0
  have dl := H.lt
  clear H
  go_enter Tryz.func16, Tryz.ntmps16
  go_wp2
  go_ret
  exact ⟨rfl, by go_grown⟩
theorem lev_ok : LevC LevP where
  bad := fun n k m b s w ws h => plevel_bad n k m b s w ws h
  new := fun n k s m b w ws h => plevel_new n k s m b w ws h
  turn := fun w K t V N p c L H HV hg hl _ hR hp => pturn21_any w K t V N p c L H HV hg hl hR hp
  look := fun w K t V N ah al H HV hl hn ha hb => plook21_any w K t V N ah al H HV hl hn ha hb
  keys := fun w K t V N H HV hl => pkeys21_any w K t V N H HV hl
  bits := fun w K t V H => pbits21_any w K t V H
  touched := fun _ _ _ _ _ _ H ht hn => H.touched ht hn
end Go.Proofs.YtoihkbanmnagkaaGreat
/-
  What the laws of chapter 14 are given, as it comes in: rows of calls, of routes, of marks. No condition.
-/
set_option linter.unusedSimpArgs false
set_option linter.unusedVariables false
namespace Go.Proofs.YtoihkbanmnagkaaGreat
open Go.ChangeShapes Go.WideShapes Go.ChangeAt Go.RowKit Go.Joins Go.Deep M

/-- A call: whether it takes out, and the route. -/
def act14 (a : Bool × Rt) : List Value := [.bool a.1, .int .u64 (a.2.k.h : Int), .int .u64 (a.2.k.l : Int), .int .i64 a.2.k.n, .int .i64 a.2.v]
theorem RowA.act14 {w : World} {p : Option Addr} {T : List (Bool × Rt)} (h : RowA 5 act14 w p T) {i : Nat} (hi : i < T.length) : ∃ g o, p = some ⟨g, o, none⟩ ∧ g < w.heap.size ∧
    w.cell? ⟨g, o + i * 5, none⟩ = some (.bool T[i].1) ∧ w.cell? ⟨g, o + i * 5 + 1, none⟩ = some (.int .u64 (T[i].2.k.h : Int)) ∧ w.cell? ⟨g, o + i * 5 + 2, none⟩ = some (.int .u64 (T[i].2.k.l : Int)) ∧ w.cell? ⟨g, o + i * 5 + 3, none⟩ = some (.int .i64 T[i].2.k.n) ∧ w.cell? ⟨g, o + i * 5 + 4, none⟩ = some (.int .i64 T[i].2.v) := by
  rcases h with h | ⟨g, o, e, hg, hc⟩
  · rw [h] at hi
    simp at hi
  · exact ⟨g, o, e, hg, hc i hi 0 _ rfl, hc i hi 1 _ rfl, hc i hi 2 _ rfl, hc i hi 3 _ rfl, hc i hi 4 _ rfl⟩
theorem RowA.rts {w : World} {p : Option Addr} {L : List Rt} (h : RowA 4 rcell w p L) : Row w p (rcs L) := by
  rcases h with h | ⟨g, o, e, hg, hc⟩
  · subst h
    exact .inl rfl
  · refine .inr ⟨g, o, e, hg, fun j u hu => ?_⟩
    have hj : j < L.length * 4 := by
      have := (List.getElem?_eq_some_iff.1 hu).1
      rwa [rcs_len] at this
    have e1 : j / 4 * 4 + j % 4 = j := by omega
    have hlt : j / 4 < L.length := by omega
    rw [← e1, rcs_cell L (j / 4) (j % 4) hlt (by omega)] at hu
    have := hc (j / 4) hlt (j % 4) u hu
    rw [show o + j / 4 * 4 + j % 4 = o + j by omega] at this
    exact this
/-- Number k of a row of marks. -/
theorem RowA.mark {w : World} {p : Option Addr} {L : List Bool} (h : RowA 1 (fun x => [Value.bool x]) w p L) {i : Nat} (hi : i < L.length) : ∃ g o, p = some ⟨g, o, none⟩ ∧ g < w.heap.size ∧ w.cell? ⟨g, o + i, none⟩ = some (.bool L[i]) := by
  rcases h with h | ⟨g, o, e, hg, hc⟩
  · rw [h] at hi
    simp at hi
  · refine ⟨g, o, e, hg, ?_⟩
    have := hc i hi 0 _ rfl
    rwa [Nat.mul_one, Nat.add_zero] at this
section
variable {H : Type} {enc : TypeId × Value → H} {w : World} {base : Nat} {spare : Nat → Bool} {held : Bool} {r : Reach} {b0 : Nat}
set_option maxRecDepth 100000 in
theorem elemRt (n : Nat) (cs : List Value) (x : DataW H × List MemPlace) (h : DataW.trod enc Tryz.prog w base spare held n 58 cs = some x) : ∃ a : Rt, cs = rcell a ∧ a.k.good := by
  obtain ⟨xs, m, -, -, hl, hxl, hf⟩ := DataW.trod_struct Tryz.underlying58 h
  rw [show Tryz.prog.cellsOf 58 = 4 by kernel_rfl] at hl
  have h1 : DataW.trod enc Tryz.prog w base spare held m 38 ((cs.drop 0).take (Tryz.prog.cellsOf 38)) = xs[0]? := hf 0 _ rfl
  have h2 : DataW.trod enc Tryz.prog w base spare held m 3 ((cs.drop 3).take (Tryz.prog.cellsOf 3)) = xs[1]? := hf 1 _ rfl
  rw [show Tryz.prog.cellsOf 3 = 1 by kernel_rfl] at h2
  rw [cellsP] at h1
  obtain ⟨c0, c1, c2, c3, rfl⟩ : ∃ c0 c1 c2 c3, cs = [c0, c1, c2, c3] := by
    rcases cs with _ | ⟨c0, _ | ⟨c1, _ | ⟨c2, _ | ⟨c3, _ | ⟨c4, cs⟩⟩⟩⟩⟩ <;> simp at hl
    exact ⟨c0, c1, c2, c3, rfl⟩
  simp only [List.drop_zero, List.take_succ_cons, List.take_zero, List.drop_succ_cons] at h1 h2
  rw [List.getElem?_eq_getElem (by rw [hxl]; decide)] at h1 h2
  obtain ⟨hi, lo, k, e1, w1, w2, -⟩ := open_pfx_cells h1
  obtain ⟨b, e2, -, -⟩ := DataW.trod_int Tryz.underlying3 h2
  simp only [List.cons.injEq, and_true] at e1 e2
  obtain ⟨e1, e3, e4⟩ := e1
  exact ⟨⟨⟨hi, lo, k⟩, b⟩, by rw [e1, e2, e3, e4]; rfl, w1, w2⟩
set_option maxRecDepth 100000 in
theorem open_routes {v : Value} {d : DataW H} {p : List MemPlace} (hv : Value.okWide Tryz.prog w r b0 47 v) (h : DataW.Trod enc Tryz.prog w base spare held 47 v d p) :
    ∃ (q : Option Addr) (c : Nat) (L : List Rt), v = .slice q L.length c ∧ Row w q (rcs L) ∧ (∀ a ∈ L, a.k.good) ∧ L.length ≤ maxLen := by
  haveI : Inhabited Rt := ⟨⟨⟨0, 0, 0⟩, 0⟩⟩
  obtain ⟨q, c, L, e, hr, hg, hl⟩ := open_elems Tryz.underlying47 (show Tryz.prog.cellsOf 58 = 4 by kernel_rfl) (by decide) (fun _ _ => by simp [rcell]) elemRt hv h
  exact ⟨q, c, L, e, hr.rts, hg, hl⟩
end
end Go.Proofs.YtoihkbanmnagkaaGreat
/-
  What the laws of chapter 21 are given, as it comes in: rows of changes, of addresses. No condition.
-/
set_option linter.unusedSimpArgs false
set_option linter.unusedVariables false
namespace Go.Proofs.YtoihkbanmnagkaaGreat
open Go.ChangeShapes Go.WideShapes Go.ChangeAt Go.RowKit Go.Joins Go.Deep M

theorem RowA.chs {w : World} {p : Option Addr} {L : List Ch} (h : RowA 5 ccell w p L) : Row w p (ccs L) := by
  rcases h with h | ⟨g, o, e, hg, hc⟩
  · subst h
    exact .inl rfl
  · refine .inr ⟨g, o, e, hg, fun j u hu => ?_⟩
    have hj : j < L.length * 5 := by
      have := (List.getElem?_eq_some_iff.1 hu).1
      rwa [ccs_len] at this
    have e1 : j / 5 * 5 + j % 5 = j := by omega
    have hlt : j / 5 < L.length := by omega
    rw [← e1, ccs_cell L (j / 5) (j % 5) hlt (by omega)] at hu
    have := hc (j / 5) hlt (j % 5) u hu
    rw [show o + j / 5 * 5 + j % 5 = o + j by omega] at this
    exact this
/-- An address. -/
def adrA (a : Nat × Nat) : List Value := [.int .u64 (a.1 : Int), .int .u64 (a.2 : Int)]
theorem RowA.adr {w : World} {p : Option Addr} {T : List (Nat × Nat)} (h : RowA 2 adrA w p T) {i : Nat} (hi : i < T.length) : ∃ g o, p = some ⟨g, o, none⟩ ∧ g < w.heap.size ∧ w.cell? ⟨g, o + i * 2, none⟩ = some (.int .u64 (T[i].1 : Int)) ∧ w.cell? ⟨g, o + i * 2 + 1, none⟩ = some (.int .u64 (T[i].2 : Int)) := by
  rcases h with h | ⟨g, o, e, hg, hc⟩
  · rw [h] at hi
    simp at hi
  · exact ⟨g, o, e, hg, hc i hi 0 _ rfl, hc i hi 1 _ rfl⟩
section
variable {H : Type} {enc : TypeId × Value → H} {w : World} {base : Nat} {spare : Nat → Bool} {held : Bool} {r : Reach} {b0 : Nat}
set_option maxRecDepth 100000 in
theorem elemCh (n : Nat) (cs : List Value) (x : DataW H × List MemPlace) (h : DataW.trod enc Tryz.prog w base spare held n 41 cs = some x) : ∃ a : Ch, cs = ccell a ∧ a.k.good := by
  obtain ⟨xs, m, -, -, hl, hxl, hf⟩ := DataW.trod_struct Tryz.underlying41 h
  rw [show Tryz.prog.cellsOf 41 = 5 by kernel_rfl] at hl
  have h1 : DataW.trod enc Tryz.prog w base spare held m 38 ((cs.drop 0).take (Tryz.prog.cellsOf 38)) = xs[0]? := hf 0 _ rfl
  have h2 : DataW.trod enc Tryz.prog w base spare held m 3 ((cs.drop 3).take (Tryz.prog.cellsOf 3)) = xs[1]? := hf 1 _ rfl
  have h3 : DataW.trod enc Tryz.prog w base spare held m 3 ((cs.drop 4).take (Tryz.prog.cellsOf 3)) = xs[2]? := hf 2 _ rfl
  rw [show Tryz.prog.cellsOf 3 = 1 by kernel_rfl] at h2 h3
  rw [cellsP] at h1
  obtain ⟨c0, c1, c2, c3, c4, rfl⟩ : ∃ c0 c1 c2 c3 c4, cs = [c0, c1, c2, c3, c4] := by
    rcases cs with _ | ⟨c0, _ | ⟨c1, _ | ⟨c2, _ | ⟨c3, _ | ⟨c4, _ | ⟨c5, cs⟩⟩⟩⟩⟩⟩ <;> simp at hl
    exact ⟨c0, c1, c2, c3, c4, rfl⟩
  simp only [List.drop_zero, List.take_succ_cons, List.take_zero, List.drop_succ_cons] at h1 h2 h3
  rw [List.getElem?_eq_getElem (by rw [hxl]; decide)] at h1 h2 h3
  obtain ⟨hi, lo, k, e1, w1, w2, -⟩ := open_pfx_cells h1
  obtain ⟨b, e2, -, -⟩ := DataW.trod_int Tryz.underlying3 h2
  obtain ⟨d, e5, -, -⟩ := DataW.trod_int Tryz.underlying3 h3
  simp only [List.cons.injEq, and_true] at e1 e2 e5
  obtain ⟨e1, e3, e4⟩ := e1
  exact ⟨⟨⟨hi, lo, k⟩, b, d⟩, by rw [e1, e2, e3, e4, e5]; rfl, w1, w2⟩
set_option maxRecDepth 100000 in
theorem open_changes {v : Value} {d : DataW H} {p : List MemPlace} (hv : Value.okWide Tryz.prog w r b0 23 v) (h : DataW.Trod enc Tryz.prog w base spare held 23 v d p) :
    ∃ (q : Option Addr) (c : Nat) (L : List Ch), v = .slice q L.length c ∧ Row w q (ccs L) ∧ (∀ a ∈ L, a.k.good) ∧ L.length ≤ maxLen := by
  haveI : Inhabited Ch := ⟨⟨⟨0, 0, 0⟩, 0, 0⟩⟩
  obtain ⟨q, c, L, e, hr, hg, hl⟩ := open_elems Tryz.underlying23 (show Tryz.prog.cellsOf 41 = 5 by kernel_rfl) (by decide) (fun _ _ => by simp [ccell]) elemCh hv h
  exact ⟨q, c, L, e, hr.chs, hg, hl⟩
set_option maxRecDepth 100000 in
theorem elemAdr (n : Nat) (cs : List Value) (x : DataW H × List MemPlace) (h : DataW.trod enc Tryz.prog w base spare held n 36 cs = some x) : ∃ a : Nat × Nat, cs = adrA a ∧ (W64 a.1 ∧ W64 a.2) := by
  obtain ⟨xs, m, -, -, hl, hxl, hf⟩ := DataW.trod_struct Tryz.underlying36 h
  rw [cellsA] at hl
  have h1 : DataW.trod enc Tryz.prog w base spare held m 22 ((cs.drop 0).take (Tryz.prog.cellsOf 22)) = xs[0]? := hf 0 _ rfl
  have h2 : DataW.trod enc Tryz.prog w base spare held m 22 ((cs.drop 1).take (Tryz.prog.cellsOf 22)) = xs[1]? := hf 1 _ rfl
  rw [cells64] at h1 h2
  obtain ⟨c0, c1, rfl⟩ : ∃ c0 c1, cs = [c0, c1] := by
    rcases cs with _ | ⟨c0, _ | ⟨c1, _ | ⟨c2, cs⟩⟩⟩ <;> simp at hl
    exact ⟨c0, c1, rfl⟩
  simp only [List.drop_zero, List.take_succ_cons, List.take_zero, List.drop_succ_cons] at h1 h2
  rw [List.getElem?_eq_getElem (by rw [hxl]; decide)] at h1 h2
  obtain ⟨a, e1, -, w1⟩ := DataW.trod_int Tryz.underlying22 h1
  obtain ⟨b, e2, -, w2⟩ := DataW.trod_int Tryz.underlying22 h2
  simp only [List.cons.injEq, and_true] at e1 e2
  obtain ⟨i, rfl, hi⟩ := wf_u64 w1
  obtain ⟨j, rfl, hj⟩ := wf_u64 w2
  exact ⟨(i, j), by rw [e1, e2]; rfl, hi, hj⟩
set_option maxRecDepth 100000 in
theorem open_addrs {v : Value} {d : DataW H} {p : List MemPlace} (hv : Value.okWide Tryz.prog w r b0 24 v) (h : DataW.Trod enc Tryz.prog w base spare held 24 v d p) :
    ∃ (q : Option Addr) (c : Nat) (L : List (Nat × Nat)), v = .slice q L.length c ∧ RowA 2 adrA w q L ∧ (∀ a ∈ L, W64 a.1 ∧ W64 a.2) ∧ L.length ≤ maxLen :=
  open_elems Tryz.underlying24 cellsA (by decide) (fun _ _ => by simp [adrA]) elemAdr hv h
end
end Go.Proofs.YtoihkbanmnagkaaGreat
/-
  LevelSure, proved: for every input the law returns true, and each argument reads as it read before. No condition.
-/
set_option linter.unusedSimpArgs false
set_option linter.unusedVariables false
namespace Go.Proofs.YtoihkbanmnagkaaGreat
open Go.ChangeShapes Go.WideShapes Go.ChangeAt Go.RowKit Go.Joins M

namespace lawLevelSure
set_option maxRecDepth 100000 in
theorem lifted (os : Os) (started : os.Started) (H : Type) (enc : TypeId × Value → H) :
    ReturnsInHanded {} Tryz.checked os 4 .any (Rows.levelSureSpec.pre6 enc Tryz.prog Tryz.f4 Rows.levelSureRow.domain false) (Rows.levelSureSpec.post enc Tryz.prog Tryz.f4 false true false false) := by
  refine returnsInHanded_of_change (C := Tryz.checked) (show ownKnob Tryz.prog.godebug = none by kernel_rfl) started (by kernel_rfl) Tryz.func4
    (ChangeSpec.witness6 (enc := enc) (C := Tryz.checked) false ⟨#[], #[.int .i64 0, .int .u64 0, .int .i64 0, .int .i64 0, .slice none 0 0, .agg #[.int .u64 0, .int .u64 0]], []⟩ 8 (by kernel_rfl) (by kernel_rfl) (by kernel_rfl) (by kernel_rfl)) ?_
  intro W base args ds gs before hval0 hW hcnd _
  have hval : ∀ (j : Nat) t v, Tryz.f4.params[j]? = some t → args[j]? = some v → Value.okWide Tryz.prog W .any base t v := hval0
  have hW' := hW
  obtain ⟨p, q, hA0, hV, -, -, -⟩ := hW
  have hA : DataW.TrodAll enc Tryz.prog W 0 (fun _ => true) true Tryz.f4.params.toList args.toList ds p := hA0
  rw [Tryz.params4] at hA hval
  obtain ⟨v0, vs0, d0, ds0, p0, q0, hargs, rfl, rfl, t0, r0⟩ := trodAll_cons hA
  obtain ⟨v1, vs1, d1, ds1, p1, q1, rfl, rfl, rfl, t1, r1⟩ := trodAll_cons r0
  obtain ⟨v2, vs2, d2, ds2, p2, q2, rfl, rfl, rfl, t2, r2⟩ := trodAll_cons r1
  obtain ⟨v3, vs3, d3, ds3, p3, q3, rfl, rfl, rfl, t3, r3⟩ := trodAll_cons r2
  obtain ⟨v4, vs4, d4, ds4, p4, q4, rfl, rfl, rfl, t4, r4⟩ := trodAll_cons r3
  obtain ⟨v5, vs5, d5, ds5, p5, q5, rfl, rfl, rfl, t5, r5⟩ := trodAll_cons r4
  obtain ⟨rfl, rfl, rfl⟩ := trodAll_nil r5
  obtain rfl : args = #[v0, v1, v2, v3, v4, v5] := by cases args; simp_all
  obtain ⟨n0, rfl, -, -, w0⟩ := open_int Tryz.underlying3 (hval 0 3 v0 rfl rfl) t0
  obtain ⟨m1, rfl, -, -, w1⟩ := open_int Tryz.underlying22 (hval 1 22 v1 rfl rfl) t1; obtain ⟨n1, rfl, a1⟩ := wf_u64 w1
  obtain ⟨n2, rfl, -, -, w2⟩ := open_int Tryz.underlying3 (hval 2 3 v2 rfl rfl) t2
  obtain ⟨n3, rfl, -, -, w3⟩ := open_int Tryz.underlying3 (hval 3 3 v3 rfl rfl) t3
  obtain ⟨s4, k4, n4, rfl, a4, b4, w4⟩ := open_changes (hval 4 23 v4 rfl rfl) t4
  obtain ⟨h5, l5, rfl, a5, b5⟩ := open_addr (hval 5 36 v5 rfl rfl) t5
  obtain ⟨rfl, -⟩ := trodVars_none hV
  refine (sure_walk lev_ok n0 n2 n3 n1 s4 k4 n4 h5 l5 W a1 a4 b4 a5 b5 w4).mono fun e W' ⟨he, hg⟩ => ?_
  subst he
  exact ⟨_, rfl, law_post (by kernel_rfl) (by kernel_rfl) rfl Tryz.underlying4 rfl hW' rfl hg⟩
theorem holds : Rows.LevelSureSaid :=
  OpenClaim.holds_of_wide 4 Tryz.f4 rfl rfl rfl rfl rfl rfl rfl ⟨rfl, rfl, rfl, rfl, rfl⟩ rfl rfl rfl rfl rfl (by kernel_rfl) Tryz.func4 (by kernel_rfl)
    (of_decide_eq_true (by kernel_rfl)) (by unfold Func.isWrapper; first | (rw [if_pos (by decide +kernel)]; kernel_rfl) | (rw [if_neg (by decide +kernel)]; exact ⟨rfl, rfl⟩))
    (fun os started H enc _ => lifted os started H enc)
#print axioms holds
end lawLevelSure
end Go.Proofs.YtoihkbanmnagkaaGreat
