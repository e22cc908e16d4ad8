/-
  From a law's walk to its given statement: what an argument that leaves all old memory alone reads as behind the call, and how an address, a prefix and a number are opened. No condition.
-/
import Derived.Test.YtlglppfkpieabaaW12i
import Derived.Test.YtlglppfkpieabaaW12j
import Derived.Test.YtlglppfkpieabaaM12i
import Derived.Test.YtlglppfkpieabaaRows
import Derived.WalkKit
import Derived.ProofKit
import Derived.OpenShut
import Derived.Carry
import Derived.Lib.SmallJoins
import Derived.ChangeMaps5
import Derived.Test.YtlglppfkpieabaaM1
/-
  A table as the given laws of chapter 12 hold it: its calls; the example. No condition but those that stand in each.
-/
set_option linter.unusedSimpArgs false
set_option linter.unusedVariables false
namespace Go.Proofs.Ytlglppfkpieabaa
open Go.RowKit Go.Sort M

/-- A table in memory, all of it in blocks that P allows. -/
def Seat (P : Nat → Prop) (w : World) (t : Nat) (T : Tab) : Prop := ∃ g v, CT w t g v T ((contT T).length : Int) ∧ ∀ k, Blk t g v k → P k
theorem Seat.below {P : Nat → Prop} {w w' : World} {t : Nat} {T : Tab} (H : Seat P w t T) (hb : Below w.heap.size w w') : Seat P w' t T := by
  obtain ⟨g, v, h, hp⟩ := H
  exact ⟨g, v, h.below hb, hp⟩
theorem Seat.lt {P : Nat → Prop} {w : World} {t : Nat} {T : Tab} (H : Seat P w t T) : t < w.heap.size := by
  obtain ⟨g, v, h, hp⟩ := H
  exact h.tb.tlt
theorem Seat.touched {P S : Nat → Prop} {w w' : World} {t : Nat} {T : Tab} (H : Seat P w t T) (ht : Touch S w w') (hn : ∀ k, P k → ¬ S k) : Seat P w' t T := by
  obtain ⟨g, v, h, hp⟩ := H
  exact ⟨g, v, h.touched ht (fun k hk => hn k (hp k hk)), hp⟩
theorem Seat.mono {P Q : Nat → Prop} {w : World} {t : Nat} {T : Tab} (H : Seat P w t T) (h : ∀ k, k < w.heap.size → P k → Q k) : Seat Q w t T := by
  obtain ⟨g, v, hc, hp⟩ := H
  exact ⟨g, v, hc, fun k hk => h k (hc.tb.blk k hk) (hp k hk)⟩
theorem Seat.new (s n : Nat) (w : World) (h1 : 1 ≤ n) (h2 : n ≤ 65536) :
    Calls Try.prog 8 #[.int .u64 (s : Int), .int .i64 (n : Int)] w fun e w' => ∃ t, e = .returned (.tuple #[.pointer (some ⟨t, 0, none⟩), .int .i64 0]) ∧ Seat (fun k => w.heap.size ≤ k) w' t (emptyT s n) ∧ Below w.heap.size w w' := by
  refine (new_any s n w h1 h2).mono ?_
  rintro e w' ⟨t, rfl, g, H, hb, ht, hg⟩
  refine ⟨t, rfl, ⟨g, _, by rw [empty_cont]; exact H, fun k hk => ?_⟩, hb⟩
  rcases hk with e | e | e
  · show _ ≤ k; rw [e]; exact ht
  · show _ ≤ k; rw [e]; exact hg
  · simp [Value.ownBlock] at e
theorem Seat.put {P : Nat → Prop} (t : Nat) (T : Tab) (r : Rt) (w : World) (H : Seat P w t T) (HI : Inv T) (hk : r.k.good) (hfew : (contT T).length < 262144) (hP : ∀ k, w.heap.size ≤ k → P k) :
    Calls Try.prog 13 #[.pointer (some ⟨t, 0, none⟩), kyV r.k, .int .i64 r.v] w fun e w' => e = .returned (.tuple #[]) ∧ Seat P w' t (putF 16 T r) ∧ Touch P w w' := by
  obtain ⟨g, v, h, hp⟩ := H
  have hlo := HI.lo
  refine (put_any 16 t g v T r w h HI hk hfew (by omega)).mono ?_
  rintro e w' ⟨rfl, g', v', h', ht, hs⟩
  refine ⟨rfl, ⟨g', v', h', fun k hk' => ?_⟩, ht.mono fun k _ hk => hp k hk⟩
  by_cases e : k < w.heap.size
  · exact hp k (hs k hk' e)
  · exact hP k (by omega)
theorem Seat.get {P : Nat → Prop} (t : Nat) (T : Tab) (k : Ky) (w : World) (H : Seat P w t T) (HI : Inv T) (hk : k.good) (hfew : (contT T).length < 262144) :
    Calls Try.prog 21 #[.pointer (some ⟨t, 0, none⟩), kyV k] w fun e w' => ∃ p c, e = .returned (.tuple #[.int .i64 ((getT T k).getD 0), .bool (getT T k).isSome, .slice p (readT T k).length c]) ∧ w'.ownsRow w.heap.size 3 1 (.slice p (readT T k).length c) (readT T k).length (ics (readT T k)) ∧ Below w.heap.size w w' := by
  obtain ⟨g, v, h, hp⟩ := H
  have := st_le T
  exact get12_any t g v T _ k w h HI.num hk HI.sort (by omega)
theorem Seat.len {P : Nat → Prop} (t : Nat) (T : Tab) (w : World) (H : Seat P w t T) :
    Calls Try.prog 20 #[.pointer (some ⟨t, 0, none⟩)] w fun e w' => e = .returned (.int .i64 ((contT T).length : Int)) ∧ Below w.heap.size w w' := by
  obtain ⟨g, v, h, hp⟩ := H
  exact len12_any t g v T _ w h
theorem Seat.size {P : Nat → Prop} (t : Nat) (T : Tab) (w : World) (H : Seat P w t T) :
    Calls Try.prog 15 #[.pointer (some ⟨t, 0, none⟩)] w fun e w' => e = .returned (.tuple #[.int .u64 (T.s : Int), .int .i64 (T.B.length : Int), .int .i64 (T.st.length : Int)]) ∧ Below w.heap.size w w' := by
  obtain ⟨g, v, h, hp⟩ := H
  exact size12_any t g v T _ w h
theorem num12_any (n : Int) : Gives Try.prog 10 #[.int .i64 n] (.int .i64 n) := by
  intro w
  go_enter Try.func10, Try.ntmps10
  go_wp2
  go_ret
  exact ⟨rfl, by go_grown⟩
theorem three_good : (⟨0, 0, 3⟩ : Ky).good := ⟨W64.mk (by decide), W64.mk (by decide)⟩
set_option maxRecDepth 100000 in
set_option maxHeartbeats 1000000 in
theorem alive12_any : Gives Try.prog 7 #[] (.bool true) := by
  intro w
  have HN := Lib.hid (num12_any 0)
  have hI : Inv (emptyT 1 2) := empty_inv (W64.mk (by decide)) (by decide) (by decide)
  have HP : ∀ t w1, w.heap.size ≤ w1.heap.size → Seat (fun k => w.heap.size ≤ k) w1 t (emptyT 1 2) → Calls Try.prog 13 #[.pointer (some ⟨t, 0, none⟩), .agg #[.int .u64 0, .int .u64 0, .int .i64 3], .int .i64 8] w1 fun e w' => e = .returned (.tuple #[]) ∧ Seat (fun k => w.heap.size ≤ k) w' t (putF 16 (emptyT 1 2) ⟨⟨0, 0, 3⟩, 8⟩) ∧ Touch (fun k => w.heap.size ≤ k) w1 w' :=
    fun t w1 hs H => Seat.put t (emptyT 1 2) ⟨⟨0, 0, 3⟩, 8⟩ w1 H hI three_good (by rw [empty_cont]; decide) (fun k hk => Nat.le_trans hs hk)
  have hM := alive12_math
  have hp := putF_ok 16 (emptyT 1 2) ⟨⟨0, 0, 3⟩, 8⟩ hI three_good
  have hn := hp.all.length_eq
  rw [empty_cont] at hn
  generalize putF 16 (emptyT 1 2) ⟨⟨0, 0, 3⟩, 8⟩ = T2 at *
  have h1 := of_decide_eq_true (Bool.and_eq_true_iff.1 hM).1
  have h2 := of_decide_eq_true (Bool.and_eq_true_iff.1 hM).2
  have HG : ∀ t w1, Seat (fun k => w.heap.size ≤ k) w1 t T2 → Calls Try.prog 21 #[.pointer (some ⟨t, 0, none⟩), .agg #[.int .u64 0, .int .u64 0, .int .i64 3]] w1 fun e w' => ∃ p c, e = .returned (.tuple #[.int .i64 8, .bool true, .slice p 1 c]) ∧ w'.ownsRow w1.heap.size 3 1 (.slice p 1 c) 1 (ics (readT T2 ⟨0, 0, 3⟩)) ∧ Below w1.heap.size w1 w' := by
    intro t w1 H
    have h := Seat.get t T2 ⟨0, 0, 3⟩ w1 H hp.inv three_good (by rw [hn]; decide)
    rw [h1, h2] at h
    exact h
  have HPP := Lib.hid HP
  have HGG := Lib.hid HG
  clear hM hp hn h1 h2 hI HP HG
  go_enter Try.func7, Try.ntmps7
  go_wp2_with fail
  refine (Seat.new 1 2 _ (by decide) (by decide)).mono ?_
  rintro e w1 ⟨t, rfl, H1, hw1⟩
  go_wp2_with fail
  refine (HN.out _).mono ?_
  rintro e w2 ⟨rfl, hb2⟩
  have hw2 := hw1.trans (hb2.mono hw1.size)
  have H2 := H1.below hb2
  clear hb2 H1 hw1
  go_wp2_with fail
  refine (Seat.len t _ _ H2).mono ?_
  rintro e w3 ⟨rfl, hb3⟩
  have hw3 := hw2.trans (hb3.mono hw2.size)
  have H3 := H2.below hb3
  rw [empty_cont]
  clear hb3 H2 hw2
  go_wp2_with fail
  refine (HPP.out t _ hw3.size H3).mono ?_
  rintro e w4 ⟨rfl, H4, ht4⟩
  have hw4 := hw3.trans (ht4.below hw3.size fun k hk => hk)
  clear H3 hw3 ht4
  go_wp2_with fail
  refine (HGG.out t _ H4).mono ?_
  rintro e w5 ⟨p, c, rfl, -, hb5⟩
  have hw5 := hw4.trans (hb5.mono hw4.size)
  clear H4 hw4 hb5
  go_wp2
  go_ret
  exact ⟨rfl, hw5⟩
end Go.Proofs.Ytlglppfkpieabaa
/-
  From a law's walk to its given statement: what an argument that leaves all old memory alone reads as behind the call, and how an address, a prefix and a number are opened. No condition.
-/
set_option linter.unusedSimpArgs false
set_option linter.unusedVariables false
namespace Go.Proofs.Ytlglppfkpieabaa
open Go.ChangeShapes Go.WideShapes Go.ChangeAt Go.RowKit Go.Joins M

section
variable {H : Type} {enc : TypeId × Value → H} {P : Program}

/-- Arguments read as they did, wherever all that they reach is as it was. -/
theorem all_stays (hl : laidOutB P = true) {W W' : World} {sp : Nat → Bool} : ∀ (ts : List TypeId) (vs : List Value) (ds : List (DataW H)) (p : List MemPlace), ts.all (fun t => P.readableRec t && decide (t < P.types.size)) = true →
    DataW.TrodAll enc P W 0 (fun _ => true) true ts vs ds p → (∀ x ∈ p, W.sameAt W' x) → (∀ x ∈ p, sp x.block = true) → DataW.TrodAll enc P W' 0 sp true ts vs ds p
  | [], [], [], _, _, h, _, _ => h
  | t :: ts, v :: vs, d :: ds, p, ht, h, hsame, hs => by
    obtain ⟨p1, p2, h1, h2, rfl⟩ := h
    simp only [List.all_cons, Bool.and_eq_true, decide_eq_true_eq] at ht
    exact ⟨p1, p2, WideElems.Trod_stays hl ht.1.1 ht.1.2 h1 (fun x hx => hsame x (List.mem_append_left _ hx)) (fun x hx => hs x (List.mem_append_left _ hx)),
      all_stays hl ts vs ds p2 ht.2 h2 (fun x hx => hsame x (List.mem_append_right _ hx)) (fun x hx => hs x (List.mem_append_right _ hx)), rfl⟩
  | [], _ :: _, _, _, _, h, _, _ => h.elim
  | [], [], _ :: _, _, _, h, _, _ => h.elim
  | _ :: _, [], _, _, _, h, _, _ => h.elim
  | _ :: _, _ :: _, [], _, _, h, _, _ => h.elim

/-- WHAT A LAW OWES: its walk hands back true and leaves all that was there as it was. -/
theorem law_post {f : Func} {s : ChangeSpec} {apart : Bool} {W W' : World} {args : Array Value} {ds gs : List (DataW H)} {before : List MemPlace} {tb : TypeId}
    (hl : laidOutB P = true) (hts : f.params.toList.all (fun t => P.readableRec t && decide (t < P.types.size)) = true) (hr : f.resultTypes = #[tb]) (htb : P.underlying tb = some .bool) (hv : s.vars = [])
    (hW : DataW.Whole enc P f.params.toList s.vars apart W args.toList ds gs before) (hfn : s.fn H (ds ++ gs) = { results := [.lit (.bool true)], args := ds }) (hb : Below W.heap.size W W') :
    s.post enc P f apart true false false W args (.bool true) W' := by
  have hlt : ∀ p ∈ before, p.block < W.heap.size := fun p hp => hW.lt p hp
  have hold : ∀ p ∈ before, (fun b => decide (b < W.heap.size)) p.block = true := fun p hp => by simpa using hlt p hp
  have hW2 := hW
  obtain ⟨p, q, hA, hV, hpq, hz, hn⟩ := hW2
  rw [hv] at hV
  have hV2 := hV
  obtain ⟨hg, hq⟩ := trodVars_none hV
  subst hg hq
  rw [List.append_nil] at hpq
  subst hpq
  have hres : ∀ (b : Nat) (sp : Nat → Bool) (hd : Bool), DataW.TrodAll enc P W' b sp hd f.resultTypes.toList ((Value.bool true).resultList f.resultTypes.size) (s.fn H (ds ++ [])).results [] := fun b sp hd => by
    rw [hfn, hr]
    exact trodAll_cons_mk (shut_bool htb _) trodAll_mk0
  have hargs : ∀ sp : Nat → Bool, (∀ x ∈ before, sp x.block = true) → DataW.TrodAll enc P W' 0 sp true f.params.toList args.toList (s.fn H (ds ++ [])).args before := fun sp hsp => by
    rw [hfn]
    exact all_stays hl _ _ _ _ hts hA (fun x hx => hb.same (hlt x hx)) hsp
  have hvars : ∀ sp : Nat → Bool, DataW.TrodVars enc P W' sp s.vars (s.fn H (ds ++ [])).vars [] := fun sp => by
    rw [hfn, hv]
    rfl
  have hok : ∀ (j : Nat) (t : TypeId) (r : Value), f.resultTypes[j]? = some t → ((Value.bool true).resultList f.resultTypes.size)[j]? = some r → Value.okWide P W' .any 0 t r :=
    ok_one hr rfl (okWide_bool_mk htb _)
  refine ⟨ds, [], before, [], before, [], hW, hres _ _ _, hargs _ hold, hvars _, World.keptBut_mono (fun p hp => ⟨hp, Or.inr (by simpa using hp)⟩) (hb.frame (· ∈ before)), fun _ => ?_⟩
  refine ⟨hok, _, _, ([] ++ before) ++ [], ⟨[] ++ before, [], trodAll_append (hargs _ (fun _ _ => rfl)) (hres _ _ _), hvars _, rfl, ?_, ?_⟩, ?_⟩
  · intro b off hp
    have hin : MemPlace.cell b off ∈ before := by simpa using hp
    rw [hb.frozen (hlt _ hin)]
    exact hz b off hin
  · intro ha
    simpa using hn ha
  · intro p hp _
    simpa using hp
end

section
variable {H : Type} {enc : TypeId × Value → H} {w : World} {base : Nat} {spare : Nat → Bool} {held : Bool} {r : Reach} {b0 : Nat}

theorem wf_u64 {n : Int} (h : (Lit.int .u64 n).wf = true) : ∃ k : Nat, n = k ∧ W64 k := by
  obtain ⟨h0, h1⟩ := bounds_u64 h
  obtain ⟨k, rfl⟩ := Int.eq_ofNat_of_zero_le h0
  exact ⟨k, rfl, W64.mk (by omega)⟩

theorem cellsA : Try.prog.cellsOf 25 = 2 := by kernel_rfl
theorem cells64 : Try.prog.cellsOf 22 = 1 := by kernel_rfl
set_option maxRecDepth 100000 in
/-- An address by value. -/
theorem open_addr {v : Value} {d : DataW H} {p : List MemPlace} (hv : Value.okWide Try.prog w r b0 25 v) (h : DataW.Trod enc Try.prog w base spare held 25 v d p) :
    ∃ hi lo : Nat, v = .agg #[.int .u64 hi, .int .u64 lo] ∧ W64 hi ∧ W64 lo := by
  obtain ⟨c0, c1, y0, y1, m, rfl, -, -, h0, h1⟩ := open_agg2 Try.underlying25 (by kernel_rfl) cellsA hv h
  obtain ⟨a, e0, -, wa⟩ := DataW.trod_int Try.underlying22 h0
  obtain ⟨b, e1, -, wb⟩ := DataW.trod_int Try.underlying22 h1
  simp only [List.cons.injEq, and_true] at e0 e1
  obtain ⟨i, rfl, hi⟩ := wf_u64 wa
  obtain ⟨j, rfl, hj⟩ := wf_u64 wb
  exact ⟨i, j, by rw [e0, e1], hi, hj⟩

theorem cellsP : Try.prog.cellsOf 27 = 3 := by kernel_rfl
theorem cellsI : Try.prog.cellsOf 3 = 1 := by kernel_rfl
/-- A prefix's cells. -/
theorem open_pfx_cells {n : Nat} {cs : List Value} {x : DataW H × List MemPlace} (h : DataW.trod enc Try.prog w base spare held n 27 cs = some x) :
    ∃ (hi lo : Nat) (k : Int), cs = [.int .u64 hi, .int .u64 lo, .int .i64 k] ∧ W64 hi ∧ W64 lo ∧ (Lit.int .i64 k).wf = true := by
  obtain ⟨xs, m, -, -, hl, hxl, hf⟩ := DataW.trod_struct Try.underlying27 h
  rw [cellsP] at hl
  have h0 : DataW.trod enc Try.prog w base spare held m 25 ((cs.drop 0).take (Try.prog.cellsOf 25)) = xs[0]? := hf 0 _ rfl
  have h1 : DataW.trod enc Try.prog w base spare held m 3 ((cs.drop 2).take (Try.prog.cellsOf 3)) = xs[1]? := hf 1 _ rfl
  rw [cellsA] at h0
  rw [cellsI] at h1
  obtain ⟨c0, c1, c2, rfl⟩ : ∃ c0 c1 c2, cs = [c0, c1, c2] := by
    rcases cs with _ | ⟨c0, _ | ⟨c1, _ | ⟨c2, _ | ⟨c3, cs⟩⟩⟩⟩ <;> simp at hl
    exact ⟨c0, c1, c2, rfl⟩
  simp only [List.drop_zero, List.take_succ_cons, List.take_zero, List.drop_succ_cons] at h0 h1
  rw [List.getElem?_eq_getElem (by rw [hxl]; decide)] at h0 h1
  obtain ⟨ys, m', -, -, hl', hyl, hg⟩ := DataW.trod_struct Try.underlying25 h0
  have g0 : DataW.trod enc Try.prog w base spare held m' 22 (([c0, c1].drop 0).take (Try.prog.cellsOf 22)) = ys[0]? := hg 0 _ rfl
  have g1 : DataW.trod enc Try.prog w base spare held m' 22 (([c0, c1].drop 1).take (Try.prog.cellsOf 22)) = ys[1]? := hg 1 _ rfl
  rw [cells64] at g0 g1
  simp only [List.drop_zero, List.take_succ_cons, List.take_zero, List.drop_succ_cons] at g0 g1
  rw [List.getElem?_eq_getElem (by rw [hyl]; decide)] at g0 g1
  obtain ⟨a, e0, -, wa⟩ := DataW.trod_int Try.underlying22 g0
  obtain ⟨b, e1, -, wb⟩ := DataW.trod_int Try.underlying22 g1
  obtain ⟨c, e2, -, wc⟩ := DataW.trod_int Try.underlying3 h1
  simp only [List.cons.injEq, and_true] at e0 e1 e2
  obtain ⟨i, rfl, hi⟩ := wf_u64 wa
  obtain ⟨j, rfl, hj⟩ := wf_u64 wb
  exact ⟨i, j, c, by rw [e0, e1, e2], hi, hj, wc⟩
set_option maxRecDepth 100000 in
/-- A prefix by value. -/
theorem open_pfx {v : Value} {d : DataW H} {p : List MemPlace} (hv : Value.okWide Try.prog w r b0 27 v) (h : DataW.Trod enc Try.prog w base spare held 27 v d p) :
    ∃ (hi lo : Nat) (k : Int), v = .agg #[.int .u64 hi, .int .u64 lo, .int .i64 k] ∧ W64 hi ∧ W64 lo ∧ (Lit.int .i64 k).wf = true := by
  obtain ⟨cs, rfl, hsz⟩ := okWide_struct Try.underlying27 hv
  obtain ⟨m, hm⟩ := h
  obtain ⟨hi, lo, k, e, h1, h2, h3⟩ := open_pfx_cells hm
  refine ⟨hi, lo, k, ?_, h1, h2, h3⟩
  obtain ⟨l⟩ := cs
  have e' : l = _ := e
  rw [e']
end
end Go.Proofs.Ytlglppfkpieabaa
