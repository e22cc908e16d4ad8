/-
  The calls that the laws of chapter 12 make, as they come in: rows of ways, values and keys. No condition.
-/
import Derived.Test.YtoihkbanmnagkaaGreatW12h
import Derived.Test.YtoihkbanmnagkaaGreatW12j
import Derived.Test.YtoihkbanmnagkaaGreatM18b
import Derived.Test.YtoihkbanmnagkaaGreatRows
import Derived.WalkKit
import Derived.ProofKit
import Derived.OpenShut
import Derived.Carry
import Derived.Lib.SmallJoins
import Derived.ChangeMaps5
import Derived.Test.YtoihkbanmnagkaaGreatReg
import Derived.Deep.Slices
/-
  What Put of a table does, however often the table grows meanwhile. No condition but that the table's cells lie in memory, and that it has fewer than 2^18 keys.
-/
set_option linter.unusedSimpArgs false
set_option linter.unusedVariables false
namespace Go.Proofs.YtoihkbanmnagkaaGreat
open Go.RowKit Go.Sort M

theorem put_step (d : Nat) (t g : Nat) (v : Value) (T : Tab) (r : Rt) (w : World) (H : CT w t g v T ((contT T).length : Int)) (HI : Inv T) (hk : r.k.good) (hfew : (contT T).length < 262144)
    (HG : ∀ g1 v1 w1, grows (stay T r) = true → CT w1 t g1 v1 (stay T r).1 ((contT (stay T r).1).length : Int) → Calls Tryz.prog 81 #[.pointer (some ⟨t, 0, none⟩)] w1 fun e w' => e = .returned (.tuple #[]) ∧ CStep w1 w' t g1 v1 (putF d T r) ((contT (putF d T r)).length : Int)) :
    Calls Tryz.prog 49 #[.pointer (some ⟨t, 0, none⟩), kyV r.k, .int .i64 r.v] w fun e w' => e = .returned (.tuple #[]) ∧ CStep w w' t g v (putF d T r) ((contT (putF d T r)).length : Int) := by
  have hst := st_le T
  have hgr : ∀ {b}, (stay T r).2 = b → b = false → grows (stay T r) = false := fun h hb => by unfold grows; rw [h, hb]; rfl
  cases hr : rep12 T r with
  | some T' =>
    have hs := stay_rep hr
    have hp := putF_stay d (hgr (by rw [hs]) rfl)
    have hc := stay_count_old HI hk (by rw [hr]; simp)
    rw [hs] at hp hc
    rw [hp, hc]
    exact put_old t g v T T' _ r w H HI.num hk HI.sort (by omega) hr
  | none =>
    have hl := fresh_like HI hk hr
    have hc := stay_count_new HI hk hr
    cases h1 : putC (T.bk (T.x1 r.k)) r.k r.v with
    | some C =>
      have hF : fresh T r = (T.set (T.x1 r.k) C, none) := by unfold fresh; rw [h1]
      have hs := stay_in hr (by rw [hF])
      have hp := putF_stay d (hgr (by rw [hs]) rfl)
      rw [hs, hF] at hp hc
      rw [hp, hc]
      exact put_first t g v T _ r C w H HI.num hk HI.sort (by omega) (by omega) (by omega) hr h1
    | none =>
      cases h2 : putC (T.bk (T.x2 r.k)) r.k r.v with
      | some C =>
        have hF : fresh T r = (T.set (T.x2 r.k) C, none) := by unfold fresh; rw [h1]; simp only [h2]
        have hs := stay_in hr (by rw [hF])
        have hp := putF_stay d (hgr (by rw [hs]) rfl)
        rw [hs, hF] at hp hc
        rw [hp, hc]
        exact put_second t g v T _ r C w H HI.num hk HI.sort (by omega) (by omega) (by omega) hr h1 h2
      | none =>
        have hF : fresh T r = kicks 16 0 T (T.x2 r.k) r := by unfold fresh; rw [h1]; simp only [h2]
        obtain ⟨T1, o, hR⟩ : ∃ T1 o, kicks 16 0 T (T.x2 r.k) r = (T1, o) := ⟨_, _, rfl⟩
        rw [hR] at hF
        cases o with
        | none =>
          have hs := stay_in hr (by rw [hF])
          have hp := putF_stay d (hgr (by rw [hs]) rfl)
          rw [hs, hF] at hp hc
          rw [hp, hc]
          exact put_kicked t g v T T1 _ r w H HI.num HI.goodT hk HI.sort (by omega) (by omega) (by omega) hr h1 h2 hR
        | some q =>
          rw [hF] at hl
          have hs := stay_left hr (by rw [hF] : (fresh T r).2 = some q)
          rw [hF] at hs
          have hq := find_absent (hl.2.2.2 q rfl).2
          have hst1 : T1.st.length = T.st.length := hl.2.2.1
          have hgw : grows (stay T r) = (decide (8 < (stay T r).1.st.length) && decide ((stay T r).1.B.length < 65536)) := by unfold grows; rw [hs]; rfl
          have hT2 : (stay T r).1 = { T1 with st := intoS T1.st q } := by rw [hs]
          have hB2 : (stay T r).1.B.length = T1.B.length := by rw [hT2]
          refine (put_left t g v T T1 (stay T r).1 (putF d T r) _ ((contT (putF d T r)).length : Int) r q w H HI.num HI.goodT hk HI.sort (by omega) (by omega) (by omega) hr h1 h2 hR hl.1.sort (by omega) hq hT2 hl.1.hi ?_).mono ?_
          · intro g1 v1 w1 H1 hn hb
            refine HG g1 v1 w1 (by rw [hgw, decide_eq_true hn, decide_eq_true hb]; rfl) (by rw [hc]; exact H1)
          · rintro e w' ⟨rfl, hyes, hno⟩
            refine ⟨rfl, ?_⟩
            by_cases hcase : 8 < (stay T r).1.st.length ∧ (stay T r).1.B.length < 65536
            · exact hyes hcase
            · have hp := putF_stay d (T := T) (r := r) (by
                rw [hgw]
                by_cases ha : 8 < (stay T r).1.st.length
                · rw [decide_eq_false (fun hb => hcase ⟨ha, hb⟩), Bool.and_false]
                · rw [decide_eq_false ha, Bool.false_and])
              rw [hp, hc]
              exact hno hcase

theorem put_any : ∀ (d : Nat) (t g : Nat) (v : Value) (T : Tab) (r : Rt) (w : World), CT w t g v T ((contT T).length : Int) → Inv T → r.k.good → (contT T).length < 262144 → 65536 ≤ T.B.length * 2 ^ d →
    Calls Tryz.prog 49 #[.pointer (some ⟨t, 0, none⟩), kyV r.k, .int .i64 r.v] w fun e w' => e = .returned (.tuple #[]) ∧ CStep w w' t g v (putF d T r) ((contT (putF d T r)).length : Int)
  | 0, t, g, v, T, r, w, H, HI, hk, hfew, hd => put_step 0 t g v T r w H HI hk hfew fun g1 v1 w1 hg _ => by
      have hB := (stay_ok HI r hk).like.n
      unfold grows at hg
      simp only [Bool.and_eq_true, decide_eq_true_eq] at hg
      omega
  | d + 1, t, g, v, T, r, w, H, HI, hk, hfew, hd => put_step (d + 1) t g v T r w H HI hk hfew fun g1 v1 w1 hg H1 => by
      have hS := stay_ok HI r hk
      have hB := hS.like.n
      have hG := grown_inv hS.inv
      have hcn : (contT (stay T r).1).length ≤ 262144 := by
        by_cases hr : rep12 T r = none
        · rw [stay_count_new HI hk hr]; omega
        · rw [stay_count_old HI hk hr]; omega
      have hp : 65536 ≤ (grown (stay T r).1).B.length * 2 ^ d := by
        have h1 : 1 ≤ 2 ^ d := Nat.one_le_two_pow
        rw [hG.2]
        by_cases h2 : 2 * (stay T r).1.B.length ≤ 65536
        · rw [Nat.min_eq_left h2, hB]
          rw [Nat.pow_succ] at hd
          have : 2 * T.B.length * 2 ^ d = T.B.length * (2 ^ d * 2) := by rw [Nat.mul_comm 2, Nat.mul_assoc, Nat.mul_comm 2]
          omega
        · rw [Nat.min_eq_right (by omega)]
          omega
      rw [putF_grow d hg]
      exact grow_core (putF d) _ (fun T r H hg => putF_ok d T r H hg) t g1 v1 (stay T r).1 _ w1 H1 hS.inv hcn (Nat.le_refl _) fun g2 v2 T2 r2 w2 H2 HI2 hk2 hf2 hB2 => put_any d t g2 v2 T2 r2 w2 H2 HI2 hk2 hf2 (Nat.le_trans hp (Nat.mul_le_mul_right _ hB2))
end Go.Proofs.YtoihkbanmnagkaaGreat
/-
  A table as the given laws of chapter 12 hold it: its calls; the example. No condition but those that stand in each.
-/
set_option linter.unusedSimpArgs false
set_option linter.unusedVariables false
namespace Go.Proofs.YtoihkbanmnagkaaGreat
open Go.RowKit Go.Sort M

def Seat (P : Nat → Prop) (w : World) (t : Nat) (T : Tab) : Prop := ∃ g v, CT w t g v T ((contT T).length : Int) ∧ ∀ k, Blk t g v k → P k
theorem Seat.below {P : Nat → Prop} {w w' : World} {t : Nat} {T : Tab} (H : Seat P w t T) (hb : Below w.heap.size w w') : Seat P w' t T := by
  obtain ⟨g, v, h, hp⟩ := H
  exact ⟨g, v, h.below hb, hp⟩
theorem Seat.lt {P : Nat → Prop} {w : World} {t : Nat} {T : Tab} (H : Seat P w t T) : t < w.heap.size := by
  obtain ⟨g, v, h, hp⟩ := H
  exact h.tb.tlt
theorem Seat.touched {P S : Nat → Prop} {w w' : World} {t : Nat} {T : Tab} (H : Seat P w t T) (ht : Touch S w w') (hn : ∀ k, P k → ¬ S k) : Seat P w' t T := by
  obtain ⟨g, v, h, hp⟩ := H
  exact ⟨g, v, h.touched ht (fun k hk => hn k (hp k hk)), hp⟩
theorem Seat.mono {P Q : Nat → Prop} {w : World} {t : Nat} {T : Tab} (H : Seat P w t T) (h : ∀ k, k < w.heap.size → P k → Q k) : Seat Q w t T := by
  obtain ⟨g, v, hc, hp⟩ := H
  exact ⟨g, v, hc, fun k hk => h k (hc.tb.blk k hk) (hp k hk)⟩
theorem Seat.new (s n : Nat) (w : World) (h1 : 1 ≤ n) (h2 : n ≤ 65536) :
    Calls Tryz.prog 23 #[.int .u64 (s : Int), .int .i64 (n : Int)] w fun e w' => ∃ t, e = .returned (.tuple #[.pointer (some ⟨t, 0, none⟩), .int .i64 0]) ∧ Seat (fun k => w.heap.size ≤ k) w' t (emptyT s n) ∧ Below w.heap.size w w' := by
  refine (cnew_any s n w h1 h2).mono ?_
  rintro e w' ⟨t, rfl, g, H, hb, ht, hg⟩
  refine ⟨t, rfl, ⟨g, _, by rw [empty_cont]; exact H, fun k hk => ?_⟩, hb⟩
  rcases hk with e | e | e
  · show _ ≤ k; rw [e]; exact ht
  · show _ ≤ k; rw [e]; exact hg
  · simp [Value.ownBlock] at e
theorem Seat.put {P : Nat → Prop} (t : Nat) (T : Tab) (r : Rt) (w : World) (H : Seat P w t T) (HI : Inv T) (hk : r.k.good) (hfew : (contT T).length < 262144) (hP : ∀ k, w.heap.size ≤ k → P k) :
    Calls Tryz.prog 49 #[.pointer (some ⟨t, 0, none⟩), kyV r.k, .int .i64 r.v] w fun e w' => e = .returned (.tuple #[]) ∧ Seat P w' t (putF 16 T r) ∧ Touch P w w' := by
  obtain ⟨g, v, h, hp⟩ := H
  have hlo := HI.lo
  refine (put_any 16 t g v T r w h HI hk hfew (by omega)).mono ?_
  rintro e w' ⟨rfl, g', v', h', ht, hs⟩
  refine ⟨rfl, ⟨g', v', h', fun k hk' => ?_⟩, ht.mono fun k _ hk => hp k hk⟩
  by_cases e : k < w.heap.size
  · exact hp k (hs k hk' e)
  · exact hP k (by omega)
theorem Seat.get {P : Nat → Prop} (t : Nat) (T : Tab) (k : Ky) (w : World) (H : Seat P w t T) (HI : Inv T) (hk : k.good) (hfew : (contT T).length < 262144) :
    Calls Tryz.prog 37 #[.pointer (some ⟨t, 0, none⟩), kyV k] w fun e w' => ∃ p c, e = .returned (.tuple #[.int .i64 ((getT T k).getD 0), .bool (getT T k).isSome, .slice p (readT T k).length c]) ∧ w'.ownsRow w.heap.size 3 1 (.slice p (readT T k).length c) (readT T k).length (ics (readT T k)) ∧ Below w.heap.size w w' := by
  obtain ⟨g, v, h, hp⟩ := H
  have := st_le T
  exact get12_any t g v T _ k w h HI.num hk HI.sort (by omega)
end Go.Proofs.YtoihkbanmnagkaaGreat
/-
  From a law's walk to its given statement: what an argument that leaves all old memory alone reads as behind the call, and how an address, a prefix and a number are opened. No condition.
-/
set_option linter.unusedSimpArgs false
set_option linter.unusedVariables false
namespace Go.Proofs.YtoihkbanmnagkaaGreat
open Go.ChangeShapes Go.WideShapes Go.ChangeAt Go.RowKit Go.Joins M

section
variable {H : Type} {enc : TypeId × Value → H} {P : Program}

theorem all_stays (hl : laidOutB P = true) {W W' : World} {sp : Nat → Bool} : ∀ (ts : List TypeId) (vs : List Value) (ds : List (DataW H)) (p : List MemPlace), ts.all (fun t => P.readableRec t && decide (t < P.types.size)) = true →
    DataW.TrodAll enc P W 0 (fun _ => true) true ts vs ds p → (∀ x ∈ p, W.sameAt W' x) → (∀ x ∈ p, sp x.block = true) → DataW.TrodAll enc P W' 0 sp true ts vs ds p
  | [], [], [], _, _, h, _, _ => h
  | t :: ts, v :: vs, d :: ds, p, ht, h, hsame, hs => by
    obtain ⟨p1, p2, h1, h2, rfl⟩ := h
    simp only [List.all_cons, Bool.and_eq_true, decide_eq_true_eq] at ht
    exact ⟨p1, p2, WideElems.Trod_stays hl ht.1.1 ht.1.2 h1 (fun x hx => hsame x (List.mem_append_left _ hx)) (fun x hx => hs x (List.mem_append_left _ hx)),
      all_stays hl ts vs ds p2 ht.2 h2 (fun x hx => hsame x (List.mem_append_right _ hx)) (fun x hx => hs x (List.mem_append_right _ hx)), rfl⟩
  | [], _ :: _, _, _, _, h, _, _ => h.elim
  | [], [], _ :: _, _, _, h, _, _ => h.elim
  | _ :: _, [], _, _, _, h, _, _ => h.elim
  | _ :: _, _ :: _, [], _, _, h, _, _ => h.elim

theorem law_post {f : Func} {s : ChangeSpec} {apart : Bool} {W W' : World} {args : Array Value} {ds gs : List (DataW H)} {before : List MemPlace} {tb : TypeId}
    (hl : laidOutB P = true) (hts : f.params.toList.all (fun t => P.readableRec t && decide (t < P.types.size)) = true) (hr : f.resultTypes = #[tb]) (htb : P.underlying tb = some .bool) (hv : s.vars = [])
    (hW : DataW.Whole enc P f.params.toList s.vars apart W args.toList ds gs before) (hfn : s.fn H (ds ++ gs) = { results := [.lit (.bool true)], args := ds }) (hb : Below W.heap.size W W') :
    s.post enc P f apart true false false W args (.bool true) W' := by
  have hlt : ∀ p ∈ before, p.block < W.heap.size := fun p hp => hW.lt p hp
  have hold : ∀ p ∈ before, (fun b => decide (b < W.heap.size)) p.block = true := fun p hp => by simpa using hlt p hp
  have hW2 := hW
  obtain ⟨p, q, hA, hV, hpq, hz, hn⟩ := hW2
  rw [hv] at hV
  have hV2 := hV
  obtain ⟨hg, hq⟩ := trodVars_none hV
  subst hg hq
  rw [List.append_nil] at hpq
  subst hpq
  have hres : ∀ (b : Nat) (sp : Nat → Bool) (hd : Bool), DataW.TrodAll enc P W' b sp hd f.resultTypes.toList ((Value.bool true).resultList f.resultTypes.size) (s.fn H (ds ++ [])).results [] := fun b sp hd => by
    rw [hfn, hr]
    exact trodAll_cons_mk (shut_bool htb _) trodAll_mk0
  have hargs : ∀ sp : Nat → Bool, (∀ x ∈ before, sp x.block = true) → DataW.TrodAll enc P W' 0 sp true f.params.toList args.toList (s.fn H (ds ++ [])).args before := fun sp hsp => by
    rw [hfn]
    exact all_stays hl _ _ _ _ hts hA (fun x hx => hb.same (hlt x hx)) hsp
  have hvars : ∀ sp : Nat → Bool, DataW.TrodVars enc P W' sp s.vars (s.fn H (ds ++ [])).vars [] := fun sp => by
    rw [hfn, hv]
    rfl
  have hok : ∀ (j : Nat) (t : TypeId) (r : Value), f.resultTypes[j]? = some t → ((Value.bool true).resultList f.resultTypes.size)[j]? = some r → Value.okWide P W' .any 0 t r :=
    ok_one hr rfl (okWide_bool_mk htb _)
  refine ⟨ds, [], before, [], before, [], hW, hres _ _ _, hargs _ hold, hvars _, World.keptBut_mono (fun p hp => ⟨hp, Or.inr (by simpa using hp)⟩) (hb.frame (· ∈ before)), fun _ => ?_⟩
  refine ⟨hok, _, _, ([] ++ before) ++ [], ⟨[] ++ before, [], trodAll_append (hargs _ (fun _ _ => rfl)) (hres _ _ _), hvars _, rfl, ?_, ?_⟩, ?_⟩
  · intro b off hp
    have hin : MemPlace.cell b off ∈ before := by simpa using hp
    rw [hb.frozen (hlt _ hin)]
    exact hz b off hin
  · intro ha
    simpa using hn ha
  · intro p hp _
    simpa using hp
end

section
variable {H : Type} {enc : TypeId × Value → H} {w : World} {base : Nat} {spare : Nat → Bool} {held : Bool} {r : Reach} {b0 : Nat}

theorem wf_u64 {n : Int} (h : (Lit.int .u64 n).wf = true) : ∃ k : Nat, n = k ∧ W64 k := by
  obtain ⟨h0, h1⟩ := bounds_u64 h
  obtain ⟨k, rfl⟩ := Int.eq_ofNat_of_zero_le h0
  exact ⟨k, rfl, W64.mk (by omega)⟩

theorem cellsA : Tryz.prog.cellsOf 36 = 2 := by kernel_rfl
theorem cells64 : Tryz.prog.cellsOf 22 = 1 := by kernel_rfl
set_option maxRecDepth 100000 in
theorem open_addr {v : Value} {d : DataW H} {p : List MemPlace} (hv : Value.okWide Tryz.prog w r b0 36 v) (h : DataW.Trod enc Tryz.prog w base spare held 36 v d p) :
    ∃ hi lo : Nat, v = .agg #[.int .u64 hi, .int .u64 lo] ∧ W64 hi ∧ W64 lo := by
  obtain ⟨c0, c1, y0, y1, m, rfl, -, -, h0, h1⟩ := open_agg2 Tryz.underlying36 (by kernel_rfl) cellsA hv h
  obtain ⟨a, e0, -, wa⟩ := DataW.trod_int Tryz.underlying22 h0
  obtain ⟨b, e1, -, wb⟩ := DataW.trod_int Tryz.underlying22 h1
  simp only [List.cons.injEq, and_true] at e0 e1
  obtain ⟨i, rfl, hi⟩ := wf_u64 wa
  obtain ⟨j, rfl, hj⟩ := wf_u64 wb
  exact ⟨i, j, by rw [e0, e1], hi, hj⟩

theorem cellsP : Tryz.prog.cellsOf 38 = 3 := by kernel_rfl
theorem cellsI : Tryz.prog.cellsOf 3 = 1 := by kernel_rfl
theorem open_pfx_cells {n : Nat} {cs : List Value} {x : DataW H × List MemPlace} (h : DataW.trod enc Tryz.prog w base spare held n 38 cs = some x) :
    ∃ (hi lo : Nat) (k : Int), cs = [.int .u64 hi, .int .u64 lo, .int .i64 k] ∧ W64 hi ∧ W64 lo ∧ (Lit.int .i64 k).wf = true := by
  obtain ⟨xs, m, -, -, hl, hxl, hf⟩ := DataW.trod_struct Tryz.underlying38 h
  rw [cellsP] at hl
  have h0 : DataW.trod enc Tryz.prog w base spare held m 36 ((cs.drop 0).take (Tryz.prog.cellsOf 36)) = xs[0]? := hf 0 _ rfl
  have h1 : DataW.trod enc Tryz.prog w base spare held m 3 ((cs.drop 2).take (Tryz.prog.cellsOf 3)) = xs[1]? := hf 1 _ rfl
  rw [cellsA] at h0
  rw [cellsI] at h1
  obtain ⟨c0, c1, c2, rfl⟩ : ∃ c0 c1 c2, cs = [c0, c1, c2] := by
    rcases cs with _ | ⟨c0, _ | ⟨c1, _ | ⟨c2, _ | ⟨c3, cs⟩⟩⟩⟩ <;> simp at hl
    exact ⟨c0, c1, c2, rfl⟩
  simp only [List.drop_zero, List.take_succ_cons, List.take_zero, List.drop_succ_cons] at h0 h1
  rw [List.getElem?_eq_getElem (by rw [hxl]; decide)] at h0 h1
  obtain ⟨ys, m', -, -, hl', hyl, hg⟩ := DataW.trod_struct Tryz.underlying36 h0
  have g0 : DataW.trod enc Tryz.prog w base spare held m' 22 (([c0, c1].drop 0).take (Tryz.prog.cellsOf 22)) = ys[0]? := hg 0 _ rfl
  have g1 : DataW.trod enc Tryz.prog w base spare held m' 22 (([c0, c1].drop 1).take (Tryz.prog.cellsOf 22)) = ys[1]? := hg 1 _ rfl
  rw [cells64] at g0 g1
  simp only [List.drop_zero, List.take_succ_cons, List.take_zero, List.drop_succ_cons] at g0 g1
  rw [List.getElem?_eq_getElem (by rw [hyl]; decide)] at g0 g1
  obtain ⟨a, e0, -, wa⟩ := DataW.trod_int Tryz.underlying22 g0
  obtain ⟨b, e1, -, wb⟩ := DataW.trod_int Tryz.underlying22 g1
  obtain ⟨c, e2, -, wc⟩ := DataW.trod_int Tryz.underlying3 h1
  simp only [List.cons.injEq, and_true] at e0 e1 e2
  obtain ⟨i, rfl, hi⟩ := wf_u64 wa
  obtain ⟨j, rfl, hj⟩ := wf_u64 wb
  exact ⟨i, j, c, by rw [e0, e1, e2], hi, hj, wc⟩
end
end Go.Proofs.YtoihkbanmnagkaaGreat
/-
  A slice that comes in as an argument, its elements of one or more cells: its rows as a list, at an address in old memory. No condition but those that stand in each.
-/
set_option linter.unusedSimpArgs false
set_option linter.unusedVariables false
namespace Go.Proofs.YtoihkbanmnagkaaGreat
open Go.ChangeShapes Go.WideShapes Go.ChangeAt Go.RowKit Go.Joins Go.Deep M

def RowA {α : Type} (k : Nat) (cells : α → List Value) (w : World) (p : Option Addr) (L : List α) : Prop :=
  L = [] ∨ ∃ g o, p = some ⟨g, o, none⟩ ∧ g < w.heap.size ∧ ∀ (i : Nat) (hi : i < L.length) (j : Nat) (u : Value), (cells L[i])[j]? = some u → w.cell? ⟨g, o + i * k + j, none⟩ = some u
theorem RowA.below {α : Type} {k : Nat} {cells : α → List Value} {w w' : World} {p : Option Addr} {L : List α} (h : RowA k cells w p L) (hb : Below w.heap.size w w') : RowA k cells w' p L := by
  rcases h with h | ⟨g, o, e, hg, hc⟩
  · exact .inl h
  · exact .inr ⟨g, o, e, Nat.lt_of_lt_of_le hg hb.size, fun i hi j u hu => (hb.cell (p := ⟨g, o + i * k + j, none⟩) hg).trans (hc i hi j u hu)⟩
theorem RowA.at {α : Type} {k : Nat} {cells : α → List Value} {w : World} {p : Option Addr} {L : List α} (h : RowA k cells w p L) {i : Nat} (hi : i < L.length) :
    ∃ g o, p = some ⟨g, o, none⟩ ∧ g < w.heap.size ∧ ∀ (j : Nat) (u : Value), (cells L[i])[j]? = some u → w.cell? ⟨g, o + i * k + j, none⟩ = some u := by
  rcases h with h | ⟨g, o, e, hg, hc⟩
  · subst h
    simp at hi
  · exact ⟨g, o, e, hg, fun j u hu => hc i hi j u hu⟩
section
variable {H : Type} {enc : TypeId × Value → H} {P : Program} {w : World} {base : Nat} {spare : Nat → Bool} {held : Bool} {r : Reach} {b0 : Nat}
theorem open_elems {α : Type} [Inhabited α] {t e : TypeId} {k : Nat} {cells : α → List Value} {good : α → Prop} (ht : P.underlying t = some (.slice e)) (hC : P.cellsOf e = k) (hk : 0 < k) (hcell : ∀ a, good a → 0 < (cells a).length)
    (elem : ∀ n cs x, DataW.trod enc P w base spare held n e cs = some x → ∃ a, cs = cells a ∧ good a)
    {v : Value} {d : DataW H} {p : List MemPlace} (hv : Value.okWide P w r b0 t v) (h : DataW.Trod enc P w base spare held t v d p) :
    ∃ (q : Option Addr) (c : Nat) (L : List α), v = .slice q L.length c ∧ RowA k cells w q L ∧ (∀ a ∈ L, good a) ∧ L.length ≤ maxLen := by
  obtain ⟨q, len, c, rfl⟩ := okWide_slice ht hv
  obtain ⟨fuel, hf⟩ := h
  rcases open_slice ht hf with ⟨h0, -⟩ | ⟨a, len', cap, m, n, D, Pl, hcs, -, hl, hm, hmm, -, hx⟩
  · simp only [Value.cells, List.cons.injEq, Value.slice.injEq, and_true] at h0
    obtain ⟨rfl, rfl, rfl⟩ := h0
    exact ⟨none, 0, [], rfl, .inl rfl, by simp, by simp⟩
  · simp only [Value.cells, List.cons.injEq, Value.slice.injEq, and_true] at hcs
    obtain ⟨rfl, rfl, rfl⟩ := hcs
    have hlm : len ≤ m := by
      rw [hmm]
      split <;> omega
    obtain ⟨V, hV⟩ := choose_lt (α := α) (n := len) (p := fun i x => good x ∧ ∀ (j : Nat) (u : Value), (cells x)[j]? = some u → w.cell? (a.add (i * k + j)) = some u) (fun i hi => by
      obtain ⟨cs', h1, h2⟩ := hx i (by omega)
      obtain ⟨x, rfl, hg⟩ := elem _ _ _ h2
      refine ⟨x, hg, fun j u hu => ?_⟩
      obtain ⟨_, hlen, hat⟩ := World.cells?_some h1
      rw [hC] at hat hlen
      have hj : j < k := by
        have := (List.getElem?_eq_some_iff.1 hu).1
        omega
      have := hat j hj
      rw [← hu, ← this, Go.Deep.add_add])
    have hL : ((List.range len).map V).length = len := by simp
    refine ⟨some a, c, (List.range len).map V, by rw [hL], ?_, ?_, by rw [hL]; omega⟩
    · by_cases h0 : len = 0
      · subst h0
        exact .inl rfl
      · right
        obtain ⟨g, o, spot⟩ := a
        have hw0 := hcell _ (hV 0 (by omega)).1
        have h00 := (hV 0 (by omega)).2 0 _ (List.getElem?_eq_getElem hw0)
        rw [Nat.zero_mul, Nat.zero_add] at h00
        have hspot : spot = none := by simpa [Addr.add] using World.cell?_spot h00
        subst hspot
        refine ⟨g, o, rfl, ?_, fun i hi j u hu => ?_⟩
        · have := World.block_lt_of_cell? w _ h00
          simpa [Addr.add] using this
        · rw [hL] at hi
          have := (hV i hi).2 j u (by simpa using hu)
          rw [show (⟨g, o, none⟩ : Addr).add (i * k + j) = ⟨g, o + i * k + j, none⟩ by unfold Addr.add; split <;> simp_all <;> omega] at this
          exact this
    · intro x hx
      rw [List.mem_map] at hx
      obtain ⟨i, hi, rfl⟩ := hx
      exact (hV i (List.mem_range.1 hi)).1
end
end Go.Proofs.YtoihkbanmnagkaaGreat
/-
  The calls that the laws of chapter 12 make, as they come in: rows of ways, values and keys. No condition.
-/
set_option linter.unusedSimpArgs false
set_option linter.unusedVariables false
namespace Go.Proofs.YtoihkbanmnagkaaGreat
open Go.ChangeShapes Go.WideShapes Go.ChangeAt Go.RowKit Go.Joins Go.Deep M

section
variable {H : Type} {enc : TypeId × Value → H} {w : World} {base : Nat} {spare : Nat → Bool} {held : Bool} {r : Reach} {b0 : Nat}
end
end Go.Proofs.YtoihkbanmnagkaaGreat
