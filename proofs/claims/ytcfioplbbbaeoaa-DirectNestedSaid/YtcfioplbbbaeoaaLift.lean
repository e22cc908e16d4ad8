/-
  From a law's walk to its given statement: what an argument that leaves all old memory alone reads as behind the call, and how an address, a prefix and a number are opened. No condition.
-/
import Derived.Test.YtcfioplbbbaeoaaM18b
import Derived.Test.YtcfioplbbbaeoaaM18c
import Derived.Test.YtcfioplbbbaeoaaW5
import Derived.Test.YtcfioplbbbaeoaaRows
import Derived.WalkKit
import Derived.ProofKit
import Derived.OpenShut
import Derived.Carry
import Derived.Lib.SmallJoins
import Derived.ChangeMaps5
import Derived.Test.YtcfioplbbbaeoaaM1
/-
  What chapter 20's laws share: what is asked of the program's array, whatever it is made of; what the reference's Direct hands back; the document's example. No condition but those that stand in each.
-/
set_option linter.unusedSimpArgs false
set_option linter.unusedVariables false
namespace Go.Proofs.Ytcfioplbbbaeoaa
open Go Go.RowKit Go.Sort M

/-- How many bits an array has. -/
def bitsA (n : Int) : Nat := if n < 0 then 0 else if 8 < n then 8 else n.toNat
theorem bitsA_le (n : Int) : bitsA n ≤ 8 := by unfold bitsA; split <;> (try split) <;> omega
/-- What an address finds among routes at so many bits. -/
def dirK (L : List Rt) (ah al m : Nat) : Option Int := hopK (sortR L) (-1) (cutK ah al m)
def dirV (L : List Rt) (ah al m : Nat) : Int := (dirK L ah al m).getD 0
def dirA (L : List Rt) (ah al m : Nat) : Value := .tuple #[.int .i64 (dirV L ah al m), .bool (dirK L ah al m).isSome]
/-- What is asked of the program's array: A w K t m L says that at block t lies an array of m bits, filled with L, whose blocks K allows. -/
structure DirC (A : World → (Nat → Prop) → Nat → Nat → List Rt → Prop) : Prop where
  new : ∀ (n : Int) (w : World), Calls Try.prog 6 #[.int .i64 n] w fun e w' => ∃ t, e = .returned (.pointer (some ⟨t, 0, none⟩)) ∧ Below w.heap.size w w' ∧ A w' (In w.heap.size w'.heap.size) t (bitsA n) []
  fill : ∀ (w : World) (K : Nat → Prop) (t m : Nat) (L0 L : List Rt) (p : Option Addr) (c : Nat), A w K t m L0 → Row w p (rcs L) → (∀ x ∈ L, x.k.good) → (p = none → c = 0) → L.length ≤ c → L.length ≤ 4000 →
    Calls Try.prog 10 #[.pointer (some ⟨t, 0, none⟩), .slice p L.length c] w fun e w' => e = .returned (.tuple #[]) ∧ ∃ K', A w' K' t m L ∧ Touch K w w' ∧ ∀ g, K' g → K g ∨ In w.heap.size w'.heap.size g
  get : ∀ (w : World) (K : Nat → Prop) (t m : Nat) (L : List Rt) (ah al : Nat), A w K t m L → W64 ah → W64 al →
    Calls Try.prog 9 #[.pointer (some ⟨t, 0, none⟩), .agg #[.int .u64 (ah : Int), .int .u64 (al : Int)]] w fun e w' => e = .returned (dirA L ah al m) ∧ Below w.heap.size w w'
  len : ∀ (w : World) (K : Nat → Prop) (t m : Nat) (L : List Rt), A w K t m L → Calls Try.prog 7 #[.pointer (some ⟨t, 0, none⟩)] w fun e w' => e = .returned (.int .i64 ((2 ^ m : Nat) : Int)) ∧ Below w.heap.size w w'
  touched : ∀ (w w' : World) (K S : Nat → Prop) (t m : Nat) (L : List Rt), A w K t m L → Touch S w w' → (∀ g, K g → ¬ S g) → A w' K t m L
theorem DirC.below {A : World → (Nat → Prop) → Nat → Nat → List Rt → Prop} (D : DirC A) {w w' : World} {K : Nat → Prop} {t m : Nat} {L : List Rt} (h : A w K t m L) (hb : Below w.heap.size w w') : A w' K t m L :=
  D.touched w w' K (fun _ => False) t m L h (Touch.quiet hb) (fun _ _ x => x)
theorem dir_nil (ah al m : Nat) : dirK [] ah al m = none := by
  unfold dirK hopK
  rfl
theorem dirA_nil (ah al m : Nat) : dirA [] ah al m = .tuple #[.int .i64 0, .bool false] := by
  unfold dirA dirV
  rw [dir_nil]
  rfl
theorem cap8 (n : Int) : (if n < 0 then (0 : Int) else if 8 < n then 8 else n) = (bitsA n : Int) := by
  unfold bitsA
  split
  · rfl
  · split
    · rfl
    · omega
set_option maxRecDepth 100000 in
set_option maxHeartbeats 2000000 in
theorem rdirect_any (p : Option Addr) (c : Nat) (L : List Rt) (n : Int) (ah al : Nat) (w : World) (hR : Row w p (rcs L)) (hg : ∀ x ∈ L, x.k.good) (ha : W64 ah) (hb : W64 al) (hl : L.length < 1048576) :
    Calls Try.prog 11 #[.slice p L.length c, .int .i64 n, .agg #[.int .u64 (ah : Int), .int .u64 (al : Int)]] w fun e w' => e = .returned (dirA L ah al (bitsA n)) ∧ Below w.heap.size w w' := by
  have h1 := fun W => cap_any n 0 8 W
  rw [cap8] at h1
  have hm := bitsA_le n
  obtain ⟨m, hme⟩ : ∃ m, m = bitsA n := ⟨_, rfl⟩
  rw [← hme] at h1 hm ⊢
  have h2 := rcut_any ah al (m : Int) ha hb
  have h3 := fun W (h : Below w.heap.size w W) => rhop18_any p c L (cutK ah al m) (-1) W (hR.below h) hg ⟨ha.cut _, hb.cut _⟩ hl
  have e : hopA (sortR L) (-1) (cutK ah al m) = dirA L ah al m := rfl
  rw [e] at h3
  unfold kyA cutK at h3
  simp only [Int.toNat_natCast] at h2 h3
  have H1 := Lib.hid h1
  have H2 := Lib.hid h2
  have H3 : Hid (∀ W, Below w.heap.size w W → Calls Try.prog 15 #[.slice p L.length c, .agg #[.int .u64 (cutW ah m : Nat), .int .u64 (cutW al (m - 64) : Nat), .int .i64 (m : Int)], .int .i64 (-1)] W fun e w' => e = .returned (dirA L ah al m) ∧ Below W.heap.size W w') := Lib.hid h3
  clear h1 h2 h3 e hme hR hg ha hb
  unfold dirA at H3 ⊢
  go_enter Try.func11, Try.ntmps11
  go_wp2_with fail
  refine (H1.out _).mono ?_
  rintro e w1 ⟨rfl, rfl⟩
  go_wp2_with fail
  refine (H2.out _).mono ?_
  rintro e w2 ⟨rfl, hb2⟩
  have hw2 : Below w.heap.size w w2 := Below.trans (by go_grown) (hb2.mono (by simp))
  go_wp2_with fail
  refine (H3.out _ hw2).mono ?_
  rintro e w3 ⟨rfl, hb3⟩
  have hw3 := hw2.trans (hb3.mono hw2.size)
  go_wp2
  go_ret2
  exact ⟨rfl, hw3⟩
theorem alive20_math : dirA [⟨⟨0, 0, 0⟩, 9⟩] 0 0 3 = .tuple #[.int .i64 9, .bool true] := by
  have h : dirK [⟨⟨0, 0, 0⟩, 9⟩] 0 0 3 = some 9 := by decide +kernel
  unfold dirA dirV
  rw [h]
  rfl
set_option maxRecDepth 100000 in
set_option maxHeartbeats 2000000 in
theorem alive20_any {A : World → (Nat → Prop) → Nat → Nat → List Rt → Prop} (D : DirC A) (w : World) : Calls Try.prog 5 #[] w fun e w' => e = .returned (.bool true) ∧ Below w.heap.size w w' := by
  have hlit := fun W : World => Row.of_own (World.ownsRow_lit (base := W.heap.size) (e := 43) (size := 4) W #[.int .u64 0, .int .u64 0, .int .i64 0, .int .i64 9] 1 (Nat.le_refl _) (by unfold maxLen; omega) rfl)
  have h1 := D.new 3
  have hz : W64 0 := W64.mk (by decide)
  have h2 := fun W K t L0 (p : Option Addr) (h : A W K t (bitsA 3) L0) (hr : Row W p (rcs [⟨⟨0, 0, 0⟩, 9⟩])) => D.fill W K t (bitsA 3) L0 [⟨⟨0, 0, 0⟩, 9⟩] p 1 h hr (fun x hx => by simp at hx; subst hx; exact ⟨hz, hz⟩) (fun e => by subst e; rcases hr with h | ⟨_, _, h, _⟩ <;> cases h) (Nat.le_refl _) (by simp)
  have h3 := fun W K t (h : A W K t (bitsA 3) [⟨⟨0, 0, 0⟩, 9⟩]) => D.get W K t (bitsA 3) _ 0 0 h hz hz
  have h4 := fun W K t (h : A W K t (bitsA 3) [⟨⟨0, 0, 0⟩, 9⟩]) => D.len W K t (bitsA 3) _ h
  rw [show bitsA 3 = 3 from rfl] at h1 h2 h3 h4
  rw [alive20_math] at h3
  have H1 := Lib.hid h1
  have H2 : Hid (∀ W K t L0 (p : Option Addr), A W K t 3 L0 → Row W p (rcs [⟨⟨0, 0, 0⟩, 9⟩]) → Calls Try.prog 10 #[.pointer (some ⟨t, 0, none⟩), .slice p 1 1] W fun e w' => e = .returned (.tuple #[]) ∧ ∃ K', A w' K' t 3 [⟨⟨0, 0, 0⟩, 9⟩] ∧ Touch K W w' ∧ ∀ g, K' g → K g ∨ In W.heap.size w'.heap.size g) := Lib.hid h2
  have H3 := Lib.hid h3
  have H4 := Lib.hid h4
  have HL := Lib.hid hlit
  have HD := Lib.hid D
  clear h1 h2 h3 h4 hlit hz D
  go_enter Try.func5, Try.ntmps5
  go_wp2_with fail
  refine (H1.out _).mono ?_
  rintro e w1 ⟨t, rfl, hb1, ha1⟩
  have hz1 := hb1.size
  have HA1 := Lib.hid (HD.out.below ha1 (by go_grown : Below w1.heap.size w1 (w1.alloc (.cells #[.int .u64 0, .int .u64 0, .int .i64 0, .int .i64 9] 43))))
  clear ha1
  go_wp2_with fail
  refine (H2.out _ _ _ _ _ HA1.out (HL.out w1)).mono ?_
  rintro e w2 ⟨rfl, K2, ha2, ht2, hk2⟩
  have hw2 : Below w.heap.size w w2 := (hb1.alloc hz1 _).trans (ht2.below (by simp; omega) (fun g h => h.1))
  have HA2 := Lib.hid ha2
  clear ha2 ht2 hk2 HA1 hb1
  go_wp2_with fail
  refine (H3.out _ _ _ HA2.out).mono ?_
  rintro e w3 ⟨rfl, hb3⟩
  have hw3 := hw2.trans (hb3.mono hw2.size)
  have HA3 := Lib.hid (HD.out.below HA2.out hb3)
  clear hb3 HA2 hw2
  go_wp2_with fail
  refine (H4.out _ _ _ HA3.out).mono ?_
  rintro e w4 ⟨rfl, hb4⟩
  have hw4 := hw3.trans (hb4.mono hw3.size)
  go_wp2
  go_ret
  exact ⟨rfl, hw4⟩
end Go.Proofs.Ytcfioplbbbaeoaa
/-
  From a law's walk to its given statement: what an argument that leaves all old memory alone reads as behind the call, and how an address, a prefix and a number are opened. No condition.
-/
set_option linter.unusedSimpArgs false
set_option linter.unusedVariables false
namespace Go.Proofs.Ytcfioplbbbaeoaa
open Go.ChangeShapes Go.WideShapes Go.ChangeAt Go.RowKit Go.Joins M

section
variable {H : Type} {enc : TypeId × Value → H} {P : Program}

/-- Arguments read as they did, wherever all that they reach is as it was. -/
theorem all_stays (hl : laidOutB P = true) {W W' : World} {sp : Nat → Bool} : ∀ (ts : List TypeId) (vs : List Value) (ds : List (DataW H)) (p : List MemPlace), ts.all (fun t => P.readableRec t && decide (t < P.types.size)) = true →
    DataW.TrodAll enc P W 0 (fun _ => true) true ts vs ds p → (∀ x ∈ p, W.sameAt W' x) → (∀ x ∈ p, sp x.block = true) → DataW.TrodAll enc P W' 0 sp true ts vs ds p
  | [], [], [], _, _, h, _, _ => h
  | t :: ts, v :: vs, d :: ds, p, ht, h, hsame, hs => by
    obtain ⟨p1, p2, h1, h2, rfl⟩ := h
    simp only [List.all_cons, Bool.and_eq_true, decide_eq_true_eq] at ht
    exact ⟨p1, p2, WideElems.Trod_stays hl ht.1.1 ht.1.2 h1 (fun x hx => hsame x (List.mem_append_left _ hx)) (fun x hx => hs x (List.mem_append_left _ hx)),
      all_stays hl ts vs ds p2 ht.2 h2 (fun x hx => hsame x (List.mem_append_right _ hx)) (fun x hx => hs x (List.mem_append_right _ hx)), rfl⟩
  | [], _ :: _, _, _, _, h, _, _ => h.elim
  | [], [], _ :: _, _, _, h, _, _ => h.elim
  | _ :: _, [], _, _, _, h, _, _ => h.elim
  | _ :: _, _ :: _, [], _, _, h, _, _ => h.elim

/-- WHAT A LAW OWES: its walk hands back true and leaves all that was there as it was. -/
theorem law_post {f : Func} {s : ChangeSpec} {apart : Bool} {W W' : World} {args : Array Value} {ds gs : List (DataW H)} {before : List MemPlace} {tb : TypeId}
    (hl : laidOutB P = true) (hts : f.params.toList.all (fun t => P.readableRec t && decide (t < P.types.size)) = true) (hr : f.resultTypes = #[tb]) (htb : P.underlying tb = some .bool) (hv : s.vars = [])
    (hW : DataW.Whole enc P f.params.toList s.vars apart W args.toList ds gs before) (hfn : s.fn H (ds ++ gs) = { results := [.lit (.bool true)], args := ds }) (hb : Below W.heap.size W W') :
    s.post enc P f apart true false false W args (.bool true) W' := by
  have hlt : ∀ p ∈ before, p.block < W.heap.size := fun p hp => hW.lt p hp
  have hold : ∀ p ∈ before, (fun b => decide (b < W.heap.size)) p.block = true := fun p hp => by simpa using hlt p hp
  have hW2 := hW
  obtain ⟨p, q, hA, hV, hpq, hz, hn⟩ := hW2
  rw [hv] at hV
  have hV2 := hV
  obtain ⟨hg, hq⟩ := trodVars_none hV
  subst hg hq
  rw [List.append_nil] at hpq
  subst hpq
  have hres : ∀ (b : Nat) (sp : Nat → Bool) (hd : Bool), DataW.TrodAll enc P W' b sp hd f.resultTypes.toList ((Value.bool true).resultList f.resultTypes.size) (s.fn H (ds ++ [])).results [] := fun b sp hd => by
    rw [hfn, hr]
    exact trodAll_cons_mk (shut_bool htb _) trodAll_mk0
  have hargs : ∀ sp : Nat → Bool, (∀ x ∈ before, sp x.block = true) → DataW.TrodAll enc P W' 0 sp true f.params.toList args.toList (s.fn H (ds ++ [])).args before := fun sp hsp => by
    rw [hfn]
    exact all_stays hl _ _ _ _ hts hA (fun x hx => hb.same (hlt x hx)) hsp
  have hvars : ∀ sp : Nat → Bool, DataW.TrodVars enc P W' sp s.vars (s.fn H (ds ++ [])).vars [] := fun sp => by
    rw [hfn, hv]
    rfl
  have hok : ∀ (j : Nat) (t : TypeId) (r : Value), f.resultTypes[j]? = some t → ((Value.bool true).resultList f.resultTypes.size)[j]? = some r → Value.okWide P W' .any 0 t r :=
    ok_one hr rfl (okWide_bool_mk htb _)
  refine ⟨ds, [], before, [], before, [], hW, hres _ _ _, hargs _ hold, hvars _, World.keptBut_mono (fun p hp => ⟨hp, Or.inr (by simpa using hp)⟩) (hb.frame (· ∈ before)), fun _ => ?_⟩
  refine ⟨hok, _, _, ([] ++ before) ++ [], ⟨[] ++ before, [], trodAll_append (hargs _ (fun _ _ => rfl)) (hres _ _ _), hvars _, rfl, ?_, ?_⟩, ?_⟩
  · intro b off hp
    have hin : MemPlace.cell b off ∈ before := by simpa using hp
    rw [hb.frozen (hlt _ hin)]
    exact hz b off hin
  · intro ha
    simpa using hn ha
  · intro p hp _
    simpa using hp
end

section
variable {H : Type} {enc : TypeId × Value → H} {w : World} {base : Nat} {spare : Nat → Bool} {held : Bool} {r : Reach} {b0 : Nat}

theorem wf_u64 {n : Int} (h : (Lit.int .u64 n).wf = true) : ∃ k : Nat, n = k ∧ W64 k := by
  obtain ⟨h0, h1⟩ := bounds_u64 h
  obtain ⟨k, rfl⟩ := Int.eq_ofNat_of_zero_le h0
  exact ⟨k, rfl, W64.mk (by omega)⟩

theorem cellsA : Try.prog.cellsOf 25 = 2 := by kernel_rfl
theorem cells64 : Try.prog.cellsOf 23 = 1 := by kernel_rfl
set_option maxRecDepth 100000 in
/-- An address by value. -/
theorem open_addr {v : Value} {d : DataW H} {p : List MemPlace} (hv : Value.okWide Try.prog w r b0 25 v) (h : DataW.Trod enc Try.prog w base spare held 25 v d p) :
    ∃ hi lo : Nat, v = .agg #[.int .u64 hi, .int .u64 lo] ∧ W64 hi ∧ W64 lo := by
  obtain ⟨c0, c1, y0, y1, m, rfl, -, -, h0, h1⟩ := open_agg2 Try.underlying25 (by kernel_rfl) cellsA hv h
  obtain ⟨a, e0, -, wa⟩ := DataW.trod_int Try.underlying23 h0
  obtain ⟨b, e1, -, wb⟩ := DataW.trod_int Try.underlying23 h1
  simp only [List.cons.injEq, and_true] at e0 e1
  obtain ⟨i, rfl, hi⟩ := wf_u64 wa
  obtain ⟨j, rfl, hj⟩ := wf_u64 wb
  exact ⟨i, j, by rw [e0, e1], hi, hj⟩

theorem cellsP : Try.prog.cellsOf 41 = 3 := by kernel_rfl
theorem cellsI : Try.prog.cellsOf 3 = 1 := by kernel_rfl
/-- A prefix's cells. -/
theorem open_pfx_cells {n : Nat} {cs : List Value} {x : DataW H × List MemPlace} (h : DataW.trod enc Try.prog w base spare held n 41 cs = some x) :
    ∃ (hi lo : Nat) (k : Int), cs = [.int .u64 hi, .int .u64 lo, .int .i64 k] ∧ W64 hi ∧ W64 lo ∧ (Lit.int .i64 k).wf = true := by
  obtain ⟨xs, m, -, -, hl, hxl, hf⟩ := DataW.trod_struct Try.underlying41 h
  rw [cellsP] at hl
  have h0 : DataW.trod enc Try.prog w base spare held m 25 ((cs.drop 0).take (Try.prog.cellsOf 25)) = xs[0]? := hf 0 _ rfl
  have h1 : DataW.trod enc Try.prog w base spare held m 3 ((cs.drop 2).take (Try.prog.cellsOf 3)) = xs[1]? := hf 1 _ rfl
  rw [cellsA] at h0
  rw [cellsI] at h1
  obtain ⟨c0, c1, c2, rfl⟩ : ∃ c0 c1 c2, cs = [c0, c1, c2] := by
    rcases cs with _ | ⟨c0, _ | ⟨c1, _ | ⟨c2, _ | ⟨c3, cs⟩⟩⟩⟩ <;> simp at hl
    exact ⟨c0, c1, c2, rfl⟩
  simp only [List.drop_zero, List.take_succ_cons, List.take_zero, List.drop_succ_cons] at h0 h1
  rw [List.getElem?_eq_getElem (by rw [hxl]; decide)] at h0 h1
  obtain ⟨ys, m', -, -, hl', hyl, hg⟩ := DataW.trod_struct Try.underlying25 h0
  have g0 : DataW.trod enc Try.prog w base spare held m' 23 (([c0, c1].drop 0).take (Try.prog.cellsOf 23)) = ys[0]? := hg 0 _ rfl
  have g1 : DataW.trod enc Try.prog w base spare held m' 23 (([c0, c1].drop 1).take (Try.prog.cellsOf 23)) = ys[1]? := hg 1 _ rfl
  rw [cells64] at g0 g1
  simp only [List.drop_zero, List.take_succ_cons, List.take_zero, List.drop_succ_cons] at g0 g1
  rw [List.getElem?_eq_getElem (by rw [hyl]; decide)] at g0 g1
  obtain ⟨a, e0, -, wa⟩ := DataW.trod_int Try.underlying23 g0
  obtain ⟨b, e1, -, wb⟩ := DataW.trod_int Try.underlying23 g1
  obtain ⟨c, e2, -, wc⟩ := DataW.trod_int Try.underlying3 h1
  simp only [List.cons.injEq, and_true] at e0 e1 e2
  obtain ⟨i, rfl, hi⟩ := wf_u64 wa
  obtain ⟨j, rfl, hj⟩ := wf_u64 wb
  exact ⟨i, j, c, by rw [e0, e1, e2], hi, hj, wc⟩
set_option maxRecDepth 100000 in
/-- A prefix by value. -/
theorem open_pfx {v : Value} {d : DataW H} {p : List MemPlace} (hv : Value.okWide Try.prog w r b0 41 v) (h : DataW.Trod enc Try.prog w base spare held 41 v d p) :
    ∃ (hi lo : Nat) (k : Int), v = .agg #[.int .u64 hi, .int .u64 lo, .int .i64 k] ∧ W64 hi ∧ W64 lo ∧ (Lit.int .i64 k).wf = true := by
  obtain ⟨cs, rfl, hsz⟩ := okWide_struct Try.underlying41 hv
  obtain ⟨m, hm⟩ := h
  obtain ⟨hi, lo, k, e, h1, h2, h3⟩ := open_pfx_cells hm
  refine ⟨hi, lo, k, ?_, h1, h2, h3⟩
  obtain ⟨l⟩ := cs
  have e' : l = _ := e
  rw [e']
end
end Go.Proofs.Ytcfioplbbbaeoaa
