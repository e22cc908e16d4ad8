/-
  A slice that comes in as an argument, its elements of one or more cells: its rows as a list, at an address in old memory. No condition but those that stand in each.
-/
import Derived.Test.YtmdjbdhnenpjeaaW18d
import Derived.Test.YtmdjbdhnenpjeaaRows
import Derived.WalkKit
import Derived.ProofKit
import Derived.OpenShut
import Derived.Carry
import Derived.Lib.SmallJoins
import Derived.ChangeMaps5
import Derived.Test.YtmdjbdhnenpjeaaM1
import Derived.Deep.Slices
/-
  cover.Set and cover.Hop, as chapter 18's laws ask them. No condition but that the routes lie in memory, and their words are words.
-/
set_option linter.unusedSimpArgs false
set_option linter.unusedVariables false
namespace Go.Proofs.Ytmdjbdhnenpjeaa
open Go Go.RowKit Go.Sort M

set_option maxRecDepth 100000 in
set_option maxHeartbeats 4000000 in
theorem set_ok : SetC := by
  intro p c L low high w hR hg hcap hc hl
  have hS := wsorted_any p c L w hR hcap (by omega)
  have hlen := sortR_len L
  have hsrt := (sortR_mem L).1
  obtain ⟨N, hN⟩ : ∃ N, N = sortR L := ⟨_, rfl⟩
  have hgN : ∀ x ∈ N, x.k.good := fun x hx => hg x (sortR_sub (by rw [← hN]; exact hx))
  rw [← hN] at hS hlen hsrt ⊢
  have HS := Lib.hid hS
  have HG := Lib.hid hgN
  have HSRT := Lib.hid hsrt
  have HLN : N.length ≤ 4000 := by omega
  have HBT := Lib.hid between_any
  clear hS hgN hsrt hR hg hN hlen hcap
  go_enter Try.func9, Try.ntmps9
  go_wp2_with fail
  refine HS.out.mono ?_
  rintro e w1 ⟨p1, c1, rfl, ho1, hb1⟩
  have HROW := Lib.hid (Row.of_own ho1)
  have hz1 := hb1.size
  clear ho1 HS
  go_wp2
  go_loopg [7, 13] N.length (fun kx s7 s13 wr => ∃ (i n : Nat) (K : List Rt) (q : Option Addr) (cq : Nat), s13 = .int .i64 (i : Int) ∧ N.length - i ≤ kx ∧ i ≤ N.length ∧ s7 = .slice q n cq ∧ Hid (n = K.length) ∧ Hid (InvS N low high i K) ∧
    Hid (wr.ownsRow w1.heap.size 36 4 (.slice q n cq) n (rcs K)) ∧ Below w1.heap.size w1 wr)
  case atStart => exact ⟨0, 0, [], none, 0, rfl, by omega, by omega, rfl, Lib.hid rfl, Lib.hid (InvS.start _ _ _), Lib.hid (World.ownsRow_nil _ _ _ _), Below.refl _ _⟩
  case round =>
    obtain ⟨i, n, K, q, cq, rfl, k1, k2, rfl, HN, HI, HO, hb⟩ := hrel
    by_cases hi : i < N.length
    · obtain ⟨g, o, rfl, hgs, x0, x1, x2, x3⟩ := (HROW.out.below hb).rt hi
      have hgd := HG.out _ (List.getElem_mem hi)
      have hout := HI.out.out HG.out hi
      have hnone := HI.out.none HSRT.out HG.out hi
      have hlay := HI.out.lay HSRT.out HG.out hi
      have hKl := HI.out.len HG.out k2
      have hsK := HI.out.sorted
      generalize N[i] = r at *
      obtain ⟨⟨kh, kl, kn⟩, v⟩ := r
      simp only at x0 x1 x2 x3 hout hnone hlay
      obtain ⟨hg1, hg2⟩ : W64 kh ∧ W64 kl := hgd
      have hbt := HBT.out kh kl kn v low high
      have i1 : (0 : Int) ≤ (i : Int) := by omega
      have i2 : (i : Int) < (N.length : Int) := by omega
      unfold insB at hout hnone hlay
      simp only at hout hnone hlay
      cases hc : (decide (low < kn) && decide (kn ≤ high)) with
      | false =>
        rw [hc] at hbt
        have HB := Lib.hid hbt
        have HI2 := Lib.hid (hout hc)
        clear hout hnone hlay hbt hc hsK
        go_wp2_with fail
        refine (HB.out _).mono ?_
        rintro e w2 ⟨rfl, hb2⟩
        have hbr := hb.trans ((Below.trans (by go_grown) (hb2.mono (by simp)) : Below wr.heap.size wr w2).mono hb.size)
        have HO2 := Lib.hid (own_below HO.out (Below.trans (by go_grown) (hb2.mono (by simp))))
        go_wp2
        go_roundg (N.length - (i + 1))
        case measure => omega
        case rel => exact ⟨i + 1, n, K, q, cq, by go_num, by omega, by omega, rfl, HN, HI2, HO2, hbr⟩
      | true =>
        rw [hc] at hbt
        have HB := Lib.hid hbt
        have hL : ∃ K', InvS N low high (i + 1) K' ∧ ∀ W q cq, w1.heap.size ≤ W.heap.size → W.ownsRow w1.heap.size 36 4 (.slice q K.length cq) K.length (rcs K) →
            Calls Try.prog 19 #[.slice q K.length cq, .agg #[.int .u64 (kh : Int), .int .u64 (kl : Int), .int .i64 kn, .int .i64 v], .int .i64 high] W fun e w' => LayR w1.heap.size W w' e K' := by
          by_cases h0 : 0 < (sprK ⟨kh, kl, kn⟩ high).length
          · obtain ⟨P, Mm, S, e1, e2, e3, e4⟩ := hlay hc h0
            exact ⟨_, e4, fun W q cq hz ho => lay_some _ q cq K P Mm S kh kl kn v high W ho hz hsK (by omega) hg1 hg2 h0 e1 e2 e3⟩
          · have h0 : sprK ⟨kh, kl, kn⟩ high = [] := List.length_eq_zero_iff.1 (by omega)
            exact ⟨K, hnone hc h0, fun W q cq hz ho => lay_none _ q cq K kh kl kn v high W ho hz hg1 hg2 h0⟩
        obtain ⟨K', hI2, hcall⟩ := hL
        rw [← HN.out] at hcall
        have HI2 := Lib.hid hI2
        have HC := Lib.hid hcall
        clear hout hnone hlay hbt hc hsK hI2 hcall hKl
        go_wp2_with fail
        refine (HB.out _).mono ?_
        rintro e w2 ⟨rfl, hb2⟩
        have hw2 : Below wr.heap.size wr w2 := Below.trans (by go_grown) (hb2.mono (by simp))
        obtain ⟨nc, -⟩ := bcell hb2
        have r0 := (nc wr.heap.size 0 (by simp)).trans (show _ = some (Value.int .u64 (kh : Int)) by simp [go_sem])
        have r1 := (nc wr.heap.size 1 (by simp)).trans (show _ = some (Value.int .u64 (kl : Int)) by simp [go_sem])
        have r2 := (nc wr.heap.size 2 (by simp)).trans (show _ = some (Value.int .i64 kn) by simp [go_sem])
        have r3 := (nc wr.heap.size 3 (by simp)).trans (show _ = some (Value.int .i64 v) by simp [go_sem])
        have hz2 : wr.heap.size < w2.heap.size := by have := hb2.size; simp at this; omega
        have HO2 := Lib.hid (own_below HO.out hw2)
        have hb2' := hb.trans (hw2.mono hb.size)
        clear nc hb2 hw2 x0 x1 x2 x3 HO
        go_wp2_with fail
        refine (HC.out w2 q cq hb2'.size HO2.out).mono ?_
        rintro e w3 ⟨q3, c3, rfl, ho3, hb3⟩
        have hb3' := hb2'.trans hb3
        have HO3 := Lib.hid ho3
        clear ho3 hb3 HC
        go_wp2
        go_roundg (N.length - (i + 1))
        case measure => omega
        case rel => exact ⟨i + 1, K'.length, K', q3, c3, by go_num, by omega, by omega, rfl, Lib.hid rfl, HI2, HO3, hb3'⟩
    · have hil : i = N.length := by omega
      have hd : K = setS N low high := by
        have := HI.out
        rw [hil] at this
        exact this.done
      have HD := Lib.hid hd
      have hbw := hb1.trans (hb.mono hz1)
      clear hil hd
      go_wp2
      go_ret
      refine ⟨q, cq, ?_, ?_, hbw⟩
      · rw [← HD.out, HN.out]; rfl
      · have h := own_le HO.out hz1
        rw [HN.out, HD.out] at h
        exact h
end Go.Proofs.Ytmdjbdhnenpjeaa
/-
  From a law's walk to its given statement: what an argument that leaves all old memory alone reads as behind the call, and how an address, a prefix and a number are opened. No condition.
-/
set_option linter.unusedSimpArgs false
set_option linter.unusedVariables false
namespace Go.Proofs.Ytmdjbdhnenpjeaa
open Go.ChangeShapes Go.WideShapes Go.ChangeAt Go.RowKit Go.Joins M

section
variable {H : Type} {enc : TypeId × Value → H} {P : Program}

/-- Arguments read as they did, wherever all that they reach is as it was. -/
theorem all_stays (hl : laidOutB P = true) {W W' : World} {sp : Nat → Bool} : ∀ (ts : List TypeId) (vs : List Value) (ds : List (DataW H)) (p : List MemPlace), ts.all (fun t => P.readableRec t && decide (t < P.types.size)) = true →
    DataW.TrodAll enc P W 0 (fun _ => true) true ts vs ds p → (∀ x ∈ p, W.sameAt W' x) → (∀ x ∈ p, sp x.block = true) → DataW.TrodAll enc P W' 0 sp true ts vs ds p
  | [], [], [], _, _, h, _, _ => h
  | t :: ts, v :: vs, d :: ds, p, ht, h, hsame, hs => by
    obtain ⟨p1, p2, h1, h2, rfl⟩ := h
    simp only [List.all_cons, Bool.and_eq_true, decide_eq_true_eq] at ht
    exact ⟨p1, p2, WideElems.Trod_stays hl ht.1.1 ht.1.2 h1 (fun x hx => hsame x (List.mem_append_left _ hx)) (fun x hx => hs x (List.mem_append_left _ hx)),
      all_stays hl ts vs ds p2 ht.2 h2 (fun x hx => hsame x (List.mem_append_right _ hx)) (fun x hx => hs x (List.mem_append_right _ hx)), rfl⟩
  | [], _ :: _, _, _, _, h, _, _ => h.elim
  | [], [], _ :: _, _, _, h, _, _ => h.elim
  | _ :: _, [], _, _, _, h, _, _ => h.elim
  | _ :: _, _ :: _, [], _, _, h, _, _ => h.elim

/-- WHAT A LAW OWES: its walk hands back true and leaves all that was there as it was. -/
theorem law_post {f : Func} {s : ChangeSpec} {apart : Bool} {W W' : World} {args : Array Value} {ds gs : List (DataW H)} {before : List MemPlace} {tb : TypeId}
    (hl : laidOutB P = true) (hts : f.params.toList.all (fun t => P.readableRec t && decide (t < P.types.size)) = true) (hr : f.resultTypes = #[tb]) (htb : P.underlying tb = some .bool) (hv : s.vars = [])
    (hW : DataW.Whole enc P f.params.toList s.vars apart W args.toList ds gs before) (hfn : s.fn H (ds ++ gs) = { results := [.lit (.bool true)], args := ds }) (hb : Below W.heap.size W W') :
    s.post enc P f apart true false false W args (.bool true) W' := by
  have hlt : ∀ p ∈ before, p.block < W.heap.size := fun p hp => hW.lt p hp
  have hold : ∀ p ∈ before, (fun b => decide (b < W.heap.size)) p.block = true := fun p hp => by simpa using hlt p hp
  have hW2 := hW
  obtain ⟨p, q, hA, hV, hpq, hz, hn⟩ := hW2
  rw [hv] at hV
  have hV2 := hV
  obtain ⟨hg, hq⟩ := trodVars_none hV
  subst hg hq
  rw [List.append_nil] at hpq
  subst hpq
  have hres : ∀ (b : Nat) (sp : Nat → Bool) (hd : Bool), DataW.TrodAll enc P W' b sp hd f.resultTypes.toList ((Value.bool true).resultList f.resultTypes.size) (s.fn H (ds ++ [])).results [] := fun b sp hd => by
    rw [hfn, hr]
    exact trodAll_cons_mk (shut_bool htb _) trodAll_mk0
  have hargs : ∀ sp : Nat → Bool, (∀ x ∈ before, sp x.block = true) → DataW.TrodAll enc P W' 0 sp true f.params.toList args.toList (s.fn H (ds ++ [])).args before := fun sp hsp => by
    rw [hfn]
    exact all_stays hl _ _ _ _ hts hA (fun x hx => hb.same (hlt x hx)) hsp
  have hvars : ∀ sp : Nat → Bool, DataW.TrodVars enc P W' sp s.vars (s.fn H (ds ++ [])).vars [] := fun sp => by
    rw [hfn, hv]
    rfl
  have hok : ∀ (j : Nat) (t : TypeId) (r : Value), f.resultTypes[j]? = some t → ((Value.bool true).resultList f.resultTypes.size)[j]? = some r → Value.okWide P W' .any 0 t r :=
    ok_one hr rfl (okWide_bool_mk htb _)
  refine ⟨ds, [], before, [], before, [], hW, hres _ _ _, hargs _ hold, hvars _, World.keptBut_mono (fun p hp => ⟨hp, Or.inr (by simpa using hp)⟩) (hb.frame (· ∈ before)), fun _ => ?_⟩
  refine ⟨hok, _, _, ([] ++ before) ++ [], ⟨[] ++ before, [], trodAll_append (hargs _ (fun _ _ => rfl)) (hres _ _ _), hvars _, rfl, ?_, ?_⟩, ?_⟩
  · intro b off hp
    have hin : MemPlace.cell b off ∈ before := by simpa using hp
    rw [hb.frozen (hlt _ hin)]
    exact hz b off hin
  · intro ha
    simpa using hn ha
  · intro p hp _
    simpa using hp
end

section
variable {H : Type} {enc : TypeId × Value → H} {w : World} {base : Nat} {spare : Nat → Bool} {held : Bool} {r : Reach} {b0 : Nat}

theorem wf_u64 {n : Int} (h : (Lit.int .u64 n).wf = true) : ∃ k : Nat, n = k ∧ W64 k := by
  obtain ⟨h0, h1⟩ := bounds_u64 h
  obtain ⟨k, rfl⟩ := Int.eq_ofNat_of_zero_le h0
  exact ⟨k, rfl, W64.mk (by omega)⟩

theorem cellsA : Try.prog.cellsOf 25 = 2 := by kernel_rfl
theorem cells64 : Try.prog.cellsOf 23 = 1 := by kernel_rfl
set_option maxRecDepth 100000 in
/-- An address by value. -/
theorem open_addr {v : Value} {d : DataW H} {p : List MemPlace} (hv : Value.okWide Try.prog w r b0 25 v) (h : DataW.Trod enc Try.prog w base spare held 25 v d p) :
    ∃ hi lo : Nat, v = .agg #[.int .u64 hi, .int .u64 lo] ∧ W64 hi ∧ W64 lo := by
  obtain ⟨c0, c1, y0, y1, m, rfl, -, -, h0, h1⟩ := open_agg2 Try.underlying25 (by kernel_rfl) cellsA hv h
  obtain ⟨a, e0, -, wa⟩ := DataW.trod_int Try.underlying23 h0
  obtain ⟨b, e1, -, wb⟩ := DataW.trod_int Try.underlying23 h1
  simp only [List.cons.injEq, and_true] at e0 e1
  obtain ⟨i, rfl, hi⟩ := wf_u64 wa
  obtain ⟨j, rfl, hj⟩ := wf_u64 wb
  exact ⟨i, j, by rw [e0, e1], hi, hj⟩

theorem cellsP : Try.prog.cellsOf 27 = 3 := by kernel_rfl
theorem cellsI : Try.prog.cellsOf 3 = 1 := by kernel_rfl
/-- A prefix's cells. -/
theorem open_pfx_cells {n : Nat} {cs : List Value} {x : DataW H × List MemPlace} (h : DataW.trod enc Try.prog w base spare held n 27 cs = some x) :
    ∃ (hi lo : Nat) (k : Int), cs = [.int .u64 hi, .int .u64 lo, .int .i64 k] ∧ W64 hi ∧ W64 lo ∧ (Lit.int .i64 k).wf = true := by
  obtain ⟨xs, m, -, -, hl, hxl, hf⟩ := DataW.trod_struct Try.underlying27 h
  rw [cellsP] at hl
  have h0 : DataW.trod enc Try.prog w base spare held m 25 ((cs.drop 0).take (Try.prog.cellsOf 25)) = xs[0]? := hf 0 _ rfl
  have h1 : DataW.trod enc Try.prog w base spare held m 3 ((cs.drop 2).take (Try.prog.cellsOf 3)) = xs[1]? := hf 1 _ rfl
  rw [cellsA] at h0
  rw [cellsI] at h1
  obtain ⟨c0, c1, c2, rfl⟩ : ∃ c0 c1 c2, cs = [c0, c1, c2] := by
    rcases cs with _ | ⟨c0, _ | ⟨c1, _ | ⟨c2, _ | ⟨c3, cs⟩⟩⟩⟩ <;> simp at hl
    exact ⟨c0, c1, c2, rfl⟩
  simp only [List.drop_zero, List.take_succ_cons, List.take_zero, List.drop_succ_cons] at h0 h1
  rw [List.getElem?_eq_getElem (by rw [hxl]; decide)] at h0 h1
  obtain ⟨ys, m', -, -, hl', hyl, hg⟩ := DataW.trod_struct Try.underlying25 h0
  have g0 : DataW.trod enc Try.prog w base spare held m' 23 (([c0, c1].drop 0).take (Try.prog.cellsOf 23)) = ys[0]? := hg 0 _ rfl
  have g1 : DataW.trod enc Try.prog w base spare held m' 23 (([c0, c1].drop 1).take (Try.prog.cellsOf 23)) = ys[1]? := hg 1 _ rfl
  rw [cells64] at g0 g1
  simp only [List.drop_zero, List.take_succ_cons, List.take_zero, List.drop_succ_cons] at g0 g1
  rw [List.getElem?_eq_getElem (by rw [hyl]; decide)] at g0 g1
  obtain ⟨a, e0, -, wa⟩ := DataW.trod_int Try.underlying23 g0
  obtain ⟨b, e1, -, wb⟩ := DataW.trod_int Try.underlying23 g1
  obtain ⟨c, e2, -, wc⟩ := DataW.trod_int Try.underlying3 h1
  simp only [List.cons.injEq, and_true] at e0 e1 e2
  obtain ⟨i, rfl, hi⟩ := wf_u64 wa
  obtain ⟨j, rfl, hj⟩ := wf_u64 wb
  exact ⟨i, j, c, by rw [e0, e1, e2], hi, hj, wc⟩
set_option maxRecDepth 100000 in
/-- A prefix by value. -/
theorem open_pfx {v : Value} {d : DataW H} {p : List MemPlace} (hv : Value.okWide Try.prog w r b0 27 v) (h : DataW.Trod enc Try.prog w base spare held 27 v d p) :
    ∃ (hi lo : Nat) (k : Int), v = .agg #[.int .u64 hi, .int .u64 lo, .int .i64 k] ∧ W64 hi ∧ W64 lo ∧ (Lit.int .i64 k).wf = true := by
  obtain ⟨cs, rfl, hsz⟩ := okWide_struct Try.underlying27 hv
  obtain ⟨m, hm⟩ := h
  obtain ⟨hi, lo, k, e, h1, h2, h3⟩ := open_pfx_cells hm
  refine ⟨hi, lo, k, ?_, h1, h2, h3⟩
  obtain ⟨l⟩ := cs
  have e' : l = _ := e
  rw [e']
end
end Go.Proofs.Ytmdjbdhnenpjeaa
/-
  A slice that comes in as an argument, its elements of one or more cells: its rows as a list, at an address in old memory. No condition but those that stand in each.
-/
set_option linter.unusedSimpArgs false
set_option linter.unusedVariables false
namespace Go.Proofs.Ytmdjbdhnenpjeaa
open Go.ChangeShapes Go.WideShapes Go.ChangeAt Go.RowKit Go.Joins Go.Deep M

/-- The elements L, each of k cells, lie at p. -/
def RowA {α : Type} (k : Nat) (cells : α → List Value) (w : World) (p : Option Addr) (L : List α) : Prop :=
  L = [] ∨ ∃ g o, p = some ⟨g, o, none⟩ ∧ g < w.heap.size ∧ ∀ (i : Nat) (hi : i < L.length) (j : Nat) (u : Value), (cells L[i])[j]? = some u → w.cell? ⟨g, o + i * k + j, none⟩ = some u
theorem RowA.below {α : Type} {k : Nat} {cells : α → List Value} {w w' : World} {p : Option Addr} {L : List α} (h : RowA k cells w p L) (hb : Below w.heap.size w w') : RowA k cells w' p L := by
  rcases h with h | ⟨g, o, e, hg, hc⟩
  · exact .inl h
  · exact .inr ⟨g, o, e, Nat.lt_of_lt_of_le hg hb.size, fun i hi j u hu => (hb.cell (p := ⟨g, o + i * k + j, none⟩) hg).trans (hc i hi j u hu)⟩
theorem RowA.at {α : Type} {k : Nat} {cells : α → List Value} {w : World} {p : Option Addr} {L : List α} (h : RowA k cells w p L) {i : Nat} (hi : i < L.length) :
    ∃ g o, p = some ⟨g, o, none⟩ ∧ g < w.heap.size ∧ ∀ (j : Nat) (u : Value), (cells L[i])[j]? = some u → w.cell? ⟨g, o + i * k + j, none⟩ = some u := by
  rcases h with h | ⟨g, o, e, hg, hc⟩
  · subst h
    simp at hi
  · exact ⟨g, o, e, hg, fun j u hu => hc i hi j u hu⟩
section
variable {H : Type} {enc : TypeId × Value → H} {P : Program} {w : World} {base : Nat} {spare : Nat → Bool} {held : Bool} {r : Reach} {b0 : Nat}
theorem open_elems {α : Type} [Inhabited α] {t e : TypeId} {k : Nat} {cells : α → List Value} {good : α → Prop} (ht : P.underlying t = some (.slice e)) (hC : P.cellsOf e = k) (hk : 0 < k) (hcell : ∀ a, good a → 0 < (cells a).length)
    (elem : ∀ n cs x, DataW.trod enc P w base spare held n e cs = some x → ∃ a, cs = cells a ∧ good a)
    {v : Value} {d : DataW H} {p : List MemPlace} (hv : Value.okWide P w r b0 t v) (h : DataW.Trod enc P w base spare held t v d p) :
    ∃ (q : Option Addr) (c : Nat) (L : List α), v = .slice q L.length c ∧ RowA k cells w q L ∧ (∀ a ∈ L, good a) ∧ L.length ≤ maxLen := by
  obtain ⟨q, len, c, rfl⟩ := okWide_slice ht hv
  obtain ⟨fuel, hf⟩ := h
  rcases open_slice ht hf with ⟨h0, -⟩ | ⟨a, len', cap, m, n, D, Pl, hcs, -, hl, hm, hmm, -, hx⟩
  · simp only [Value.cells, List.cons.injEq, Value.slice.injEq, and_true] at h0
    obtain ⟨rfl, rfl, rfl⟩ := h0
    exact ⟨none, 0, [], rfl, .inl rfl, by simp, by simp⟩
  · simp only [Value.cells, List.cons.injEq, Value.slice.injEq, and_true] at hcs
    obtain ⟨rfl, rfl, rfl⟩ := hcs
    have hlm : len ≤ m := by
      rw [hmm]
      split <;> omega
    obtain ⟨V, hV⟩ := choose_lt (α := α) (n := len) (p := fun i x => good x ∧ ∀ (j : Nat) (u : Value), (cells x)[j]? = some u → w.cell? (a.add (i * k + j)) = some u) (fun i hi => by
      obtain ⟨cs', h1, h2⟩ := hx i (by omega)
      obtain ⟨x, rfl, hg⟩ := elem _ _ _ h2
      refine ⟨x, hg, fun j u hu => ?_⟩
      obtain ⟨_, hlen, hat⟩ := World.cells?_some h1
      rw [hC] at hat hlen
      have hj : j < k := by
        have := (List.getElem?_eq_some_iff.1 hu).1
        omega
      have := hat j hj
      rw [← hu, ← this, Go.Deep.add_add])
    have hL : ((List.range len).map V).length = len := by simp
    refine ⟨some a, c, (List.range len).map V, by rw [hL], ?_, ?_, by rw [hL]; omega⟩
    · by_cases h0 : len = 0
      · subst h0
        exact .inl rfl
      · right
        obtain ⟨g, o, spot⟩ := a
        have hw0 := hcell _ (hV 0 (by omega)).1
        have h00 := (hV 0 (by omega)).2 0 _ (List.getElem?_eq_getElem hw0)
        rw [Nat.zero_mul, Nat.zero_add] at h00
        have hspot : spot = none := by simpa [Addr.add] using World.cell?_spot h00
        subst hspot
        refine ⟨g, o, rfl, ?_, fun i hi j u hu => ?_⟩
        · have := World.block_lt_of_cell? w _ h00
          simpa [Addr.add] using this
        · rw [hL] at hi
          have := (hV i hi).2 j u (by simpa using hu)
          rw [show (⟨g, o, none⟩ : Addr).add (i * k + j) = ⟨g, o + i * k + j, none⟩ by unfold Addr.add; split <;> simp_all <;> omega] at this
          exact this
    · intro x hx
      rw [List.mem_map] at hx
      obtain ⟨i, hi, rfl⟩ := hx
      exact (hV i (List.mem_range.1 hi)).1
end
end Go.Proofs.Ytmdjbdhnenpjeaa
