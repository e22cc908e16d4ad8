/-
  From a law's walk to its given statement: what an argument that leaves all old memory alone reads as behind the call, and how an address, a prefix and a number are opened. No condition.
-/
import Derived.Test.YtlmampklgghngaaW19c
import Derived.Test.YtlmampklgghngaaW19d
import Derived.Test.YtlmampklgghngaaL19
import Derived.Test.YtlmampklgghngaaRows
import Derived.WalkKit
import Derived.ProofKit
import Derived.OpenShut
import Derived.Carry
import Derived.Lib.SmallJoins
import Derived.ChangeMaps5
import Derived.Test.YtlmampklgghngaaM1
/-
  What the program's delta.Of and delta.Level hand back. No condition but those that stand in OfC and LevelC.
-/
set_option linter.unusedSimpArgs false
set_option linter.unusedVariables false
namespace Go.Proofs.Ytlmampklgghngaa
open Go Go.RowKit Go.Sort M

theorem own_nil19 {w : World} {B n m d k : Nat} {e : TypeId} {q : Option Addr} {xs : List Value} (h : w.ownsRow B e k (.slice q n d) m xs) (hq : q = none) : d = 0 := by
  subst hq
  rcases h.2 with ⟨e1, _⟩ | ⟨g, cap, cur, e1, _⟩
  · injection e1
  · injection e1 with e1
    cases e1
set_option maxHeartbeats 2000000 in
set_option maxRecDepth 100000 in
theorem of_ok : OfC := by
  intro p q c d A B w hA hB hgA hgB hpA hpB hcA hcB hlA hlB
  have hSA := wsorted_any p c A w hA hpA (by omega)
  have hSB := fun W (h : Below w.heap.size w W) => wsorted_any q d B W (hB.below h) hpB (by omega)
  have hla := sortR_len A
  have hlb := sortR_len B
  have hsa := (sortR_mem A).1
  have hsb := (sortR_mem B).1
  obtain ⟨M, hM⟩ : ∃ M, M = sortR A := ⟨_, rfl⟩
  obtain ⟨N, hN⟩ : ∃ N, N = sortR B := ⟨_, rfl⟩
  rw [← hM] at hSA hla hsa
  rw [← hN] at hSB hlb hsb
  rw [← hM, ← hN]
  have ht := fun (p q : Option Addr) c d W (h1 : Row W p (rcs M)) (h2 : Row W q (rcs N)) (h3 : M.length ≤ c) (h4 : N.length ≤ d) => turns_any p q c d M N W h1 h2 hsa hsb h3 h4 (by omega) (by omega)
  obtain ⟨R, hR⟩ : ∃ R, R = ofS M N := ⟨_, rfl⟩
  rw [← hR] at ht ⊢
  have HSA := Lib.hid hSA
  have HSB := Lib.hid hSB
  have HT := Lib.hid ht
  clear hSA hSB ht hR hsa hsb hM hN hA hB hgA hgB
  go_enter Try.func9, Try.ntmps9
  go_wp2_with fail
  refine HSA.out.mono ?_
  rintro e w1 ⟨p1, c1, rfl, ho1, hb1⟩
  have HO1 := Lib.hid ho1
  clear ho1 HSA
  go_wp2_with fail
  refine (HSB.out _ hb1).mono ?_
  rintro e w2 ⟨p2, c2, rfl, ho2, hb2⟩
  have hw2 := hb1.trans (hb2.mono hb1.size)
  have HO2 := Lib.hid ho2
  have HOA := Lib.hid (own_below HO1.out hb2)
  clear ho2 HSB
  go_wp2_with fail
  refine (HT.out _ _ _ _ _ (Row.of_own HOA.out) (Row.of_own HO2.out) (own_cap18 HOA.out) (own_cap18 HO2.out)).mono ?_
  rintro e w3 ⟨p3, c3, rfl, ho3, hb3⟩
  have HF := Lib.hid (And.intro (own_le ho3 hw2.size) (hw2.trans (hb3.mono hw2.size)))
  clear ho3 hb3 HOA HO1 HO2 HT hb1 hb2 hw2
  go_wp2
  go_ret
  exact ⟨p3, c3, rfl, HF.out.1, HF.out.2⟩
set_option maxHeartbeats 4000000 in
set_option maxRecDepth 100000 in
theorem level_ok : LevelC := by
  intro p c L k hop low high w hR hg gk hp hc hl
  have hsrt := (sortR_mem L).1
  have hgs : ∀ x ∈ sortR L, x.k.good := fun x hx => hg x (sortR_sub hx)
  by_cases hout : k.n ≤ low ∨ high < k.n
  · rw [of_out hsrt hgs gk hop hout]
    obtain ⟨kh, kl, kn⟩ := k
    unfold kyA
    simp only at hout ⊢
    clear hR hg hgs hsrt
    by_cases h1 : kn ≤ low
    · go_enter Try.func11, Try.ntmps11
      go_wp2
      go_ret
      exact ⟨none, 0, rfl, World.ownsRow_nil _ _ _ _, by go_grown⟩
    · have h2 : high < kn := by omega
      have h3 : ¬ kn ≤ low := h1
      go_enter Try.func11, Try.ntmps11
      go_wp2
      go_ret
      exact ⟨none, 0, rfl, World.ownsRow_nil _ _ _ _, by go_grown⟩
  · have h1 : low < k.n := by omega
    have h2 : k.n ≤ high := by omega
    have hlh : low < high := by omega
    rw [← of_near hsrt hgs gk hop hlh, ← sort_near k L, ← sort_lvl k hop (nearR k L)]
    have hN := fun W (h : Below w.heap.size w W) => near_any p c L k W (hR.below h) hp hg gk (by omega)
    obtain ⟨F, hF⟩ : ∃ F, F = nearR k L := ⟨_, rfl⟩
    have hFl : F.length ≤ 300 := by rw [hF]; exact Nat.le_trans (List.length_filter_le _ _) hl
    have hFg : ∀ x ∈ F, x.k.good := fun x hx => hg x (nearR_sub (by rw [← hF]; exact hx))
    rw [← hF] at hN ⊢
    have hW := fun (q : Option Addr) d W (h : Row W q (rcs F)) (hq : q = none → d = 0) => without_any q d F k W h hq hFg (by omega)
    obtain ⟨T, hT⟩ : ∃ T, T = if 0 ≤ hop then outS F k ++ [⟨k, hop⟩] else outS F k := ⟨_, rfl⟩
    have hol : (outS F k).length ≤ F.length := List.length_filter_le _ _
    have hTl : T.length ≤ 301 := by
      rw [hT]
      split
      · rw [List.length_append, List.length_singleton]; omega
      · omega
    have hTg : ∀ x ∈ T, x.k.good := fun x hx => by
      rw [hT] at hx
      split at hx
      · rcases List.mem_append.1 hx with h | h
        · exact hFg x (mem_outS.1 h).1
        · rw [List.mem_singleton.1 h]; exact gk
      · exact hFg x (mem_outS.1 hx).1
    rw [← hT]
    have hS1 := fun (q : Option Addr) d W (h : Row W q (rcs F)) (hq : q = none → d = 0) (hd : F.length ≤ d) => set_ok q d F low high W h hFg hq hd (by omega)
    have hS2 := fun (q : Option Addr) d W (h : Row W q (rcs T)) (hq : q = none → d = 0) (hd : T.length ≤ d) => set_ok q d T low high W h hTg hq hd (by omega)
    have s1 := setS_len (sortR F) low high (fun x hx => hFg x (sortR_sub hx))
    have s2 := setS_len (sortR T) low high (fun x hx => hTg x (sortR_sub hx))
    have l1 := sortR_len F
    have l2 := sortR_len T
    have hTU := fun (p q : Option Addr) c d W (h1 : Row W p (rcs (setS (sortR F) low high))) (h2 : Row W q (rcs (setS (sortR T) low high))) (h3 : (setS (sortR F) low high).length ≤ c) (h4 : (setS (sortR T) low high).length ≤ d) => turns_any p q c d _ _ W h1 h2 (set_sorted _ _ _) (set_sorted _ _ _) h3 h4 (by omega) (by omega)
    obtain ⟨X, hX⟩ : ∃ X, X = setS (sortR F) low high := ⟨_, rfl⟩
    obtain ⟨Y, hY⟩ : ∃ Y, Y = setS (sortR T) low high := ⟨_, rfl⟩
    rw [← hX] at hS1 hTU
    rw [← hY] at hS2 hTU
    rw [← hX, ← hY]
    obtain ⟨R, hR2⟩ : ∃ R, R = ofS X Y := ⟨_, rfl⟩
    rw [← hR2] at hTU ⊢
    obtain ⟨O, hO⟩ : ∃ O, O = outS F k := ⟨_, rfl⟩
    rw [← hO] at hW hT hol
    have HN := Lib.hid hN
    have HW := Lib.hid hW
    have HS1 := Lib.hid hS1
    have HS2 := Lib.hid hS2
    have HTU := Lib.hid hTU
    have HT := Lib.hid hT
    clear hN hW hS1 hS2 hTU hT s1 s2 l1 l2 hX hY hR2 hO hF hFg hTg hR hg hgs hsrt hout
    obtain ⟨kh, kl, kn⟩ := k
    unfold kyA at *
    simp only at *
    have n1 : ¬ kn ≤ low := by omega
    have n2 : ¬ high < kn := by omega
    go_enter Try.func11, Try.ntmps11
    go_wp2_with fail
    have hbx : Below w.heap.size w (w.alloc (.cells #[.int .u64 (kh : Int), .int .u64 (kl : Int), .int .i64 kn] 27)) := by go_grown
    refine (HN.out _ hbx).mono ?_
    rintro e w1 ⟨p1, c1, rfl, ho1, hb1⟩
    obtain ⟨hc1, -⟩ := bcell hb1
    have b0 := (hc1 w.heap.size 0 (by simp)).trans (show _ = some (Value.int .u64 (kh : Int)) by simp [go_sem])
    have b1 := (hc1 w.heap.size 1 (by simp)).trans (show _ = some (Value.int .u64 (kl : Int)) by simp [go_sem])
    have b2 := (hc1 w.heap.size 2 (by simp)).trans (show _ = some (Value.int .i64 kn) by simp [go_sem])
    have hw1 : Below w.heap.size w w1 := hbx.trans (hb1.mono (by simp))
    have hz1 : w.heap.size < w1.heap.size := by have := hb1.size; simp at this; omega
    have HO1 := Lib.hid ho1
    have hz1' := hw1.size
    clear ho1 hb1 hc1 HN
    go_wp2_with fail
    refine (HW.out _ _ _ (Row.of_own HO1.out) (own_nil19 HO1.out)).mono ?_
    rintro e w2 ⟨p2, c2, rfl, ho2, hb2⟩
    have b0 := (hb2.cell (p := ⟨w.heap.size, 0, none⟩) hz1).trans b0
    have b1 := (hb2.cell (p := ⟨w.heap.size, 1, none⟩) hz1).trans b1
    have b2 := (hb2.cell (p := ⟨w.heap.size, 2, none⟩) hz1).trans b2
    have hw2 := hw1.trans (hb2.mono hz1')
    have hz2 := Nat.lt_of_lt_of_le hz1 hb2.size
    have hz2' := hb2.size
    have HO2 := Lib.hid ho2
    have HF1 := Lib.hid (own_below HO1.out hb2)
    clear ho2 HW
    by_cases hh : 0 ≤ hop
    · have hTe : T = O ++ [⟨⟨kh, kl, kn⟩, hop⟩] := by rw [HT.out, if_pos hh]
      have HTE := Lib.hid hTe
      have hOb := HO2.out.alloc (.cells #[.int .u64 (kh : Int), .int .u64 (kl : Int), .int .i64 kn, .int .i64 hop] 38)
      have HOb := Lib.hid hOb
      have hsrc : Hid (∀ j u, (rcs [⟨⟨kh, kl, kn⟩, hop⟩])[j]? = some u → (w2.alloc (.cells #[.int .u64 (kh : Int), .int .u64 (kl : Int), .int .i64 kn, .int .i64 hop] 38)).cell? ((⟨w2.heap.size, 0, none⟩ : Addr).add j) = some u) := by
        rw [rcs_one]
        exact Lib.hid (four_new (by simp [go_sem]) (by simp [go_sem]) (by simp [go_sem]) (by simp [go_sem]))
      clear hTe hOb HO2
      go_wp2_with (at_builtin; go_loud (refine wpList_append_row rfl (.tmp 31) (.tmp 35) rfl w1.heap.size _ O [⟨⟨kh, kl, kn⟩, hop⟩] T HTE.out rfl ⟨w2.heap.size, 0, none⟩ 1 rfl HOb.out hsrc.out (by simp; omega) (by simp; omega) ?_))
      intro v4 w4 hown4 hg4 _
      obtain ⟨p4, c4, rfl⟩ := own_slice hown4
      have hb4 : Below w1.heap.size w2 w4 := ((Below.refl w1.heap.size w2).alloc (by omega) _).grown hg4 (by simp; omega) (fun k e => (HOb.out.lt k e).1)
      have hw4 := hw2.trans (hb4.mono hz1')
      have HOT := Lib.hid hown4
      have HOF := Lib.hid (own_below HO1.out (hb2.trans hb4))
      clear hown4 hg4 HOb hsrc b0 b1 b2 HF1 hb4 HO1 hb2
      go_wp2_with fail
      refine (HS1.out _ _ _ (Row.of_own HOF.out) (own_nil19 HOF.out) (own_cap18 HOF.out)).mono ?_
      rintro e w5 ⟨p5, c5, rfl, ho5, hb5⟩
      have hw5 := (hw4).trans (hb5.mono (hw4).size)
      have HO5 := Lib.hid ho5
      have HT5 := Lib.hid (own_below HOT.out hb5)
      clear ho5
      go_wp2_with fail
      refine (HS2.out _ _ _ (Row.of_own HT5.out) (own_nil19 HT5.out) (own_cap18 HT5.out)).mono ?_
      rintro e w6 ⟨p6, c6, rfl, ho6, hb6⟩
      have hw6 := hw5.trans (hb6.mono hw5.size)
      have HO6 := Lib.hid ho6
      have HO5 := Lib.hid (own_below HO5.out hb6)
      clear ho6
      go_wp2_with fail
      refine (HTU.out _ _ _ _ _ (Row.of_own HO5.out) (Row.of_own HO6.out) (own_cap18 HO5.out) (own_cap18 HO6.out)).mono ?_
      rintro e w7 ⟨p7, c7, rfl, ho7, hb7⟩
      have HF := Lib.hid (And.intro (own_le ho7 hw6.size) (hw6.trans (hb7.mono hw6.size)))
      clear ho7 hb7 hb5 hb6 HO5 HO6 HT5 hw5 hw6
      go_wp2
      go_ret
      exact ⟨p7, c7, rfl, HF.out.1, HF.out.2⟩
    · have hTe : T = O := by rw [HT.out, if_neg hh]
      subst hTe
      have HOT := HO2
      have HOF := HF1
      clear b0 b1 b2 HO1 hb2
      go_wp2_with fail
      refine (HS1.out _ _ _ (Row.of_own HOF.out) (own_nil19 HOF.out) (own_cap18 HOF.out)).mono ?_
      rintro e w5 ⟨p5, c5, rfl, ho5, hb5⟩
      have hw5 := (hw2).trans (hb5.mono (hw2).size)
      have HO5 := Lib.hid ho5
      have HT5 := Lib.hid (own_below HOT.out hb5)
      clear ho5
      go_wp2_with fail
      refine (HS2.out _ _ _ (Row.of_own HT5.out) (own_nil19 HT5.out) (own_cap18 HT5.out)).mono ?_
      rintro e w6 ⟨p6, c6, rfl, ho6, hb6⟩
      have hw6 := hw5.trans (hb6.mono hw5.size)
      have HO6 := Lib.hid ho6
      have HO5 := Lib.hid (own_below HO5.out hb6)
      clear ho6
      go_wp2_with fail
      refine (HTU.out _ _ _ _ _ (Row.of_own HO5.out) (Row.of_own HO6.out) (own_cap18 HO5.out) (own_cap18 HO6.out)).mono ?_
      rintro e w7 ⟨p7, c7, rfl, ho7, hb7⟩
      have HF := Lib.hid (And.intro (own_le ho7 hw6.size) (hw6.trans (hb7.mono hw6.size)))
      clear ho7 hb7 hb5 hb6 HO5 HO6 HT5 hw5 hw6
      go_wp2
      go_ret
      exact ⟨p7, c7, rfl, HF.out.1, HF.out.2⟩
end Go.Proofs.Ytlmampklgghngaa
/-
  From a law's walk to its given statement: what an argument that leaves all old memory alone reads as behind the call, and how an address, a prefix and a number are opened. No condition.
-/
set_option linter.unusedSimpArgs false
set_option linter.unusedVariables false
namespace Go.Proofs.Ytlmampklgghngaa
open Go.ChangeShapes Go.WideShapes Go.ChangeAt Go.RowKit Go.Joins M

section
variable {H : Type} {enc : TypeId × Value → H} {P : Program}

/-- Arguments read as they did, wherever all that they reach is as it was. -/
theorem all_stays (hl : laidOutB P = true) {W W' : World} {sp : Nat → Bool} : ∀ (ts : List TypeId) (vs : List Value) (ds : List (DataW H)) (p : List MemPlace), ts.all (fun t => P.readableRec t && decide (t < P.types.size)) = true →
    DataW.TrodAll enc P W 0 (fun _ => true) true ts vs ds p → (∀ x ∈ p, W.sameAt W' x) → (∀ x ∈ p, sp x.block = true) → DataW.TrodAll enc P W' 0 sp true ts vs ds p
  | [], [], [], _, _, h, _, _ => h
  | t :: ts, v :: vs, d :: ds, p, ht, h, hsame, hs => by
    obtain ⟨p1, p2, h1, h2, rfl⟩ := h
    simp only [List.all_cons, Bool.and_eq_true, decide_eq_true_eq] at ht
    exact ⟨p1, p2, WideElems.Trod_stays hl ht.1.1 ht.1.2 h1 (fun x hx => hsame x (List.mem_append_left _ hx)) (fun x hx => hs x (List.mem_append_left _ hx)),
      all_stays hl ts vs ds p2 ht.2 h2 (fun x hx => hsame x (List.mem_append_right _ hx)) (fun x hx => hs x (List.mem_append_right _ hx)), rfl⟩
  | [], _ :: _, _, _, _, h, _, _ => h.elim
  | [], [], _ :: _, _, _, h, _, _ => h.elim
  | _ :: _, [], _, _, _, h, _, _ => h.elim
  | _ :: _, _ :: _, [], _, _, h, _, _ => h.elim

/-- WHAT A LAW OWES: its walk hands back true and leaves all that was there as it was. -/
theorem law_post {f : Func} {s : ChangeSpec} {apart : Bool} {W W' : World} {args : Array Value} {ds gs : List (DataW H)} {before : List MemPlace} {tb : TypeId}
    (hl : laidOutB P = true) (hts : f.params.toList.all (fun t => P.readableRec t && decide (t < P.types.size)) = true) (hr : f.resultTypes = #[tb]) (htb : P.underlying tb = some .bool) (hv : s.vars = [])
    (hW : DataW.Whole enc P f.params.toList s.vars apart W args.toList ds gs before) (hfn : s.fn H (ds ++ gs) = { results := [.lit (.bool true)], args := ds }) (hb : Below W.heap.size W W') :
    s.post enc P f apart true false false W args (.bool true) W' := by
  have hlt : ∀ p ∈ before, p.block < W.heap.size := fun p hp => hW.lt p hp
  have hold : ∀ p ∈ before, (fun b => decide (b < W.heap.size)) p.block = true := fun p hp => by simpa using hlt p hp
  have hW2 := hW
  obtain ⟨p, q, hA, hV, hpq, hz, hn⟩ := hW2
  rw [hv] at hV
  have hV2 := hV
  obtain ⟨hg, hq⟩ := trodVars_none hV
  subst hg hq
  rw [List.append_nil] at hpq
  subst hpq
  have hres : ∀ (b : Nat) (sp : Nat → Bool) (hd : Bool), DataW.TrodAll enc P W' b sp hd f.resultTypes.toList ((Value.bool true).resultList f.resultTypes.size) (s.fn H (ds ++ [])).results [] := fun b sp hd => by
    rw [hfn, hr]
    exact trodAll_cons_mk (shut_bool htb _) trodAll_mk0
  have hargs : ∀ sp : Nat → Bool, (∀ x ∈ before, sp x.block = true) → DataW.TrodAll enc P W' 0 sp true f.params.toList args.toList (s.fn H (ds ++ [])).args before := fun sp hsp => by
    rw [hfn]
    exact all_stays hl _ _ _ _ hts hA (fun x hx => hb.same (hlt x hx)) hsp
  have hvars : ∀ sp : Nat → Bool, DataW.TrodVars enc P W' sp s.vars (s.fn H (ds ++ [])).vars [] := fun sp => by
    rw [hfn, hv]
    rfl
  have hok : ∀ (j : Nat) (t : TypeId) (r : Value), f.resultTypes[j]? = some t → ((Value.bool true).resultList f.resultTypes.size)[j]? = some r → Value.okWide P W' .any 0 t r :=
    ok_one hr rfl (okWide_bool_mk htb _)
  refine ⟨ds, [], before, [], before, [], hW, hres _ _ _, hargs _ hold, hvars _, World.keptBut_mono (fun p hp => ⟨hp, Or.inr (by simpa using hp)⟩) (hb.frame (· ∈ before)), fun _ => ?_⟩
  refine ⟨hok, _, _, ([] ++ before) ++ [], ⟨[] ++ before, [], trodAll_append (hargs _ (fun _ _ => rfl)) (hres _ _ _), hvars _, rfl, ?_, ?_⟩, ?_⟩
  · intro b off hp
    have hin : MemPlace.cell b off ∈ before := by simpa using hp
    rw [hb.frozen (hlt _ hin)]
    exact hz b off hin
  · intro ha
    simpa using hn ha
  · intro p hp _
    simpa using hp
end

section
variable {H : Type} {enc : TypeId × Value → H} {w : World} {base : Nat} {spare : Nat → Bool} {held : Bool} {r : Reach} {b0 : Nat}

theorem wf_u64 {n : Int} (h : (Lit.int .u64 n).wf = true) : ∃ k : Nat, n = k ∧ W64 k := by
  obtain ⟨h0, h1⟩ := bounds_u64 h
  obtain ⟨k, rfl⟩ := Int.eq_ofNat_of_zero_le h0
  exact ⟨k, rfl, W64.mk (by omega)⟩

theorem cellsA : Try.prog.cellsOf 25 = 2 := by kernel_rfl
theorem cells64 : Try.prog.cellsOf 23 = 1 := by kernel_rfl
set_option maxRecDepth 100000 in
/-- An address by value. -/
theorem open_addr {v : Value} {d : DataW H} {p : List MemPlace} (hv : Value.okWide Try.prog w r b0 25 v) (h : DataW.Trod enc Try.prog w base spare held 25 v d p) :
    ∃ hi lo : Nat, v = .agg #[.int .u64 hi, .int .u64 lo] ∧ W64 hi ∧ W64 lo := by
  obtain ⟨c0, c1, y0, y1, m, rfl, -, -, h0, h1⟩ := open_agg2 Try.underlying25 (by kernel_rfl) cellsA hv h
  obtain ⟨a, e0, -, wa⟩ := DataW.trod_int Try.underlying23 h0
  obtain ⟨b, e1, -, wb⟩ := DataW.trod_int Try.underlying23 h1
  simp only [List.cons.injEq, and_true] at e0 e1
  obtain ⟨i, rfl, hi⟩ := wf_u64 wa
  obtain ⟨j, rfl, hj⟩ := wf_u64 wb
  exact ⟨i, j, by rw [e0, e1], hi, hj⟩

theorem cellsP : Try.prog.cellsOf 27 = 3 := by kernel_rfl
theorem cellsI : Try.prog.cellsOf 3 = 1 := by kernel_rfl
/-- A prefix's cells. -/
theorem open_pfx_cells {n : Nat} {cs : List Value} {x : DataW H × List MemPlace} (h : DataW.trod enc Try.prog w base spare held n 27 cs = some x) :
    ∃ (hi lo : Nat) (k : Int), cs = [.int .u64 hi, .int .u64 lo, .int .i64 k] ∧ W64 hi ∧ W64 lo ∧ (Lit.int .i64 k).wf = true := by
  obtain ⟨xs, m, -, -, hl, hxl, hf⟩ := DataW.trod_struct Try.underlying27 h
  rw [cellsP] at hl
  have h0 : DataW.trod enc Try.prog w base spare held m 25 ((cs.drop 0).take (Try.prog.cellsOf 25)) = xs[0]? := hf 0 _ rfl
  have h1 : DataW.trod enc Try.prog w base spare held m 3 ((cs.drop 2).take (Try.prog.cellsOf 3)) = xs[1]? := hf 1 _ rfl
  rw [cellsA] at h0
  rw [cellsI] at h1
  obtain ⟨c0, c1, c2, rfl⟩ : ∃ c0 c1 c2, cs = [c0, c1, c2] := by
    rcases cs with _ | ⟨c0, _ | ⟨c1, _ | ⟨c2, _ | ⟨c3, cs⟩⟩⟩⟩ <;> simp at hl
    exact ⟨c0, c1, c2, rfl⟩
  simp only [List.drop_zero, List.take_succ_cons, List.take_zero, List.drop_succ_cons] at h0 h1
  rw [List.getElem?_eq_getElem (by rw [hxl]; decide)] at h0 h1
  obtain ⟨ys, m', -, -, hl', hyl, hg⟩ := DataW.trod_struct Try.underlying25 h0
  have g0 : DataW.trod enc Try.prog w base spare held m' 23 (([c0, c1].drop 0).take (Try.prog.cellsOf 23)) = ys[0]? := hg 0 _ rfl
  have g1 : DataW.trod enc Try.prog w base spare held m' 23 (([c0, c1].drop 1).take (Try.prog.cellsOf 23)) = ys[1]? := hg 1 _ rfl
  rw [cells64] at g0 g1
  simp only [List.drop_zero, List.take_succ_cons, List.take_zero, List.drop_succ_cons] at g0 g1
  rw [List.getElem?_eq_getElem (by rw [hyl]; decide)] at g0 g1
  obtain ⟨a, e0, -, wa⟩ := DataW.trod_int Try.underlying23 g0
  obtain ⟨b, e1, -, wb⟩ := DataW.trod_int Try.underlying23 g1
  obtain ⟨c, e2, -, wc⟩ := DataW.trod_int Try.underlying3 h1
  simp only [List.cons.injEq, and_true] at e0 e1 e2
  obtain ⟨i, rfl, hi⟩ := wf_u64 wa
  obtain ⟨j, rfl, hj⟩ := wf_u64 wb
  exact ⟨i, j, c, by rw [e0, e1, e2], hi, hj, wc⟩
set_option maxRecDepth 100000 in
/-- A prefix by value. -/
theorem open_pfx {v : Value} {d : DataW H} {p : List MemPlace} (hv : Value.okWide Try.prog w r b0 27 v) (h : DataW.Trod enc Try.prog w base spare held 27 v d p) :
    ∃ (hi lo : Nat) (k : Int), v = .agg #[.int .u64 hi, .int .u64 lo, .int .i64 k] ∧ W64 hi ∧ W64 lo ∧ (Lit.int .i64 k).wf = true := by
  obtain ⟨cs, rfl, hsz⟩ := okWide_struct Try.underlying27 hv
  obtain ⟨m, hm⟩ := h
  obtain ⟨hi, lo, k, e, h1, h2, h3⟩ := open_pfx_cells hm
  refine ⟨hi, lo, k, ?_, h1, h2, h3⟩
  obtain ⟨l⟩ := cs
  have e' : l = _ := e
  rw [e']
end
end Go.Proofs.Ytlmampklgghngaa
