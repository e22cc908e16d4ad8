/-
  What the reference's Choose hands back, walked. No condition but that the counts lie in memory, and are short of a million.
-/
import Derived.Test.YtnmcgboafdglbaaRef17c
import Derived.Deep.DeepCutAuto
import Derived.Deep.CutBlock
set_option linter.unusedSimpArgs false
set_option linter.unusedVariables false
namespace Go.Proofs.Ytnmcgboafdglbaa
open Go Go.RowKit Go.Sort M

set_option maxHeartbeats 8000000 in
set_option maxRecDepth 100000 in
theorem rchoose_any (p : Option Addr) (c : Nat) (C : List Int) (wd lo mo st : Int) (w : World) (hC : IRow w p C) (h1 : C.length ≤ 1000000) :
    Calls Try.prog 9 #[.int .i64 wd, .int .i64 lo, .int .i64 mo, .int .i64 st, .slice p C.length c] w fun e w' => ChoR (chosen C wd lo mo st) e w' ∧ Below w.heap.size w w' := by
  have hA := able_any wd lo mo st
  cases hab : ablB wd lo mo st with
  | false =>
    have hR : chosen C wd lo mo st = none := by unfold chosen; rw [hab]; rfl
    rw [hR]
    rw [hab] at hA
    have HA := Lib.hid hA
    clear hA hab hR hC
    go_enter Try.func9, Try.ntmps9
    go_wp2_with fail
    refine (HA.out _).mono ?_
    rintro e w1 ⟨rfl, hb1⟩
    go_wp2
    go_ret2
    exact ⟨rfl, hb1⟩
  | true =>
    have hab2 := hab
    unfold ablB at hab2
    obtain ⟨a1, a2, a3, a4, a5, a6, a7, a8⟩ := of_decide_eq_true hab2
    clear hab2
    obtain ⟨wn, rfl⟩ := Int.eq_ofNat_of_zero_le (show 0 ≤ wd by omega)
    obtain ⟨ln, rfl⟩ := Int.eq_ofNat_of_zero_le a3
    obtain ⟨mn, rfl⟩ := Int.eq_ofNat_of_zero_le a5
    obtain ⟨sn, rfl⟩ := Int.eq_ofNat_of_zero_le (show 0 ≤ st by omega)
    have hcs : chosen C (wn : Int) (ln : Int) (mn : Int) (sn : Int) = (bst C sn wn (min mn wn) ln).map (·.2) := by unfold chosen; rw [if_pos hab]; rfl
    rw [hab] at hA
    obtain ⟨R, hR⟩ : ∃ R, R = chosen C (wn : Int) (ln : Int) (mn : Int) (sn : Int) := ⟨_, rfl⟩
    rw [← hR]
    have HR : Hid (R = (bst C sn wn (min mn wn) ln).map (·.2)) := Lib.hid (hR.trans hcs)
    have HA := Lib.hid hA
    have HC := Lib.hid hC
    clear hA hab hC hcs hR
    have hmk := make_row (P := Try.prog) (t := 43) (by kernel_rfl) infoRW (wn + 1) (by omega) (by unfold maxLen; omega)
    simp only [show ((wn + 1 : Nat) : Int) = (wn : Int) + 1 by omega] at hmk
    obtain ⟨j0, hj0, jz0, jz1, jz2⟩ := info_parts infoRW
    have hmade := fun W => made_rrw W wn 45
    have HMADE := Lib.hid hmade
    clear hmade
    go_enter Try.func9, Try.ntmps9
    go_wp2_with fail
    refine (HA.out _).mono ?_
    rintro e w1 ⟨rfl, hb1⟩
    have hm1 := HMADE.out w1
    obtain ⟨E1, hE1⟩ := hm1.ex
    have x0 := (hE1 wn (Nat.le_refl _)).1.1
    have e1 := (hE1 wn (Nat.le_refl _)).2.ok
    rw [e1] at x0
    simp only [Option.isSome_none] at x0
    have f0 : (w1.alloc (.cells (madeCells #[.bool false, .int .i64 0, .slice none 0 0] ((wn + 1) * 3)) 45)).frozen? ⟨w1.heap.size, wn * 3, none⟩ = false := by simp [go_sem]
    have hrr := hm1.ends hm1.ex
    have hbb : Below w.heap.size w ((w1.alloc (.cells (madeCells #[.bool false, .int .i64 0, .slice none 0 0] ((wn + 1) * 3)) 45)).setCell ⟨w1.heap.size, wn * 3, none⟩ (.bool true)) := bset17 (hb1.alloc hb1.size _) hb1.size
    rw [World.setCell_alloc_new] at hrr hbb
    have HRR := Lib.hid hrr
    clear hm1 hE1 e1 hrr HA
    go_wp2
    go_loopg [12, 13] wn (fun kx s12 s13 wr => ∃ (n gb cb : Nat) (X : Nat → Option Wy), s13 = .int .i64 (n : Int) ∧ wn - n ≤ kx ∧ n ≤ min mn wn ∧ s12 = .slice (some ⟨gb, 0, none⟩) (wn + 1) cb ∧ Hid (RRw wr gb wn gb X) ∧ Hid (∀ j, ln ≤ j → j ≤ wn → X j = bst C sn wn n j) ∧ Below w.heap.size w wr)
    case atStart =>
      refine ⟨0, w1.heap.size, wn + 1, _, rfl, by omega, by omega, rfl, HRR, Lib.hid fun j h2 h3 => ?_, hbb⟩
      unfold updR bst
      rfl
    case round =>
      clear HRR hbb x0 f0 hb1 hmk
      obtain ⟨n, gb, cb, X, rfl, k1, k2, rfl, HX, HV, hb⟩ := hrel
      by_cases hn : n < min mn wn
      · obtain ⟨E, hE⟩ := HX.out.ex
        have hgb := HX.out.lt
        have i1 : (n : Int) < (mn : Int) := by omega
        have i2 : (n : Int) < (wn : Int) := by omega
        have hrc := rrow_cells (fun j hj => (hE j hj).1)
        have hzs := hb.size
        have HRC := Lib.hid hrc
        have HE := Lib.hid hE
        clear hrc hE
        go_wp2_with (at_builtin; go_loud (refine wpList_append_own_at _ rfl (.const (.slice none 0 0)) (.tmp 41) 43 rfl wr.heap.size 45 j0 _ 3 40 Try.underlying43 hj0 jz0 jz1 jz2 rfl (by decide) (.slice none 0 0) 0 [] rfl (World.ownsRow_nil _ _ _ _) ⟨gb, 0, none⟩ (wn + 1) cb (rrow E (wn + 1)) rfl (rrow_len _ _) HRC.out (rrow_one _ _) (by unfold maxLen; omega) (by omega) (Nat.le_refl _) ?_))
        intro v2 w2 hown2 hg2 hv2 _
        have hbn : Below wr.heap.size wr w2 := (Below.refl wr.heap.size wr).grown hg2 (Nat.le_refl _) (fun k e => by simp [Value.ownBlock] at e)
        rcases hown2.2 with ⟨rfl, h0⟩ | ⟨gn, cn, cur, rfl, hgn, -, -, -, -, -⟩
        · omega
        have hgl := (hown2.lt gn rfl).2
        have HCH : Hid (Chs w2 gb gn wn X X) := Lib.hid ⟨HX.out.fresh hbn hgn hgl, RRw.copy HE.out hbn (Nat.le_refl _) hown2, hown2.frozenAt, by omega⟩
        have hb := hb.trans (hbn.mono hzs)
        have hwn : w.heap.size ≤ gn := by omega
        clear hown2 hg2 hv2 hbn HX HE HRC hgb hgn hgl
        go_wp2
        rename World => wo
        go_loopg [15] wn (fun kx s15 wr => ∃ (a : Nat) (Y : Nat → Option Wy), s15 = .int .i64 (a : Int) ∧ wn - a ≤ kx ∧ ln ≤ a ∧ a ≤ wn ∧ Hid (Chs wr gb gn wn X Y) ∧ Hid (Vals C sn wn ln n a 0 Y) ∧ Below w.heap.size w wr)
        case atStart => exact ⟨ln, X, rfl, by omega, by omega, by omega, HCH, Lib.hid ⟨fun j h2 h3 => by omega, HV.out ln (Nat.le_refl _) (by omega), fun j h2 h3 => HV.out j (by omega) h3⟩, hb⟩
        case round =>
          clear HCH hb
          obtain ⟨a, Y, rfl, k3, k4, k5, HCH, HY, hb⟩ := hrel
          by_cases ha : a < wn
          · obtain ⟨K, hK⟩ : ∃ K, K = min (a + sn) wn - a := ⟨_, rfl⟩
            have hK1 : a + K ≤ wn := by omega
            have hK2 : K ≤ sn := by omega
            have hK3 : a + K = wn ∨ K = sn := by omega
            have HK := Lib.hid hK
            clear hK
            go_wp2
            rename World => wo
            go_loopg [16] K (fun kx s16 wr => ∃ (t i : Nat) (Y : Nat → Option Wy), s16 = .int .i64 (t : Int) ∧ K - i ≤ kx ∧ i ≤ K ∧ Hid (t = a + 1 + i) ∧ (t : Int) = (a : Int) + 1 + (i : Int) ∧ Hid (Chs wr gb gn wn X Y) ∧ Hid (Vals C sn wn ln n a i Y) ∧ Below w.heap.size w wr)
            case atStart => exact ⟨a + 1, 0, Y, by go_num, by omega, by omega, Lib.hid rfl, by omega, HCH, HY, hb⟩
            case round =>
              clear HCH hb HY
              obtain ⟨t, i, Y, rfl, k6, k7, HT, ht, HCH, HY, hb⟩ := hrel
              by_cases hi : i < K
              · obtain ⟨E, hE⟩ := HCH.out.best.ex
                obtain ⟨⟨x0, x1, x2⟩, hent⟩ := hE t (by omega)
                have hgb := HCH.out.best.lt
                have hxv := HV.out t (by omega) (by omega)
                rw [hent.ok, hxv] at x0
                have i1 : (t : Int) ≤ (wn : Int) := by omega
                have i2 : (t : Int) ≤ (a : Int) + (sn : Int) := by omega
                have i3 : (t : Int) < (wn : Int) + 1 := by omega
                have i4 : (0 : Int) ≤ (t : Int) := by omega
                cases hx : bst C sn wn n t with
                | none =>
                  rw [hx] at x0
                  simp only [Option.isSome_none] at x0
                  have HYN : Hid (Vals C sn wn ln n a (i + 1) Y) := Lib.hid ⟨HY.out.done, by rw [HY.out.now, fdO, ← HT.out, hx]; rfl, HY.out.rest⟩
                  have HT1 : Hid (t + 1 = a + 1 + (i + 1)) := Lib.hid (by omega)
                  have ht1 : ((t + 1 : Nat) : Int) = (a : Int) + 1 + ((i + 1 : Nat) : Int) := by omega
                  have HT2 := Lib.hid ht1
                  clear hE hent hxv hx x1 x2 ht ht1
                  go_wp2
                  go_roundg (K - (i + 1))
                  case measure => omega
                  case rel => exact ⟨t + 1, i + 1, Y, by go_num, by omega, by omega, HT1, HT2.out, HCH, HYN, hb⟩
                | some xx =>
                  obtain ⟨xc, L⟩ := xx
                  have hbl := bst_len C (st := sn) (wd := wn) (by omega) n t
                  rw [hx] at x0 hbl hxv
                  simp only [Option.isSome_some] at x0
                  have e1 := hent.c
                  have e2 := hent.n
                  have e3 := hent.z
                  have e4 := hent.l
                  rw [hxv] at e1 e2 e3 e4
                  rw [e1] at x1
                  rw [e2] at x2
                  change wr.cell? _ = some (.int .i64 (xc : Int)) at x1
                  change L = [] → _ at e3
                  change LRow wr gn _ L at e4
                  change wr.cell? _ = some (.slice _ L.length _) at x2
                  generalize (E t).q = q at x2 e3 e4
                  generalize (E t).d = d at x2 e3
                  have hxc : xc ≤ 141836999983104 := capS_top hbl.2 (by omega)
                  have hLl : L.length ≤ wn := hbl.1
                  have hpa := fun W (hW : Below w.heap.size w W) => rpart_any p c a t C W (HC.out.below hW) h1 (by omega) (by omega) (by omega)
                  have hpl := capS_top (ptC_le C a t (by omega)) (by omega)
                  obtain ⟨u, hu⟩ : ∃ u, u = ptC C a t := ⟨_, rfl⟩
                  rw [← hu] at hpa hpl
                  have HPA := Lib.hid hpa
                  have HU := Lib.hid hu
                  have HXE := Lib.hid hx
                  have HQ := Lib.hid (And.intro e3 e4)
                  have s1 : wrap64 ((xc : Int) + (u : Int)) = (xc : Int) + (u : Int) := IntWalk.wrap64_in _ (by omega)
                  obtain ⟨z, hz⟩ : ∃ z, z = u + xc := ⟨_, rfl⟩
                  have s2 : Value.int .i64 (IntKind.i64.wrap ((xc : Int) + (u : Int))) = Value.int .i64 (z : Int) := congrArg _ ((i64_of_wrap s1).trans (by rw [hz]; omega))
                  have HS2 := Lib.hid s2
                  have HZ := Lib.hid hz
                  have ht1 : 1 ≤ t := by omega
                  have HTI := Lib.hid ht
                  clear s2 hz
                  clear hE hent hxv hx e1 e2 e3 e4 hbl hpa hu ht
                  have hgn := HCH.out.next.lt
                  go_upto_region 16 with fail
                  go_cut [17] (fun s17 wx => ∃ (B d9 : Nat) (q9 : Option Addr), s17 = .pointer (some ⟨B, 0, none⟩) ∧ wx.cell? ⟨B, 0, none⟩ = some (.bool true) ∧ wx.cell? ⟨B, 1, none⟩ = some (.int .i64 (z : Int)) ∧ wx.cell? ⟨B, 2, none⟩ = some (.slice q9 (L.length + 1) d9) ∧
                    Hid (LRow wx gn q9 (t :: L)) ∧ B < wx.heap.size ∧ wr.heap.size ≤ B ∧ Below wr.heap.size wr wx)
                  case first =>
                    have kg := cell_grow
                    refine wp_region_noPanic ?_
                    generalize hNQ : NoPanic _ = NQ
                    refine region_eff [0, 1, 2, 3, 5, 6, 7, 10, 12, 13, 14, 15] [4, 16] [(8, 77, []), (9, 78, [(8, 77)]), (11, 80, []), (17, 86, [(11, 80)]), (18, 87, [(9, 78), (17, 86)]), (19, 17, [])] [20] (chD t u z gn wr.heap.size L) (chD_stable _ _ _ _ _ _) (by kernel_rfl) (by rw [← hNQ]; exact fun _ _ _ h => h) (by kernel_rfl) (by kernel_rfl) (by kernel_rfl) ?_
                    simp only [pickL, List.filterMap_cons, List.filterMap_nil, List.getElem?_toArray, List.getElem?_cons_succ, List.getElem?_cons_zero]
                    repeat (any_goals (quiet_step (fail)))
                    refine wpQuiet_nil ?_
                    clear kg
                    refine ⟨by rfl, ⟨?_, ?_, ?_, ?_, ?_, ?_, trivial⟩, ?_⟩
                    · intro W hW K hK o ho
                      injection ho with ho
                      subst ho
                      go_simp
                      go_at_call 19
                      refine (HPA.out _ (hb.trans (hW.mono hb.size))).mono ?_
                      rintro e w3 ⟨rfl, hb3⟩
                      exact hK _ _ hb3 rfl
                    · intro W hW v8 h8 K hK o ho
                      injection ho with ho
                      subst ho
                      obtain rfl : v8 = _ := h8
                      go_simp
                      exact hK _ _ (Below.refl _ _) HS2.out
                    · intro W hW K hK o ho
                      injection ho with ho
                      subst ho
                      go_simp
                      exact hK _ _ ((Below.refl _ _).alloc (Nat.le_refl _) _) ⟨_, rfl, hW.size, World.ownsRow_lit _ _ 1 hW.size (by unfold maxLen; omega) rfl⟩
                    · intro W hW v hv K hK o ho
                      injection ho with ho
                      subst ho
                      obtain ⟨g, rfl, hg, hown⟩ := hv
                      refine step_app_one rfl _ _ rfl g t gn d q L rfl rfl wr.heap.size hown (by omega) (HQ.out.2.below hW) HQ.out.1 (by have := hW.size; omega) (by omega) ?_
                      intro q9 d9 w9 hb9 hl9
                      exact hK _ _ hb9 ⟨q9, d9, rfl, hl9⟩
                    · intro W hW v9 h9 v17 h17 K hK o ho
                      injection ho with ho
                      subst ho
                      obtain rfl : v9 = _ := h9
                      obtain ⟨q9, d9, rfl, hl9⟩ := h17
                      go_simp
                      exact hK _ _ (Below.refl _ _) ⟨q9, d9, rfl, hl9⟩
                    · intro W hW K hK o ho
                      injection ho with ho
                      subst ho
                      go_simp
                      exact hK _ _ ((Below.refl _ _).alloc (Nat.le_refl _) _) ⟨_, rfl, hW.size, by simp, heap_alloc_new _ _⟩
                    · intro W hW v8 h8 v9 h9 v11 h11 v17 h17 v18 h18 v19 h19
                      obtain ⟨q9, d9, rfl, hl9⟩ := h18
                      obtain ⟨B, rfl, hB1, hB2, hBh⟩ := h19
                      have hap := way_apart hl9 ht1 hBh
                      have b0 : W.cell? ⟨B, 0, none⟩ = some (.bool false) := cell_of_row W B 0 _ _ _ hBh
                      have b1 : W.cell? ⟨B, 1, none⟩ = some (.int .i64 0) := cell_of_row W B 1 _ _ _ hBh
                      have b2 : W.cell? ⟨B, 2, none⟩ = some (.slice none 0 0) := cell_of_row W B 2 _ _ _ hBh
                      have bf : ∀ j, W.frozen? ⟨B, j, none⟩ = false := fun j => by simp [World.frozen?, hBh]
                      show wpList _ _ _ _ _ _
                      simp only [pickL, List.filterMap_cons, List.filterMap_nil, List.getElem?_toArray, List.getElem?_cons_succ, List.getElem?_cons_zero]
                      have hLW := Lib.hid (((hl9.set hap 0 (.bool true)).set hap 1 (.int .i64 (z : Int))).set hap 2 (.slice q9 (L.length + 1) d9))
                      clear h8 h9 h11 h17 hl9 hap hBh
                      subst hNQ
                      go_wp2_with fail
                      refine NoPanic.normal ?_
                      go_wp2_with fail
                      go_meet
                      exact ⟨B, d9, q9, rfl, by simp [go_sem, b0, b1, b2], by simp [go_sem, b0, b1, b2], by simp [go_sem, b0, b1, b2], hLW, by simpa using hB2, hB1, bset17 (bset17 (bset17 hW hB1) hB1) hB1⟩
                  case rest =>
                    clear s1 x0 x1 x2 HPA HS2 HTI i3
                    obtain ⟨B, d9, q9, rfl, b0, b1, b2, HL9, hB2, hB1, hbx⟩ := hcut
                    have HCX := Lib.hid (HCH.out.below hbx)
                    have hb := hb.trans (hbx.mono hb.size)
                    obtain ⟨EY, hEY⟩ := HCX.out.next.ex
                    obtain ⟨⟨y0, y1, y2⟩, hey⟩ := hEY a (by omega)
                    have hgn2 := HCX.out.next.lt
                    have hyl := fd_len C (st := sn) (wd := wn) (by omega) n a i
                    rw [← HY.out.now] at hyl
                    have hbt := fun W (hW : Below wc.heap.size wc W) => rbetter_ent z gn (t :: L) q9 d9 (EY a) (Y a) W (HL9.out.irow.below hW) (hey.keep hW.size (fun g j hg _ => hW.cell (p := ⟨g, j, none⟩) hg)) (by simp; omega) (by omega)
                    have hfd : fdO (fun k => cdO C a (a + 1 + k) (bst C sn wn n (a + 1 + k))) (bst C sn wn n a) (i + 1) = if btO (some (z, t :: L)) (Y a) then some (z, t :: L) else Y a := by
                      rw [fdO, ← HY.out.now, ← HT.out, HXE.out]
                      unfold cdO
                      rw [HZ.out, HU.out]
                      rfl
                    generalize EY a = ye at y0 y1 y2 hbt
                    obtain ⟨yo, yc, yq, yn, yd⟩ := ye
                    simp only at y0 y1 y2
                    have HT1 : Hid (t + 1 = a + 1 + (i + 1)) := Lib.hid (by have := HT.out; omega)
                    have HT2 : Hid (((t + 1 : Nat) : Int) = (a : Int) + 1 + ((i + 1 : Nat) : Int)) := Lib.hid (by have := HT.out; omega)
                    have ha3 : (a : Int) < (wn : Int) + 1 := by omega
                    cases hbb : btO (some (z, t :: L)) (Y a) with
                    | true =>
                      rw [hbb, if_pos rfl] at hfd
                      rw [hbb] at hbt
                      have HBT : Hid (∀ W, Below wc.heap.size wc W → Calls Try.prog 20 #[.agg #[.bool true, .int .i64 (z : Int), .slice q9 (L.length + 1) d9], .agg #[.bool yo, .int .i64 (yc : Int), .slice yq yn yd]] W fun e w' => e = .returned (.bool true) ∧ Below W.heap.size W w') := Lib.hid hbt
                      have HYN : Hid (Vals C sn wn ln n a (i + 1) (updR Y a (some (z, t :: L)))) := Lib.hid ⟨fun j h2 h3 => by rw [updR_far _ _ _ _ (by omega)]; exact HY.out.done j h2 h3, by rw [updR_same, hfd], fun j h2 h3 => by rw [updR_far _ _ _ _ (by omega)]; exact HY.out.rest j h2 h3⟩
                      clear hEY hey hbt hfd hbb hyl
                      go_wp2_with fail
                      have kg := cell_grow
                      refine region_whole (by kernel_rfl) (by kernel_rfl) ?_
                      repeat (any_goals (first | go_big_quiet_step ((exact Calls.regrown_of (HBT.out _ (below_regrown _ _ _)))) | quiet_step ((exact Calls.regrown_of (HBT.out _ (below_regrown _ _ _))))))
                      refine wpQuiet_nil ?_
                      clear kg
                      intro w17 hb17
                      obtain ⟨hc17, hf17⟩ := bcell hb17
                      have HCZ := Lib.hid (HCX.out.below hb17)
                      have b0 := (hc17 _ _ hB2).trans b0
                      have b1 := (hc17 _ _ hB2).trans b1
                      have b2 := (hc17 _ _ hB2).trans b2
                      have y0 := (hc17 _ _ hgn2).trans y0
                      have y1 := (hc17 _ _ hgn2).trans y1
                      have y2 := (hc17 _ _ hgn2).trans y2
                      have fz := HCZ.out.free
                      have hgn3 := HCZ.out.next.lt
                      have hB3 := Nat.lt_of_lt_of_le hB2 hb17.size
                      have HCN := Lib.hid (HCZ.out.store (j := a) (e := ⟨true, z, q9, L.length + 1, d9⟩) (r := some (z, t :: L)) (by omega) ⟨rfl, rfl, rfl, (fun e => by cases e), HL9.out.below hb17⟩)
                      have hb := hb.trans (hb17.mono hb.size)
                      clear hc17 hf17 hb17 HCZ HBT HCX hB2 hgn2
                      go_wp2
                      go_roundg (K - (i + 1))
                      case measure => omega
                      case rel => exact ⟨t + 1, i + 1, _, by go_num, by omega, by omega, HT1, HT2.out, HCN, HYN, bset17 (bset17 (bset17 hb hwn) hwn) hwn⟩
                    | false =>
                      rw [hbb, if_neg (by decide)] at hfd
                      rw [hbb] at hbt
                      have HBT : Hid (∀ W, Below wc.heap.size wc W → Calls Try.prog 20 #[.agg #[.bool true, .int .i64 (z : Int), .slice q9 (L.length + 1) d9], .agg #[.bool yo, .int .i64 (yc : Int), .slice yq yn yd]] W fun e w' => e = .returned (.bool false) ∧ Below W.heap.size W w') := Lib.hid hbt
                      have HYN : Hid (Vals C sn wn ln n a (i + 1) Y) := Lib.hid ⟨HY.out.done, by rw [hfd], HY.out.rest⟩
                      clear hEY hey hbt hfd hbb hyl
                      go_wp2_with fail
                      have kg := cell_grow
                      refine region_whole (by kernel_rfl) (by kernel_rfl) ?_
                      repeat (any_goals (first | go_big_quiet_step ((exact Calls.regrown_of (HBT.out _ (below_regrown _ _ _)))) | quiet_step ((exact Calls.regrown_of (HBT.out _ (below_regrown _ _ _))))))
                      refine wpQuiet_nil ?_
                      clear kg
                      intro w17 hb17
                      obtain ⟨hc17, hf17⟩ := bcell hb17
                      have HCZ := Lib.hid (HCX.out.below hb17)
                      have hb := hb.trans (hb17.mono hb.size)
                      go_wp2
                      go_roundg (K - (i + 1))
                      case measure => omega
                      case rel => exact ⟨t + 1, i + 1, Y, by go_num, by omega, by omega, HT1, HT2.out, HCZ, HYN, hb⟩
              · have HYN : Hid (Vals C sn wn ln n (a + 1) 0 Y) := by
                  refine Lib.hid ⟨fun j h2 h3 => ?_, HY.out.rest (a + 1) (by omega) (by omega), fun j h2 h3 => HY.out.rest j (by omega) h3⟩
                  by_cases e : j = a
                  · subst e
                    rw [HY.out.now, bst, ← HK.out, show i = K by omega]
                  · exact HY.out.done j h2 (by omega)
                by_cases ht5 : (t : Int) ≤ (wn : Int)
                · have ht6 : ¬ (t : Int) ≤ (a : Int) + (sn : Int) := by omega
                  go_wp2
                  go_roundg (wn - (a + 1))
                  case measure => omega
                  case rel => exact ⟨a + 1, Y, by go_num, by omega, by omega, by omega, HCH, HYN, hb⟩
                · go_wp2
                  go_roundg (wn - (a + 1))
                  case measure => omega
                  case rel => exact ⟨a + 1, Y, by go_num, by omega, by omega, by omega, HCH, HYN, hb⟩
          · obtain rfl : a = wn := by omega
            have HVN : Hid (∀ j, ln ≤ j → j ≤ a → Y j = bst C sn a (n + 1) j) := by
              refine Lib.hid fun j h2 h3 => ?_
              by_cases e : j = a
              · subst e
                rw [HY.out.now, bst, show min (j + sn) j - j = 0 by omega]
              · exact HY.out.done j h2 (by omega)
            have HXN := Lib.hid HCH.out.next
            go_wp2
            go_roundg (a - (n + 1))
            case measure => omega
            case rel => exact ⟨n + 1, gn, cn, Y, by go_num, by omega, by omega, rfl, HXN, HVN, hb⟩
      · obtain ⟨E, hE⟩ := HX.out.ex
        obtain ⟨⟨x0, x1, x2⟩, hent⟩ := hE ln (by omega)
        have hnm : n = min mn wn := by omega
        have hxv := HV.out ln (Nat.le_refl _) (by omega)
        have hgb := HX.out.lt
        rw [hent.ok, hxv] at x0
        have i3 : (ln : Int) < (wn : Int) + 1 := by omega
        cases hx : bst C sn wn n ln with
        | none =>
          have HE : Hid (R = none) := by rw [HR.out, ← hnm, hx]; exact Lib.hid rfl
          rw [hx] at x0
          simp only [Option.isSome_none] at x0
          clear hE hent hxv hx x1 x2 hnm
          by_cases i1 : (n : Int) < (mn : Int)
          · go_wp2
            go_ret2
            exact ⟨by rw [HE.out]; rfl, hb⟩
          · go_wp2
            go_ret2
            exact ⟨by rw [HE.out]; rfl, hb⟩
        | some xx =>
          obtain ⟨xc, L⟩ := xx
          have HE : Hid (R = some L) := by rw [HR.out, ← hnm, hx]; exact Lib.hid rfl
          rw [hx] at x0 hxv
          simp only [Option.isSome_some] at x0
          have e2 := hent.n
          have e4 := hent.l
          rw [hxv] at e2 e4
          rw [e2] at x2
          change LRow wr gb _ L at e4
          change wr.cell? _ = some (.slice _ L.length _) at x2
          generalize (E ln).q = q at x2 e4
          generalize (E ln).d = d at x2
          have HL4 := Lib.hid e4.irow
          clear hE hent hxv hx x1 hnm e2 e4
          by_cases i1 : (n : Int) < (mn : Int)
          · go_wp2
            go_ret2
            exact ⟨by rw [HE.out]; exact ⟨q, d, rfl, HL4.out⟩, hb⟩
          · go_wp2
            go_ret2
            exact ⟨by rw [HE.out]; exact ⟨q, d, rfl, HL4.out⟩, hb⟩
end Go.Proofs.Ytnmcgboafdglbaa
