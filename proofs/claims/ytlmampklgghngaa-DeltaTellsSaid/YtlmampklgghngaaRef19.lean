/-
  What the reference's Of hands back. No condition but that the routes lie in memory, and are short of 100000.
-/
import Derived.Test.YtlmampklgghngaaW11c
import Derived.Test.YtlmampklgghngaaRef15
import Derived.Test.YtlmampklgghngaaRef12
import Derived.Test.YtlmampklgghngaaAppR
set_option linter.unusedSimpArgs false
set_option linter.unusedVariables false
namespace Go.Proofs.Ytlmampklgghngaa
open Go Go.RowKit Go.Sort M

theorem infoCh : (Try.prog.info? 51).map (fun i => (i.zero, i.size, i.bytes)) = some (some (.agg #[.int .u64 0, .int .u64 0, .int .i64 0, .int .i64 0, .int .i64 0]), 5, 40) := by kernel_rfl
/-- What turns among these keys. -/
def ofP (A B : List Rt) (K : List Ky) : List Ch := (K.filter (turnB A B)).map (chS A B)
theorem ofP_in (A B : List Rt) (K : List Ky) (k : Ky) (h : turnB A B k = true) : ofP A B (K ++ [k]) = ofP A B K ++ [chS A B k] := by simp [ofP, h]
theorem ofP_out (A B : List Rt) (K : List Ky) (k : Ky) (h : turnB A B k = false) : ofP A B (K ++ [k]) = ofP A B K := by simp [ofP, h]
theorem ofP_len (A B : List Rt) (K : List Ky) : (ofP A B K).length ≤ K.length := by
  unfold ofP
  rw [List.length_map]
  exact List.length_filter_le _ _
set_option maxHeartbeats 4000000 in
set_option maxRecDepth 100000 in
theorem rof19_any (p q : Option Addr) (c d : Nat) (A0 B0 : List Rt) (w : World) (hA : Row w p (rcs A0)) (hB : Row w q (rcs B0)) (hl : A0.length ≤ 100000) (hm : B0.length ≤ 100000) :
    Calls Try.prog 10 #[.slice p A0.length c, .slice q B0.length d] w fun e w' => NewChs 51 w w' e (ofS (sortR A0) (sortR B0)) := by
  have hSA := rsorted_any p c A0 w hA (by omega)
  have hSB := fun W (h : Below w.heap.size w W) => rsorted_any q d B0 W (hB.below h) (by omega)
  have la := sortR_len A0
  have lb := sortR_len B0
  obtain ⟨A, hA1⟩ : ∃ A, A = sortR A0 := ⟨_, rfl⟩
  obtain ⟨B, hB1⟩ : ∃ B, B = sortR B0 := ⟨_, rfl⟩
  rw [← hA1] at hSA la
  rw [← hB1] at hSB lb
  rw [← hA1, ← hB1]
  have lc := sortR_len (A ++ B)
  rw [List.length_append] at lc
  have hSC := fun (p : Option Addr) c W (h : Row W p (rcs (A ++ B))) => rsorted_any p c (A ++ B) W h (by rw [List.length_append]; omega)
  have hkey : ∀ k ∈ keysR (sortR (A ++ B)), findS A k = none → findS B k = none → False := fun k hk e1 e2 => by
    have h1 := (keys_sort _ _).1 hk
    unfold keysR at h1
    rw [List.map_append, List.mem_append] at h1
    rcases h1 with h1 | h1
    · have := find_is18.2 (show k ∈ keysR A from h1)
      rw [e1] at this; cases this
    · have := find_is18.2 (show k ∈ keysR B from h1)
      rw [e2] at this; cases this
  obtain ⟨N, hN⟩ : ∃ N, N = sortR (A ++ B) := ⟨_, rfl⟩
  have hR : ofS A B = ofP A B (keysR N) := by rw [hN]; rfl
  rw [hR]
  rw [← hN] at hSC lc hkey
  obtain ⟨R, hR2⟩ : ∃ R, R = ofP A B (keysR N) := ⟨_, rfl⟩
  rw [← hR2]
  have hFA := fun (p : Option Addr) c k W (h : Row W p (rcs A)) => find12_any p c A k W h (by omega)
  have hFB := fun (p : Option Addr) c k W (h : Row W p (rcs B)) => find12_any p c B k W h (by omega)
  have HSA := Lib.hid hSA
  have HSB := Lib.hid hSB
  have HSC := Lib.hid hSC
  have HFA := Lib.hid hFA
  have HFB := Lib.hid hFB
  have HRR := Lib.hid hR2
  have HKEY := Lib.hid hkey
  obtain ⟨M, hM⟩ : ∃ M, M = A ++ B := ⟨_, rfl⟩
  rw [← hM] at HSC
  have HM := Lib.hid hM
  have hlm : M.length = A.length + B.length := by rw [hM, List.length_append]
  have hlm2 : M.length ≤ 200000 := by omega
  have HLM := Lib.hid hlm
  clear hSA hSB hSC hFA hFB hR hR2 hkey hA1 hB1 hN hA hB hM hlm
  obtain ⟨j0, hj0, jz0, jz1, jz2⟩ := info_parts infoCh
  go_enter Try.func10, Try.ntmps10
  go_wp2_with fail
  refine HSA.out.mono ?_
  rintro e w1 ⟨p1, c1, rfl, ho1, hb1⟩
  go_wp2_with fail
  refine (HSB.out _ hb1).mono ?_
  rintro e w2 ⟨p2, c2, rfl, ho2, hb2⟩
  have hw2 := hb1.trans (hb2.mono hb1.size)
  have ho1 := own_below ho1 hb2
  have hz12 := hb1.size
  have hz22 := hb2.size
  have HA2 := Lib.hid (Row.of_own ho1)
  have HB2 := Lib.hid (Row.of_own ho2)
  have ho2 := own_le ho2 hz12
  clear HSA HSB hb1 hb2
  go_wp2_with (at_builtin; go_loud (refine wpList_append_rts rfl (.const (.slice none 0 0)) (.tmp 15) rfl w2.heap.size w.heap.size _ _ [] A A rfl rfl rfl (World.ownsRow_nil _ _ _ _) ho1 (by simp; omega) (Nat.le_refl _) ?_))
  intro v3 w3 ho3 hg3 _
  have hb3 : Below w2.heap.size w2 w3 := (Below.refl w2.heap.size w2).grown hg3 (Nat.le_refl _) (fun k e => by simp [Value.ownBlock] at e)
  obtain ⟨p3, c3, rfl⟩ := own_slice ho3
  have ho2 := own_below ho2 hb3
  clear hg3 ho1
  go_wp2_with (at_builtin; go_loud (refine wpList_append_rts rfl (.tmp 16) (.tmp 17) rfl w2.heap.size w.heap.size _ _ A B M HM.out rfl rfl ho3 ho2 (by omega) hb3.size ?_))
  intro v4 w4 ho4 hg4 _
  have hb4 : Below w2.heap.size w2 w4 := hb3.grown hg4 hb3.size (fun j hj => (ho3.lt j hj).1)
  obtain ⟨p4, c4, rfl⟩ := own_slice ho4
  have hw4 := hw2.trans (hb4.mono hw2.size)
  have hr4 := Row.of_own ho4
  have HA4 := Lib.hid (HA2.out.below hb4)
  have HB4 := Lib.hid (HB2.out.below hb4)
  clear ho2 ho3 ho4 hg4 hb3 hb4 HA2 HB2 hz12 hz22 hw2
  go_wp2_with fail
  refine (HSC.out _ _ _ hr4).mono ?_
  rintro e w5 ⟨p5, c5, rfl, ho5, hb5⟩
  have hw5 := hw4.trans (hb5.mono hw4.size)
  have HN5 := Lib.hid (Row.of_own ho5)
  have HA5 := Lib.hid (HA4.out.below hb5)
  have HB5 := Lib.hid (HB4.out.below hb5)
  clear ho5 hr4 hb5 hw4 HA4 HB4 HSC
  go_wp2
  go_loopg [6, 7] N.length (fun kx s6 s7 wr => ∃ (i n : Nat) (q : Option Addr) (cq : Nat), s7 = .int .i64 (i : Int) ∧ N.length - i ≤ kx ∧ i ≤ N.length ∧ s6 = .slice q n cq ∧ n ≤ i ∧ Hid (n = (ofP A B ((keysR N).take i)).length) ∧
    Hid (wr.ownsRow w5.heap.size 51 5 (.slice q n cq) n (ccs (ofP A B ((keysR N).take i)))) ∧ Below w5.heap.size w5 wr)
  case atStart => exact ⟨0, 0, none, 0, rfl, by omega, by omega, rfl, by omega, Lib.hid (by simp [ofP]), Lib.hid (World.ownsRow_nil _ _ _ _), Below.refl _ _⟩
  case round =>
    obtain ⟨i, n, q, cq, rfl, k1, k2, rfl, hni, HN, HO, hb⟩ := hrel
    have hw := hw5.trans (hb.mono hw5.size)
    by_cases hi : i < N.length
    · obtain ⟨g, o, rfl, hg, x0, x1, x2, x3⟩ := (HN5.out.below hb).rt hi
      have hik : i < (keysR N).length := by simp [keysR]; exact hi
      have hsn : (keysR N).take (i + 1) = (keysR N).take i ++ [N[i].k] := by
        rw [List.take_succ_eq_append_getElem hik]
        simp [keysR]
      have hmem : N[i].k ∈ keysR N := List.mem_map.2 ⟨N[i], List.getElem_mem hi, rfl⟩
      have hno := HKEY.out N[i].k hmem
      have hin := ofP_in A B ((keysR N).take i) N[i].k
      have hout := ofP_out A B ((keysR N).take i) N[i].k
      rw [← hsn] at hin hout
      have i1 : (0 : Int) ≤ (i : Int) := by omega
      have i2 : (i : Int) < (N.length : Int) := by omega
      generalize N[i] = r at x0 x1 x2 x3 hno hin hout
      obtain ⟨⟨kh, kl, kn⟩, v⟩ := r
      simp only at x0 x1 x2 x3 hno hin hout
      have hfa := fun W h => HFA.out p1 c1 ⟨kh, kl, kn⟩ W h
      have hfb := fun W h => HFB.out p2 c2 ⟨kh, kl, kn⟩ W h
      unfold kyV at hfa hfb
      simp only at hfa hfb
      cases ea : findS A ⟨kh, kl, kn⟩ with
      | none =>
        cases eb : findS B ⟨kh, kl, kn⟩ with
        | none => exact (hno ea eb).elim
        | some b =>
          obtain ⟨hbl, hgb⟩ := getS_find eb
          rw [stI_some eb] at hfb
          obtain ⟨g4, o4, hq4, hg4, -, -, -, zb⟩ := HB5.out.rt hbl
          obtain ⟨v2, hv2⟩ : ∃ v2, v2 = B[b].v := ⟨_, rfl⟩
          rw [← hv2] at hgb zb
          have hib : (b : Int) < (B.length : Int) := by omega
          have hib0 : (0 : Int) ≤ (b : Int) := by omega
          have hga := getS_nofind ea
          rw [stI_none ea] at hfa
          have hin := hin (by unfold turnB; rw [hga, hgb]; exact decide_eq_true (by simp))
          have HIN : Hid (ofP A B ((keysR N).take (i + 1)) = ofP A B ((keysR N).take i) ++ [⟨⟨kh, kl, kn⟩, -1, v2⟩]) := by rw [hin]; unfold chS; rw [hga, hgb]; exact Lib.hid rfl
          have HF1 := Lib.hid hfa
          have HF2 := Lib.hid hfb
          clear hin hout hno hga hgb hfa hfb ea eb hmem hsn hik hv2 hbl
          subst hq4
          go_wp2_with fail
          refine (HF1.out _ (HA5.out.below (hb.alloc hb.size _))).mono ?_
          rintro e w3 ⟨rfl, hb3⟩
          obtain ⟨hc3, hf3⟩ := bcell hb3
          have y0 := (hc3 wr.heap.size 0 (by simp)).trans (show _ = some (Value.int .u64 (kh : Int)) by simp [go_sem])
          have y1 := (hc3 wr.heap.size 1 (by simp)).trans (show _ = some (Value.int .u64 (kl : Int)) by simp [go_sem])
          have y2 := (hc3 wr.heap.size 2 (by simp)).trans (show _ = some (Value.int .i64 kn) by simp [go_sem])
          have y3 := (hc3 wr.heap.size 3 (by simp)).trans (show _ = some (Value.int .i64 (-1)) by simp [go_sem])
          have y4 := (hc3 wr.heap.size 4 (by simp)).trans (show _ = some (Value.int .i64 (-1)) by simp [go_sem])
          have yf := fun j => (hf3 wr.heap.size j (by simp)).trans (show _ = false by simp [go_sem])
          have hx3 : Below wr.heap.size wr w3 := ((Below.refl wr.heap.size wr).alloc (Nat.le_refl _) _).trans (hb3.mono (by simp))
          have hz3 : wr.heap.size < w3.heap.size := by have := hb3.size; simp at this; omega
          clear hc3 hf3 hb3 x0 x1 x2 x3
          go_wp2_with fail
          refine (HF2.out _ (HB5.out.below (hb.trans (hx3.mono hb.size)))).mono ?_
          rintro e w4 ⟨rfl, hb4⟩
          obtain ⟨hc4, hf4⟩ := bcell hb4
          have y0 := (hc4 _ 0 hz3).trans y0
          have y1 := (hc4 _ 1 hz3).trans y1
          have y2 := (hc4 _ 2 hz3).trans y2
          have y3 := (hc4 _ 3 hz3).trans y3
          have y4 := (hc4 _ 4 hz3).trans y4
          have yf := fun j => (hf4 _ j hz3).trans (yf j)
          have hx4 : Below wr.heap.size wr w4 := hx3.trans (hb4.mono hx3.size)
          have hz4 := Nat.lt_of_lt_of_le hz3 hb4.size
          clear hc4 hf4 hb4 hx3 hz3
          have zb := (hb.cell (p := ⟨g4, o4 + b * 4 + 3, none⟩) hg4).trans zb
          have zb := (hx4.cell (p := ⟨g4, o4 + b * 4 + 3, none⟩) (Nat.lt_of_lt_of_le hg4 hb.size)).trans zb
          have HX := Lib.hid (hx4.setCell (p := ⟨wr.heap.size, 4, none⟩) (Nat.le_refl _) (.int .i64 v2))
          have hz5 := hb.size
          go_wp2_with (at_builtin; go_loud (refine wpList_append_own_at _ rfl (.tmp 69) (.tmp 71) 32 rfl w5.heap.size 51 j0 _ 5 40 Try.underlying32 hj0 jz0 jz1 jz2 rfl (by decide) _ _ _ rfl ((own_below HO.out HX.out).alloc _) ⟨w4.heap.size, 0, none⟩ 1 1 (ccell ⟨⟨kh, kl, kn⟩, (-1), v2⟩) rfl rfl (five_new (by simp [go_sem]) (by simp [go_sem]) (by simp [go_sem]) (by simp [go_sem]) (by simp [go_sem])) (by simp [ccell, Value.oneCell']) (by unfold maxLen; omega) (by omega) (by simp; omega) ?_))
          intro v8 w8 hown8 hg8 _ _
          obtain ⟨p8, c8, rfl⟩ := own_slice hown8
          have hb8 : Below w5.heap.size w5 w8 := ((hb.trans (HX.out.mono hb.size)).alloc (by simp; omega) _).grown hg8 (by simp; omega) (fun j hj => (HO.out.lt j hj).1)
          have HN8 : Hid (n + 1 = (ofP A B ((keysR N).take (i + 1))).length) := by rw [HIN.out, List.length_append, ← HN.out]; exact Lib.hid rfl
          have HO8 : Hid (w8.ownsRow w5.heap.size 51 5 (.slice p8 (n + 1) c8) (n + 1) (ccs (ofP A B ((keysR N).take (i + 1))))) := by
            rw [HIN.out, ccs_append, ccs_one]
            exact Lib.hid hown8
          clear hown8 hg8 HO HN HX y0 y1 y2 y3 y4 yf
          go_wp2
          go_roundg (N.length - (i + 1))
          case measure => omega
          case rel => exact ⟨i + 1, n + 1, p8, c8, by go_num, by omega, by omega, rfl, by omega, HN8, HO8, hb8⟩
      | some a =>
        obtain ⟨hal, hga⟩ := getS_find ea
        rw [stI_some ea] at hfa
        obtain ⟨g3, o3, hq3, hg3, -, -, -, za⟩ := HA5.out.rt hal
        obtain ⟨u, hu⟩ : ∃ u, u = A[a].v := ⟨_, rfl⟩
        rw [← hu] at hga za
        have hia : (a : Int) < (A.length : Int) := by omega
        have hia0 : (0 : Int) ≤ (a : Int) := by omega
        cases eb : findS B ⟨kh, kl, kn⟩ with
        | none =>
          have hgb := getS_nofind eb
          rw [stI_none eb] at hfb
          have hin := hin (by unfold turnB; rw [hga, hgb]; exact decide_eq_true (by simp))
          have HIN : Hid (ofP A B ((keysR N).take (i + 1)) = ofP A B ((keysR N).take i) ++ [⟨⟨kh, kl, kn⟩, u, -1⟩]) := by rw [hin]; unfold chS; rw [hga, hgb]; exact Lib.hid rfl
          have HF1 := Lib.hid hfa
          have HF2 := Lib.hid hfb
          clear hin hout hno hga hgb hfa hfb ea eb hmem hsn hik hu hal
          subst hq3
          go_wp2_with fail
          refine (HF1.out _ (HA5.out.below (hb.alloc hb.size _))).mono ?_
          rintro e w3 ⟨rfl, hb3⟩
          obtain ⟨hc3, hf3⟩ := bcell hb3
          have y0 := (hc3 wr.heap.size 0 (by simp)).trans (show _ = some (Value.int .u64 (kh : Int)) by simp [go_sem])
          have y1 := (hc3 wr.heap.size 1 (by simp)).trans (show _ = some (Value.int .u64 (kl : Int)) by simp [go_sem])
          have y2 := (hc3 wr.heap.size 2 (by simp)).trans (show _ = some (Value.int .i64 kn) by simp [go_sem])
          have y3 := (hc3 wr.heap.size 3 (by simp)).trans (show _ = some (Value.int .i64 (-1)) by simp [go_sem])
          have y4 := (hc3 wr.heap.size 4 (by simp)).trans (show _ = some (Value.int .i64 (-1)) by simp [go_sem])
          have yf := fun j => (hf3 wr.heap.size j (by simp)).trans (show _ = false by simp [go_sem])
          have hx3 : Below wr.heap.size wr w3 := ((Below.refl wr.heap.size wr).alloc (Nat.le_refl _) _).trans (hb3.mono (by simp))
          have hz3 : wr.heap.size < w3.heap.size := by have := hb3.size; simp at this; omega
          clear hc3 hf3 hb3 x0 x1 x2 x3
          go_wp2_with fail
          refine (HF2.out _ (HB5.out.below (hb.trans (hx3.mono hb.size)))).mono ?_
          rintro e w4 ⟨rfl, hb4⟩
          obtain ⟨hc4, hf4⟩ := bcell hb4
          have y0 := (hc4 _ 0 hz3).trans y0
          have y1 := (hc4 _ 1 hz3).trans y1
          have y2 := (hc4 _ 2 hz3).trans y2
          have y3 := (hc4 _ 3 hz3).trans y3
          have y4 := (hc4 _ 4 hz3).trans y4
          have yf := fun j => (hf4 _ j hz3).trans (yf j)
          have hx4 : Below wr.heap.size wr w4 := hx3.trans (hb4.mono hx3.size)
          have hz4 := Nat.lt_of_lt_of_le hz3 hb4.size
          clear hc4 hf4 hb4 hx3 hz3
          have za := (hb.cell (p := ⟨g3, o3 + a * 4 + 3, none⟩) hg3).trans za
          have za := (hx4.cell (p := ⟨g3, o3 + a * 4 + 3, none⟩) (Nat.lt_of_lt_of_le hg3 hb.size)).trans za
          have HX := Lib.hid (hx4.setCell (p := ⟨wr.heap.size, 3, none⟩) (Nat.le_refl _) (.int .i64 u))
          have hz5 := hb.size
          go_wp2_with (at_builtin; go_loud (refine wpList_append_own_at _ rfl (.tmp 69) (.tmp 71) 32 rfl w5.heap.size 51 j0 _ 5 40 Try.underlying32 hj0 jz0 jz1 jz2 rfl (by decide) _ _ _ rfl ((own_below HO.out HX.out).alloc _) ⟨w4.heap.size, 0, none⟩ 1 1 (ccell ⟨⟨kh, kl, kn⟩, u, (-1)⟩) rfl rfl (five_new (by simp [go_sem]) (by simp [go_sem]) (by simp [go_sem]) (by simp [go_sem]) (by simp [go_sem])) (by simp [ccell, Value.oneCell']) (by unfold maxLen; omega) (by omega) (by simp; omega) ?_))
          intro v8 w8 hown8 hg8 _ _
          obtain ⟨p8, c8, rfl⟩ := own_slice hown8
          have hb8 : Below w5.heap.size w5 w8 := ((hb.trans (HX.out.mono hb.size)).alloc (by simp; omega) _).grown hg8 (by simp; omega) (fun j hj => (HO.out.lt j hj).1)
          have HN8 : Hid (n + 1 = (ofP A B ((keysR N).take (i + 1))).length) := by rw [HIN.out, List.length_append, ← HN.out]; exact Lib.hid rfl
          have HO8 : Hid (w8.ownsRow w5.heap.size 51 5 (.slice p8 (n + 1) c8) (n + 1) (ccs (ofP A B ((keysR N).take (i + 1))))) := by
            rw [HIN.out, ccs_append, ccs_one]
            exact Lib.hid hown8
          clear hown8 hg8 HO HN HX y0 y1 y2 y3 y4 yf
          go_wp2
          go_roundg (N.length - (i + 1))
          case measure => omega
          case rel => exact ⟨i + 1, n + 1, p8, c8, by go_num, by omega, by omega, rfl, by omega, HN8, HO8, hb8⟩
        | some b =>
          obtain ⟨hbl, hgb⟩ := getS_find eb
          rw [stI_some eb] at hfb
          obtain ⟨g4, o4, hq4, hg4, -, -, -, zb⟩ := HB5.out.rt hbl
          obtain ⟨v2, hv2⟩ : ∃ v2, v2 = B[b].v := ⟨_, rfl⟩
          rw [← hv2] at hgb zb
          have hib : (b : Int) < (B.length : Int) := by omega
          have hib0 : (0 : Int) ≤ (b : Int) := by omega
          have HF1 := Lib.hid hfa
          have HF2 := Lib.hid hfb
          by_cases huv : u = v2
          · have hout := hout (by unfold turnB; rw [hga, hgb, huv]; exact decide_eq_false (by simp))
            have HOUT := Lib.hid hout
            have nq : ((u : Int) != v2) = false := by simp [huv]
            clear hin hout hno hga hgb hfa hfb ea eb hmem hsn hik hu hal hv2 hbl huv
            subst hq3
            subst hq4
            go_wp2_with fail
            refine (HF1.out _ (HA5.out.below (hb.alloc hb.size _))).mono ?_
            rintro e w3 ⟨rfl, hb3⟩
            obtain ⟨hc3, hf3⟩ := bcell hb3
            have y0 := (hc3 wr.heap.size 0 (by simp)).trans (show _ = some (Value.int .u64 (kh : Int)) by simp [go_sem])
            have y1 := (hc3 wr.heap.size 1 (by simp)).trans (show _ = some (Value.int .u64 (kl : Int)) by simp [go_sem])
            have y2 := (hc3 wr.heap.size 2 (by simp)).trans (show _ = some (Value.int .i64 kn) by simp [go_sem])
            have y3 := (hc3 wr.heap.size 3 (by simp)).trans (show _ = some (Value.int .i64 (-1)) by simp [go_sem])
            have y4 := (hc3 wr.heap.size 4 (by simp)).trans (show _ = some (Value.int .i64 (-1)) by simp [go_sem])
            have yf := fun j => (hf3 wr.heap.size j (by simp)).trans (show _ = false by simp [go_sem])
            have hx3 : Below wr.heap.size wr w3 := ((Below.refl wr.heap.size wr).alloc (Nat.le_refl _) _).trans (hb3.mono (by simp))
            have hz3 : wr.heap.size < w3.heap.size := by have := hb3.size; simp at this; omega
            clear hc3 hf3 hb3 x0 x1 x2 x3
            go_wp2_with fail
            refine (HF2.out _ (HB5.out.below (hb.trans (hx3.mono hb.size)))).mono ?_
            rintro e w4 ⟨rfl, hb4⟩
            obtain ⟨hc4, hf4⟩ := bcell hb4
            have y0 := (hc4 _ 0 hz3).trans y0
            have y1 := (hc4 _ 1 hz3).trans y1
            have y2 := (hc4 _ 2 hz3).trans y2
            have y3 := (hc4 _ 3 hz3).trans y3
            have y4 := (hc4 _ 4 hz3).trans y4
            have yf := fun j => (hf4 _ j hz3).trans (yf j)
            have hx4 : Below wr.heap.size wr w4 := hx3.trans (hb4.mono hx3.size)
            have hz4 := Nat.lt_of_lt_of_le hz3 hb4.size
            clear hc4 hf4 hb4 hx3 hz3
            have za := (hb.cell (p := ⟨g3, o3 + a * 4 + 3, none⟩) hg3).trans za
            have za := (hx4.cell (p := ⟨g3, o3 + a * 4 + 3, none⟩) (Nat.lt_of_lt_of_le hg3 hb.size)).trans za
            have zb := (hb.cell (p := ⟨g4, o4 + b * 4 + 3, none⟩) hg4).trans zb
            have zb := (hx4.cell (p := ⟨g4, o4 + b * 4 + 3, none⟩) (Nat.lt_of_lt_of_le hg4 hb.size)).trans zb
            have hne3 : g4 ≠ wr.heap.size := by have := hb.size; omega
            have HX := Lib.hid ((hx4.setCell (p := ⟨wr.heap.size, 3, none⟩) (Nat.le_refl _) (.int .i64 u)).setCell (p := ⟨wr.heap.size, 4, none⟩) (Nat.le_refl _) (.int .i64 v2))
            go_wp2
            go_roundg (N.length - (i + 1))
            case measure => omega
            case rel => exact ⟨i + 1, n, q, cq, by go_num, by omega, by omega, rfl, by omega, by rw [HOUT.out]; exact HN, by rw [HOUT.out]; exact Lib.hid (own_below HO.out HX.out), hb.trans (HX.out.mono hb.size)⟩
          · have hin := hin (by unfold turnB; rw [hga, hgb]; exact decide_eq_true (by simpa using huv))
            have HIN : Hid (ofP A B ((keysR N).take (i + 1)) = ofP A B ((keysR N).take i) ++ [⟨⟨kh, kl, kn⟩, u, v2⟩]) := by rw [hin]; unfold chS; rw [hga, hgb]; exact Lib.hid rfl
            have nq : ((u : Int) != v2) = true := by simpa using huv
            clear hin hout hno hga hgb hfa hfb ea eb hmem hsn hik hu hal hv2 hbl huv
            subst hq3
            subst hq4
            go_wp2_with fail
            refine (HF1.out _ (HA5.out.below (hb.alloc hb.size _))).mono ?_
            rintro e w3 ⟨rfl, hb3⟩
            obtain ⟨hc3, hf3⟩ := bcell hb3
            have y0 := (hc3 wr.heap.size 0 (by simp)).trans (show _ = some (Value.int .u64 (kh : Int)) by simp [go_sem])
            have y1 := (hc3 wr.heap.size 1 (by simp)).trans (show _ = some (Value.int .u64 (kl : Int)) by simp [go_sem])
            have y2 := (hc3 wr.heap.size 2 (by simp)).trans (show _ = some (Value.int .i64 kn) by simp [go_sem])
            have y3 := (hc3 wr.heap.size 3 (by simp)).trans (show _ = some (Value.int .i64 (-1)) by simp [go_sem])
            have y4 := (hc3 wr.heap.size 4 (by simp)).trans (show _ = some (Value.int .i64 (-1)) by simp [go_sem])
            have yf := fun j => (hf3 wr.heap.size j (by simp)).trans (show _ = false by simp [go_sem])
            have hx3 : Below wr.heap.size wr w3 := ((Below.refl wr.heap.size wr).alloc (Nat.le_refl _) _).trans (hb3.mono (by simp))
            have hz3 : wr.heap.size < w3.heap.size := by have := hb3.size; simp at this; omega
            clear hc3 hf3 hb3 x0 x1 x2 x3
            go_wp2_with fail
            refine (HF2.out _ (HB5.out.below (hb.trans (hx3.mono hb.size)))).mono ?_
            rintro e w4 ⟨rfl, hb4⟩
            obtain ⟨hc4, hf4⟩ := bcell hb4
            have y0 := (hc4 _ 0 hz3).trans y0
            have y1 := (hc4 _ 1 hz3).trans y1
            have y2 := (hc4 _ 2 hz3).trans y2
            have y3 := (hc4 _ 3 hz3).trans y3
            have y4 := (hc4 _ 4 hz3).trans y4
            have yf := fun j => (hf4 _ j hz3).trans (yf j)
            have hx4 : Below wr.heap.size wr w4 := hx3.trans (hb4.mono hx3.size)
            have hz4 := Nat.lt_of_lt_of_le hz3 hb4.size
            clear hc4 hf4 hb4 hx3 hz3
            have za := (hb.cell (p := ⟨g3, o3 + a * 4 + 3, none⟩) hg3).trans za
            have za := (hx4.cell (p := ⟨g3, o3 + a * 4 + 3, none⟩) (Nat.lt_of_lt_of_le hg3 hb.size)).trans za
            have zb := (hb.cell (p := ⟨g4, o4 + b * 4 + 3, none⟩) hg4).trans zb
            have zb := (hx4.cell (p := ⟨g4, o4 + b * 4 + 3, none⟩) (Nat.lt_of_lt_of_le hg4 hb.size)).trans zb
            have hne3 : g4 ≠ wr.heap.size := by have := hb.size; omega
            have HX := Lib.hid ((hx4.setCell (p := ⟨wr.heap.size, 3, none⟩) (Nat.le_refl _) (.int .i64 u)).setCell (p := ⟨wr.heap.size, 4, none⟩) (Nat.le_refl _) (.int .i64 v2))
            have hz5 := hb.size
            go_wp2_with (at_builtin; go_loud (refine wpList_append_own_at _ rfl (.tmp 69) (.tmp 71) 32 rfl w5.heap.size 51 j0 _ 5 40 Try.underlying32 hj0 jz0 jz1 jz2 rfl (by decide) _ _ _ rfl ((own_below HO.out HX.out).alloc _) ⟨w4.heap.size, 0, none⟩ 1 1 (ccell ⟨⟨kh, kl, kn⟩, u, v2⟩) rfl rfl (five_new (by simp [go_sem]) (by simp [go_sem]) (by simp [go_sem]) (by simp [go_sem]) (by simp [go_sem])) (by simp [ccell, Value.oneCell']) (by unfold maxLen; omega) (by omega) (by simp; omega) ?_))
            intro v8 w8 hown8 hg8 _ _
            obtain ⟨p8, c8, rfl⟩ := own_slice hown8
            have hb8 : Below w5.heap.size w5 w8 := ((hb.trans (HX.out.mono hb.size)).alloc (by simp; omega) _).grown hg8 (by simp; omega) (fun j hj => (HO.out.lt j hj).1)
            have HN8 : Hid (n + 1 = (ofP A B ((keysR N).take (i + 1))).length) := by rw [HIN.out, List.length_append, ← HN.out]; exact Lib.hid rfl
            have HO8 : Hid (w8.ownsRow w5.heap.size 51 5 (.slice p8 (n + 1) c8) (n + 1) (ccs (ofP A B ((keysR N).take (i + 1))))) := by
              rw [HIN.out, ccs_append, ccs_one]
              exact Lib.hid hown8
            clear hown8 hg8 HO HN HX y0 y1 y2 y3 y4 yf
            go_wp2
            go_roundg (N.length - (i + 1))
            case measure => omega
            case rel => exact ⟨i + 1, n + 1, p8, c8, by go_num, by omega, by omega, rfl, by omega, HN8, HO8, hb8⟩
    · have hR9 : Hid (ofP A B ((keysR N).take i) = R) := by
        rw [HRR.out, List.take_of_length_le (by simp [keysR]; omega)]
        exact Lib.hid rfl
      go_wp2
      go_ret
      refine ⟨q, cq, ?_, ?_, hw⟩
      · rw [← hR9.out, ← HN.out]; rfl
      · have := HO.out
        rw [HN.out, hR9.out] at this
        exact own_le this hw5.size
end Go.Proofs.Ytlmampklgghngaa
