/-
  LevelPlays, proved: for every input the law returns true, and each argument reads as it read before. No condition.
-/
import Derived.Test.YtoihkbanmnagkaaGreatW21a
import Derived.Test.YtoihkbanmnagkaaGreatM4
import Derived.Test.YtoihkbanmnagkaaGreatW21c
import Derived.Test.YtoihkbanmnagkaaGreatFil2
import Derived.Test.YtoihkbanmnagkaaGreatOpen21
/-
  What the program's Look hands back of a level. No condition but that the level lies in memory, that words are words, and that there are at most 100000 keys.
-/
set_option linter.unusedSimpArgs false
set_option linter.unusedVariables false
namespace Go.Proofs.YtoihkbanmnagkaaGreat
open Go Go.RowKit Go.Sort M

set_option maxRecDepth 100000 in
set_option maxHeartbeats 4000000 in
theorem plook21_any (w : World) (K : Nat → Prop) (t : Nat) (V : Lv) (N : List Rt) (ah al : Nat) (H : LevP w K t V) (HV : LvOk V N) (hl : N.length ≤ 100000) (hn : 0 ≤ V.n) (ha : W64 ah) (hb : W64 al) :
    Calls Tryz.prog 11 #[.pointer (some ⟨t, 0, none⟩), .agg #[.int .u64 (ah : Int), .int .u64 (al : Int)]] w fun e w' => e = .returned (lookA V ah al) ∧ Below w.heap.size w w' := by
  obtain ⟨lo, hi, f, u, H⟩ := H
  have hlt := H.lt
  have c0 := H.c0
  have c1 := H.c1
  have c2 := H.c2
  have H1c := c1
  have H2c := c2
  have hcut := cut_any ah al V.n ha hb
  obtain ⟨kk, hkk⟩ : ∃ kk, kk = V.key ah al := ⟨_, rfl⟩
  have hkn : kk.n = V.n := by rw [hkk]; show ((V.n.toNat : Nat) : Int) = V.n; omega
  have hkg : kk.good := by rw [hkk]; exact ⟨ha.cut _, hb.cut _⟩
  have hkh : cutW ah V.n.toNat = kk.h := by rw [hkk]; rfl
  have hkl : cutW al (V.n.toNat - 64) = kk.l := by rw [hkk]; rfl
  rw [hkh, hkl] at hcut
  obtain ⟨kh, kl, kn⟩ := kk
  simp only at hkn hcut
  rw [← hkn] at c0 hcut
  have HF := Lib.hid H.fil
  have HT := Lib.hid H.tab
  have HCUT := Lib.hid hcut
  have hpos := H.pos
  have hmay := fun W (h : Fil W lo hi f V.s V.k V.C) => fmay_any lo hi f V.s V.k V.C kh kl kn W h hkg.1 hkg.2 hpos
  have hcl := HV.kept.len
  have hget := fun (Q : Nat → Prop) W (h : Seat Q W u V.T) => Seat.get u V.T ⟨kh, kl, kn⟩ W h HV.kept.inv hkg (by omega)
  have hmv : mayL V.C (Go.Proofs.YtoihkbanmnagkaaGreat.plc V.s kh kl kn V.k V.C.length) = V.may ah al := by unfold Lv.may; rw [← hkk]; rfl
  have hgv : getT V.T ⟨kh, kl, kn⟩ = getT V.T (V.key ah al) := by rw [← hkk]
  rw [hgv] at hget
  unfold kyV at hget
  simp only at hget
  rw [hmv] at hmay
  unfold lookA
  have hhit : (V.may ah al = true → V.hit ah al = getT V.T (V.key ah al)) ∧ (V.may ah al = false → V.hit ah al = none) := ⟨fun h => by unfold Lv.hit; rw [h]; rfl, fun h => by unfold Lv.hit; rw [h]; rfl⟩
  obtain ⟨mb, hmb⟩ : ∃ mb, mb = V.may ah al := ⟨_, rfl⟩
  obtain ⟨hv, hhv⟩ : ∃ hv, hv = V.hit ah al := ⟨_, rfl⟩
  rw [← hmb] at hmay hhit ⊢
  rw [← hhv] at hhit ⊢
  have HHIT := Lib.hid hhit
  have HMAY := Lib.hid hmay
  have HGET := Lib.hid hget
  clear hhit hmb hhv H hcut hmay hget hkk hkn hkg hkh hkl HV hmv hgv ha hb hpos hcl hl
  go_enter Tryz.func11, Tryz.ntmps11
  go_wp2_with fail
  have kg := cell_grow
  refine wp_region_noPanic ?_
  generalize hNQ : NoPanic _ = NQ
  refine region_eff [1, 2, 3, 6, 7, 8] [0, 4, 9] [(5, 18, []), (10, 23, [(5, 18)]), (11, 7, [])] [12] (lkD kh kl kn (w.heap.size + 1)) (lkD_stable _ _ _ _) (by kernel_rfl) (by rw [← hNQ]; exact fun _ _ _ h => h) (by kernel_rfl) (by kernel_rfl) (by kernel_rfl) ?_
  simp only [pickL, List.filterMap_cons, List.filterMap_nil, List.getElem?_toArray, List.getElem?_cons_succ, List.getElem?_cons_zero]
  repeat (any_goals (quiet_step (fail)))
  refine wpQuiet_nil ?_
  clear kg
  refine ⟨by rfl, ⟨?_, ?_, ?_, trivial⟩, ?_⟩
  · intro W hW K hK o ho
    injection ho with ho
    subst ho
    go_simp
    go_at_call 35
    refine (HCUT.out _).mono ?_
    rintro e w3 ⟨rfl, hb3⟩
    exact hK _ _ hb3 rfl
  · intro W hW v5 h5 K
    obtain rfl : v5 = _ := h5
    go_simp
    intro hK o ho
    injection ho with ho
    subst ho
    go_simp
    exact hK _ _ (Below.refl _ _) rfl
  · intro W hW K
    go_simp
    intro hK o ho
    injection ho with ho
    subst ho
    go_simp
    have hsz := hW.size
    simp only [World.size_alloc] at hsz
    exact hK _ _ (by go_grown) ⟨W.heap.size, rfl, hsz, by simp, by simp [go_sem], by simp [go_sem], by simp [go_sem], fun j => by simp [go_sem]⟩
  · intro W hW v5 h5 v10 h10 v11 h11
    obtain rfl : v5 = _ := h5
    obtain rfl : v10 = _ := h10
    obtain ⟨bk, rfl, hbk, hbl, z0, z1, z2, zf⟩ := h11
    have hw1 : Below w.heap.size w W := Below.trans (by go_grown) (hW.mono (by simp))
    show wpList _ _ _ _ _ _
    simp only [pickL, List.filterMap_cons, List.filterMap_nil, List.getElem?_toArray, List.getElem?_cons_succ, List.getElem?_cons_zero]
    subst hNQ
    clear hW
    have c0 := (hw1.cell (p := ⟨t, 0, none⟩) hlt).trans c0
    have c1 := (hw1.cell (p := ⟨t, 1, none⟩) hlt).trans c1
    have c2 := (hw1.cell (p := ⟨t, 2, none⟩) hlt).trans c2
    have hbw : w.heap.size ≤ bk := by omega
    have htb : t ≠ bk := by omega
    have hw2 : Below w.heap.size w (((W.setCell ⟨bk, 0, none⟩ (.int .u64 (kh : Int))).setCell ⟨bk, 1, none⟩ (.int .u64 (kl : Int))).setCell ⟨bk, 2, none⟩ (.int .i64 kn)) := ((hw1.setCell hbw _).setCell hbw _).setCell hbw _
    have e0 : (((W.setCell ⟨bk, 0, none⟩ (.int .u64 (kh : Int))).setCell ⟨bk, 1, none⟩ (.int .u64 (kl : Int))).setCell ⟨bk, 2, none⟩ (.int .i64 kn)).cell? ⟨bk, 0, none⟩ = some (.int .u64 (kh : Int)) := by simp [go_sem, z0, z1, z2]
    have e1 : (((W.setCell ⟨bk, 0, none⟩ (.int .u64 (kh : Int))).setCell ⟨bk, 1, none⟩ (.int .u64 (kl : Int))).setCell ⟨bk, 2, none⟩ (.int .i64 kn)).cell? ⟨bk, 1, none⟩ = some (.int .u64 (kl : Int)) := by simp [go_sem, z0, z1, z2]
    have e2 : (((W.setCell ⟨bk, 0, none⟩ (.int .u64 (kh : Int))).setCell ⟨bk, 1, none⟩ (.int .u64 (kl : Int))).setCell ⟨bk, 2, none⟩ (.int .i64 kn)).cell? ⟨bk, 2, none⟩ = some (.int .i64 kn) := by simp [go_sem, z0, z1, z2]
    have d1 := (hw2.cell (p := ⟨t, 1, none⟩) hlt).trans H1c
    have d2 := (hw2.cell (p := ⟨t, 2, none⟩) hlt).trans H2c
    have hs2 : bk < (((W.setCell ⟨bk, 0, none⟩ (.int .u64 (kh : Int))).setCell ⟨bk, 1, none⟩ (.int .u64 (kl : Int))).setCell ⟨bk, 2, none⟩ (.int .i64 kn)).heap.size := by simpa using hbl
    go_wp2_with fail
    refine NoPanic.normal ?_
    go_wp2_with fail
    generalize ((W.setCell ⟨bk, 0, none⟩ (.int .u64 (kh : Int))).setCell ⟨bk, 1, none⟩ (.int .u64 (kl : Int))).setCell ⟨bk, 2, none⟩ (.int .i64 kn) = W2 at *
    clear c0 c1 c2 z0 z1 z2 zf hw1
    have ht2 : t < W2.heap.size := Nat.lt_of_lt_of_le hlt hw2.size
    have kg := cell_grow
    refine region_whole (by kernel_rfl) (by kernel_rfl) ?_
    repeat (any_goals (first | go_big_quiet_step ((exact Calls.regrown_of (HMAY.out _ (HF.out.below (hw2.trans ((below_regrown _ _ _).mono hw2.size)))))) | quiet_step ((exact Calls.regrown_of (HMAY.out _ (HF.out.below (hw2.trans ((below_regrown _ _ _).mono hw2.size))))))))
    refine wpQuiet_nil ?_
    clear kg
    intro w4 hb4
    obtain ⟨hc4, hf4⟩ := bcell hb4
    have d2 := (hc4 _ _ ht2).trans d2
    have e0 := (hc4 _ _ hs2).trans e0
    have e1 := (hc4 _ _ hs2).trans e1
    have e2 := (hc4 _ _ hs2).trans e2
    have hw3 := hw2.trans (hb4.mono hw2.size)
    have ht3 := Nat.lt_of_lt_of_le ht2 hb4.size
    have hs3 := Nat.lt_of_lt_of_le hs2 hb4.size
    clear hc4 hf4 hb4 d1
    have hh := HHIT.out
    cases mb with
    | false =>
      have hn := hh.2 rfl
      subst hn
      clear hh
      go_wp2
      go_ret3
      exact ⟨rfl, hw3⟩
    | true =>
      have hn := hh.1 rfl
      subst hn
      clear hh
      go_wp2_with fail
      have kg := cell_grow
      refine wp_region_noPanic ?_
      generalize hNQ : NoPanic _ = NQ
      refine region_eff9 [0, 1, 2] [3, 4] [(5, 37, []), (6, 31, [(5, 37)]), (7, 38, [(6, 31)]), (8, 39, [(6, 31)]), (9, 40, [(6, 31)]), (10, 8, [(7, 38)]), (11, 9, [(8, 39)]), (12, 10, [(9, 40)])] [] (lgD ((getT V.T (V.key ah al)).getD 0) (getT V.T (V.key ah al)).isSome (readT V.T ⟨kh, kl, kn⟩).length) (fun i v W W' _ h => h) (by kernel_rfl) (by rw [← hNQ]; exact fun _ _ _ h => h) (by kernel_rfl) (by kernel_rfl) (by kernel_rfl) ?_
      simp only [pickL, List.filterMap_cons, List.filterMap_nil, List.getElem?_toArray, List.getElem?_cons_succ, List.getElem?_cons_zero]
      repeat (any_goals (quiet_step (fail)))
      refine wpQuiet_nil ?_
      clear kg
      refine ⟨by rfl, ⟨?_, ?_, ?_, ?_, ?_, ?_, ?_, ?_, trivial⟩, ?_⟩
      · intro W4 hW4 K hK o ho
        injection ho with ho
        subst ho
        go_simp
        go_at_call 37
        refine (HGET.out _ _ (HT.out.below (hw3.trans (hW4.mono hw3.size)))).mono ?_
        rintro e w5 ⟨p5, c5, rfl, -, hb5⟩
        exact hK _ _ hb5 ⟨p5, c5, rfl⟩
      · intro W4 hW4 v5 h5 K
        obtain ⟨p6, c6, rfl⟩ := h5
        go_simp
        intro hK o ho
        injection ho with ho
        subst ho
        go_simp
        exact hK _ _ (Below.refl _ _) ⟨p6, c6, rfl⟩
      · intro W4 hW4 v6 h6 K
        obtain ⟨p6, c6, rfl⟩ := h6
        go_simp
        intro hK o ho
        injection ho with ho
        subst ho
        go_simp
        exact hK _ _ (Below.refl _ _) rfl
      · intro W4 hW4 v6 h6 K
        obtain ⟨p6, c6, rfl⟩ := h6
        go_simp
        intro hK o ho
        injection ho with ho
        subst ho
        go_simp
        exact hK _ _ (Below.refl _ _) rfl
      · intro W4 hW4 v6 h6 K
        obtain ⟨p6, c6, rfl⟩ := h6
        go_simp
        intro hK o ho
        injection ho with ho
        subst ho
        go_simp
        exact hK _ _ (Below.refl _ _) trivial
      · intro W4 hW4 v7 h7 K
        obtain rfl : v7 = _ := h7
        go_simp
        intro hK o ho
        injection ho with ho
        subst ho
        go_simp
        exact hK _ _ (Below.refl _ _) rfl
      · intro W4 hW4 v8 h8 K
        obtain rfl : v8 = _ := h8
        go_simp
        intro hK o ho
        injection ho with ho
        subst ho
        go_simp
        exact hK _ _ (Below.refl _ _) rfl
      · intro W4 hW4 v9 h9 K
        clear h9
        go_simp
        intro hK o ho
        injection ho with ho
        subst ho
        go_simp
        exact hK _ _ (Below.refl _ _) trivial
      · intro W4 hW4 v5 h5 v6 h6 v7 h7 v8 h8 v9 h9 v10 h10 v11 h11 v12 h12
        obtain ⟨p5, c5, rfl⟩ := h5
        obtain ⟨p6, c6, rfl⟩ := h6
        obtain rfl : v7 = _ := h7
        obtain rfl : v8 = _ := h8
        obtain rfl : v10 = _ := h10
        obtain rfl : v11 = _ := h11
        have hw5 := hw3.trans (hW4.mono hw3.size)
        show wpList _ _ _ _ _ _
        simp only [pickL, List.filterMap_nil]
        subst hNQ
        clear hW4 h9 h12
        go_wp2_with fail
        refine NoPanic.normal ?_
        go_wp2
        go_ret3
        exact ⟨rfl, hw5⟩
end Go.Proofs.YtoihkbanmnagkaaGreat
/-
  The program's level, as chapter 21's laws ask it. No condition.
-/
set_option linter.unusedSimpArgs false
set_option linter.unusedVariables false
namespace Go.Proofs.YtoihkbanmnagkaaGreat
open Go Go.RowKit Go.Sort M

set_option maxRecDepth 100000 in
set_option maxHeartbeats 1000000 in
theorem pkeys21_any (w : World) (K : Nat → Prop) (t : Nat) (V : Lv) (N : List Rt) (H : LevP w K t V) (HV : LvOk V N) (hl : N.length ≤ 100000) :
    Calls Tryz.prog 14 #[.pointer (some ⟨t, 0, none⟩)] w fun e w' => ∃ p c, e = .returned (.slice p N.length c) ∧ Row w' p (rcs N) ∧ Below w.heap.size w w' := by
  obtain ⟨lo, hi, f, u, H⟩ := H
  have hcl := HV.kept.len
  have hall := fun (Q : Nat → Prop) W (h : Seat Q W u V.T) => Seat.all u V.T W h HV.kept (by omega)
  have HALL := Lib.hid hall
  have HB := Lib.hid H
  have d2 := H.c2
  have dl := H.lt
  clear H HV hl hcl hall
  go_enter Tryz.func14, Tryz.ntmps14
  go_wp2_with fail
  refine (HALL.out _ _ HB.out.tab).mono ?_
  rintro e w1 ⟨p, c, rfl, hr, hb⟩
  have HR := Lib.hid hr
  clear hr
  go_wp2
  go_ret
  exact ⟨p, c, rfl, HR.out, hb⟩
set_option maxRecDepth 100000 in
set_option maxHeartbeats 1000000 in
theorem pbits21_any (w : World) (K : Nat → Prop) (t : Nat) (V : Lv) (H : LevP w K t V) :
    Calls Tryz.prog 16 #[.pointer (some ⟨t, 0, none⟩)] w fun e w' => e = .returned (.int .i64 V.n) ∧ Below w.heap.size w w' := by
  obtain ⟨lo, hi, f, u, H⟩ := H
  have d0 := H.c0
  have dl := H.lt
  clear H
  go_enter Tryz.func16, Tryz.ntmps16
  go_wp2
  go_ret
  exact ⟨rfl, by go_grown⟩
theorem lev_ok : LevC LevP where
  bad := fun n k m b s w ws h => plevel_bad n k m b s w ws h
  new := fun n k s m b w ws h => plevel_new n k s m b w ws h
  turn := fun w K t V N p c L H HV hg hl _ hR hp => pturn21_any w K t V N p c L H HV hg hl hR hp
  look := fun w K t V N ah al H HV hl hn ha hb => plook21_any w K t V N ah al H HV hl hn ha hb
  keys := fun w K t V N H HV hl => pkeys21_any w K t V N H HV hl
  bits := fun w K t V H => pbits21_any w K t V H
  touched := fun _ _ _ _ _ _ H ht hn => H.touched ht hn
end Go.Proofs.YtoihkbanmnagkaaGreat
/-
  LevelPlays, proved: for every input the law returns true, and each argument reads as it read before. No condition.
-/
set_option linter.unusedSimpArgs false
set_option linter.unusedVariables false
namespace Go.Proofs.YtoihkbanmnagkaaGreat
open Go.ChangeShapes Go.WideShapes Go.ChangeAt Go.RowKit Go.Joins M

namespace lawLevelPlays
set_option maxRecDepth 100000 in
theorem lifted (os : Os) (started : os.Started) (H : Type) (enc : TypeId × Value → H) :
    ReturnsInHanded {} Tryz.checked os 3 .any (Rows.levelPlaysSpec.pre6 enc Tryz.prog Tryz.f3 Rows.levelPlaysRow.domain false) (Rows.levelPlaysSpec.post enc Tryz.prog Tryz.f3 false true false false) := by
  refine returnsInHanded_of_change (C := Tryz.checked) (show ownKnob Tryz.prog.godebug = none by kernel_rfl) started (by kernel_rfl) Tryz.func3
    (ChangeSpec.witness6 (enc := enc) (C := Tryz.checked) false ⟨#[], #[.int .i64 0, .int .u64 0, .int .i64 0, .int .i64 0, .int .i64 0, .slice none 0 0, .slice none 0 0], []⟩ 8 (by kernel_rfl) (by kernel_rfl) (by kernel_rfl) (by kernel_rfl)) ?_
  intro W base args ds gs before hval0 hW hcnd _
  have hval : ∀ (j : Nat) t v, Tryz.f3.params[j]? = some t → args[j]? = some v → Value.okWide Tryz.prog W .any base t v := hval0
  have hW' := hW
  obtain ⟨p, q, hA0, hV, -, -, -⟩ := hW
  have hA : DataW.TrodAll enc Tryz.prog W 0 (fun _ => true) true Tryz.f3.params.toList args.toList ds p := hA0
  rw [Tryz.params3] at hA hval
  obtain ⟨v0, vs0, d0, ds0, p0, q0, hargs, rfl, rfl, t0, r0⟩ := trodAll_cons hA
  obtain ⟨v1, vs1, d1, ds1, p1, q1, rfl, rfl, rfl, t1, r1⟩ := trodAll_cons r0
  obtain ⟨v2, vs2, d2, ds2, p2, q2, rfl, rfl, rfl, t2, r2⟩ := trodAll_cons r1
  obtain ⟨v3, vs3, d3, ds3, p3, q3, rfl, rfl, rfl, t3, r3⟩ := trodAll_cons r2
  obtain ⟨v4, vs4, d4, ds4, p4, q4, rfl, rfl, rfl, t4, r4⟩ := trodAll_cons r3
  obtain ⟨v5, vs5, d5, ds5, p5, q5, rfl, rfl, rfl, t5, r5⟩ := trodAll_cons r4
  obtain ⟨v6, vs6, d6, ds6, p6, q6, rfl, rfl, rfl, t6, r6⟩ := trodAll_cons r5
  obtain ⟨rfl, rfl, rfl⟩ := trodAll_nil r6
  obtain rfl : args = #[v0, v1, v2, v3, v4, v5, v6] := by cases args; simp_all
  obtain ⟨n0, rfl, -, -, w0⟩ := open_int Tryz.underlying3 (hval 0 3 v0 rfl rfl) t0
  obtain ⟨m1, rfl, -, -, w1⟩ := open_int Tryz.underlying22 (hval 1 22 v1 rfl rfl) t1; obtain ⟨n1, rfl, a1⟩ := wf_u64 w1
  obtain ⟨n2, rfl, -, -, w2⟩ := open_int Tryz.underlying3 (hval 2 3 v2 rfl rfl) t2
  obtain ⟨n3, rfl, -, -, w3⟩ := open_int Tryz.underlying3 (hval 3 3 v3 rfl rfl) t3
  obtain ⟨n4, rfl, -, -, w4⟩ := open_int Tryz.underlying3 (hval 4 3 v4 rfl rfl) t4
  obtain ⟨s5, k5, n5, rfl, a5, b5, w5⟩ := open_changes (hval 5 23 v5 rfl rfl) t5
  obtain ⟨s6, k6, n6, rfl, a6, b6, w6⟩ := open_addrs (hval 6 24 v6 rfl rfl) t6
  obtain ⟨rfl, -⟩ := trodVars_none hV
  refine (plays_walk lev_ok n0 n2 n3 n4 n1 s5 s6 k5 k6 n5 n6 W a1 a5 b5 a6 b6 w5 w6).mono fun e W' ⟨he, hg⟩ => ?_
  subst he
  exact ⟨_, rfl, law_post (by kernel_rfl) (by kernel_rfl) rfl Tryz.underlying4 rfl hW' rfl hg⟩
theorem holds : Rows.LevelPlaysSaid :=
  OpenClaim.holds_of_wide 3 Tryz.f3 rfl rfl rfl rfl rfl rfl rfl ⟨rfl, rfl, rfl, rfl, rfl⟩ rfl rfl rfl rfl rfl (by kernel_rfl) Tryz.func3 (by kernel_rfl)
    (of_decide_eq_true (by kernel_rfl)) (by unfold Func.isWrapper; first | (rw [if_pos (by decide +kernel)]; kernel_rfl) | (rw [if_neg (by decide +kernel)]; exact ⟨rfl, rfl⟩))
    (fun os started H enc _ => lifted os started H enc)
#print axioms holds
end lawLevelPlays
end Go.Proofs.YtoihkbanmnagkaaGreat
