/-
  What Put of the reference's table does where the first bucket is full: the second, kicks, the stash. No condition but that the table's cells lie in memory, and those that stand in each.
-/
import Derived.Test.YtoihkbanmnagkaaGreatRT6
import Derived.Test.YtoihkbanmnagkaaGreatM12h
import Derived.Test.YtoihkbanmnagkaaGreatW11e
import Derived.Test.YtoihkbanmnagkaaGreatReg6
set_option linter.unusedSimpArgs false
set_option linter.unusedVariables false
namespace Go.Proofs.YtoihkbanmnagkaaGreat
open Go.RowKit Go.Sort M

theorem Tb.low {K : World → Nat → Nat → List Pl → Prop} (hK : BK K) {a b : World} {t g lim : Nat} {v : Value} {T : Tab} (H : Tb K a t g v T) (hl : ∀ k, Blk t g v k → k < lim) (hb : Below lim a b) : Tb K b t g v T := H.blocks hK hb.size fun k hk => hb.block k (hl k hk)
theorem Touch.sink {a b c : World} {t g lim : Nat} {v : Value} (h : Touch (Blk t g v) a b) (hlim : a.heap.size ≤ lim) (hb : Below lim b c) : Touch (Blk t g v) a c :=
  ⟨hb.os.trans h.os, hb.tape.trans h.tape, hb.output.trans h.output, Nat.le_trans h.size hb.size, fun k hk hn => (hb.block k (by omega)).trans (h.block k hk hn)⟩
set_option maxRecDepth 100000 in
set_option maxHeartbeats 4000000 in
/-- There is a place in the second bucket. -/
theorem rput_second (t g : Nat) (v : Value) (pv : Option Addr) (cv : Nat) (T : Tab) (r : Rt) (C : List Pl) (w : World) (H : Tb RBk w t g v T) (hv : v = .slice pv T.st.length cv) (h : Num T) (hk : r.k.good) (hf : T.st.length < 1048576) (hr : rep12 T r = none) (hp1 : putC (T.bk (T.x1 r.k)) r.k r.v = none) (hp2 : putC (T.bk (T.x2 r.k)) r.k r.v = some C) :
    Calls Tryz.prog 31 #[.pointer (some ⟨t, 0, none⟩), kyV r.k, .int .i64 r.v] w fun e w' => e = .returned (.tuple #[]) ∧ RStep w w' t g v (T.set (T.x2 r.k) C) := by
  have HB := Lib.hid (rtwo_fact T r.k h hk)
  have HG := fun x (hx : x < T.B.length) w (H : Tb RBk w t g v T) => rget11_any g (x * 20) (T.bk x) r.k w (H.bk x hx)
  have HS := fun w (H : Tb RBk w t g v T) => find12_any pv cv T.st r.k w (Row.of_own (by have := H.own; rwa [hv] at this)) hf
  have HV := Lib.hid hv
  have HH := Lib.hid H
  have hl := H.tlt
  have c0 := H.c0
  have c1 := H.c1
  have hlim := H.blk
  have HLM := Lib.hid hlim
  have hx1 := h.x1_lt r.k
  have hx2 := h.x2_lt r.k
  have HG1 := HG _ hx1
  have HG2 := HG _ hx2
  obtain ⟨a1, ha1⟩ : ∃ a, a = (getC (T.bk (T.x1 r.k)) r.k).getD 0 := ⟨_, rfl⟩
  obtain ⟨a2, ha2⟩ : ∃ a, a = (getC (T.bk (T.x2 r.k)) r.k).getD 0 := ⟨_, rfl⟩
  obtain ⟨p1, hp1e⟩ : ∃ p, p = (getC (T.bk (T.x1 r.k)) r.k).isSome := ⟨_, rfl⟩
  obtain ⟨p2, hp2e⟩ : ∃ p, p = (getC (T.bk (T.x2 r.k)) r.k).isSome := ⟨_, rfl⟩
  obtain ⟨ks, hks⟩ : ∃ x, x = stI T.st r.k := ⟨_, rfl⟩
  rw [← ha1, ← hp1e] at HG1
  rw [← ha2, ← hp2e] at HG2
  rw [← hks] at HS
  obtain ⟨x1, hX1⟩ : ∃ x, x = T.x1 r.k := ⟨_, rfl⟩
  obtain ⟨x2, hX2⟩ : ∃ x, x = T.x2 r.k := ⟨_, rfl⟩
  rw [← hX1] at HB HG1 hx1
  rw [← hX2] at HB HG2 hx2
  have HG1 := Lib.hid HG1
  have HG2 := Lib.hid HG2
  have HS := Lib.hid HS
  have HX1 := Lib.hid hX1
  have HX2 := Lib.hid hX2
  clear H hlim hX1 hX2 HG ha1 ha2
  unfold kyV at *
  obtain ⟨h1, h2, h3⟩ := rep_none hr
  obtain rfl : p1 = false := hp1e.trans h1
  obtain rfl : p2 = false := hp2e.trans h2
  obtain rfl : ks = (-1 : Int) := hks.trans (stI_none h3)
  have hge : ¬ (0 : Int) ≤ -1 := by omega
  clear hp1e hp2e hks hv h h1 h2 h3
  go_enter Tryz.func31, Tryz.ntmps31
  go_wp2_with fail
  have kg := cell_grow
  refine region_whole (by kernel_rfl) (by kernel_rfl) ?_
  repeat (any_goals (first | go_big_quiet_step ((exact HB.out.at _ _ _)) | quiet_step ((exact HB.out.at _ _ _))))
  refine wpQuiet_nil ?_
  clear kg
  intro w1 hb1
  obtain ⟨hc1, hf1⟩ := bcell hb1
  have hw1 : Below w.heap.size w w1 := by
    refine Below.trans ?_ (hb1.mono ?_)
    · go_grown
    · first | omega | go_size
  have d0 : w1.cell? ⟨w.heap.size, 0, none⟩ = some (.int .u64 (r.k.h : Int)) := by
    rw [hb1.cell (by simp <;> omega)]
    first | assumption | (simp [go_sem]; done) | (simp [go_sem, *]; done)
  have d1 : w1.cell? ⟨w.heap.size, 1, none⟩ = some (.int .u64 (r.k.l : Int)) := by
    rw [hb1.cell (by simp <;> omega)]
    first | assumption | (simp [go_sem]; done) | (simp [go_sem, *]; done)
  have d2 : w1.cell? ⟨w.heap.size, 2, none⟩ = some (.int .i64 r.k.n) := by
    rw [hb1.cell (by simp <;> omega)]
    first | assumption | (simp [go_sem]; done) | (simp [go_sem, *]; done)
  have z0 : w1.frozen? ⟨w.heap.size, 0, none⟩ = false := by
    rw [hb1.frozen (by simp <;> omega)]
    first | assumption | (simp [go_sem]; done) | (simp [go_sem, *]; done)
  have z1 : w1.frozen? ⟨w.heap.size, 1, none⟩ = false := by
    rw [hb1.frozen (by simp <;> omega)]
    first | assumption | (simp [go_sem]; done) | (simp [go_sem, *]; done)
  have z2 : w1.frozen? ⟨w.heap.size, 2, none⟩ = false := by
    rw [hb1.frozen (by simp <;> omega)]
    first | assumption | (simp [go_sem]; done) | (simp [go_sem, *]; done)
  have hz1 : w.heap.size < w1.heap.size := by
    have hs := hb1.size
    try simp only [World.size_alloc, World.size_setCell] at hs
    omega
  have HC1 := Lib.hid (HH.out.below bk_rbk hw1)
  have c1 := HC1.out.c1
  have hl1 := HC1.out.tlt
  have i1 : (0 : Int) ≤ (x1 : Int) := by omega
  have i2 : (x1 : Int) < (T.B.length : Int) := by omega
  have i3 : (0 : Int) ≤ (x2 : Int) := by omega
  have i4 : (x2 : Int) < (T.B.length : Int) := by omega
  clear hc1 hf1 hb1 HB hl c0
  go_wp2_with fail
  have kg := cell_grow
  refine region_whole (by kernel_rfl) (by kernel_rfl) ?_
  repeat (any_goals (first | go_big_quiet_step ((exact Calls.regrown_of (HG1.out _ (HC1.out.below bk_rbk (below_regrown _ _ _))))) | quiet_step ((exact Calls.regrown_of (HG1.out _ (HC1.out.below bk_rbk (below_regrown _ _ _)))))))
  refine wpQuiet_nil ?_
  clear kg
  intro w2 hb2
  obtain ⟨hc2, hf2⟩ := bcell hb2
  have d0 := (hc2 _ _ hz1).trans d0
  have d1 := (hc2 _ _ hz1).trans d1
  have d2 := (hc2 _ _ hz1).trans d2
  have z0 := (hf2 _ _ hz1).trans z0
  have z1 := (hf2 _ _ hz1).trans z1
  have z2 := (hf2 _ _ hz1).trans z2
  have hz2 := Nat.lt_of_lt_of_le hz1 hb2.size
  have HC2 := Lib.hid (HC1.out.below bk_rbk hb2)
  have hw2 := hw1.trans (hb2.mono hw1.size)
  have c1 := HC2.out.c1
  have hl2 := HC2.out.tlt
  clear hc2 hf2 hb2 hw1 hl1 HC1 hz1
  go_wp2_with fail
  have kg := cell_grow
  refine region_whole (by kernel_rfl) (by kernel_rfl) ?_
  repeat (any_goals (first | go_big_quiet_step ((exact Calls.regrown_of (HG2.out _ (HC2.out.below bk_rbk (below_regrown _ _ _))))) | quiet_step ((exact Calls.regrown_of (HG2.out _ (HC2.out.below bk_rbk (below_regrown _ _ _)))))))
  refine wpQuiet_nil ?_
  clear kg
  intro w3 hb3
  obtain ⟨hc3, hf3⟩ := bcell hb3
  have d0 := (hc3 _ _ hz2).trans d0
  have d1 := (hc3 _ _ hz2).trans d1
  have d2 := (hc3 _ _ hz2).trans d2
  have z0 := (hf3 _ _ hz2).trans z0
  have z1 := (hf3 _ _ hz2).trans z1
  have z2 := (hf3 _ _ hz2).trans z2
  have hz3 := Nat.lt_of_lt_of_le hz2 hb3.size
  have HC3 := Lib.hid (HC2.out.below bk_rbk hb3)
  have hw3 := hw2.trans (hb3.mono hw2.size)
  have c1 := HC3.out.c1
  have hl3 := HC3.out.tlt
  clear hc3 hf3 hb3 hw2 hl2 HC2 hz2
  have c2 := HC3.out.c2
  rw [HV.out] at c2
  go_wp2_with fail
  have kg := cell_grow
  refine region_whole (by kernel_rfl) (by kernel_rfl) ?_
  repeat (any_goals (first | go_big_quiet_step ((exact Calls.regrown_of (HS.out _ (HC3.out.below bk_rbk (below_regrown _ _ _))))) | quiet_step ((exact Calls.regrown_of (HS.out _ (HC3.out.below bk_rbk (below_regrown _ _ _)))))))
  refine wpQuiet_nil ?_
  clear kg
  intro w4 hb4
  obtain ⟨hc4, hf4⟩ := bcell hb4
  have d0 := (hc4 _ _ hz3).trans d0
  have d1 := (hc4 _ _ hz3).trans d1
  have d2 := (hc4 _ _ hz3).trans d2
  have z0 := (hf4 _ _ hz3).trans z0
  have z1 := (hf4 _ _ hz3).trans z1
  have z2 := (hf4 _ _ hz3).trans z2
  have hz4 := Nat.lt_of_lt_of_le hz3 hb4.size
  have HC4 := Lib.hid (HC3.out.below bk_rbk hb4)
  have hw4 := hw3.trans (hb4.mono hw3.size)
  have c1 := HC4.out.c1
  have hl4 := HC4.out.tlt
  clear hc4 hf4 hb4 hw3 hl3 HC3 hz3
  clear c2
  have HT4 := Lib.hid (Touch.quiet hw4 (S := Blk t g v))
  have hg4 := HC4.out.blt
  have htg := HC4.out.tg
  have hlg : g < w.heap.size := HLM.out g (.inr (.inl rfl))
  have hwg : w.heap.size ≠ g := by omega
  clear hw4 HG1 HG2 HS
  have hP1 : ∀ W, Hid (Tb RBk W t g v T ∧ Touch (Blk t g v) w4 W) → W.cell? ⟨w.heap.size, 0, none⟩ = some (.int .u64 (r.k.h : Int)) → W.cell? ⟨w.heap.size, 1, none⟩ = some (.int .u64 (r.k.l : Int)) → W.cell? ⟨w.heap.size, 2, none⟩ = some (.int .i64 r.k.n) →
      Calls Tryz.prog 53 #[.pointer (some ⟨g, x1 * 20, none⟩), .agg #[.int .u64 (r.k.h : Int), .int .u64 (r.k.l : Int), .int .i64 r.k.n], .int .i64 r.v] W fun e w' => e = .returned (.bool (putC (T.bk x1) r.k r.v).isSome) ∧ Hid (Tb RBk w' t g v (T.set x1 ((putC (T.bk x1) r.k r.v).getD (T.bk x1))) ∧ Touch (Blk t g v) w4 w') ∧
        w'.cell? ⟨t, 1, none⟩ = some (.slice (some ⟨g, 0, none⟩) T.B.length T.B.length) ∧ w'.cell? ⟨w.heap.size, 0, none⟩ = some (.int .u64 (r.k.h : Int)) ∧ w'.cell? ⟨w.heap.size, 1, none⟩ = some (.int .u64 (r.k.l : Int)) ∧ w'.cell? ⟨w.heap.size, 2, none⟩ = some (.int .i64 r.k.n) := by
    intro W hW q0 q1 q2
    refine (rput11_any g (x1 * 20) (T.bk x1) r.k r.v W (hW.out.1.bk x1 hx1)).mono ?_
    rintro e w' ⟨rfl, h1, h2⟩
    have hB := World.block_lt_of_cell? W ⟨w.heap.size, 0, none⟩ q0
    have h3 := hW.out.1.turn bk_rbk hx1 h2 h1
    exact ⟨rfl, ⟨h3.1, hW.out.2.trans h3.2⟩, (h2.far hW.out.1.tlt htg 1).1.trans hW.out.1.c1, (h2.far hB hwg 0).1.trans q0, (h2.far hB hwg 1).1.trans q1, (h2.far hB hwg 2).1.trans q2⟩
  have HP1 := Lib.hid hP1
  clear hP1
  rw [HX1.out] at HP1
  rw [hp1] at HP1
  rw [← HX1.out] at HP1
  simp only [Option.isSome_none, Option.getD_none, Option.isSome_some, Option.getD_some] at HP1
  rw [tab_self T x1 hx1] at HP1
  go_wp2_with fail
  have kg := cell_grow
  refine region_phases [8] 18 (by kernel_rfl) (by kernel_rfl) (by kernel_rfl) ?_
  unfold phQ
  simp only [Nat.sub_zero, List.take_succ_cons, List.take_zero, List.getElem?_cons_succ, List.getElem?_cons_zero]
  repeat (any_goals (first | go_big_quiet_step (fail) | quiet_step (fail)))
  refine wpQuiet_nil ?_
  clear kg
  intro w5 hb5 K5 hK5 o ho
  injection ho with ho
  subst ho
  obtain ⟨hc5, hf5⟩ := bcell hb5
  have HC5 := Lib.hid (HC4.out.below bk_rbk hb5)
  have hT5 := Touch.quiet hb5 (S := Blk t g v)
  have d0 := (hc5 _ _ hz4).trans d0
  have d1 := (hc5 _ _ hz4).trans d1
  have d2 := (hc5 _ _ hz4).trans d2
  clear hc5 hf5 hb5
  go_simp
  refine (HP1.out _ ⟨HC5.out, hT5⟩ d0 d1 d2).mono ?_
  rintro e w6 ⟨rfl, hF6, k0, k1, k2, k3⟩
  have hl6 := hF6.out.1.tlt
  have hz6 := Nat.lt_of_lt_of_le hz4 hF6.out.2.size
  clear d0 d1 d2 c1 hT5 HC5
  refine hK5 _ _ ?_
  clear hK5 K5
  have kg := cell_grow
  unfold phQ
  simp only [Nat.reduceSub, Nat.reduceAdd, List.drop_succ_cons, List.drop_zero, List.take_succ_cons, List.take_zero]
  repeat (any_goals (first | go_big_quiet_step (fail) | quiet_step (fail)))
  refine wpQuiet_nil ?_
  clear kg
  intro w7 hb7
  obtain ⟨hc7, hf7⟩ := bcell hb7
  have HF7 := Lib.hid (show Hid (Tb RBk w7 t g v T ∧ Touch (Blk t g v) w4 w7) from ⟨hF6.out.1.below bk_rbk hb7, hF6.out.2.trans (Touch.quiet hb7)⟩)
  have k1 := (hc7 _ _ hz6).trans k1
  have k2 := (hc7 _ _ hz6).trans k2
  have k3 := (hc7 _ _ hz6).trans k3
  clear hc7 hf7 hb7 k0 hF6
  have hP2 : ∀ W, Hid (Tb RBk W t g v T ∧ Touch (Blk t g v) w4 W) → W.cell? ⟨w.heap.size, 0, none⟩ = some (.int .u64 (r.k.h : Int)) → W.cell? ⟨w.heap.size, 1, none⟩ = some (.int .u64 (r.k.l : Int)) → W.cell? ⟨w.heap.size, 2, none⟩ = some (.int .i64 r.k.n) →
      Calls Tryz.prog 53 #[.pointer (some ⟨g, x2 * 20, none⟩), .agg #[.int .u64 (r.k.h : Int), .int .u64 (r.k.l : Int), .int .i64 r.k.n], .int .i64 r.v] W fun e w' => e = .returned (.bool (putC (T.bk x2) r.k r.v).isSome) ∧ Hid (Tb RBk w' t g v (T.set x2 ((putC (T.bk x2) r.k r.v).getD (T.bk x2))) ∧ Touch (Blk t g v) w4 w') ∧
        w'.cell? ⟨t, 1, none⟩ = some (.slice (some ⟨g, 0, none⟩) T.B.length T.B.length) ∧ w'.cell? ⟨w.heap.size, 0, none⟩ = some (.int .u64 (r.k.h : Int)) ∧ w'.cell? ⟨w.heap.size, 1, none⟩ = some (.int .u64 (r.k.l : Int)) ∧ w'.cell? ⟨w.heap.size, 2, none⟩ = some (.int .i64 r.k.n) := by
    intro W hW q0 q1 q2
    refine (rput11_any g (x2 * 20) (T.bk x2) r.k r.v W (hW.out.1.bk x2 hx2)).mono ?_
    rintro e w' ⟨rfl, h1, h2⟩
    have hB := World.block_lt_of_cell? W ⟨w.heap.size, 0, none⟩ q0
    have h3 := hW.out.1.turn bk_rbk hx2 h2 h1
    exact ⟨rfl, ⟨h3.1, hW.out.2.trans h3.2⟩, (h2.far hW.out.1.tlt htg 1).1.trans hW.out.1.c1, (h2.far hB hwg 0).1.trans q0, (h2.far hB hwg 1).1.trans q1, (h2.far hB hwg 2).1.trans q2⟩
  have HP2 := Lib.hid hP2
  clear hP2
  rw [HX2.out] at HP2
  rw [hp2] at HP2
  rw [← HX2.out] at HP2
  simp only [Option.isSome_none, Option.getD_none, Option.isSome_some, Option.getD_some] at HP2
  try rw [tab_self T x2 hx2] at HP2
  go_wp2_with fail
  refine (HP2.out _ HF7.out k1 k2 k3).mono ?_
  rintro e w8 ⟨rfl, hF8, k0, k1, k2, k3⟩
  have hz8 := Nat.lt_of_lt_of_le hz4 hF8.out.2.size
  clear HF7 hz6 HP1 HP2
  go_wp2
  (try simp only [Exit.inBlock, Exit.then])
  refine bodyPost_ret (results_none rfl _ _ _) rfl ?_
  rw [← HX2.out]
  exact ⟨rfl, RStep.same hF8.out.1 (HT4.out.trans hF8.out.2)⟩
set_option maxRecDepth 100000 in
set_option maxHeartbeats 8000000 in
/-- Kicks: who is left comes to the stash. -/
theorem rput_kicks (t g : Nat) (v : Value) (pv : Option Addr) (cv : Nat) (T : Tab) (R : Tab × Option Rt) (T2 TG : Tab) (r : Rt) (w : World) (H : Tb RBk w t g v T) (hv : v = .slice pv T.st.length cv) (h : Num T) (hgd : GoodT T) (hk : r.k.good) (hf : T.st.length < 1048576) (hr : rep12 T r = none) (hp1 : putC (T.bk (T.x1 r.k)) r.k r.v = none) (hp2 : putC (T.bk (T.x2 r.k)) r.k r.v = none)
    (hR : R = kicks 16 0 T (T.x2 r.k) r) (hT2 : ∀ q, R.2 = some q → T2 = { R.1 with st := intoS R.1.st q })
    (HG : ∀ g1 v1 w1, R.2.isSome = true → Tb RBk w1 t g1 v1 T2 → 8 < T2.st.length → T2.B.length < 65536 → Calls Tryz.prog 56 #[.pointer (some ⟨t, 0, none⟩)] w1 fun e w' => e = .returned (.tuple #[]) ∧ RStep w1 w' t g1 v1 TG) :
    Calls Tryz.prog 31 #[.pointer (some ⟨t, 0, none⟩), kyV r.k, .int .i64 r.v] w fun e w' => e = .returned (.tuple #[]) ∧ (R.2 = none → RStep w w' t g v R.1) ∧ (R.2.isSome = true → 8 < T2.st.length ∧ T2.B.length < 65536 → RStep w w' t g v TG) ∧ (R.2.isSome = true → ¬ (8 < T2.st.length ∧ T2.B.length < 65536) → RStep w w' t g v T2) := by
  have HGG := Lib.hid HG
  have HT2e := Lib.hid hT2
  have HR := Lib.hid hR
  have HN0 := Lib.hid h
  have HGT0 := Lib.hid hgd
  have HK0 := Lib.hid hk
  have HFF := Lib.hid hf
  clear HG hT2 hR hgd
  have HB := Lib.hid (rtwo_fact T r.k h hk)
  have HG := fun x (hx : x < T.B.length) w (H : Tb RBk w t g v T) => rget11_any g (x * 20) (T.bk x) r.k w (H.bk x hx)
  have HS := fun w (H : Tb RBk w t g v T) => find12_any pv cv T.st r.k w (Row.of_own (by have := H.own; rwa [hv] at this)) hf
  have HV := Lib.hid hv
  have HH := Lib.hid H
  have hl := H.tlt
  have c0 := H.c0
  have c1 := H.c1
  have hlim := H.blk
  have HLM := Lib.hid hlim
  have hx1 := h.x1_lt r.k
  have hx2 := h.x2_lt r.k
  have HG1 := HG _ hx1
  have HG2 := HG _ hx2
  obtain ⟨a1, ha1⟩ : ∃ a, a = (getC (T.bk (T.x1 r.k)) r.k).getD 0 := ⟨_, rfl⟩
  obtain ⟨a2, ha2⟩ : ∃ a, a = (getC (T.bk (T.x2 r.k)) r.k).getD 0 := ⟨_, rfl⟩
  obtain ⟨p1, hp1e⟩ : ∃ p, p = (getC (T.bk (T.x1 r.k)) r.k).isSome := ⟨_, rfl⟩
  obtain ⟨p2, hp2e⟩ : ∃ p, p = (getC (T.bk (T.x2 r.k)) r.k).isSome := ⟨_, rfl⟩
  obtain ⟨ks, hks⟩ : ∃ x, x = stI T.st r.k := ⟨_, rfl⟩
  rw [← ha1, ← hp1e] at HG1
  rw [← ha2, ← hp2e] at HG2
  rw [← hks] at HS
  obtain ⟨x1, hX1⟩ : ∃ x, x = T.x1 r.k := ⟨_, rfl⟩
  obtain ⟨x2, hX2⟩ : ∃ x, x = T.x2 r.k := ⟨_, rfl⟩
  rw [← hX1] at HB HG1 hx1
  rw [← hX2] at HB HG2 hx2
  have HG1 := Lib.hid HG1
  have HG2 := Lib.hid HG2
  have HS := Lib.hid HS
  have HX1 := Lib.hid hX1
  have HX2 := Lib.hid hX2
  clear H hlim hX1 hX2 HG ha1 ha2
  unfold kyV at *
  obtain ⟨h1, h2, h3⟩ := rep_none hr
  obtain rfl : p1 = false := hp1e.trans h1
  obtain rfl : p2 = false := hp2e.trans h2
  obtain rfl : ks = (-1 : Int) := hks.trans (stI_none h3)
  have hge : ¬ (0 : Int) ≤ -1 := by omega
  clear hp1e hp2e hks hv h h1 h2 h3
  go_enter Tryz.func31, Tryz.ntmps31
  go_wp2_with fail
  have kg := cell_grow
  refine region_whole (by kernel_rfl) (by kernel_rfl) ?_
  repeat (any_goals (first | go_big_quiet_step ((exact HB.out.at _ _ _)) | quiet_step ((exact HB.out.at _ _ _))))
  refine wpQuiet_nil ?_
  clear kg
  intro w1 hb1
  obtain ⟨hc1, hf1⟩ := bcell hb1
  have hw1 : Below w.heap.size w w1 := by
    refine Below.trans ?_ (hb1.mono ?_)
    · go_grown
    · first | omega | go_size
  have d0 : w1.cell? ⟨w.heap.size, 0, none⟩ = some (.int .u64 (r.k.h : Int)) := by
    rw [hb1.cell (by simp <;> omega)]
    first | assumption | (simp [go_sem]; done) | (simp [go_sem, *]; done)
  have d1 : w1.cell? ⟨w.heap.size, 1, none⟩ = some (.int .u64 (r.k.l : Int)) := by
    rw [hb1.cell (by simp <;> omega)]
    first | assumption | (simp [go_sem]; done) | (simp [go_sem, *]; done)
  have d2 : w1.cell? ⟨w.heap.size, 2, none⟩ = some (.int .i64 r.k.n) := by
    rw [hb1.cell (by simp <;> omega)]
    first | assumption | (simp [go_sem]; done) | (simp [go_sem, *]; done)
  have z0 : w1.frozen? ⟨w.heap.size, 0, none⟩ = false := by
    rw [hb1.frozen (by simp <;> omega)]
    first | assumption | (simp [go_sem]; done) | (simp [go_sem, *]; done)
  have z1 : w1.frozen? ⟨w.heap.size, 1, none⟩ = false := by
    rw [hb1.frozen (by simp <;> omega)]
    first | assumption | (simp [go_sem]; done) | (simp [go_sem, *]; done)
  have z2 : w1.frozen? ⟨w.heap.size, 2, none⟩ = false := by
    rw [hb1.frozen (by simp <;> omega)]
    first | assumption | (simp [go_sem]; done) | (simp [go_sem, *]; done)
  have hz1 : w.heap.size < w1.heap.size := by
    have hs := hb1.size
    try simp only [World.size_alloc, World.size_setCell] at hs
    omega
  have HC1 := Lib.hid (HH.out.below bk_rbk hw1)
  have c1 := HC1.out.c1
  have hl1 := HC1.out.tlt
  have i1 : (0 : Int) ≤ (x1 : Int) := by omega
  have i2 : (x1 : Int) < (T.B.length : Int) := by omega
  have i3 : (0 : Int) ≤ (x2 : Int) := by omega
  have i4 : (x2 : Int) < (T.B.length : Int) := by omega
  clear hc1 hf1 hb1 HB hl c0
  go_wp2_with fail
  have kg := cell_grow
  refine region_whole (by kernel_rfl) (by kernel_rfl) ?_
  repeat (any_goals (first | go_big_quiet_step ((exact Calls.regrown_of (HG1.out _ (HC1.out.below bk_rbk (below_regrown _ _ _))))) | quiet_step ((exact Calls.regrown_of (HG1.out _ (HC1.out.below bk_rbk (below_regrown _ _ _)))))))
  refine wpQuiet_nil ?_
  clear kg
  intro w2 hb2
  obtain ⟨hc2, hf2⟩ := bcell hb2
  have d0 := (hc2 _ _ hz1).trans d0
  have d1 := (hc2 _ _ hz1).trans d1
  have d2 := (hc2 _ _ hz1).trans d2
  have z0 := (hf2 _ _ hz1).trans z0
  have z1 := (hf2 _ _ hz1).trans z1
  have z2 := (hf2 _ _ hz1).trans z2
  have hz2 := Nat.lt_of_lt_of_le hz1 hb2.size
  have HC2 := Lib.hid (HC1.out.below bk_rbk hb2)
  have hw2 := hw1.trans (hb2.mono hw1.size)
  have c1 := HC2.out.c1
  have hl2 := HC2.out.tlt
  clear hc2 hf2 hb2 hw1 hl1 HC1 hz1
  go_wp2_with fail
  have kg := cell_grow
  refine region_whole (by kernel_rfl) (by kernel_rfl) ?_
  repeat (any_goals (first | go_big_quiet_step ((exact Calls.regrown_of (HG2.out _ (HC2.out.below bk_rbk (below_regrown _ _ _))))) | quiet_step ((exact Calls.regrown_of (HG2.out _ (HC2.out.below bk_rbk (below_regrown _ _ _)))))))
  refine wpQuiet_nil ?_
  clear kg
  intro w3 hb3
  obtain ⟨hc3, hf3⟩ := bcell hb3
  have d0 := (hc3 _ _ hz2).trans d0
  have d1 := (hc3 _ _ hz2).trans d1
  have d2 := (hc3 _ _ hz2).trans d2
  have z0 := (hf3 _ _ hz2).trans z0
  have z1 := (hf3 _ _ hz2).trans z1
  have z2 := (hf3 _ _ hz2).trans z2
  have hz3 := Nat.lt_of_lt_of_le hz2 hb3.size
  have HC3 := Lib.hid (HC2.out.below bk_rbk hb3)
  have hw3 := hw2.trans (hb3.mono hw2.size)
  have c1 := HC3.out.c1
  have hl3 := HC3.out.tlt
  clear hc3 hf3 hb3 hw2 hl2 HC2 hz2
  have c2 := HC3.out.c2
  rw [HV.out] at c2
  go_wp2_with fail
  have kg := cell_grow
  refine region_whole (by kernel_rfl) (by kernel_rfl) ?_
  repeat (any_goals (first | go_big_quiet_step ((exact Calls.regrown_of (HS.out _ (HC3.out.below bk_rbk (below_regrown _ _ _))))) | quiet_step ((exact Calls.regrown_of (HS.out _ (HC3.out.below bk_rbk (below_regrown _ _ _)))))))
  refine wpQuiet_nil ?_
  clear kg
  intro w4 hb4
  obtain ⟨hc4, hf4⟩ := bcell hb4
  have d0 := (hc4 _ _ hz3).trans d0
  have d1 := (hc4 _ _ hz3).trans d1
  have d2 := (hc4 _ _ hz3).trans d2
  have z0 := (hf4 _ _ hz3).trans z0
  have z1 := (hf4 _ _ hz3).trans z1
  have z2 := (hf4 _ _ hz3).trans z2
  have hz4 := Nat.lt_of_lt_of_le hz3 hb4.size
  have HC4 := Lib.hid (HC3.out.below bk_rbk hb4)
  have hw4 := hw3.trans (hb4.mono hw3.size)
  have c1 := HC4.out.c1
  have hl4 := HC4.out.tlt
  clear hc4 hf4 hb4 hw3 hl3 HC3 hz3
  clear c2
  have HT4 := Lib.hid (Touch.quiet hw4 (S := Blk t g v))
  have hg4 := HC4.out.blt
  have htg := HC4.out.tg
  have hlg : g < w.heap.size := HLM.out g (.inr (.inl rfl))
  have hwg : w.heap.size ≠ g := by omega
  clear hw4 HG1 HG2 HS
  have hP1 : ∀ W, Hid (Tb RBk W t g v T ∧ Touch (Blk t g v) w4 W) → W.cell? ⟨w.heap.size, 0, none⟩ = some (.int .u64 (r.k.h : Int)) → W.cell? ⟨w.heap.size, 1, none⟩ = some (.int .u64 (r.k.l : Int)) → W.cell? ⟨w.heap.size, 2, none⟩ = some (.int .i64 r.k.n) →
      Calls Tryz.prog 53 #[.pointer (some ⟨g, x1 * 20, none⟩), .agg #[.int .u64 (r.k.h : Int), .int .u64 (r.k.l : Int), .int .i64 r.k.n], .int .i64 r.v] W fun e w' => e = .returned (.bool (putC (T.bk x1) r.k r.v).isSome) ∧ Hid (Tb RBk w' t g v (T.set x1 ((putC (T.bk x1) r.k r.v).getD (T.bk x1))) ∧ Touch (Blk t g v) w4 w') ∧
        w'.cell? ⟨t, 1, none⟩ = some (.slice (some ⟨g, 0, none⟩) T.B.length T.B.length) ∧ w'.cell? ⟨w.heap.size, 0, none⟩ = some (.int .u64 (r.k.h : Int)) ∧ w'.cell? ⟨w.heap.size, 1, none⟩ = some (.int .u64 (r.k.l : Int)) ∧ w'.cell? ⟨w.heap.size, 2, none⟩ = some (.int .i64 r.k.n) := by
    intro W hW q0 q1 q2
    refine (rput11_any g (x1 * 20) (T.bk x1) r.k r.v W (hW.out.1.bk x1 hx1)).mono ?_
    rintro e w' ⟨rfl, h1, h2⟩
    have hB := World.block_lt_of_cell? W ⟨w.heap.size, 0, none⟩ q0
    have h3 := hW.out.1.turn bk_rbk hx1 h2 h1
    exact ⟨rfl, ⟨h3.1, hW.out.2.trans h3.2⟩, (h2.far hW.out.1.tlt htg 1).1.trans hW.out.1.c1, (h2.far hB hwg 0).1.trans q0, (h2.far hB hwg 1).1.trans q1, (h2.far hB hwg 2).1.trans q2⟩
  have HP1 := Lib.hid hP1
  clear hP1
  rw [HX1.out] at HP1
  rw [hp1] at HP1
  rw [← HX1.out] at HP1
  simp only [Option.isSome_none, Option.getD_none, Option.isSome_some, Option.getD_some] at HP1
  rw [tab_self T x1 hx1] at HP1
  go_wp2_with fail
  have kg := cell_grow
  refine region_phases [8] 18 (by kernel_rfl) (by kernel_rfl) (by kernel_rfl) ?_
  unfold phQ
  simp only [Nat.sub_zero, List.take_succ_cons, List.take_zero, List.getElem?_cons_succ, List.getElem?_cons_zero]
  repeat (any_goals (first | go_big_quiet_step (fail) | quiet_step (fail)))
  refine wpQuiet_nil ?_
  clear kg
  intro w5 hb5 K5 hK5 o ho
  injection ho with ho
  subst ho
  obtain ⟨hc5, hf5⟩ := bcell hb5
  have HC5 := Lib.hid (HC4.out.below bk_rbk hb5)
  have hT5 := Touch.quiet hb5 (S := Blk t g v)
  have d0 := (hc5 _ _ hz4).trans d0
  have d1 := (hc5 _ _ hz4).trans d1
  have d2 := (hc5 _ _ hz4).trans d2
  clear hc5 hf5 hb5
  go_simp
  refine (HP1.out _ ⟨HC5.out, hT5⟩ d0 d1 d2).mono ?_
  rintro e w6 ⟨rfl, hF6, k0, k1, k2, k3⟩
  have hl6 := hF6.out.1.tlt
  have hz6 := Nat.lt_of_lt_of_le hz4 hF6.out.2.size
  clear d0 d1 d2 c1 hT5 HC5
  refine hK5 _ _ ?_
  clear hK5 K5
  have kg := cell_grow
  unfold phQ
  simp only [Nat.reduceSub, Nat.reduceAdd, List.drop_succ_cons, List.drop_zero, List.take_succ_cons, List.take_zero]
  repeat (any_goals (first | go_big_quiet_step (fail) | quiet_step (fail)))
  refine wpQuiet_nil ?_
  clear kg
  intro w7 hb7
  obtain ⟨hc7, hf7⟩ := bcell hb7
  have HF7 := Lib.hid (show Hid (Tb RBk w7 t g v T ∧ Touch (Blk t g v) w4 w7) from ⟨hF6.out.1.below bk_rbk hb7, hF6.out.2.trans (Touch.quiet hb7)⟩)
  have k1 := (hc7 _ _ hz6).trans k1
  have k2 := (hc7 _ _ hz6).trans k2
  have k3 := (hc7 _ _ hz6).trans k3
  clear hc7 hf7 hb7 k0 hF6
  have hP2 : ∀ W, Hid (Tb RBk W t g v T ∧ Touch (Blk t g v) w4 W) → W.cell? ⟨w.heap.size, 0, none⟩ = some (.int .u64 (r.k.h : Int)) → W.cell? ⟨w.heap.size, 1, none⟩ = some (.int .u64 (r.k.l : Int)) → W.cell? ⟨w.heap.size, 2, none⟩ = some (.int .i64 r.k.n) →
      Calls Tryz.prog 53 #[.pointer (some ⟨g, x2 * 20, none⟩), .agg #[.int .u64 (r.k.h : Int), .int .u64 (r.k.l : Int), .int .i64 r.k.n], .int .i64 r.v] W fun e w' => e = .returned (.bool (putC (T.bk x2) r.k r.v).isSome) ∧ Hid (Tb RBk w' t g v (T.set x2 ((putC (T.bk x2) r.k r.v).getD (T.bk x2))) ∧ Touch (Blk t g v) w4 w') ∧
        w'.cell? ⟨t, 1, none⟩ = some (.slice (some ⟨g, 0, none⟩) T.B.length T.B.length) ∧ w'.cell? ⟨w.heap.size, 0, none⟩ = some (.int .u64 (r.k.h : Int)) ∧ w'.cell? ⟨w.heap.size, 1, none⟩ = some (.int .u64 (r.k.l : Int)) ∧ w'.cell? ⟨w.heap.size, 2, none⟩ = some (.int .i64 r.k.n) := by
    intro W hW q0 q1 q2
    refine (rput11_any g (x2 * 20) (T.bk x2) r.k r.v W (hW.out.1.bk x2 hx2)).mono ?_
    rintro e w' ⟨rfl, h1, h2⟩
    have hB := World.block_lt_of_cell? W ⟨w.heap.size, 0, none⟩ q0
    have h3 := hW.out.1.turn bk_rbk hx2 h2 h1
    exact ⟨rfl, ⟨h3.1, hW.out.2.trans h3.2⟩, (h2.far hW.out.1.tlt htg 1).1.trans hW.out.1.c1, (h2.far hB hwg 0).1.trans q0, (h2.far hB hwg 1).1.trans q1, (h2.far hB hwg 2).1.trans q2⟩
  have HP2 := Lib.hid hP2
  clear hP2
  rw [HX2.out] at HP2
  rw [hp2] at HP2
  rw [← HX2.out] at HP2
  simp only [Option.isSome_none, Option.getD_none, Option.isSome_some, Option.getD_some] at HP2
  try rw [tab_self T x2 hx2] at HP2
  go_wp2_with fail
  refine (HP2.out _ HF7.out k1 k2 k3).mono ?_
  rintro e w8 ⟨rfl, hF8, k0, k1, k2, k3⟩
  have hz8 := Nat.lt_of_lt_of_le hz4 hF8.out.2.size
  clear HF7 hz6 HP1 HP2
  have HR' : Hid (kicks 16 0 T x2 r = R) := by show _ = _; rw [HR.out, HX2.out]
  have HT8 := Lib.hid (HT4.out.trans hF8.out.2)
  have HF8 := Lib.hid hF8.out.1
  have y0 := (hF8.out.2.upf HLM.out (Nat.le_refl _) hz4 0).trans z0
  have y1 := (hF8.out.2.upf HLM.out (Nat.le_refl _) hz4 1).trans z1
  have y2 := (hF8.out.2.upf HLM.out (Nat.le_refl _) hz4 2).trans z2
  have hST0 : Hid (T.st = T.st) := rfl
  obtain ⟨st0, hst0⟩ : ∃ x, x = T.st := ⟨_, rfl⟩
  have HST0 : Hid (T.st = st0) := hst0.symm
  rw [← hst0] at HFF HV
  clear hF8 z0 z1 z2 hp1 hp2 hl4 hz4 HT4 HC4 hg4 hl6 HR hST0 hst0
  go_wp2
  go_loopw [2, 13, 14] (fun s2 s13 s14 wr => ∃ (j : Nat) (T' : Tab) (b' : Nat) (r' : Rt), j ≤ 16 ∧ s14 = .int .i64 (j : Int) ∧ s13 = .int .i64 (b' : Int) ∧ s2 = .int .i64 r'.v ∧ b' < T'.B.length ∧ Hid (Num T') ∧ Hid (GoodT T') ∧ Hid r'.k.good ∧ Hid (T'.st = st0) ∧ Hid (Tb RBk wr t g v T') ∧ Hid (kicks (16 - j) j T' b' r' = R) ∧
    wr.cell? ⟨w.heap.size, 0, none⟩ = some (.int .u64 (r'.k.h : Int)) ∧ wr.cell? ⟨w.heap.size, 1, none⟩ = some (.int .u64 (r'.k.l : Int)) ∧ wr.cell? ⟨w.heap.size, 2, none⟩ = some (.int .i64 r'.k.n) ∧ wr.frozen? ⟨w.heap.size, 0, none⟩ = false ∧ wr.frozen? ⟨w.heap.size, 1, none⟩ = false ∧ wr.frozen? ⟨w.heap.size, 2, none⟩ = false ∧ w.heap.size < wr.heap.size ∧ Hid (Touch (Blk t g v) w wr)) (fun _ _ i _ => 16 - (intOf i).toNat)
  case atStart => exact ⟨0, T, x2, r, by omega, rfl, rfl, rfl, hx2, HN0, HGT0, HK0, HST0, HF8, HR', k1, k2, k3, y0, y1, y2, hz8, HT8⟩
  case round =>
    clear HR' HT8 HF8 y0 y1 y2 k0 k1 k2 k3 hz8 HST0 HN0 HGT0 HK0
    obtain ⟨j, T', b', r', hj, rfl, rfl, rfl, hb', HN, HGT, HGR, HST, HC, HK, d0, d1, d2, z0, z1, z2, hz, HT⟩ := hrel
    by_cases hlt : j < 16
    · have c1 := HC.out.c1
      have hl1 := HC.out.tlt
      have hgl := HC.out.blt
      have i5 : (0 : Int) ≤ (b' : Int) := by omega
      have i6 : (b' : Int) < (T'.B.length : Int) := by omega
      obtain ⟨q, hq⟩ : ∃ q, q = kOut T' b' j r' := ⟨_, rfl⟩
      obtain ⟨so, hso⟩ : ∃ x, x = (swapC (T'.bk b') ((j % 4 : Nat) : Int) r'.k r'.v).isSome := ⟨_, rfl⟩
      have hSW : ∀ W, Below wr.heap.size wr W → Calls Tryz.prog 54 #[.pointer (some ⟨g, b' * 20, none⟩), .int .i64 ((j : Int) % 4), kyV r'.k, .int .i64 r'.v] W fun e w' => e = .returned (.tuple #[kyV q.k, .int .i64 q.v, .bool so]) ∧ Hid (Tb RBk w' t g v (kTab T' b' j r') ∧ Touch (Blk t g v) wr w') ∧
          w'.cell? ⟨w.heap.size, 0, none⟩ = some (.int .u64 (r'.k.h : Int)) ∧ w'.cell? ⟨w.heap.size, 1, none⟩ = some (.int .u64 (r'.k.l : Int)) ∧ w'.cell? ⟨w.heap.size, 2, none⟩ = some (.int .i64 r'.k.n) ∧ w'.frozen? ⟨w.heap.size, 0, none⟩ = false ∧ w'.frozen? ⟨w.heap.size, 1, none⟩ = false ∧ w'.frozen? ⟨w.heap.size, 2, none⟩ = false := by
        intro W hW
        have HW := HC.out.below bk_rbk hW
        have := rswap11_any g (b' * 20) (T'.bk b') ((j % 4 : Nat) : Int) r'.k r'.v W (HW.bk b' hb')
        rw [show ((j % 4 : Nat) : Int) = (j : Int) % 4 by omega] at this
        refine this.mono ?_
        rintro e w' ⟨rfl, h1, h2⟩
        have h3 := HW.turn bk_rbk hb' h2 h1
        have h4 := (Touch.quiet hW (S := Blk t g v)).trans h3.2
        refine ⟨?_, ⟨?_, h4⟩, (h4.upc HLM.out (Nat.le_refl _) hz 0).trans d0, (h4.upc HLM.out (Nat.le_refl _) hz 1).trans d1, (h4.upc HLM.out (Nat.le_refl _) hz 2).trans d2, (h4.upf HLM.out (Nat.le_refl _) hz 0).trans z0, (h4.upf HLM.out (Nat.le_refl _) hz 1).trans z1, (h4.upf HLM.out (Nat.le_refl _) hz 2).trans z2⟩
        · rw [hq, hso, show ((j % 4 : Nat) : Int) = (j : Int) % 4 by omega]
          unfold kOut
          rw [show ((j % 4 : Nat) : Int) = (j : Int) % 4 by omega]
          rfl
        · unfold kTab
          rw [show ((j % 4 : Nat) : Int) = (j : Int) % 4 by omega]
          exact h3.1
      have HSW := Lib.hid hSW
      have HQ := Lib.hid hq
      clear hSW hso
      obtain ⟨hqg, hG3⟩ := HGT.out.kick hb' j HGR.out
      rw [← hq] at hqg
      have hN3 : Num (kTab T' b' j r') := HN.out.set _ _
      have hnb : (kTab T' b' j r').other q.k b' = kNew T' b' j r' := by unfold kNew; rw [hq]
      have hnbl : kNew T' b' j r' < (kTab T' b' j r').B.length := by
        rw [← hnb]
        rcases other_home (kTab T' b' j r') q.k b' with e | e
        · rw [e]; exact hN3.x1_lt _
        · rw [e]; exact hN3.x2_lt _
      have hst3 : (kTab T' b' j r').st = st0 := HST.out
      clear hq
      obtain ⟨T3, hT3e⟩ : ∃ x, x = kTab T' b' j r' := ⟨_, rfl⟩
      obtain ⟨nb, hNB⟩ : ∃ x, x = kNew T' b' j r' := ⟨_, rfl⟩
      rw [← hT3e] at hG3 hN3 hnb hnbl HSW hst3
      rw [← hNB] at hnb hnbl
      have HT3e := Lib.hid hT3e
      have HNB := Lib.hid hNB
      have HN3 := Lib.hid hN3
      have HG3 := Lib.hid hG3
      have HQG := Lib.hid hqg
      have HS3 := Lib.hid hst3
      have HOT := Lib.hid (fun W H => rother_any t g v T3 q.k b' W H hN3 hqg)
      rw [hnb] at HOT
      clear hT3e hNB hN3 hG3 hqg hst3 hnb
      unfold kyV at HSW HOT
      have kg := cell_grow
      go_wp2_with fail
      refine wp_region_noPanic ?_
      generalize hNQ : NoPanic _ = NQ
      refine region_two [0, 1, 2, 4, 6, 7, 9] [3, 5, 8] 10 [11, 12, 13, 14] [15, 16] (by kernel_rfl) (by rw [← hNQ]; exact fun _ _ _ h => h) (by kernel_rfl) (by kernel_rfl) ?_
      simp only [pickL, List.filterMap_cons, List.filterMap_nil, List.getElem?_toArray, List.getElem?_cons_succ, List.getElem?_cons_zero]
      repeat (any_goals (quiet_step (fail)))
      refine wpQuiet_nil ?_
      clear kg
      intro w20 hb20 K hK o ho
      injection ho with ho
      subst ho
      go_simp
      refine (HSW.out _ hb20).mono ?_
      rintro e w21 ⟨rfl, hF21, d0, d1, d2, z0, z1, z2⟩
      have hz21 := World.block_lt_of_cell? w21 ⟨w.heap.size, 0, none⟩ d0
      refine hK _ _ ?_
      clear hK K
      repeat (any_goals (quiet_step (fail)))
      refine wpQuiet_nil ?_
      go_wp2_with fail
      rw [← hNQ]
      refine NoPanic.normal ?_
      generalize hw23 : World.setCell _ _ _ = w23
      have hB23 : Below w.heap.size w21 w23 := by rw [← hw23]; go_grown
      have e0 : w23.cell? ⟨w.heap.size, 0, none⟩ = some (.int .u64 (q.k.h : Int)) := by rw [← hw23]; simp [go_sem, d0, d1, d2]
      have e1 : w23.cell? ⟨w.heap.size, 1, none⟩ = some (.int .u64 (q.k.l : Int)) := by rw [← hw23]; simp [go_sem, d0, d1, d2]
      have e2 : w23.cell? ⟨w.heap.size, 2, none⟩ = some (.int .i64 q.k.n) := by rw [← hw23]; simp [go_sem, d0, d1, d2]
      have y0 : w23.frozen? ⟨w.heap.size, 0, none⟩ = false := by rw [← hw23]; simp [go_sem, z0]
      have y1 : w23.frozen? ⟨w.heap.size, 1, none⟩ = false := by rw [← hw23]; simp [go_sem, z1]
      have y2 : w23.frozen? ⟨w.heap.size, 2, none⟩ = false := by rw [← hw23]; simp [go_sem, z2]
      have hz23 : w.heap.size < w23.heap.size := by rw [← hw23]; simpa using hz21
      have HF23 := Lib.hid (hF21.out.1.low bk_rbk HLM.out hB23)
      have HT23 := Lib.hid ((HT.out.trans hF21.out.2).sink (Nat.le_refl _) hB23)
      clear hw23 hB23 hF21 d0 d1 d2 z0 z1 z2 hz21 HSW HC HT hz c1 hl1 hgl hb20 hNQ
      go_wp2_with fail
      refine (HOT.out _ HF23.out).mono ?_
      rintro e w24 ⟨rfl, hb24⟩
      obtain ⟨hc24, hf24⟩ := bcell hb24
      have d0 := (hc24 _ _ hz23).trans e0
      have d1 := (hc24 _ _ hz23).trans e1
      have d2 := (hc24 _ _ hz23).trans e2
      have z0 := (hf24 _ _ hz23).trans y0
      have z1 := (hf24 _ _ hz23).trans y1
      have z2 := (hf24 _ _ hz23).trans y2
      have hz24 := Nat.lt_of_lt_of_le hz23 hb24.size
      have HF24 := Lib.hid (HF23.out.below bk_rbk hb24)
      have HT24 := Lib.hid (HT23.out.trans (Touch.quiet hb24))
      have c1 := HF24.out.c1
      have hl24 := HF24.out.tlt
      have i7 : (0 : Int) ≤ (nb : Int) := by omega
      have i8 : (nb : Int) < (T3.B.length : Int) := by omega
      clear hc24 hf24 hb24 e0 e1 e2 y0 y1 y2 hz23 HF23 HT23 HOT
      go_wp2_with fail
      have kg := cell_grow
      refine region_tail 8 (by kernel_rfl) (by kernel_rfl) ?_
      simp only [List.take_succ_cons, List.take_zero, List.drop_succ_cons, List.drop_zero]
      repeat (any_goals (first | go_big_quiet_step (fail) | quiet_step (fail)))
      refine wpQuiet_nil ?_
      clear kg
      intro w25 hb25
      obtain ⟨hc25, hf25⟩ := bcell hb25
      have d0 := (hc25 _ _ hz24).trans d0
      have d1 := (hc25 _ _ hz24).trans d1
      have d2 := (hc25 _ _ hz24).trans d2
      have z0 := (hf25 _ _ hz24).trans z0
      have z1 := (hf25 _ _ hz24).trans z1
      have z2 := (hf25 _ _ hz24).trans z2
      have hz25 := Nat.lt_of_lt_of_le hz24 hb25.size
      have HF25 := Lib.hid (HF24.out.below bk_rbk hb25)
      have HT25 := Lib.hid (HT24.out.trans (Touch.quiet hb25))
      clear hc25 hf25 hb25 hz24 HF24 HT24 c1 hl24
      go_wp2_with fail
      refine (rput11_any g (nb * 20) (T3.bk nb) q.k q.v _ (HF25.out.bk nb hnbl)).mono ?_
      rintro e w26 ⟨rfl, hB6, hT6⟩
      obtain ⟨hC6, ht6⟩ := HF25.out.turn bk_rbk hnbl hT6 hB6
      have d0 := (ht6.upc HLM.out (Nat.le_refl _) hz25 0).trans d0
      have d1 := (ht6.upc HLM.out (Nat.le_refl _) hz25 1).trans d1
      have d2 := (ht6.upc HLM.out (Nat.le_refl _) hz25 2).trans d2
      have z0 := (ht6.upf HLM.out (Nat.le_refl _) hz25 0).trans z0
      have z1 := (ht6.upf HLM.out (Nat.le_refl _) hz25 1).trans z1
      have z2 := (ht6.upf HLM.out (Nat.le_refl _) hz25 2).trans z2
      have hz26 := Nat.lt_of_lt_of_le hz25 ht6.size
      have HT26 := Lib.hid (HT25.out.trans ht6)
      have HF26 := Lib.hid hC6
      clear hC6 ht6 hB6 hT6 hz25 HF25 HT25
      cases hpc : putC (T3.bk nb) q.k q.v with
      | some C =>
        rw [hpc] at HF26
        have HPC := Lib.hid hpc
        clear hpc
        go_wp2
        (try simp only [Exit.inBlock, Exit.then])
        refine bodyPost_ret (results_none rfl _ _ _) rfl ?_
        have hR2 : R = (T3.set nb C, none) := by
          have := HK.out
          rw [show 16 - j = (15 - j) + 1 by omega, kicks_in (C := C) (by rw [← HT3e.out, ← HQ.out, ← HNB.out]; exact HPC.out)] at this
          rw [← this, HT3e.out, HNB.out]
        rw [hR2]
        exact ⟨rfl, fun _ => RStep.same HF26.out HT26.out, fun h => absurd h (by simp), fun h => absurd h (by simp)⟩
      | none =>
        rw [hpc] at HF26
        have HPC := Lib.hid hpc
        clear hpc
        go_wp2
        go_roundw
        case rel =>
          have hK2 : kicks (16 - (j + 1)) (j + 1) T3 nb q = R := by
            have := HK.out
            rw [show 16 - j = (15 - j) + 1 by omega, kicks_on (by rw [← HT3e.out, ← HQ.out, ← HNB.out]; exact HPC.out)] at this
            rw [← this, HT3e.out, HNB.out, HQ.out]
            congr 1 <;> omega
          have hF7 := HF26.out
          simp only [Option.getD_none] at hF7
          rw [tab_self T3 nb hnbl] at hF7
          exact ⟨j + 1, T3, nb, q, by omega, by go_num, rfl, rfl, hnbl, HN3, HG3, HQG, HS3, hF7, hK2, d0, d1, d2, z0, z1, z2, hz26, HT26⟩
        case measure => simp [intOf]; omega
    · have hj16 : j = 16 := by omega
      have hRk : R = (T', some r') := by have := HK.out; rw [hj16] at this; exact this.symm
      have HRK := Lib.hid hRk
      have hT2e := HT2e.out r' (by rw [hRk])
      have hv' := HV.out
      rw [← HST.out] at hv'
      have HI := fun W hW => restash_into r' HC.out hv' (by rw [HST.out]; exact HFF.out) W hW
      unfold rtA at HI
      rw [HST.out] at HI
      have hT2b : T2 = { T' with st := intoS st0 r' } := by rw [hT2e, hRk, HST.out]
      rw [← hT2b] at HI
      have hnn : (intoS st0 r').length = T2.st.length := by rw [hT2b]
      rw [hnn] at HI
      have hbn : T'.B.length = T2.B.length := by rw [hT2b]
      obtain ⟨N, hN⟩ : ∃ N, N = T2.st.length := ⟨_, rfl⟩
      rw [← hN] at HI
      have HII := Lib.hid HI
      have HNN := Lib.hid hN
      have c2 := HC.out.c2
      rw [HV.out] at c2
      have f2 := HC.out.f 2
      have hl1 := HC.out.tlt
      clear HI hRk hT2e hv' hT2b hnn hN hbn
      go_wp2_with fail
      have kg := cell_grow
      refine wp_region_noPanic ?_
      generalize hNQ : NoPanic _ = NQ
      refine region_one [0, 1, 2, 3, 6] [4, 5, 7] [8, 9, 10, 11] (by kernel_rfl) (by rw [← hNQ]; exact fun _ _ _ h => h) (by kernel_rfl) (by kernel_rfl) ?_
      simp only [pickL, List.filterMap_cons, List.filterMap_nil, List.getElem?_toArray, List.getElem?_cons_succ, List.getElem?_cons_zero]
      repeat (any_goals (quiet_step (fail)))
      refine wpQuiet_nil ?_
      clear kg
      intro w9 hb9
      go_wp2_with fail
      refine (HII.out _ hb9).mono ?_
      rintro e w10 ⟨p, c, rfl, hF, j0, jf⟩
      have hl10 := World.block_lt_of_cell? w10 ⟨t, 2, none⟩ j0
      go_wp2_with fail
      rw [← hNQ]
      refine NoPanic.normal ?_
      generalize (w10.setCell ⟨t, 2, none⟩ (.slice p N c)) = w11 at hF ⊢
      clear j0 jf hl10 hb9 hNQ
      have hF' := Lib.hid (And.intro hF.out.1 (And.intro (HT.out.trans hF.out.2.1) (fun k hk (hkl : k < w.heap.size) => hF.out.2.2 k hk (Nat.lt_of_lt_of_le hkl HT.out.size))))
      clear hF
      have c1 := hF'.out.1.c1
      have c2 := hF'.out.1.c2
      have hl11 := hF'.out.1.tlt
      by_cases hg1 : 8 < T2.st.length
      · have HG1 := Lib.hid hg1
        have hg8 : decide ((8 : Int) < (N : Int)) = true := by simp; rw [HNN.out]; omega
        by_cases hg2 : T2.B.length < 65536
        · have HGW := Lib.hid (HGG.out g _ w11 (by rw [HRK.out]; rfl) hF'.out.1 hg1 hg2)
          have HG2 := Lib.hid hg2
          have hg3 : decide ((T2.B.length : Int) < 65536) = true := by simp; omega
          clear hg1 hg2
          go_wp2_with fail
          refine HGW.out.mono ?_
          rintro e w15 ⟨rfl, hS15⟩
          have HS15 := Lib.hid hS15
          clear hS15
          go_wp2
          go_end0
          rw [HRK.out]
          exact ⟨rfl, fun h => absurd h (by simp), fun _ _ => RStep.trans hF'.out.2.1 hF'.out.2.2 HS15.out, fun _ h => absurd ⟨HG1.out, HG2.out⟩ h⟩
        · have HG2 := Lib.hid hg2
          have hg3 : decide ((T2.B.length : Int) < 65536) = false := by simp; omega
          clear hg1 hg2
          go_wp2
          go_end0
          rw [HRK.out]
          exact ⟨rfl, fun h => absurd h (by simp), fun _ h => absurd h.2 HG2.out, fun _ _ => ⟨g, _, hF'.out.1, hF'.out.2.1, hF'.out.2.2⟩⟩
      · have HG1 := Lib.hid hg1
        have hg8 : decide ((8 : Int) < (N : Int)) = false := by simp; rw [HNN.out]; omega
        clear hg1
        go_wp2
        go_end0
        rw [HRK.out]
        exact ⟨rfl, fun h => absurd h (by simp), fun _ h => absurd h.1 HG1.out, fun _ _ => ⟨g, _, hF'.out.1, hF'.out.2.1, hF'.out.2.2⟩⟩
end Go.Proofs.YtoihkbanmnagkaaGreat
