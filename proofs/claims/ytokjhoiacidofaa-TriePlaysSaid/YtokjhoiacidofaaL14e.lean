/-
  What the law's route hands back, of a trie that has what a sorted row has: true. No condition but that both lie in memory, and that the addresses are two words each.
-/
import Derived.Test.YtokjhoiacidofaaL14b
import Derived.Test.YtokjhoiacidofaaRL14
import Derived.Test.YtokjhoiacidofaaAppR
import Derived.Deep.DeepCutAuto
set_option linter.unusedSimpArgs false
set_option linter.unusedVariables false
namespace Go.Proofs.Ytokjhoiacidofaa
open Go.RowKit Go.Sort M

/-- What a longest one is, of the row and of the trie. -/
theorem both_ways {N : List Rt} (c : Rt → Bool) (V : Option Rt) (hV : V = (lngI N c N.length).map fun j => N.getD j ⟨⟨0, 0, 0⟩, 0⟩) :
    (V = none ∧ oI (lngI N c N.length) = -1) ∨ ∃ j, ∃ h : j < N.length, V = some N[j] ∧ oI (lngI N c N.length) = (j : Int) := by
  cases e : lngI N c N.length with
  | none => rw [e] at hV; exact .inl ⟨hV, rfl⟩
  | some j =>
    have hj := lng_lt e
    rw [e, Option.map_some, getD_at hj] at hV
    exact .inr ⟨j, hj, hV, rfl⟩
set_option maxRecDepth 100000 in
set_option maxHeartbeats 8000000 in
theorem route_any {K : Nat → Prop} (t : Nat) (T : Pt) (n : Int) (q : Option Addr) (c : Nat) (N : List Rt) (ah al : Nat) (p : Ky) (low high : Int) (w : World) (H : Tri w K t T n) (HP : PtOf T N) (hR : Row w q (rcs N)) (hg : ∀ x ∈ N, x.k.good) (hN : N.length < 1048576) (wa : W64 ah) (wb : W64 al) (pg : p.good) :
    Calls Try.prog 15 #[.pointer (some ⟨t, 0, none⟩), .slice q N.length c, .agg #[.int .u64 (ah : Int), .int .u64 (al : Int)], kyV p, .int .i64 low, .int .i64 high] w fun e w' => e = .returned (.bool true) ∧ Below w.heap.size w w' := by
  have HH := Lib.hid H
  have HR := Lib.hid hR
  have HL := Lib.hid (fun (W : World) (hW : Below w.heap.size w W) => longest_any (H.below hW) ah al wa wb)
  have HLR := Lib.hid (fun (W : World) (hW : Below w.heap.size w W) => rlongest_any q c N ah al (-1) 128 wa wb W (hR.below hW) hg hN)
  have HCV := Lib.hid (fun (W : World) (hW : Below w.heap.size w W) => cover_any (H.below hW) p low high pg)
  have HCR := Lib.hid (fun (m : Int) (W : World) (hW : Below w.heap.size w W) => rlongest_any q c N p.h p.l low m pg.1 pg.2 W (hR.below hW) hg hN)
  have HRT := rright_any p.h p.l p.n pg.1 pg.2
  have hB1 := both_ways (candB ah al (-1) 128) (lonV ah al T) (HP.cover wa wb (-1) 128)
  have hB2 : ∀ m, m = min high p.n → rightB p.h p.l p.n = true → _ := fun m hm hr => both_ways (candB p.h p.l low m) (covV p low high T) (by unfold covV; rw [if_pos hr, hm]; exact HP.cover pg.1 pg.2 low (min high p.n))
  have hB3 : rightB p.h p.l p.n = false → covV p low high T = none := fun hr => by unfold covV; rw [if_neg (by rw [hr]; simp)]
  obtain ⟨V1, hV1⟩ : ∃ V, V = lonV ah al T := ⟨_, rfl⟩
  obtain ⟨V2, hV2⟩ : ∃ V, V = covV p low high T := ⟨_, rfl⟩
  obtain ⟨k1, hk1⟩ : ∃ k, k = oI (lngI N (candB ah al (-1) 128) N.length) := ⟨_, rfl⟩
  rw [← hV1] at HL hB1
  rw [← hk1] at HLR hB1
  rw [← hV2] at HCV
  simp only [← hV2] at hB2 hB3
  have HB2 := Lib.hid hB2
  have HB3 := Lib.hid hB3
  clear hV1 hV2 hk1 hB2 hB3 H hR HP hg
  unfold kyV rtA at HCV
  unfold rtA at HL
  unfold kyV
  have F1 : ∃ (s1 : Bool) (f1 : Rt), V1.isSome = s1 ∧ V1.getD zr = f1 ∧ ((s1 = false ∧ f1 = zr ∧ k1 = -1) ∨ (s1 = true ∧ ∃ j, ∃ h : j < N.length, f1 = N[j] ∧ k1 = (j : Int))) := by
    rcases hB1 with ⟨e1, e2⟩ | ⟨j, hj, e1, e2⟩
    · exact ⟨false, zr, by rw [e1]; rfl, by rw [e1]; rfl, .inl ⟨rfl, rfl, e2⟩⟩
    · exact ⟨true, N[j], by rw [e1]; rfl, by rw [e1]; rfl, .inr ⟨rfl, j, hj, rfl, e2⟩⟩
  obtain ⟨s1, f1, e1, e2, F1⟩ := F1
  rw [e1, e2] at HL
  have HF1 := Lib.hid F1
  clear e1 e2 F1 hB1
  go_enter Try.func15, Try.ntmps15
  go_wp2_with fail
  generalize hwB : World.alloc (World.alloc w _) _ = wB
  have hB : Below w.heap.size w wB := by rw [← hwB]; go_grown
  have q0 : wB.cell? ⟨w.heap.size, 0, none⟩ = some (.int .u64 (ah : Int)) := by rw [← hwB]; simp [go_sem]
  have q1 : wB.cell? ⟨w.heap.size, 1, none⟩ = some (.int .u64 (al : Int)) := by rw [← hwB]; simp [go_sem]
  have p0 : wB.cell? ⟨w.heap.size + 1, 0, none⟩ = some (.int .u64 (p.h : Int)) := by rw [← hwB]; simp [go_sem]
  have p1 : wB.cell? ⟨w.heap.size + 1, 1, none⟩ = some (.int .u64 (p.l : Int)) := by rw [← hwB]; simp [go_sem]
  have p2 : wB.cell? ⟨w.heap.size + 1, 2, none⟩ = some (.int .i64 p.n) := by rw [← hwB]; simp [go_sem]
  have hzB : w.heap.size + 1 < wB.heap.size := by rw [← hwB]; simp
  clear hwB
  have HQ := Lib.hid (fun (wx : World) (hb : Below wB.heap.size wB wx) => And.intro ((hb.cell (p := ⟨w.heap.size, 0, none⟩) (by show w.heap.size < _; omega)).trans q0) ((hb.cell (p := ⟨w.heap.size, 1, none⟩) (by show w.heap.size < _; omega)).trans q1))
  have HPC := Lib.hid (fun (wx : World) (hb : Below wB.heap.size wB wx) => And.intro ((hb.cell (p := ⟨w.heap.size + 1, 0, none⟩) hzB).trans p0) (And.intro ((hb.cell (p := ⟨w.heap.size + 1, 1, none⟩) hzB).trans p1) (And.intro ((hb.cell (p := ⟨w.heap.size + 1, 2, none⟩) hzB).trans p2) (Nat.lt_of_lt_of_le hzB hb.size))))
  clear q0 q1 p0 p1 p2
  refine (HL.out _ hB).mono ?_
  rintro e w1 ⟨rfl, hb1⟩
  obtain ⟨q0, q1⟩ := HQ.out w1 hb1
  have hzq : w.heap.size < w1.heap.size := by have := hb1.size; omega
  go_wp2_with fail
  generalize hwA : World.alloc w1 _ = wA
  have hbA : Below w1.heap.size w1 wA := by rw [← hwA]; go_grown
  have x0 : wA.cell? ⟨w1.heap.size, 0, none⟩ = some (.int .u64 (f1.k.h : Int)) := by rw [← hwA]; first | (simp [go_sem]; done) | (simp [go_sem, zr]; done)
  have x1 : wA.cell? ⟨w1.heap.size, 1, none⟩ = some (.int .u64 (f1.k.l : Int)) := by rw [← hwA]; first | (simp [go_sem]; done) | (simp [go_sem, zr]; done)
  have x2 : wA.cell? ⟨w1.heap.size, 2, none⟩ = some (.int .i64 f1.k.n) := by rw [← hwA]; first | (simp [go_sem]; done) | (simp [go_sem, zr]; done)
  have x3 : wA.cell? ⟨w1.heap.size, 3, none⟩ = some (.int .i64 f1.v) := by rw [← hwA]; first | (simp [go_sem]; done) | (simp [go_sem, zr]; done)
  have hzx : w1.heap.size < wA.heap.size := by rw [← hwA]; simp
  clear hwA
  have hb2 := hb1.trans (hbA.mono hb1.size)
  clear hbA hb1 hzq q0 q1
  refine (HLR.out _ (hB.trans (hb2.mono hB.size))).mono ?_
  rintro e w2 ⟨rfl, hb3⟩
  have x0 := (hb3.cell (p := ⟨w1.heap.size, 0, none⟩) hzx).trans x0
  have x1 := (hb3.cell (p := ⟨w1.heap.size, 1, none⟩) hzx).trans x1
  have x2 := (hb3.cell (p := ⟨w1.heap.size, 2, none⟩) hzx).trans x2
  have x3 := (hb3.cell (p := ⟨w1.heap.size, 3, none⟩) hzx).trans x3
  have hzx := Nat.lt_of_lt_of_le hzx hb3.size
  have hb4 := hb2.trans (hb3.mono hb2.size)
  clear hb2 hb3 HL HLR
  go_upto_region 3 with fail
  go_cut [52] (fun s52 wx => s52 = .bool false ∧ Below w2.heap.size w2 wx)
  case first =>
    rcases HF1.out with ⟨rfl, rfl, rfl⟩ | ⟨rfl, j, hj, rfl, rfl⟩
    · have hE := neqR 0 0 0 0 0 0 0 0
      rw [decide_eq_true ⟨rfl, rfl, rfl, rfl⟩] at hE
      simp only [zr] at x0 x1 x2 x3
      have kg := cell_grow
      refine region_whole (by kernel_rfl) (by kernel_rfl) ?_
      repeat (any_goals (first | go_big_quiet_step (fail) | quiet_step (fail)))
      refine wpQuiet_nil ?_
      clear kg
      intro w5 hb5
      obtain ⟨hc5, hf5⟩ := bcell hb5
      go_wp2_with fail
      go_meet
      exact ⟨rfl, hb5⟩
    · have hR2 := HR.out.below (hB.trans (hb4.mono hB.size))
      obtain ⟨gr, o, rfl, hgr, r0, r1, r2, r3⟩ := hR2.rt hj
      have i1 : (j : Int) < (N.length : Int) := by omega
      have i2 : (0 : Int) ≤ (j : Int) := by omega
      generalize N[j] = z at *
      have hE := neqR z.k.h z.k.l z.k.n z.v z.k.h z.k.l z.k.n z.v
      rw [decide_eq_true ⟨rfl, rfl, rfl, rfl⟩] at hE
      have kg := cell_grow
      refine region_whole (by kernel_rfl) (by kernel_rfl) ?_
      repeat (any_goals (first | go_big_quiet_step (fail) | quiet_step (fail)))
      refine wpQuiet_nil ?_
      clear kg
      intro w5 hb5
      obtain ⟨hc5, hf5⟩ := bcell hb5
      go_wp2_with fail
      go_meet
      exact ⟨rfl, hb5⟩
  case rest =>
    obtain ⟨rfl, hb5⟩ := hcut
    have hb6 := hb4.trans (hb5.mono hb4.size)
    obtain ⟨p0, p1, p2, hzp⟩ := HPC.out _ hb6
    clear x0 x1 x2 x3 hzx hb4 hb5 HQ HF1
    go_wp2_with fail
    refine (HCV.out _ (hB.trans (hb6.mono hB.size))).mono ?_
    rintro e w4 ⟨rfl, hb7⟩
    have p0 := (hb7.cell (p := ⟨w.heap.size + 1, 0, none⟩) hzp).trans p0
    have p1 := (hb7.cell (p := ⟨w.heap.size + 1, 1, none⟩) hzp).trans p1
    have p2 := (hb7.cell (p := ⟨w.heap.size + 1, 2, none⟩) hzp).trans p2
    have hzp := Nat.lt_of_lt_of_le hzp hb7.size
    have hb8 := hb6.trans (hb7.mono hb6.size)
    clear hb6 hb7 HCV
    go_wp2_with fail
    obtain ⟨s2, hs2⟩ : ∃ s, s = V2.isSome := ⟨_, rfl⟩
    obtain ⟨f2, hf2⟩ : ∃ s, s = V2.getD zr := ⟨_, rfl⟩
    rw [← hs2, ← hf2]
    have HS := Lib.hid (And.intro hs2 hf2)
    clear hs2 hf2
    generalize hwA : World.alloc w4 _ = wC
    have hbA : Below w4.heap.size w4 wC := by rw [← hwA]; go_grown
    have y0 : wC.cell? ⟨w4.heap.size, 0, none⟩ = some (.int .u64 (f2.k.h : Int)) := by rw [← hwA]; first | (simp [go_sem]; done) | (simp [go_sem, zr]; done)
    have y1 : wC.cell? ⟨w4.heap.size, 1, none⟩ = some (.int .u64 (f2.k.l : Int)) := by rw [← hwA]; first | (simp [go_sem]; done) | (simp [go_sem, zr]; done)
    have y2 : wC.cell? ⟨w4.heap.size, 2, none⟩ = some (.int .i64 f2.k.n) := by rw [← hwA]; first | (simp [go_sem]; done) | (simp [go_sem, zr]; done)
    have y3 : wC.cell? ⟨w4.heap.size, 3, none⟩ = some (.int .i64 f2.v) := by rw [← hwA]; first | (simp [go_sem]; done) | (simp [go_sem, zr]; done)
    have hzy : w4.heap.size < wC.heap.size := by rw [← hwA]; simp
    clear hwA
    have p0 := (hbA.cell (p := ⟨w.heap.size + 1, 0, none⟩) hzp).trans p0
    have p1 := (hbA.cell (p := ⟨w.heap.size + 1, 1, none⟩) hzp).trans p1
    have p2 := (hbA.cell (p := ⟨w.heap.size + 1, 2, none⟩) hzp).trans p2
    have hzp := Nat.lt_of_lt_of_le hzp hbA.size
    have hb9 := hb8.trans (hbA.mono hb8.size)
    clear hb8 hbA
    refine (HRT _).mono ?_
    rintro e w5 ⟨rfl, hb10⟩
    have y0 := (hb10.cell (p := ⟨w4.heap.size, 0, none⟩) hzy).trans y0
    have y1 := (hb10.cell (p := ⟨w4.heap.size, 1, none⟩) hzy).trans y1
    have y2 := (hb10.cell (p := ⟨w4.heap.size, 2, none⟩) hzy).trans y2
    have y3 := (hb10.cell (p := ⟨w4.heap.size, 3, none⟩) hzy).trans y3
    have hzy := Nat.lt_of_lt_of_le hzy hb10.size
    have p0 := (hb10.cell (p := ⟨w.heap.size + 1, 0, none⟩) hzp).trans p0
    have p1 := (hb10.cell (p := ⟨w.heap.size + 1, 1, none⟩) hzp).trans p1
    have p2 := (hb10.cell (p := ⟨w.heap.size + 1, 2, none⟩) hzp).trans p2
    have hzp := Nat.lt_of_lt_of_le hzp hb10.size
    have hb11 := hb9.trans (hb10.mono hb9.size)
    have hw11 := hB.trans (hb11.mono hB.size)
    clear hb9 hb10 HRT HPC
    cases hr : rightB p.h p.l p.n with
    | false =>
      have hV := HB3.out hr
      obtain ⟨hs2, hf2⟩ := HS.out
      rw [hV] at hs2 hf2
      subst hs2 hf2
      clear HS
      have hE := eqlR 0 0 0 0 0 0 0 0
      rw [decide_eq_true ⟨rfl, rfl, rfl, rfl⟩] at hE
      simp only [zr, Option.getD_none, Option.isSome_none] at y0 y1 y2 y3
      clear HB2 HB3 hr hV hb11
      go_wp2_with fail
      have kg := cell_grow
      refine region_whole (by kernel_rfl) (by kernel_rfl) ?_
      repeat (any_goals (first | go_big_quiet_step (fail) | quiet_step (fail)))
      refine wpQuiet_nil ?_
      clear kg
      intro w6 hb6
      obtain ⟨hc6, hf6⟩ := bcell hb6
      go_wp2
      go_ret
      exact ⟨rfl, hw11.trans (hb6.mono hw11.size)⟩
    | true =>
      have hB2 := fun m hm => HB2.out m hm hr
      have HB2 := Lib.hid hB2
      clear hB2 HB3 hr
      by_cases hlt : p.n < high
      · have hF := HB2.out p.n (by omega)
        obtain ⟨k2, hk2⟩ : ∃ k, k = oI (lngI N (candB p.h p.l low (p.n)) N.length) := ⟨_, rfl⟩
        have hCR := fun W hW => HCR.out (p.n) W hW
        rw [← hk2] at hCR hF
        have HCX := Lib.hid hCR
        have HF2 := Lib.hid hF
        clear hk2 hCR hF HB2 HCR
        go_wp2_with fail
        refine (HCX.out _ hw11).mono ?_
        rintro e w6 ⟨rfl, hb12⟩
        have y0 := (hb12.cell (p := ⟨w4.heap.size, 0, none⟩) hzy).trans y0
        have y1 := (hb12.cell (p := ⟨w4.heap.size, 1, none⟩) hzy).trans y1
        have y2 := (hb12.cell (p := ⟨w4.heap.size, 2, none⟩) hzy).trans y2
        have y3 := (hb12.cell (p := ⟨w4.heap.size, 3, none⟩) hzy).trans y3
        have hzy := Nat.lt_of_lt_of_le hzy hb12.size
        have hw12 := hw11.trans (hb12.mono hw11.size)
        clear p0 p1 p2 hzp hb12 hb11 HCX
        rcases HF2.out with ⟨hV, rfl⟩ | ⟨j, hj, hV, rfl⟩
        · obtain ⟨hs2, hf2⟩ := HS.out
          rw [hV] at hs2 hf2
          subst hs2 hf2
          clear HS
          have hE := eqlR 0 0 0 0 0 0 0 0
          rw [decide_eq_true ⟨rfl, rfl, rfl, rfl⟩] at hE
          simp only [zr, Option.getD_none, Option.isSome_none] at y0 y1 y2 y3
          clear hV HF2
          go_wp2_with fail
          have kg := cell_grow
          refine region_whole (by kernel_rfl) (by kernel_rfl) ?_
          repeat (any_goals (first | go_big_quiet_step (fail) | quiet_step (fail)))
          refine wpQuiet_nil ?_
          clear kg
          intro w7 hb7
          obtain ⟨hc7, hf7⟩ := bcell hb7
          go_wp2
          go_ret
          exact ⟨rfl, hw12.trans (hb7.mono hw12.size)⟩
        · obtain ⟨hs2, hf2⟩ := HS.out
          rw [hV] at hs2 hf2
          subst hs2 hf2
          clear HS
          simp only [Option.getD_some, Option.isSome_some] at y0 y1 y2 y3
          have hR2 := HR.out.below hw12
          obtain ⟨gr, o, rfl, hgr, r0, r1, r2, r3⟩ := hR2.rt hj
          have i1 : (j : Int) < (N.length : Int) := by omega
          have i2 : (0 : Int) ≤ (j : Int) := by omega
          clear hV HF2 hR2
          generalize N[j] = z at *
          have hE := eqlR z.k.h z.k.l z.k.n z.v z.k.h z.k.l z.k.n z.v
          rw [decide_eq_true ⟨rfl, rfl, rfl, rfl⟩] at hE
          go_wp2_with fail
          have kg := cell_grow
          refine region_whole (by kernel_rfl) (by kernel_rfl) ?_
          repeat (any_goals (first | go_big_quiet_step (fail) | quiet_step (fail)))
          refine wpQuiet_nil ?_
          clear kg
          intro w7 hb7
          obtain ⟨hc7, hf7⟩ := bcell hb7
          go_wp2
          go_ret
          exact ⟨rfl, hw12.trans (hb7.mono hw12.size)⟩
      · have hF := HB2.out high (by omega)
        obtain ⟨k2, hk2⟩ : ∃ k, k = oI (lngI N (candB p.h p.l low (high)) N.length) := ⟨_, rfl⟩
        have hCR := fun W hW => HCR.out (high) W hW
        rw [← hk2] at hCR hF
        have HCX := Lib.hid hCR
        have HF2 := Lib.hid hF
        clear hk2 hCR hF HB2 HCR
        go_wp2_with fail
        refine (HCX.out _ hw11).mono ?_
        rintro e w6 ⟨rfl, hb12⟩
        have y0 := (hb12.cell (p := ⟨w4.heap.size, 0, none⟩) hzy).trans y0
        have y1 := (hb12.cell (p := ⟨w4.heap.size, 1, none⟩) hzy).trans y1
        have y2 := (hb12.cell (p := ⟨w4.heap.size, 2, none⟩) hzy).trans y2
        have y3 := (hb12.cell (p := ⟨w4.heap.size, 3, none⟩) hzy).trans y3
        have hzy := Nat.lt_of_lt_of_le hzy hb12.size
        have hw12 := hw11.trans (hb12.mono hw11.size)
        clear p0 p1 p2 hzp hb12 hb11 HCX
        rcases HF2.out with ⟨hV, rfl⟩ | ⟨j, hj, hV, rfl⟩
        · obtain ⟨hs2, hf2⟩ := HS.out
          rw [hV] at hs2 hf2
          subst hs2 hf2
          clear HS
          have hE := eqlR 0 0 0 0 0 0 0 0
          rw [decide_eq_true ⟨rfl, rfl, rfl, rfl⟩] at hE
          simp only [zr, Option.getD_none, Option.isSome_none] at y0 y1 y2 y3
          clear hV HF2
          go_wp2_with fail
          have kg := cell_grow
          refine region_whole (by kernel_rfl) (by kernel_rfl) ?_
          repeat (any_goals (first | go_big_quiet_step (fail) | quiet_step (fail)))
          refine wpQuiet_nil ?_
          clear kg
          intro w7 hb7
          obtain ⟨hc7, hf7⟩ := bcell hb7
          go_wp2
          go_ret
          exact ⟨rfl, hw12.trans (hb7.mono hw12.size)⟩
        · obtain ⟨hs2, hf2⟩ := HS.out
          rw [hV] at hs2 hf2
          subst hs2 hf2
          clear HS
          simp only [Option.getD_some, Option.isSome_some] at y0 y1 y2 y3
          have hR2 := HR.out.below hw12
          obtain ⟨gr, o, rfl, hgr, r0, r1, r2, r3⟩ := hR2.rt hj
          have i1 : (j : Int) < (N.length : Int) := by omega
          have i2 : (0 : Int) ≤ (j : Int) := by omega
          clear hV HF2 hR2
          generalize N[j] = z at *
          have hE := eqlR z.k.h z.k.l z.k.n z.v z.k.h z.k.l z.k.n z.v
          rw [decide_eq_true ⟨rfl, rfl, rfl, rfl⟩] at hE
          go_wp2_with fail
          have kg := cell_grow
          refine region_whole (by kernel_rfl) (by kernel_rfl) ?_
          repeat (any_goals (first | go_big_quiet_step (fail) | quiet_step (fail)))
          refine wpQuiet_nil ?_
          clear kg
          intro w7 hb7
          obtain ⟨hc7, hf7⟩ := bcell hb7
          go_wp2
          go_ret
          exact ⟨rfl, hw12.trans (hb7.mono hw12.size)⟩
end Go.Proofs.Ytokjhoiacidofaa
