/-
  TriePlays as a walk: it hands back true, for every input. No condition but that the addresses are two words each, the numbers whole numbers of 64 bits, and that the row of calls lies in old memory.
-/
import Derived.Test.YtokjhoiacidofaaL14f
set_option linter.unusedSimpArgs false
set_option linter.unusedVariables false
namespace Go.Proofs.Ytokjhoiacidofaa
open Go.RowKit Go.Sort M

theorem Play14.own2 {w wr wx : World} {B t o : Nat} {T : Pt} {N : List Rt} {i : Nat} {vn : Value} (H : Play14 w wr B t o T N i vn) (ht : Touch (fun k => k = t) wr wx) : wx.ownsRow B 40 4 vn N.length (rcs N) :=
  Touch.own H.own ht (fun j e hj => by have h1 := (H.own.lt j e).1; have h2 := H.lt; omega)
set_option maxRecDepth 100000 in
set_option maxHeartbeats 16000000 in
theorem tplays_walk (a : Option Addr) (c : Nat) (A : List (Bool × Rt)) (ah al : Nat) (p : Ky) (low high : Int) (wa : W64 ah) (wb : W64 al) (pg : p.good) (w : World) (hR : RowA 5 act14 w a A) (hg : ∀ x ∈ A, x.2.k.good) (hL : A.length ≤ maxLen) :
    Calls Try.prog 3 #[.slice a A.length c, .agg #[.int .u64 (ah : Int), .int .u64 (al : Int)], kyV p, .int .i64 low, .int .i64 high] w fun e w' => e = .returned (.bool true) ∧ Below w.heap.size w w' := by
  have HA := Lib.hid alive14_any
  have HR := Lib.hid hR
  have HG := Lib.hid hg
  have HPG := Lib.hid pg
  unfold maxLen at hL
  unfold kyV
  clear hR hg pg
  by_cases l0 : (100 : Int) < (A.length : Int)
  · skip
    go_enter Try.func3, Try.ntmps3
    go_wp2_with fail
    generalize hwB : World.alloc (World.alloc w _) _ = wB
    have hB : Below w.heap.size w wB := by rw [← hwB]; go_grown
    have q0 : wB.cell? ⟨w.heap.size, 0, none⟩ = some (.int .u64 (ah : Int)) := by rw [← hwB]; simp [go_sem]
    have q1 : wB.cell? ⟨w.heap.size, 1, none⟩ = some (.int .u64 (al : Int)) := by rw [← hwB]; simp [go_sem]
    have p0 : wB.cell? ⟨w.heap.size + 1, 0, none⟩ = some (.int .u64 (p.h : Int)) := by rw [← hwB]; simp [go_sem]
    have p1 : wB.cell? ⟨w.heap.size + 1, 1, none⟩ = some (.int .u64 (p.l : Int)) := by rw [← hwB]; simp [go_sem]
    have p2 : wB.cell? ⟨w.heap.size + 1, 2, none⟩ = some (.int .i64 p.n) := by rw [← hwB]; simp [go_sem]
    have hzB : w.heap.size + 1 < wB.heap.size := by rw [← hwB]; simp
    clear hwB
    have HQ := Lib.hid (fun (wx : World) (hb : Below wB.heap.size wB wx) => And.intro ((hb.cell (p := ⟨w.heap.size, 0, none⟩) (by show w.heap.size < _; omega)).trans q0) (And.intro ((hb.cell (p := ⟨w.heap.size, 1, none⟩) (by show w.heap.size < _; omega)).trans q1) (And.intro ((hb.cell (p := ⟨w.heap.size + 1, 0, none⟩) hzB).trans p0) (And.intro ((hb.cell (p := ⟨w.heap.size + 1, 1, none⟩) hzB).trans p1) (And.intro ((hb.cell (p := ⟨w.heap.size + 1, 2, none⟩) hzB).trans p2) (Nat.lt_of_lt_of_le hzB hb.size))))))
    clear q0 q1 p0 p1 p2
    refine (HA.out _).mono ?_
    rintro e w0 ⟨rfl, hb0⟩
    go_wp2
    go_ret
    exact ⟨rfl, hB.trans (hb0.mono hB.size)⟩
  · skip
    go_enter Try.func3, Try.ntmps3
    go_wp2_with fail
    generalize hwB : World.alloc (World.alloc w _) _ = wB
    have hB : Below w.heap.size w wB := by rw [← hwB]; go_grown
    have q0 : wB.cell? ⟨w.heap.size, 0, none⟩ = some (.int .u64 (ah : Int)) := by rw [← hwB]; simp [go_sem]
    have q1 : wB.cell? ⟨w.heap.size, 1, none⟩ = some (.int .u64 (al : Int)) := by rw [← hwB]; simp [go_sem]
    have p0 : wB.cell? ⟨w.heap.size + 1, 0, none⟩ = some (.int .u64 (p.h : Int)) := by rw [← hwB]; simp [go_sem]
    have p1 : wB.cell? ⟨w.heap.size + 1, 1, none⟩ = some (.int .u64 (p.l : Int)) := by rw [← hwB]; simp [go_sem]
    have p2 : wB.cell? ⟨w.heap.size + 1, 2, none⟩ = some (.int .i64 p.n) := by rw [← hwB]; simp [go_sem]
    have hzB : w.heap.size + 1 < wB.heap.size := by rw [← hwB]; simp
    clear hwB
    have HQ := Lib.hid (fun (wx : World) (hb : Below wB.heap.size wB wx) => And.intro ((hb.cell (p := ⟨w.heap.size, 0, none⟩) (by show w.heap.size < _; omega)).trans q0) (And.intro ((hb.cell (p := ⟨w.heap.size, 1, none⟩) (by show w.heap.size < _; omega)).trans q1) (And.intro ((hb.cell (p := ⟨w.heap.size + 1, 0, none⟩) hzB).trans p0) (And.intro ((hb.cell (p := ⟨w.heap.size + 1, 1, none⟩) hzB).trans p1) (And.intro ((hb.cell (p := ⟨w.heap.size + 1, 2, none⟩) hzB).trans p2) (Nat.lt_of_lt_of_le hzB hb.size))))))
    clear q0 q1 p0 p1 p2
    refine (HA.out _).mono ?_
    rintro e w0 ⟨rfl, hb0⟩
    go_wp2_with fail
    obtain ⟨t, ht⟩ : ∃ t, t = w0.heap.size := ⟨_, rfl⟩
    obtain ⟨o, hgo⟩ : ∃ g, g = w0.heap.size + 1 := ⟨_, rfl⟩
    have hP0 : Play14 wB ((w0.alloc (.cells #[.pointer none, .int .i64 0] 32)).alloc (.cells #[.pointer none, .int .i64 0] 32)) (t + 2) t o .nil [] 0 (.slice none (([] : List Rt).length) 0) := by
      have hs := hb0.size
      rw [ht, hgo]
      refine ⟨⟨by simp <;> omega, ⟨none, by simp [go_sem], rfl⟩, by simp [go_sem], fun j => by simp [go_sem], by simp, fun k hk => ?_, trivial⟩, ⟨.nil, 0, ⟨by simp, ⟨none, by simp [go_sem], rfl⟩, by simp [go_sem], fun j => by simp [go_sem], by simp, fun k hk => ?_, trivial⟩, by omega, by omega⟩, World.ownsRow_nil _ _ _ _, PtOf.empty, Nat.le_refl _, by omega, by omega, by omega, hs, by omega, by simp, (hb0.alloc hs _).alloc (by simp; omega) _⟩
      · simp at hk
        exact ⟨by omega, by omega⟩
      · simp at hk
        exact ⟨by omega, by omega⟩
    rw [← hgo, ← ht]
    generalize ((w0.alloc (.cells #[.pointer none, .int .i64 0] 32)).alloc (.cells #[.pointer none, .int .i64 0] 32)) = w1 at *
    have HP0 := Lib.hid hP0
    obtain ⟨B, hBt⟩ : ∃ B, B = t + 2 := ⟨_, rfl⟩
    rw [← hBt] at HP0
    clear ht hgo hP0 hb0 hBt
    go_loopg [14, 15, 16, 17, 18, 19, 20, 21, 22, 23, 24, 25] A.length (fun gk s14 s15 s16 s17 s18 s19 s20 s21 s22 s23 s24 s25 wr => ∃ (i : Nat) (T : Pt) (N : List Rt) (q : Option Addr) (c : Nat), gk + i = A.length ∧ s15 = .int .i64 (i : Int) ∧ s14 = .slice q N.length c ∧ Hid (Play14 wB wr B t o T N i (.slice q N.length c)))
    case atStart => exact ⟨0, .nil, [], none, 0, by omega, rfl, rfl, HP0⟩
    case round =>
      clear HP0
      obtain ⟨i, T, N, q, c2, hi, rfl, rfl, HP⟩ := hrel
      by_cases hlt : i < A.length
      · obtain ⟨ga, oa, rfl, hga, d0, d1, d2, d3, d4⟩ := HR.out.act14 hlt
        have hgood := HG.out _ (List.getElem_mem hlt)
        generalize A[i] = act at d0 d1 d2 d3 d4 hgood
        obtain ⟨dl, ⟨x, v⟩⟩ := act
        simp only at d0 d1 d2 d3 d4 hgood
        have HD := Lib.hid (fun (wx : World) (hb : Below wB.heap.size wB wx) => have hb := hB.trans (hb.mono hB.size); And.intro ((hb.cell (p := ⟨ga, oa + i * 5, none⟩) hga).trans d0) (And.intro ((hb.cell (p := ⟨ga, oa + i * 5 + 4, none⟩) hga).trans d4) (Nat.lt_of_lt_of_le hga hb.size)))
        have d1 := ((hB.trans (HP.out.below.mono hB.size)).cell (p := ⟨ga, oa + i * 5 + 1, none⟩) hga).trans d1
        have d2 := ((hB.trans (HP.out.below.mono hB.size)).cell (p := ⟨ga, oa + i * 5 + 2, none⟩) hga).trans d2
        have d3 := ((hB.trans (HP.out.below.mono hB.size)).cell (p := ⟨ga, oa + i * 5 + 3, none⟩) hga).trans d3
        obtain ⟨-, -, hga2⟩ := HD.out _ HP.out.below
        have HXG := Lib.hid hgood
        have i1 : (i : Int) < (A.length : Int) := by omega
        clear d0 d4 hgood
        go_wp2_with fail
        generalize hwA : World.alloc wr _ = wA
        have hbA : Below wr.heap.size wr wA := by rw [← hwA]; go_grown
        have x0 : wA.cell? ⟨wr.heap.size, 0, none⟩ = some (.int .u64 (x.h : Int)) := by rw [← hwA]; simp [go_sem]
        have x1 : wA.cell? ⟨wr.heap.size, 1, none⟩ = some (.int .u64 (x.l : Int)) := by rw [← hwA]; simp [go_sem]
        have x2 : wA.cell? ⟨wr.heap.size, 2, none⟩ = some (.int .i64 x.n) := by rw [← hwA]; simp [go_sem]
        have hzx : wr.heap.size < wA.heap.size := by rw [← hwA]; simp
        have HPA := HP.out.quiet hbA
        obtain ⟨b, hxb⟩ : ∃ b, b = wr.heap.size := ⟨_, rfl⟩
        rw [← hxb] at x0 x1 x2 hzx ⊢
        have HNI0 : Hid (N.length ≤ i) := HP.out.few
        have hbo : b ≠ o := by have := HP.out.lo; have := HP.out.hB; omega
        have hbt : b ≠ t := by have := HP.out.lt; have := HP.out.hB; omega
        clear hwA hbA hxb HP d1 d2 d3 hga2
        refine (HPA.other x (i : Int) HXG.out (by omega)).mono ?_
        rintro e w2 ⟨⟨ra, rb, rfl⟩, HP2, ht2⟩
        have x0 := (ht2.cell (p := ⟨b, 0, none⟩) x0 hbo)
        have x1 := (ht2.cell (p := ⟨b, 1, none⟩) x1 hbo)
        have x2 := (ht2.cell (p := ⟨b, 2, none⟩) x2 hbo)
        have hzx := Nat.lt_of_lt_of_le hzx ht2.size
        have HP2 := Lib.hid HP2
        clear HPA ht2
        have hNl : N.length ≤ i + 1 := HP2.out.few
        have hfind := HP2.out.of.find HXG.out
        have HF := Lib.hid (fun (W : World) (hW : Row W q (rcs N)) => find12_any q c2 N x W hW (by omega))
        go_wp2_with fail
        refine (HF.out _ (Row.of_own HP2.out.own)).mono ?_
        rintro e w3 ⟨rfl, hb3⟩
        have HP3 := Lib.hid (HP2.out.quiet hb3)
        have x0 := (hb3.cell (p := ⟨b, 0, none⟩) hzx).trans x0
        have x1 := (hb3.cell (p := ⟨b, 1, none⟩) hzx).trans x1
        have x2 := (hb3.cell (p := ⟨b, 2, none⟩) hzx).trans x2
        have hzx := Nat.lt_of_lt_of_le hzx hb3.size
        clear hb3 HP2 HF
        obtain ⟨e0, e4, hga2⟩ := HD.out _ HP3.out.below
        have HNI : Hid (N.length ≤ i) := HNI0
        rcases hfind with ⟨hgv, hst, -⟩ | ⟨j, hj, hst, hgv, -, -⟩
        · have HGN : Hid (getN14 x T = .tuple #[.int .i64 0, .bool false]) := by
            show _ = _
            unfold getN14
            rw [hgv]
            rfl
          rw [hst]
          clear hst hgv
          cases dl with
          | true =>
            have HDE := Lib.hid (HP3.out.of.dele HXG.out)
            have HW := Lib.hid (fun (q : Option Addr) (W : World) (hW : Row W q (rcs N)) => without12_any q c2 N x W hW (by omega))
            have hNo : (outS N x).length ≤ i + 1 := Nat.le_trans (List.length_filter_le _ _) hNl
            go_wp2_with fail
            refine (tdel_any HP3.out.tri x HXG.out (by omega) (by omega)).mono ?_
            rintro e w4 ⟨rfl, H4, ht4⟩
            rw [HGN.out]
            have HO4 := Lib.hid (Row.of_own (HP3.out.own2 ht4))
            have x0 := (ht4.cell (p := ⟨b, 0, none⟩) x0 hbt)
            have x1 := (ht4.cell (p := ⟨b, 1, none⟩) x1 hbt)
            have x2 := (ht4.cell (p := ⟨b, 2, none⟩) x2 hbt)
            have hzx := Nat.lt_of_lt_of_le hzx ht4.size
            clear e0 e4 hga2
            go_wp2_with fail
            refine (HW.out _ _ HO4.out).mono ?_
            rintro e w5 ⟨p5, c5, rfl, ho5, hb5⟩
            have HP5 := Lib.hid (HP3.out.row H4 ht4 hb5 ho5 HDE.out.1 HDE.out.2 hNo)
            have x0 := (hb5.cell (p := ⟨b, 0, none⟩) hzx).trans x0
            have x1 := (hb5.cell (p := ⟨b, 1, none⟩) hzx).trans x1
            have x2 := (hb5.cell (p := ⟨b, 2, none⟩) hzx).trans x2
            have hzx := Nat.lt_of_lt_of_le hzx hb5.size
            clear H4 ht4 hb5 ho5 HDE HW HO4 HP3 HGN
            generalize outS N x = N5 at *
            generalize delT14 x T = T5 at *
            have hfind := HP5.out.of.find HXG.out
            have HF := Lib.hid (fun (W : World) (hW : Row W p5 (rcs N5)) => find12_any p5 c5 N5 x W hW (by omega))
            go_wp2_with fail
            refine (HF.out _ (Row.of_own HP5.out.own)).mono ?_
            rintro e w6 ⟨rfl, hb6⟩
            have HP6 := Lib.hid (HP5.out.quiet hb6)
            have x0 := (hb6.cell (p := ⟨b, 0, none⟩) hzx).trans x0
            have x1 := (hb6.cell (p := ⟨b, 1, none⟩) hzx).trans x1
            have x2 := (hb6.cell (p := ⟨b, 2, none⟩) hzx).trans x2
            have hzx := Nat.lt_of_lt_of_le hzx hb6.size
            clear hb6 HP5 HF
            rcases hfind with ⟨hgv, hst, -⟩ | ⟨k, hk, hst, hgv, -, -⟩
            · rw [hst]
              go_wp2_with fail
              refine (tget_any HP6.out.tri x HXG.out).mono ?_
              rintro e w7 ⟨rfl, hb7⟩
              rw [hgv]
              have HP7 := Lib.hid (HP6.out.quiet hb7)
              simp only [Option.getD_none, Option.isSome_none, zr]
              clear hb7 HP6 hst hgv x0 x1 x2 hzx
              go_wp2_with fail
              refine (tlen_any HP7.out.tri).mono ?_
              rintro e w8 ⟨rfl, hb8⟩
              have HP8 := Lib.hid (HP7.out.quiet hb8)
              clear hb8 HP7
              go_wp2_with fail
              go_roundg (gk - 1)
              case measure => omega
              case rel => exact ⟨i + 1, T5, N5, p5, c5, by omega, by go_num, rfl, HP8⟩
            · rw [hst]
              go_wp2_with fail
              refine (tget_any HP6.out.tri x HXG.out).mono ?_
              rintro e w7 ⟨rfl, hb7⟩
              rw [hgv]
              have HP7 := Lib.hid (HP6.out.quiet hb7)
              simp only [Option.getD_some, Option.isSome_some]
              obtain ⟨gr5, o5, rfl, hgr5, -, -, -, n3⟩ := (Row.of_own HP7.out.own).rt hk
              have i5 : (k : Int) < (N5.length : Int) := by omega
              have i6 : (0 : Int) ≤ (k : Int) := by omega
              clear hb7 HP6 hst hgv x0 x1 x2 hzx
              generalize N5[k].v = hv5 at *
              go_wp2_with fail
              refine (tlen_any HP7.out.tri).mono ?_
              rintro e w8 ⟨rfl, hb8⟩
              have HP8 := Lib.hid (HP7.out.quiet hb8)
              clear hb8 HP7 n3 hgr5
              go_wp2_with fail
              go_roundg (gk - 1)
              case measure => omega
              case rel => exact ⟨i + 1, T5, N5, _, c5, by omega, by go_num, rfl, HP8⟩
          | false =>
            by_cases hxr : rightK x
            · have HPE := Lib.hid (HP3.out.of.pute HXG.out hxr v)
              have HW := Lib.hid (fun (q : Option Addr) (W : World) (hW : W.ownsRow B 40 4 (.slice q N.length c2) N.length (rcs N)) => into_any B q c2 N ⟨x, v⟩ W hW (by omega))
              have hNo : (intoS N ⟨x, v⟩).length ≤ i + 1 := by
                have h1 := (intoS_perm ⟨x, v⟩ HP3.out.of.sort).length_eq
                have h2 : (outS N x).length ≤ N.length := List.length_filter_le _ _
                have h3 := HP3.out.few
                have h4 : (intoS N ⟨x, v⟩).length = (outS N x).length + 1 := h1
                by_cases hh : (outS N x).length = N.length
                · have := HNI.out
                  omega
                · omega
              have hri := rright_any x.h x.l x.n HXG.out.1 HXG.out.2
              rw [show rightB x.h x.l x.n = true from hxr] at hri
              have HRI := Lib.hid hri
              clear hri
              go_wp2_with fail
              have kg := cell_grow
              refine wp_region_noPanic ?_
              generalize hNQ : NoPanic _ = NQ
              refine region_two [0, 2, 3, 4, 5] [1, 6] 7 [8, 9, 10, 11, 12] [] (by kernel_rfl) (by rw [← hNQ]; exact fun _ _ _ h => h) (by kernel_rfl) (by kernel_rfl) ?_
              simp only [pickL, List.filterMap_cons, List.filterMap_nil, List.getElem?_toArray, List.getElem?_cons_succ, List.getElem?_cons_zero]
              repeat (any_goals (quiet_step (fail)))
              refine wpQuiet_nil ?_
              clear kg
              intro w4 hb4 K hK op ho
              injection ho with ho
              subst ho
              go_simp
              have HP4 := Lib.hid (HP3.out.quiet hb4)
              have x0 := (hb4.cell (p := ⟨b, 0, none⟩) hzx).trans x0
              have x1 := (hb4.cell (p := ⟨b, 1, none⟩) hzx).trans x1
              have x2 := (hb4.cell (p := ⟨b, 2, none⟩) hzx).trans x2
              have hzx := Nat.lt_of_lt_of_le hzx hb4.size
              refine (tput_any HP4.out.tri x v HXG.out (by omega) (by omega)).mono ?_
              rintro e w5 ⟨rfl, H5, ht5⟩
              rw [HGN.out]
              have x0 := (ht5.cell (p := ⟨b, 0, none⟩) x0 hbt)
              have x1 := (ht5.cell (p := ⟨b, 1, none⟩) x1 hbt)
              have x2 := (ht5.cell (p := ⟨b, 2, none⟩) x2 hbt)
              have hzx := Nat.lt_of_lt_of_le hzx ht5.size
              refine hK _ _ ?_
              clear hK K hb4
              repeat (any_goals (quiet_step (fail)))
              refine wpQuiet_nil ?_
              go_wp2_with fail
              rw [← hNQ]
              refine NoPanic.normal ?_
              clear hNQ
              go_wp2_with fail
              refine (HRI.out _).mono ?_
              rintro e w6 ⟨rfl, hb6⟩
              have x0 := (hb6.cell (p := ⟨b, 0, none⟩) hzx).trans x0
              have x1 := (hb6.cell (p := ⟨b, 1, none⟩) hzx).trans x1
              have x2 := (hb6.cell (p := ⟨b, 2, none⟩) hzx).trans x2
              have hzx := Nat.lt_of_lt_of_le hzx hb6.size
              have hbd := HP4.out.below.trans (((ht5.trans (Touch.quiet hb6)).below HP4.out.below.size fun k hk => by rw [hk]; exact HP4.out.wt))
              obtain ⟨e0, e4, hga2⟩ := HD.out _ hbd
              have HH6 := Lib.hid (And.intro (H5.below hb6) (ht5.trans (Touch.quiet hb6 (S := fun k => k = t))))
              clear H5 ht5 hb6 HRI hbd
              go_wp2_with fail
              have kg := cell_grow
              refine region_tail 8 (by kernel_rfl) (by kernel_rfl) ?_
              simp only [List.take_succ_cons, List.take_zero, List.drop_succ_cons, List.drop_zero]
              repeat (any_goals (first | go_big_quiet_step (fail) | quiet_step (fail)))
              refine wpQuiet_nil ?_
              clear kg
              intro w7 hb7
              obtain ⟨hc7, hf7⟩ := bcell hb7
              have HH7 := Lib.hid (And.intro (HH6.out.1.below hb7) (HH6.out.2.trans (Touch.quiet hb7 (S := fun k => k = t))))
              have x0 := (hb7.cell (p := ⟨b, 0, none⟩) hzx).trans x0
              have x1 := (hb7.cell (p := ⟨b, 1, none⟩) hzx).trans x1
              have x2 := (hb7.cell (p := ⟨b, 2, none⟩) hzx).trans x2
              have hzx := Nat.lt_of_lt_of_le hzx hb7.size
              clear HH6 hb7 hc7 hf7 e0 e4 hga2
              have HO7 := Lib.hid (HP4.out.own2 HH7.out.2)
              have HWR := HW.out _ _ HO7.out
              unfold rtA at HWR
              go_wp2_with fail
              refine HWR.mono ?_
              rintro e w8 ⟨p5, c5, rfl, ho8, hb8⟩
              have HP5 := Lib.hid (HP4.out.row HH7.out.1 HH7.out.2 hb8 ho8 HPE.out.1 HPE.out.2 hNo)
              have x0 := (hb8.cell (p := ⟨b, 0, none⟩) hzx).trans x0
              have x1 := (hb8.cell (p := ⟨b, 1, none⟩) hzx).trans x1
              have x2 := (hb8.cell (p := ⟨b, 2, none⟩) hzx).trans x2
              have hzx := Nat.lt_of_lt_of_le hzx hb8.size
              clear ho8 hb8 HW HWR HH7 HO7 HP4 HP3 HPE HGN
              generalize intoS N ⟨x, v⟩ = N5 at *
              generalize putT x v T = T5 at *
              have hfind := HP5.out.of.find HXG.out
              have HF := Lib.hid (fun (W : World) (hW : Row W p5 (rcs N5)) => find12_any p5 c5 N5 x W hW (by omega))
              go_wp2_with fail
              refine (HF.out _ (Row.of_own HP5.out.own)).mono ?_
              rintro e w6 ⟨rfl, hb6⟩
              have HP6 := Lib.hid (HP5.out.quiet hb6)
              have x0 := (hb6.cell (p := ⟨b, 0, none⟩) hzx).trans x0
              have x1 := (hb6.cell (p := ⟨b, 1, none⟩) hzx).trans x1
              have x2 := (hb6.cell (p := ⟨b, 2, none⟩) hzx).trans x2
              have hzx := Nat.lt_of_lt_of_le hzx hb6.size
              clear hb6 HP5 HF
              rcases hfind with ⟨hgv, hst, -⟩ | ⟨k, hk, hst, hgv, -, -⟩
              · rw [hst]
                go_wp2_with fail
                refine (tget_any HP6.out.tri x HXG.out).mono ?_
                rintro e w7 ⟨rfl, hb7⟩
                rw [hgv]
                have HP7 := Lib.hid (HP6.out.quiet hb7)
                simp only [Option.getD_none, Option.isSome_none, zr]
                clear hb7 HP6 hst hgv x0 x1 x2 hzx
                go_wp2_with fail
                refine (tlen_any HP7.out.tri).mono ?_
                rintro e w8 ⟨rfl, hb8⟩
                have HP8 := Lib.hid (HP7.out.quiet hb8)
                clear hb8 HP7
                go_wp2_with fail
                go_roundg (gk - 1)
                case measure => omega
                case rel => exact ⟨i + 1, T5, N5, p5, c5, by omega, by go_num, rfl, HP8⟩
              · rw [hst]
                go_wp2_with fail
                refine (tget_any HP6.out.tri x HXG.out).mono ?_
                rintro e w7 ⟨rfl, hb7⟩
                rw [hgv]
                have HP7 := Lib.hid (HP6.out.quiet hb7)
                simp only [Option.getD_some, Option.isSome_some]
                obtain ⟨gr5, o5, rfl, hgr5, -, -, -, n3⟩ := (Row.of_own HP7.out.own).rt hk
                have i5 : (k : Int) < (N5.length : Int) := by omega
                have i6 : (0 : Int) ≤ (k : Int) := by omega
                clear hb7 HP6 hst hgv x0 x1 x2 hzx
                generalize N5[k].v = hv5 at *
                go_wp2_with fail
                refine (tlen_any HP7.out.tri).mono ?_
                rintro e w8 ⟨rfl, hb8⟩
                have HP8 := Lib.hid (HP7.out.quiet hb8)
                clear hb8 HP7 n3 hgr5
                go_wp2_with fail
                go_roundg (gk - 1)
                case measure => omega
                case rel => exact ⟨i + 1, T5, N5, _, c5, by omega, by go_num, rfl, HP8⟩
            · have HPE := Lib.hid (put_wrong hxr v T (N.length : Int))
              have hri := rright_any x.h x.l x.n HXG.out.1 HXG.out.2
              rw [show rightB x.h x.l x.n = false by have h : ¬ rightB x.h x.l x.n = true := hxr; simpa using h] at hri
              have HRI := Lib.hid hri
              clear hri
              go_wp2_with fail
              have kg := cell_grow
              refine wp_region_noPanic ?_
              generalize hNQ : NoPanic _ = NQ
              refine region_two [0, 2, 3, 4, 5] [1, 6] 7 [8, 9, 10, 11, 12] [] (by kernel_rfl) (by rw [← hNQ]; exact fun _ _ _ h => h) (by kernel_rfl) (by kernel_rfl) ?_
              simp only [pickL, List.filterMap_cons, List.filterMap_nil, List.getElem?_toArray, List.getElem?_cons_succ, List.getElem?_cons_zero]
              repeat (any_goals (quiet_step (fail)))
              refine wpQuiet_nil ?_
              clear kg
              intro w4 hb4 K hK op ho
              injection ho with ho
              subst ho
              go_simp
              have HP4 := Lib.hid (HP3.out.quiet hb4)
              have x0 := (hb4.cell (p := ⟨b, 0, none⟩) hzx).trans x0
              have x1 := (hb4.cell (p := ⟨b, 1, none⟩) hzx).trans x1
              have x2 := (hb4.cell (p := ⟨b, 2, none⟩) hzx).trans x2
              have hzx := Nat.lt_of_lt_of_le hzx hb4.size
              refine (tput_any HP4.out.tri x v HXG.out (by omega) (by omega)).mono ?_
              rintro e w5 ⟨rfl, H5, ht5⟩
              rw [HGN.out]
              have x0 := (ht5.cell (p := ⟨b, 0, none⟩) x0 hbt)
              have x1 := (ht5.cell (p := ⟨b, 1, none⟩) x1 hbt)
              have x2 := (ht5.cell (p := ⟨b, 2, none⟩) x2 hbt)
              have hzx := Nat.lt_of_lt_of_le hzx ht5.size
              refine hK _ _ ?_
              clear hK K hb4
              repeat (any_goals (quiet_step (fail)))
              refine wpQuiet_nil ?_
              go_wp2_with fail
              rw [← hNQ]
              refine NoPanic.normal ?_
              clear hNQ
              go_wp2_with fail
              refine (HRI.out _).mono ?_
              rintro e w6 ⟨rfl, hb6⟩
              have x0 := (hb6.cell (p := ⟨b, 0, none⟩) hzx).trans x0
              have x1 := (hb6.cell (p := ⟨b, 1, none⟩) hzx).trans x1
              have x2 := (hb6.cell (p := ⟨b, 2, none⟩) hzx).trans x2
              have hzx := Nat.lt_of_lt_of_le hzx hb6.size
              have HP5 := Lib.hid ((HP4.out.same H5 ht5 HPE.out.1 HPE.out.2).quiet hb6)
              clear H5 ht5 hb6 HRI HP4 HP3 HPE HGN e0 e4 hga2
              have hNo := hNl
              clear hNl
              generalize q = p5 at HP5 ⊢
              generalize c2 = c5 at *
              generalize N = N5 at *
              generalize T = T5 at *
              have hfind := HP5.out.of.find HXG.out
              have HF := Lib.hid (fun (W : World) (hW : Row W p5 (rcs N5)) => find12_any p5 c5 N5 x W hW (by omega))
              go_wp2_with fail
              refine (HF.out _ (Row.of_own HP5.out.own)).mono ?_
              rintro e w6 ⟨rfl, hb6⟩
              have HP6 := Lib.hid (HP5.out.quiet hb6)
              have x0 := (hb6.cell (p := ⟨b, 0, none⟩) hzx).trans x0
              have x1 := (hb6.cell (p := ⟨b, 1, none⟩) hzx).trans x1
              have x2 := (hb6.cell (p := ⟨b, 2, none⟩) hzx).trans x2
              have hzx := Nat.lt_of_lt_of_le hzx hb6.size
              clear hb6 HP5 HF
              rcases hfind with ⟨hgv, hst, -⟩ | ⟨k, hk, hst, hgv, -, -⟩
              · rw [hst]
                go_wp2_with fail
                refine (tget_any HP6.out.tri x HXG.out).mono ?_
                rintro e w7 ⟨rfl, hb7⟩
                rw [hgv]
                have HP7 := Lib.hid (HP6.out.quiet hb7)
                simp only [Option.getD_none, Option.isSome_none, zr]
                clear hb7 HP6 hst hgv x0 x1 x2 hzx
                go_wp2_with fail
                refine (tlen_any HP7.out.tri).mono ?_
                rintro e w8 ⟨rfl, hb8⟩
                have HP8 := Lib.hid (HP7.out.quiet hb8)
                clear hb8 HP7
                go_wp2_with fail
                go_roundg (gk - 1)
                case measure => omega
                case rel => exact ⟨i + 1, T5, N5, p5, c5, by omega, by go_num, rfl, HP8⟩
              · rw [hst]
                go_wp2_with fail
                refine (tget_any HP6.out.tri x HXG.out).mono ?_
                rintro e w7 ⟨rfl, hb7⟩
                rw [hgv]
                have HP7 := Lib.hid (HP6.out.quiet hb7)
                simp only [Option.getD_some, Option.isSome_some]
                obtain ⟨gr5, o5, rfl, hgr5, -, -, -, n3⟩ := (Row.of_own HP7.out.own).rt hk
                have i5 : (k : Int) < (N5.length : Int) := by omega
                have i6 : (0 : Int) ≤ (k : Int) := by omega
                clear hb7 HP6 hst hgv x0 x1 x2 hzx
                generalize N5[k].v = hv5 at *
                go_wp2_with fail
                refine (tlen_any HP7.out.tri).mono ?_
                rintro e w8 ⟨rfl, hb8⟩
                have HP8 := Lib.hid (HP7.out.quiet hb8)
                clear hb8 HP7 n3 hgr5
                go_wp2_with fail
                go_roundg (gk - 1)
                case measure => omega
                case rel => exact ⟨i + 1, T5, N5, _, c5, by omega, by go_num, rfl, HP8⟩
        · have HGN : Hid (getN14 x T = .tuple #[.int .i64 N[j].v, .bool true]) := by
            show _ = _
            unfold getN14
            rw [hgv]
            rfl
          obtain ⟨gr, orr, rfl, hgr, -, -, -, n3⟩ := (Row.of_own HP3.out.own).rt hj
          have i2 : (j : Int) < (N.length : Int) := by omega
          have i3 : (0 : Int) ≤ (j : Int) := by omega
          rw [hst]
          clear hst hgv
          obtain ⟨hv, hhv⟩ : ∃ hv, hv = N[j].v := ⟨_, rfl⟩
          rw [← hhv] at HGN n3
          clear hhv
          cases dl with
          | true =>
            have HDE := Lib.hid (HP3.out.of.dele HXG.out)
            have HW := Lib.hid (fun (q : Option Addr) (W : World) (hW : Row W q (rcs N)) => without12_any q c2 N x W hW (by omega))
            have hNo : (outS N x).length ≤ i + 1 := Nat.le_trans (List.length_filter_le _ _) hNl
            go_wp2_with fail
            refine (tdel_any HP3.out.tri x HXG.out (by omega) (by omega)).mono ?_
            rintro e w4 ⟨rfl, H4, ht4⟩
            rw [HGN.out]
            have HO4 := Lib.hid (Row.of_own (HP3.out.own2 ht4))
            have x0 := (ht4.cell (p := ⟨b, 0, none⟩) x0 hbt)
            have x1 := (ht4.cell (p := ⟨b, 1, none⟩) x1 hbt)
            have x2 := (ht4.cell (p := ⟨b, 2, none⟩) x2 hbt)
            have hzx := Nat.lt_of_lt_of_le hzx ht4.size
            clear e0 e4 hga2
            go_wp2_with fail
            refine (HW.out _ _ HO4.out).mono ?_
            rintro e w5 ⟨p5, c5, rfl, ho5, hb5⟩
            have HP5 := Lib.hid (HP3.out.row H4 ht4 hb5 ho5 HDE.out.1 HDE.out.2 hNo)
            have x0 := (hb5.cell (p := ⟨b, 0, none⟩) hzx).trans x0
            have x1 := (hb5.cell (p := ⟨b, 1, none⟩) hzx).trans x1
            have x2 := (hb5.cell (p := ⟨b, 2, none⟩) hzx).trans x2
            have hzx := Nat.lt_of_lt_of_le hzx hb5.size
            clear H4 ht4 hb5 ho5 HDE HW HO4 HP3 HGN
            generalize outS N x = N5 at *
            generalize delT14 x T = T5 at *
            have hfind := HP5.out.of.find HXG.out
            have HF := Lib.hid (fun (W : World) (hW : Row W p5 (rcs N5)) => find12_any p5 c5 N5 x W hW (by omega))
            go_wp2_with fail
            refine (HF.out _ (Row.of_own HP5.out.own)).mono ?_
            rintro e w6 ⟨rfl, hb6⟩
            have HP6 := Lib.hid (HP5.out.quiet hb6)
            have x0 := (hb6.cell (p := ⟨b, 0, none⟩) hzx).trans x0
            have x1 := (hb6.cell (p := ⟨b, 1, none⟩) hzx).trans x1
            have x2 := (hb6.cell (p := ⟨b, 2, none⟩) hzx).trans x2
            have hzx := Nat.lt_of_lt_of_le hzx hb6.size
            clear hb6 HP5 HF
            rcases hfind with ⟨hgv, hst, -⟩ | ⟨k, hk, hst, hgv, -, -⟩
            · rw [hst]
              go_wp2_with fail
              refine (tget_any HP6.out.tri x HXG.out).mono ?_
              rintro e w7 ⟨rfl, hb7⟩
              rw [hgv]
              have HP7 := Lib.hid (HP6.out.quiet hb7)
              simp only [Option.getD_none, Option.isSome_none, zr]
              clear hb7 HP6 hst hgv x0 x1 x2 hzx
              go_wp2_with fail
              refine (tlen_any HP7.out.tri).mono ?_
              rintro e w8 ⟨rfl, hb8⟩
              have HP8 := Lib.hid (HP7.out.quiet hb8)
              clear hb8 HP7
              go_wp2_with fail
              go_roundg (gk - 1)
              case measure => omega
              case rel => exact ⟨i + 1, T5, N5, p5, c5, by omega, by go_num, rfl, HP8⟩
            · rw [hst]
              go_wp2_with fail
              refine (tget_any HP6.out.tri x HXG.out).mono ?_
              rintro e w7 ⟨rfl, hb7⟩
              rw [hgv]
              have HP7 := Lib.hid (HP6.out.quiet hb7)
              simp only [Option.getD_some, Option.isSome_some]
              obtain ⟨gr5, o5, rfl, hgr5, -, -, -, n3⟩ := (Row.of_own HP7.out.own).rt hk
              have i5 : (k : Int) < (N5.length : Int) := by omega
              have i6 : (0 : Int) ≤ (k : Int) := by omega
              clear hb7 HP6 hst hgv x0 x1 x2 hzx
              generalize N5[k].v = hv5 at *
              go_wp2_with fail
              refine (tlen_any HP7.out.tri).mono ?_
              rintro e w8 ⟨rfl, hb8⟩
              have HP8 := Lib.hid (HP7.out.quiet hb8)
              clear hb8 HP7 n3 hgr5
              go_wp2_with fail
              go_roundg (gk - 1)
              case measure => omega
              case rel => exact ⟨i + 1, T5, N5, _, c5, by omega, by go_num, rfl, HP8⟩
          | false =>
            by_cases hxr : rightK x
            · have HPE := Lib.hid (HP3.out.of.pute HXG.out hxr v)
              have HW := Lib.hid (fun (q : Option Addr) (W : World) (hW : W.ownsRow B 40 4 (.slice q N.length c2) N.length (rcs N)) => into_any B q c2 N ⟨x, v⟩ W hW (by omega))
              have hNo : (intoS N ⟨x, v⟩).length ≤ i + 1 := by
                have h1 := (intoS_perm ⟨x, v⟩ HP3.out.of.sort).length_eq
                have h2 : (outS N x).length ≤ N.length := List.length_filter_le _ _
                have h3 := HP3.out.few
                have h4 : (intoS N ⟨x, v⟩).length = (outS N x).length + 1 := h1
                by_cases hh : (outS N x).length = N.length
                · have := HNI.out
                  omega
                · omega
              have hri := rright_any x.h x.l x.n HXG.out.1 HXG.out.2
              rw [show rightB x.h x.l x.n = true from hxr] at hri
              have HRI := Lib.hid hri
              clear hri
              go_wp2_with fail
              have kg := cell_grow
              refine wp_region_noPanic ?_
              generalize hNQ : NoPanic _ = NQ
              refine region_two [0, 2, 3, 4, 5] [1, 6] 7 [8, 9, 10, 11, 12] [] (by kernel_rfl) (by rw [← hNQ]; exact fun _ _ _ h => h) (by kernel_rfl) (by kernel_rfl) ?_
              simp only [pickL, List.filterMap_cons, List.filterMap_nil, List.getElem?_toArray, List.getElem?_cons_succ, List.getElem?_cons_zero]
              repeat (any_goals (quiet_step (fail)))
              refine wpQuiet_nil ?_
              clear kg
              intro w4 hb4 K hK op ho
              injection ho with ho
              subst ho
              go_simp
              have HP4 := Lib.hid (HP3.out.quiet hb4)
              have x0 := (hb4.cell (p := ⟨b, 0, none⟩) hzx).trans x0
              have x1 := (hb4.cell (p := ⟨b, 1, none⟩) hzx).trans x1
              have x2 := (hb4.cell (p := ⟨b, 2, none⟩) hzx).trans x2
              have hzx := Nat.lt_of_lt_of_le hzx hb4.size
              refine (tput_any HP4.out.tri x v HXG.out (by omega) (by omega)).mono ?_
              rintro e w5 ⟨rfl, H5, ht5⟩
              rw [HGN.out]
              have x0 := (ht5.cell (p := ⟨b, 0, none⟩) x0 hbt)
              have x1 := (ht5.cell (p := ⟨b, 1, none⟩) x1 hbt)
              have x2 := (ht5.cell (p := ⟨b, 2, none⟩) x2 hbt)
              have hzx := Nat.lt_of_lt_of_le hzx ht5.size
              refine hK _ _ ?_
              clear hK K hb4
              repeat (any_goals (quiet_step (fail)))
              refine wpQuiet_nil ?_
              go_wp2_with fail
              rw [← hNQ]
              refine NoPanic.normal ?_
              clear hNQ
              go_wp2_with fail
              refine (HRI.out _).mono ?_
              rintro e w6 ⟨rfl, hb6⟩
              have x0 := (hb6.cell (p := ⟨b, 0, none⟩) hzx).trans x0
              have x1 := (hb6.cell (p := ⟨b, 1, none⟩) hzx).trans x1
              have x2 := (hb6.cell (p := ⟨b, 2, none⟩) hzx).trans x2
              have hzx := Nat.lt_of_lt_of_le hzx hb6.size
              have hbd := HP4.out.below.trans (((ht5.trans (Touch.quiet hb6)).below HP4.out.below.size fun k hk => by rw [hk]; exact HP4.out.wt))
              obtain ⟨e0, e4, hga2⟩ := HD.out _ hbd
              have HH6 := Lib.hid (And.intro (H5.below hb6) (ht5.trans (Touch.quiet hb6 (S := fun k => k = t))))
              clear H5 ht5 hb6 HRI hbd
              go_wp2_with fail
              have kg := cell_grow
              refine region_tail 8 (by kernel_rfl) (by kernel_rfl) ?_
              simp only [List.take_succ_cons, List.take_zero, List.drop_succ_cons, List.drop_zero]
              repeat (any_goals (first | go_big_quiet_step (fail) | quiet_step (fail)))
              refine wpQuiet_nil ?_
              clear kg
              intro w7 hb7
              obtain ⟨hc7, hf7⟩ := bcell hb7
              have HH7 := Lib.hid (And.intro (HH6.out.1.below hb7) (HH6.out.2.trans (Touch.quiet hb7 (S := fun k => k = t))))
              have x0 := (hb7.cell (p := ⟨b, 0, none⟩) hzx).trans x0
              have x1 := (hb7.cell (p := ⟨b, 1, none⟩) hzx).trans x1
              have x2 := (hb7.cell (p := ⟨b, 2, none⟩) hzx).trans x2
              have hzx := Nat.lt_of_lt_of_le hzx hb7.size
              clear HH6 hb7 hc7 hf7 e0 e4 hga2
              have HO7 := Lib.hid (HP4.out.own2 HH7.out.2)
              have HWR := HW.out _ _ HO7.out
              unfold rtA at HWR
              go_wp2_with fail
              refine HWR.mono ?_
              rintro e w8 ⟨p5, c5, rfl, ho8, hb8⟩
              have HP5 := Lib.hid (HP4.out.row HH7.out.1 HH7.out.2 hb8 ho8 HPE.out.1 HPE.out.2 hNo)
              have x0 := (hb8.cell (p := ⟨b, 0, none⟩) hzx).trans x0
              have x1 := (hb8.cell (p := ⟨b, 1, none⟩) hzx).trans x1
              have x2 := (hb8.cell (p := ⟨b, 2, none⟩) hzx).trans x2
              have hzx := Nat.lt_of_lt_of_le hzx hb8.size
              clear ho8 hb8 HW HWR HH7 HO7 HP4 HP3 HPE HGN
              generalize intoS N ⟨x, v⟩ = N5 at *
              generalize putT x v T = T5 at *
              have hfind := HP5.out.of.find HXG.out
              have HF := Lib.hid (fun (W : World) (hW : Row W p5 (rcs N5)) => find12_any p5 c5 N5 x W hW (by omega))
              go_wp2_with fail
              refine (HF.out _ (Row.of_own HP5.out.own)).mono ?_
              rintro e w6 ⟨rfl, hb6⟩
              have HP6 := Lib.hid (HP5.out.quiet hb6)
              have x0 := (hb6.cell (p := ⟨b, 0, none⟩) hzx).trans x0
              have x1 := (hb6.cell (p := ⟨b, 1, none⟩) hzx).trans x1
              have x2 := (hb6.cell (p := ⟨b, 2, none⟩) hzx).trans x2
              have hzx := Nat.lt_of_lt_of_le hzx hb6.size
              clear hb6 HP5 HF
              rcases hfind with ⟨hgv, hst, -⟩ | ⟨k, hk, hst, hgv, -, -⟩
              · rw [hst]
                go_wp2_with fail
                refine (tget_any HP6.out.tri x HXG.out).mono ?_
                rintro e w7 ⟨rfl, hb7⟩
                rw [hgv]
                have HP7 := Lib.hid (HP6.out.quiet hb7)
                simp only [Option.getD_none, Option.isSome_none, zr]
                clear hb7 HP6 hst hgv x0 x1 x2 hzx
                go_wp2_with fail
                refine (tlen_any HP7.out.tri).mono ?_
                rintro e w8 ⟨rfl, hb8⟩
                have HP8 := Lib.hid (HP7.out.quiet hb8)
                clear hb8 HP7
                go_wp2_with fail
                go_roundg (gk - 1)
                case measure => omega
                case rel => exact ⟨i + 1, T5, N5, p5, c5, by omega, by go_num, rfl, HP8⟩
              · rw [hst]
                go_wp2_with fail
                refine (tget_any HP6.out.tri x HXG.out).mono ?_
                rintro e w7 ⟨rfl, hb7⟩
                rw [hgv]
                have HP7 := Lib.hid (HP6.out.quiet hb7)
                simp only [Option.getD_some, Option.isSome_some]
                obtain ⟨gr5, o5, rfl, hgr5, -, -, -, n3⟩ := (Row.of_own HP7.out.own).rt hk
                have i5 : (k : Int) < (N5.length : Int) := by omega
                have i6 : (0 : Int) ≤ (k : Int) := by omega
                clear hb7 HP6 hst hgv x0 x1 x2 hzx
                generalize N5[k].v = hv5 at *
                go_wp2_with fail
                refine (tlen_any HP7.out.tri).mono ?_
                rintro e w8 ⟨rfl, hb8⟩
                have HP8 := Lib.hid (HP7.out.quiet hb8)
                clear hb8 HP7 n3 hgr5
                go_wp2_with fail
                go_roundg (gk - 1)
                case measure => omega
                case rel => exact ⟨i + 1, T5, N5, _, c5, by omega, by go_num, rfl, HP8⟩
            · have HPE := Lib.hid (put_wrong hxr v T (N.length : Int))
              have hri := rright_any x.h x.l x.n HXG.out.1 HXG.out.2
              rw [show rightB x.h x.l x.n = false by have h : ¬ rightB x.h x.l x.n = true := hxr; simpa using h] at hri
              have HRI := Lib.hid hri
              clear hri
              go_wp2_with fail
              have kg := cell_grow
              refine wp_region_noPanic ?_
              generalize hNQ : NoPanic _ = NQ
              refine region_two [0, 2, 3, 4, 5] [1, 6] 7 [8, 9, 10, 11, 12] [] (by kernel_rfl) (by rw [← hNQ]; exact fun _ _ _ h => h) (by kernel_rfl) (by kernel_rfl) ?_
              simp only [pickL, List.filterMap_cons, List.filterMap_nil, List.getElem?_toArray, List.getElem?_cons_succ, List.getElem?_cons_zero]
              repeat (any_goals (quiet_step (fail)))
              refine wpQuiet_nil ?_
              clear kg
              intro w4 hb4 K hK op ho
              injection ho with ho
              subst ho
              go_simp
              have HP4 := Lib.hid (HP3.out.quiet hb4)
              have x0 := (hb4.cell (p := ⟨b, 0, none⟩) hzx).trans x0
              have x1 := (hb4.cell (p := ⟨b, 1, none⟩) hzx).trans x1
              have x2 := (hb4.cell (p := ⟨b, 2, none⟩) hzx).trans x2
              have hzx := Nat.lt_of_lt_of_le hzx hb4.size
              refine (tput_any HP4.out.tri x v HXG.out (by omega) (by omega)).mono ?_
              rintro e w5 ⟨rfl, H5, ht5⟩
              rw [HGN.out]
              have x0 := (ht5.cell (p := ⟨b, 0, none⟩) x0 hbt)
              have x1 := (ht5.cell (p := ⟨b, 1, none⟩) x1 hbt)
              have x2 := (ht5.cell (p := ⟨b, 2, none⟩) x2 hbt)
              have hzx := Nat.lt_of_lt_of_le hzx ht5.size
              refine hK _ _ ?_
              clear hK K hb4
              repeat (any_goals (quiet_step (fail)))
              refine wpQuiet_nil ?_
              go_wp2_with fail
              rw [← hNQ]
              refine NoPanic.normal ?_
              clear hNQ
              go_wp2_with fail
              refine (HRI.out _).mono ?_
              rintro e w6 ⟨rfl, hb6⟩
              have x0 := (hb6.cell (p := ⟨b, 0, none⟩) hzx).trans x0
              have x1 := (hb6.cell (p := ⟨b, 1, none⟩) hzx).trans x1
              have x2 := (hb6.cell (p := ⟨b, 2, none⟩) hzx).trans x2
              have hzx := Nat.lt_of_lt_of_le hzx hb6.size
              have HP5 := Lib.hid ((HP4.out.same H5 ht5 HPE.out.1 HPE.out.2).quiet hb6)
              clear H5 ht5 hb6 HRI HP4 HP3 HPE HGN e0 e4 hga2
              have hNo := hNl
              clear hNl
              generalize (some ⟨gr, orr, none⟩ : Option Addr) = p5 at HP5 ⊢
              generalize c2 = c5 at *
              generalize N = N5 at *
              generalize T = T5 at *
              have hfind := HP5.out.of.find HXG.out
              have HF := Lib.hid (fun (W : World) (hW : Row W p5 (rcs N5)) => find12_any p5 c5 N5 x W hW (by omega))
              go_wp2_with fail
              refine (HF.out _ (Row.of_own HP5.out.own)).mono ?_
              rintro e w6 ⟨rfl, hb6⟩
              have HP6 := Lib.hid (HP5.out.quiet hb6)
              have x0 := (hb6.cell (p := ⟨b, 0, none⟩) hzx).trans x0
              have x1 := (hb6.cell (p := ⟨b, 1, none⟩) hzx).trans x1
              have x2 := (hb6.cell (p := ⟨b, 2, none⟩) hzx).trans x2
              have hzx := Nat.lt_of_lt_of_le hzx hb6.size
              clear hb6 HP5 HF
              rcases hfind with ⟨hgv, hst, -⟩ | ⟨k, hk, hst, hgv, -, -⟩
              · rw [hst]
                go_wp2_with fail
                refine (tget_any HP6.out.tri x HXG.out).mono ?_
                rintro e w7 ⟨rfl, hb7⟩
                rw [hgv]
                have HP7 := Lib.hid (HP6.out.quiet hb7)
                simp only [Option.getD_none, Option.isSome_none, zr]
                clear hb7 HP6 hst hgv x0 x1 x2 hzx
                go_wp2_with fail
                refine (tlen_any HP7.out.tri).mono ?_
                rintro e w8 ⟨rfl, hb8⟩
                have HP8 := Lib.hid (HP7.out.quiet hb8)
                clear hb8 HP7
                go_wp2_with fail
                go_roundg (gk - 1)
                case measure => omega
                case rel => exact ⟨i + 1, T5, N5, p5, c5, by omega, by go_num, rfl, HP8⟩
              · rw [hst]
                go_wp2_with fail
                refine (tget_any HP6.out.tri x HXG.out).mono ?_
                rintro e w7 ⟨rfl, hb7⟩
                rw [hgv]
                have HP7 := Lib.hid (HP6.out.quiet hb7)
                simp only [Option.getD_some, Option.isSome_some]
                obtain ⟨gr5, o5, rfl, hgr5, -, -, -, n3⟩ := (Row.of_own HP7.out.own).rt hk
                have i5 : (k : Int) < (N5.length : Int) := by omega
                have i6 : (0 : Int) ≤ (k : Int) := by omega
                clear hb7 HP6 hst hgv x0 x1 x2 hzx
                generalize N5[k].v = hv5 at *
                go_wp2_with fail
                refine (tlen_any HP7.out.tri).mono ?_
                rintro e w8 ⟨rfl, hb8⟩
                have HP8 := Lib.hid (HP7.out.quiet hb8)
                clear hb8 HP7 n3 hgr5
                go_wp2_with fail
                go_roundg (gk - 1)
                case measure => omega
                case rel => exact ⟨i + 1, T5, N5, _, c5, by omega, by go_num, rfl, HP8⟩
      · have i1 : ¬ (i : Int) < (A.length : Int) := by omega
        obtain ⟨q0, q1, p0, p1, p2, hzq⟩ := HQ.out _ HP.out.below
        have hzq1 : w.heap.size < wr.heap.size := by omega
        have hN : N.length < 1048576 := by have := HP.out.few; omega
        have HRO := Lib.hid (route_any t T (N.length : Int) q c2 N ah al p low high wr HP.out.tri HP.out.of (Row.of_own HP.out.own) (fun x hx => (HP.out.of.keys hx).1) hN wa wb HPG.out)
        have hwr := hB.trans (HP.out.below.mono hB.size)
        unfold kyV at HRO
        go_wp2_with fail
        refine HRO.out.mono ?_
        rintro e w2 ⟨rfl, hb2⟩
        have hw2 := hwr.trans (hb2.mono hwr.size)
        clear q0 q1 p0 p1 p2 hzq hzq1 HRO hb2 HP
        go_wp2
        go_ret
        exact ⟨rfl, hw2⟩
end Go.Proofs.Ytokjhoiacidofaa
