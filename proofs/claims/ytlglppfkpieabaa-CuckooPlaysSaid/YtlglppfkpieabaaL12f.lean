/-
  CuckooPlays as a walk: it hands back true, for every input. No condition but that the seed is a word of 64 bits, the count a whole number of 64 bits, the key's address two words, and that the row of calls lies in old memory.
-/
import Derived.Test.YtlglppfkpieabaaL12e
import Derived.Test.YtlglppfkpieabaaAct12
import Derived.Test.YtlglppfkpieabaaW6
import Derived.Deep.RegionHeld3
import Derived.Deep.LoopGhost
set_option linter.unusedSimpArgs false
set_option linter.unusedVariables false
namespace Go.Proofs.Ytlglppfkpieabaa
open Go.RowKit Go.Sort M

set_option maxRecDepth 100000 in
set_option maxHeartbeats 8000000 in
theorem plays_walk (s : Nat) (n : Int) (p : Option Addr) (q : Nat) (A : List (Int × Rt)) (ph pl : Nat) (pn : Int) (ws : W64 s) (wh : W64 ph) (wl : W64 pl) (w : World) (hR : RowA 5 act12 w p A) (hg : ∀ a ∈ A, a.2.k.good) (hA : A.length ≤ maxLen) :
    Calls Try.prog 3 #[.int .u64 s, .int .i64 n, .slice p A.length q, .agg #[.int .u64 (ph : Int), .int .u64 (pl : Int), .int .i64 pn]] w fun e w' => e = .returned (.bool true) ∧ Below w.heap.size w w' := by
  have HA := Lib.hid alive12_any
  have HR := Lib.hid hR
  have HG := Lib.hid hg
  have HPG : Hid ((⟨ph, pl, pn⟩ : Ky).good) := ⟨wh, wl⟩
  unfold maxLen at hA
  clear hR hg wh wl
  by_cases n1 : 40 < n
  · by_cases n2 : n ≤ 65536
    · have n1' := n1
      go_enter Try.func3, Try.ntmps3
      go_wp2_with fail
      generalize hwB : World.alloc w _ = wB
      have hB : Below w.heap.size w wB := by rw [← hwB]; go_grown
      have q0 : wB.cell? ⟨w.heap.size, 0, none⟩ = some (.int .u64 (ph : Int)) := by rw [← hwB]; simp [go_sem]
      have q1 : wB.cell? ⟨w.heap.size, 1, none⟩ = some (.int .u64 (pl : Int)) := by rw [← hwB]; simp [go_sem]
      have q2 : wB.cell? ⟨w.heap.size, 2, none⟩ = some (.int .i64 pn) := by rw [← hwB]; simp [go_sem]
      have hzB : w.heap.size < wB.heap.size := by rw [← hwB]; simp
      clear hwB
      have HQ := Lib.hid (fun (wx : World) (hb : Below wB.heap.size wB wx) => And.intro ((hb.cell (p := ⟨w.heap.size, 0, none⟩) hzB).trans q0) (And.intro ((hb.cell (p := ⟨w.heap.size, 1, none⟩) hzB).trans q1) (And.intro ((hb.cell (p := ⟨w.heap.size, 2, none⟩) hzB).trans q2) (Nat.lt_of_lt_of_le hzB hb.size))))
      clear q0 q1 q2
      refine (HA.out _).mono ?_
      rintro e w0 ⟨rfl, hb0⟩
      go_wp2
      go_ret
      exact ⟨rfl, hB.trans (hb0.mono hB.size)⟩
    · by_cases l0 : (150 : Int) < (A.length : Int)
      · have n1' := n1
        go_enter Try.func3, Try.ntmps3
        go_wp2_with fail
        generalize hwB : World.alloc w _ = wB
        have hB : Below w.heap.size w wB := by rw [← hwB]; go_grown
        have q0 : wB.cell? ⟨w.heap.size, 0, none⟩ = some (.int .u64 (ph : Int)) := by rw [← hwB]; simp [go_sem]
        have q1 : wB.cell? ⟨w.heap.size, 1, none⟩ = some (.int .u64 (pl : Int)) := by rw [← hwB]; simp [go_sem]
        have q2 : wB.cell? ⟨w.heap.size, 2, none⟩ = some (.int .i64 pn) := by rw [← hwB]; simp [go_sem]
        have hzB : w.heap.size < wB.heap.size := by rw [← hwB]; simp
        clear hwB
        have HQ := Lib.hid (fun (wx : World) (hb : Below wB.heap.size wB wx) => And.intro ((hb.cell (p := ⟨w.heap.size, 0, none⟩) hzB).trans q0) (And.intro ((hb.cell (p := ⟨w.heap.size, 1, none⟩) hzB).trans q1) (And.intro ((hb.cell (p := ⟨w.heap.size, 2, none⟩) hzB).trans q2) (Nat.lt_of_lt_of_le hzB hb.size))))
        clear q0 q1 q2
        refine (HA.out _).mono ?_
        rintro e w0 ⟨rfl, hb0⟩
        go_wp2
        go_ret
        exact ⟨rfl, hB.trans (hb0.mono hB.size)⟩
      · have hbad : n < 1 ∨ 65536 < n := by omega
        go_enter Try.func3, Try.ntmps3
        go_wp2_with fail
        generalize hwB : World.alloc w _ = wB
        have hB : Below w.heap.size w wB := by rw [← hwB]; go_grown
        have q0 : wB.cell? ⟨w.heap.size, 0, none⟩ = some (.int .u64 (ph : Int)) := by rw [← hwB]; simp [go_sem]
        have q1 : wB.cell? ⟨w.heap.size, 1, none⟩ = some (.int .u64 (pl : Int)) := by rw [← hwB]; simp [go_sem]
        have q2 : wB.cell? ⟨w.heap.size, 2, none⟩ = some (.int .i64 pn) := by rw [← hwB]; simp [go_sem]
        have hzB : w.heap.size < wB.heap.size := by rw [← hwB]; simp
        clear hwB
        have HQ := Lib.hid (fun (wx : World) (hb : Below wB.heap.size wB wx) => And.intro ((hb.cell (p := ⟨w.heap.size, 0, none⟩) hzB).trans q0) (And.intro ((hb.cell (p := ⟨w.heap.size, 1, none⟩) hzB).trans q1) (And.intro ((hb.cell (p := ⟨w.heap.size, 2, none⟩) hzB).trans q2) (Nat.lt_of_lt_of_le hzB hb.size))))
        clear q0 q1 q2
        refine (HA.out _).mono ?_
        rintro e w0 ⟨rfl, hb0⟩
        go_wp2_with fail
        refine (new_bad s n _ hbad).mono ?_
        rintro e w1 ⟨rfl, hb1⟩
        have hw1 := hb0.trans (hb1.mono hb0.size)
        go_wp2_with fail
        refine (newtab_bad s n _ hbad).mono ?_
        rintro e w2 ⟨rfl, hb2⟩
        have hw2 := hw1.trans (hb2.mono hw1.size)
        go_wp2_with fail
        refine (num12_any 1 _).mono ?_
        rintro e w3 ⟨rfl, hb3⟩
        have hw3 := hw2.trans (hb3.mono hw2.size)
        go_wp2
        go_ret
        exact ⟨rfl, hB.trans (hw3.mono hB.size)⟩
  · by_cases l0 : (150 : Int) < (A.length : Int)
    · have n1' := n1
      go_enter Try.func3, Try.ntmps3
      go_wp2_with fail
      generalize hwB : World.alloc w _ = wB
      have hB : Below w.heap.size w wB := by rw [← hwB]; go_grown
      have q0 : wB.cell? ⟨w.heap.size, 0, none⟩ = some (.int .u64 (ph : Int)) := by rw [← hwB]; simp [go_sem]
      have q1 : wB.cell? ⟨w.heap.size, 1, none⟩ = some (.int .u64 (pl : Int)) := by rw [← hwB]; simp [go_sem]
      have q2 : wB.cell? ⟨w.heap.size, 2, none⟩ = some (.int .i64 pn) := by rw [← hwB]; simp [go_sem]
      have hzB : w.heap.size < wB.heap.size := by rw [← hwB]; simp
      clear hwB
      have HQ := Lib.hid (fun (wx : World) (hb : Below wB.heap.size wB wx) => And.intro ((hb.cell (p := ⟨w.heap.size, 0, none⟩) hzB).trans q0) (And.intro ((hb.cell (p := ⟨w.heap.size, 1, none⟩) hzB).trans q1) (And.intro ((hb.cell (p := ⟨w.heap.size, 2, none⟩) hzB).trans q2) (Nat.lt_of_lt_of_le hzB hb.size))))
      clear q0 q1 q2
      refine (HA.out _).mono ?_
      rintro e w0 ⟨rfl, hb0⟩
      go_wp2
      go_ret
      exact ⟨rfl, hB.trans (hb0.mono hB.size)⟩
    · by_cases n0 : n < 1
      · have hbad : n < 1 ∨ 65536 < n := by omega
        go_enter Try.func3, Try.ntmps3
        go_wp2_with fail
        generalize hwB : World.alloc w _ = wB
        have hB : Below w.heap.size w wB := by rw [← hwB]; go_grown
        have q0 : wB.cell? ⟨w.heap.size, 0, none⟩ = some (.int .u64 (ph : Int)) := by rw [← hwB]; simp [go_sem]
        have q1 : wB.cell? ⟨w.heap.size, 1, none⟩ = some (.int .u64 (pl : Int)) := by rw [← hwB]; simp [go_sem]
        have q2 : wB.cell? ⟨w.heap.size, 2, none⟩ = some (.int .i64 pn) := by rw [← hwB]; simp [go_sem]
        have hzB : w.heap.size < wB.heap.size := by rw [← hwB]; simp
        clear hwB
        have HQ := Lib.hid (fun (wx : World) (hb : Below wB.heap.size wB wx) => And.intro ((hb.cell (p := ⟨w.heap.size, 0, none⟩) hzB).trans q0) (And.intro ((hb.cell (p := ⟨w.heap.size, 1, none⟩) hzB).trans q1) (And.intro ((hb.cell (p := ⟨w.heap.size, 2, none⟩) hzB).trans q2) (Nat.lt_of_lt_of_le hzB hb.size))))
        clear q0 q1 q2
        refine (HA.out _).mono ?_
        rintro e w0 ⟨rfl, hb0⟩
        go_wp2_with fail
        refine (new_bad s n _ hbad).mono ?_
        rintro e w1 ⟨rfl, hb1⟩
        have hw1 := hb0.trans (hb1.mono hb0.size)
        go_wp2_with fail
        refine (newtab_bad s n _ hbad).mono ?_
        rintro e w2 ⟨rfl, hb2⟩
        have hw2 := hw1.trans (hb2.mono hw1.size)
        go_wp2_with fail
        refine (num12_any 1 _).mono ?_
        rintro e w3 ⟨rfl, hb3⟩
        have hw3 := hw2.trans (hb3.mono hw2.size)
        go_wp2
        go_ret
        exact ⟨rfl, hB.trans (hw3.mono hB.size)⟩
      · obtain ⟨B, rfl⟩ := Int.eq_ofNat_of_zero_le (show 0 ≤ n by omega)
        have HN := Lib.hid (num12_any 0)
        go_enter Try.func3, Try.ntmps3
        go_wp2_with fail
        generalize hwB : World.alloc w _ = wB
        have hB : Below w.heap.size w wB := by rw [← hwB]; go_grown
        have q0 : wB.cell? ⟨w.heap.size, 0, none⟩ = some (.int .u64 (ph : Int)) := by rw [← hwB]; simp [go_sem]
        have q1 : wB.cell? ⟨w.heap.size, 1, none⟩ = some (.int .u64 (pl : Int)) := by rw [← hwB]; simp [go_sem]
        have q2 : wB.cell? ⟨w.heap.size, 2, none⟩ = some (.int .i64 pn) := by rw [← hwB]; simp [go_sem]
        have hzB : w.heap.size < wB.heap.size := by rw [← hwB]; simp
        clear hwB
        have HQ := Lib.hid (fun (wx : World) (hb : Below wB.heap.size wB wx) => And.intro ((hb.cell (p := ⟨w.heap.size, 0, none⟩) hzB).trans q0) (And.intro ((hb.cell (p := ⟨w.heap.size, 1, none⟩) hzB).trans q1) (And.intro ((hb.cell (p := ⟨w.heap.size, 2, none⟩) hzB).trans q2) (Nat.lt_of_lt_of_le hzB hb.size))))
        clear q0 q1 q2
        refine (HA.out _).mono ?_
        rintro e w0 ⟨rfl, hb0⟩
        go_wp2_with fail
        refine (new_any s B _ (by omega) (by omega)).mono ?_
        rintro e w1 ⟨t, rfl, g, hC1, hb1, ht1, hg1⟩
        have hw1 := hb0.trans (hb1.mono hb0.size)
        go_wp2_with fail
        refine (newtab_any s B _ (by omega) (by omega)).mono ?_
        rintro e w2 ⟨rt, rfl, rg, hC2, hb2, ht2, hg2⟩
        have H2 := Two.new (w := wB) hw1 hb0.size hC1 ht1 hg1 hC2 hb2 ht2 hg2
        clear hC1 hC2 hb2 hb1 hw1 ht1 hg1 ht2 hg2 hb0
        go_wp2_with fail
        refine (HN.out _).mono ?_
        rintro e w3 ⟨rfl, hb3⟩
        have H3 := Lib.hid (H2.quiet hb3)
        have HI0 := Lib.hid (empty_inv ws (show 1 ≤ B by omega) (show B ≤ 65536 by omega))
        have hN0 : (contT (emptyT s B)).length ≤ 0 := by rw [empty_cont]; exact Nat.le_refl _
        generalize emptyT s B = T0 at *
        clear H2 hb3 HN
        go_wp2_with fail
        go_loopg [14, 15, 16, 17, 18, 19, 20] A.length (fun gk s14 s15 s16 s17 s18 s19 s20 wr => ∃ (i : Nat) (T : Tab), gk + i = A.length ∧ s14 = .int .i64 (i : Int) ∧ (contT T).length ≤ i ∧ Hid (Inv T) ∧ Hid (Two wB wr t rt T T))
        case atStart => exact ⟨0, _, by omega, rfl, hN0, HI0, H3⟩
        case round =>
          clear hN0 HI0 H3
          obtain ⟨i, T, hi, rfl, hfew, HI, HP⟩ := hrel
          have hNl : (contT T).length < 262144 := by omega
          by_cases hlt : i < A.length
          · obtain ⟨ga, oa, rfl, hga, d0, d1, d2, d3, d4⟩ := HR.out.act12 hlt
            have hgood := HG.out _ (List.getElem_mem hlt)
            obtain ⟨a, ha⟩ : ∃ a, a = A[i] := ⟨_, rfl⟩
            rw [← ha] at d0 d1 d2 d3 d4 hgood
            obtain ⟨way, ⟨⟨kh, kl, kn⟩, kv⟩⟩ := a
            simp only at d0 d1 d2 d3 d4 hgood
            have HW := Lib.hid (fun (wx : World) (hb0 : Below wB.heap.size wB wx) => have hb : Below w.heap.size w wx := hB.trans (hb0.mono hB.size); And.intro ((hb.cell (p := ⟨ga, oa + i * 5, none⟩) hga).trans d0) (And.intro ((hb.cell (p := ⟨ga, oa + i * 5 + 1, none⟩) hga).trans d1) (And.intro ((hb.cell (p := ⟨ga, oa + i * 5 + 2, none⟩) hga).trans d2) (And.intro ((hb.cell (p := ⟨ga, oa + i * 5 + 3, none⟩) hga).trans d3) (And.intro ((hb.cell (p := ⟨ga, oa + i * 5 + 4, none⟩) hga).trans d4) (Nat.lt_of_lt_of_le hga hb.size))))))
            have HGD := Lib.hid hgood
            clear d0 d1 d2 d3 d4 hgood ha
            obtain ⟨e0, e1, e2, e3, e4, hgr⟩ := HW.out _ HP.out.below
            by_cases hway : way = 1
            · have hwz : (way == 1) = true := by simp [hway]
              have hD := fun wx (H : Two wB wx t rt T T) => H.del ⟨kh, kl, kn⟩ HI.out HGD.out hNl
              have hF := fun wx (H : Two wB wx t rt (delT T ⟨kh, kl, kn⟩).1 T) => H.rdel ⟨kh, kl, kn⟩ HI.out HGD.out hNl
              have HI2 := Lib.hid (delT_ok HI.out ⟨kh, kl, kn⟩).1
              have hfew2 := del_few HI.out ⟨kh, kl, kn⟩
              obtain ⟨T2, hT2⟩ : ∃ T2, T2 = (delT T ⟨kh, kl, kn⟩).1 := ⟨_, rfl⟩
              obtain ⟨dd, hdd⟩ : ∃ dd, dd = (delT T ⟨kh, kl, kn⟩).2 := ⟨_, rfl⟩
              rw [← hT2, ← hdd] at hD hF
              rw [← hT2] at HI2 hfew2
              unfold kyV at hD hF
              have HD := Lib.hid hD
              have HF := Lib.hid hF
              have hfew2 : (contT T2).length ≤ i + 1 := by omega
              clear hD hF hT2 hdd hway hNl HGD hfew
              go_wp2_with fail
              go_region_held3 (fun w' => w'.cell? ⟨ga, oa + i * 5 + 2, none⟩ = some (.int .u64 (kh : Int)) ∧ w'.cell? ⟨ga, oa + i * 5 + 3, none⟩ = some (.int .u64 (kl : Int)) ∧ w'.cell? ⟨ga, oa + i * 5 + 4, none⟩ = some (.int .i64 kn))
                (first
                  | go_keep
                  | exact ⟨a0, a1, a2⟩
                  | exact ⟨b0, b1, b2⟩)
                (first
                  | (go_at_call 11; refine (HD.out _ (HP.out.quiet (by go_grown))).mono ?_; rintro e w3 ⟨rfl, P3⟩; obtain ⟨-, -, a0, a1, a2, ag⟩ := HW.out _ P3.below)
                  | (go_at_call 12; refine (HF.out _ P3).mono ?_; rintro e w4 ⟨rfl, P4⟩; obtain ⟨-, -, b0, b1, b2, bg⟩ := HW.out _ P4.below))
              have HP5 := Lib.hid P4
              clear P3 P4 HD HF HP e0 e1 e2 e3 e4 hgr a0 a1 a2 ag b0 b1 b2 bg HI
              go_wp2_with fail
              refine HP5.out.size.mono ?_
              rintro e w6 ⟨rfl, hb6⟩
              have HP6 := Lib.hid (HP5.out.quiet hb6)
              clear hb6 HP5
              go_wp2_with fail
              refine HP6.out.rsize.mono ?_
              rintro e w7 ⟨rfl, hb7⟩
              have HP7 := Lib.hid (HP6.out.quiet hb7)
              clear hb7 HP6
              go_wp2_with fail
              go_roundg (gk - 1)
              case measure => omega
              case rel => exact ⟨i + 1, T2, by omega, by go_num, hfew2, HI2, HP7⟩
            · have hwz : (way == 1) = false := by simp [hway]
              have hD := fun wx (H : Two wB wx t rt T T) => H.put ⟨⟨kh, kl, kn⟩, kv⟩ HI.out HGD.out hNl
              have hF := fun wx (H : Two wB wx t rt (putF 16 T ⟨⟨kh, kl, kn⟩, kv⟩) T) => H.rput ⟨⟨kh, kl, kn⟩, kv⟩ HI.out HGD.out hNl
              have HI2 := Lib.hid (putF_ok 16 T ⟨⟨kh, kl, kn⟩, kv⟩ HI.out HGD.out).inv
              have hfew2 := put_few HI.out (r := ⟨⟨kh, kl, kn⟩, kv⟩) HGD.out
              obtain ⟨T2, hT2⟩ : ∃ T2, T2 = putF 16 T ⟨⟨kh, kl, kn⟩, kv⟩ := ⟨_, rfl⟩
              rw [← hT2] at hD hF HI2 hfew2
              unfold kyV at hD hF
              have HD := Lib.hid hD
              have HF := Lib.hid hF
              have hfew2 : (contT T2).length ≤ i + 1 := by omega
              clear hD hF hT2 hway hNl HGD hfew HI
              go_wp2_with fail
              have kg := cell_grow
              refine region_tail 11 (by kernel_rfl) (by kernel_rfl) ?_
              simp only [List.take_succ_cons, List.take_zero, List.drop_succ_cons, List.drop_zero]
              repeat (any_goals (first | go_big_quiet_step (fail) | quiet_step (fail)))
              refine wpQuiet_nil ?_
              clear kg
              intro w3 hb3
              obtain ⟨hc3, hf3⟩ := bcell hb3
              have HP3 := Lib.hid (HP.out.quiet hb3)
              clear hb3 HP e0 e1 e2 e3 e4 hgr
              go_wp2_with fail
              refine (HD.out _ HP3.out).mono ?_
              rintro e w4 ⟨rfl, P4⟩
              have HP4 := Lib.hid P4
              obtain ⟨e0, e1, e2, e3, e4, hgr⟩ := HW.out _ P4.below
              clear P4 HP3 HD
              go_wp2_with fail
              have kg := cell_grow
              refine region_tail 11 (by kernel_rfl) (by kernel_rfl) ?_
              simp only [List.take_succ_cons, List.take_zero, List.drop_succ_cons, List.drop_zero]
              repeat (any_goals (first | go_big_quiet_step (fail) | quiet_step (fail)))
              refine wpQuiet_nil ?_
              clear kg
              intro w5 hb5
              obtain ⟨hc5, hf5⟩ := bcell hb5
              have HP9 := Lib.hid (HP4.out.quiet hb5)
              clear hb5 HP4 e0 e1 e2 e3 e4 hgr
              go_wp2_with fail
              refine (HF.out _ HP9.out).mono ?_
              rintro e w9 ⟨rfl, P9⟩
              have HP5 := Lib.hid P9
              clear P9 HP9 HF
              go_wp2_with fail
              refine HP5.out.size.mono ?_
              rintro e w6 ⟨rfl, hb6⟩
              have HP6 := Lib.hid (HP5.out.quiet hb6)
              clear hb6 HP5
              go_wp2_with fail
              refine HP6.out.rsize.mono ?_
              rintro e w7 ⟨rfl, hb7⟩
              have HP7 := Lib.hid (HP6.out.quiet hb7)
              clear hb7 HP6
              go_wp2_with fail
              go_roundg (gk - 1)
              case measure => omega
              case rel => exact ⟨i + 1, T2, by omega, by go_num, hfew2, HI2, HP7⟩
          · have i1 : ¬ ((i : Int) < (A.length : Int)) := by omega
            have hAL := fun wx (H : Two wB wx t rt T T) => H.all HI.out hNl
            have hRA := fun wx (H : Two wB wx t rt T T) => H.rall HI.out hNl
            have hLE := fun wx (H : Two wB wx t rt T T) => H.len
            have hlen := all_len HI.out
            have hag := all_good HI.out
            obtain ⟨N, hN⟩ : ∃ N, N = allT T := ⟨_, rfl⟩
            rw [← hN] at hAL hRA hlen hag
            rw [← hlen] at hLE
            have hNn : N.length ≤ 262144 := by omega
            obtain ⟨pr, hpr⟩ : ∃ pr : Rt, pr = ⟨⟨ph, pl, pn⟩, 0⟩ := ⟨_, rfl⟩
            obtain ⟨KS, hKS⟩ : ∃ KS, KS = N ++ [pr] := ⟨_, rfl⟩
            have hKG : Hid (∀ r ∈ KS, r.k.good) := by
              intro r hr
              rw [hKS, List.mem_append] at hr
              rcases hr with hr | hr
              · exact hag r hr
              · rw [List.mem_singleton] at hr
                rw [hr, hpr]
                exact HPG.out
            have HKG := hKG
            have hKL : KS.length ≤ 262145 := by rw [hKS, List.length_append]; simp; omega
            have HKSE := Lib.hid hKS
            have HAL := Lib.hid hAL
            have HRA := Lib.hid hRA
            have HLE := Lib.hid hLE
            clear hAL hRA hLE hlen hag hN hKS hKG
            go_wp2_with fail
            refine (HRA.out _ HP.out).mono ?_
            rintro e w5 ⟨p5, c5, rfl, ho5, hb5⟩
            have HP5 := Lib.hid (HP.out.quiet hb5)
            have HO5 := Lib.hid ho5
            clear ho5 hb5 HP HRA
            go_wp2_with fail
            refine (HAL.out _ HP5.out).mono ?_
            rintro e w6 ⟨p6, c6, rfl, hr6, hb6⟩
            have HP6 := Lib.hid (HP5.out.quiet hb6)
            have HO6 := Lib.hid (own_below HO5.out hb6)
            have HR6 := Lib.hid hr6
            clear hr6 hb6 HP5 HO5 HAL
            go_wp2_with fail
            refine (sameR_any p6 p5 c6 c5 N N _ HR6.out (Row.of_own HO6.out) (by omega) (by omega)).mono ?_
            rintro e w7 ⟨rfl, hb7⟩
            have HP7 := Lib.hid (HP6.out.quiet hb7)
            have HO7 := Lib.hid (own_below HO6.out hb7)
            rw [decide_eq_true rfl]
            clear hb7 HP6 HO6 HR6
            go_wp2_with fail
            refine (HLE.out _ HP7.out).mono ?_
            rintro e w8 ⟨rfl, hb8⟩
            have HP8 := Lib.hid (HP7.out.quiet hb8)
            have HO8 := Lib.hid (own_below HO7.out hb8)
            clear hb8 HP7 HO7 HLE
            obtain ⟨q0, q1, q2, hqz⟩ := HQ.out _ HP8.out.below
            go_wp2_with fail
            have kg := cell_grow
            refine wp_region_noPanic ?_
            generalize hNQ : NoPanic _ = NQ
            refine region_pairC [0] [2, 3] 1 4 [5, 6] (by kernel_rfl) (by rw [← hNQ]; exact fun _ _ _ h => h) (by kernel_rfl) (by kernel_rfl) ?_
            simp only [pickL, List.filterMap_cons, List.filterMap_nil, List.getElem?_toArray, List.getElem?_cons_succ, List.getElem?_cons_zero]
            repeat (any_goals (quiet_step (fail)))
            refine wpQuiet_nil ?_
            clear kg q0 q1 q2
            intro w9 hb9
            have HO9 := Lib.hid (own_below HO8.out hb9)
            clear HO8
            refine ⟨?_, ?_⟩
            · intro K hK o ho
              injection ho with ho
              subst ho
              refine wp_append_nil (.tmp 162) rfl w8.heap.size _ _ N rfl HO9.out (by omega) hb9.size ?_
              intro v6 w6 hown6 hg6
              have hb6 : Below w8.heap.size w8 w6 := hb9.grown hg6 hb9.size (fun k e => by cases e)
              refine hK _ _ hb6 ?_
              clear hK K
              intro K hK o ho
              injection ho with ho
              subst ho
              go_simp
              refine hK _ _ (hb6.alloc hb6.size _) ?_
              clear hK K
              simp only [pickL, List.filterMap_cons, List.filterMap_nil, List.getElem?_toArray, List.getElem?_cons_succ, List.getElem?_cons_zero]
              have hb7 := hb6.alloc hb6.size (.cells (rcell pr).toArray 48)
              have hX := cells_at (heap_alloc_new w6 (.cells (rcell pr).toArray 48)) 0 (rcell pr) (by simp [rcell])
              have hO7 := hown6.alloc (.cells (rcell pr).toArray 48)
              subst hpr
              change wpList _ _ _ _ _ (w6.alloc (.cells (rcell ⟨⟨ph, pl, pn⟩, 0⟩).toArray 48))
              generalize hpr : (⟨⟨ph, pl, pn⟩, 0⟩ : Rt) = pr at *
              generalize World.alloc w6 _ = w7 at *
              obtain ⟨i0, hi0, iz0, iz1, iz2⟩ := info_parts infoR
              refine wpList_append_own_at _ rfl (.tmp 163) (.tmp 166) 43 rfl w8.heap.size 48 i0 _ 4 32 Try.underlying43 hi0 iz0 iz1 iz2 rfl (by decide) _ _ _ rfl hO7 ⟨w6.heap.size, 0, none⟩ 1 1 (rcell pr) rfl rfl hX (by simp [rcell, Value.oneCell']) (by unfold maxLen; omega) (by omega) hb7.size ?_
              intro v10 w10 hown8 hg8 _ hat8
              have hown9 := own_rsnoc (L := N) hown8 rfl
              have hw10 : Below w8.heap.size w8 w10 := hb7.grown hg8 hb7.size (fun k e => (hO7.lt k e).1)
              rw [← HKSE.out] at hown9
              obtain ⟨p9, c9, rfl⟩ := own_slice hown9
              clear hown8 hg8 hat8 hO7 hX hb7
              go_wp2_with fail
              rw [← hNQ]
              refine NoPanic.normal ?_
              clear hNQ
              have HP10 := Lib.hid (HP8.out.quiet hw10)
              have HKS := Lib.hid hown9
              clear hw10 hown9 HP8
              go_wp2_with fail
              go_loopg [23, 24, 25, 26, 27, 28, 29] KS.length (fun gk s23 s24 s25 s26 s27 s28 s29 wr => ∃ k : Nat, gk + k = KS.length ∧ s23 = .int .i64 (k : Int) ∧ Hid (Two wB wr t rt T T) ∧ Hid (wr.ownsRow w8.heap.size 48 4 (.slice p9 KS.length c9) KS.length (rcs KS)))
              case atStart => exact ⟨0, by omega, rfl, HP10, HKS⟩
              case round =>
                clear HP10 HKS
                obtain ⟨k, hk, rfl, HP, HKS⟩ := hrel
                by_cases hkl : k < KS.length
                · obtain ⟨gr, or, rfl, hgr, r0, r1, r2, r3⟩ := (Row.of_own HKS.out).rt hkl
                  have hgd := HKG.out KS[k] (List.getElem_mem hkl)
                  generalize KS[k] = r at *
                  have hG := fun wx (H : Two wB wx t rt T T) => H.get r.k HI.out hgd hNl
                  have hRG := fun wx (H : Two wB wx t rt T T) => H.rget r.k HI.out hgd hNl
                  have hrl := read_len T r.k
                  obtain ⟨gv, hgv⟩ : ∃ x, x = (getT T r.k).getD 0 := ⟨_, rfl⟩
                  obtain ⟨gs, hgs⟩ : ∃ x, x = (getT T r.k).isSome := ⟨_, rfl⟩
                  obtain ⟨rl, hrl2⟩ : ∃ x, x = readT T r.k := ⟨_, rfl⟩
                  rw [← hgv, ← hgs, ← hrl2] at hG hRG
                  rw [← hrl2] at hrl
                  unfold kyV at hG hRG
                  have HG := Lib.hid hG
                  have HRG := Lib.hid hRG
                  clear hG hRG hgv hgs hrl2 hgd
                  have i1 : (k : Int) < (KS.length : Int) := by omega
                  go_wp2_with fail
                  refine (HG.out _ HP.out).mono ?_
                  rintro e w11 ⟨p11, c11, rfl, ho11, hb11⟩
                  have HP11 := Lib.hid (HP.out.quiet hb11)
                  have HK11 := Lib.hid (own_below HKS.out hb11)
                  have r0 := (hb11.cell (p := ⟨gr, or + k * 4, none⟩) hgr).trans r0
                  have r1 := (hb11.cell (p := ⟨gr, or + k * 4 + 1, none⟩) hgr).trans r1
                  have r2 := (hb11.cell (p := ⟨gr, or + k * 4 + 2, none⟩) hgr).trans r2
                  have hgr11 := Nat.lt_of_lt_of_le hgr hb11.size
                  have HO11 := Lib.hid ho11
                  clear hb11 HP HKS HG ho11 r3 hgr
                  go_wp2_with fail
                  refine (HRG.out _ HP11.out).mono ?_
                  rintro e w12 ⟨p12, c12, rfl, ho12, hb12⟩
                  have HP12 := Lib.hid (HP11.out.quiet hb12)
                  have HK12 := Lib.hid (own_below HK11.out hb12)
                  have HO12 := Lib.hid (own_below HO11.out hb12)
                  have HO13 := Lib.hid ho12
                  clear hb12 HP11 HK11 HRG HO11 ho12 r0 r1 r2 hgr11
                  go_wp2_with fail
                  refine (samei_any p11 p12 c11 c12 rl rl _ (by omega) (by omega) (IRow.of_own HO12.out) (IRow.of_own HO13.out)).mono ?_
                  rintro e w13 ⟨rfl, hb13⟩
                  have HP13 := Lib.hid (HP12.out.quiet hb13)
                  have HK13 := Lib.hid (own_below HK12.out hb13)
                  rw [decide_eq_true rfl]
                  clear hb13 HP12 HK12 HO12 HO13
                  go_wp2_with fail
                  go_roundg (gk - 1)
                  case measure => omega
                  case rel => exact ⟨k + 1, by omega, by go_num, HP13, HK13⟩
                · have i1 : ¬ ((k : Int) < (KS.length : Int)) := by omega
                  go_wp2
                  go_ret
                  exact ⟨rfl, hB.trans (HP.out.below.mono hB.size)⟩
            · intro K hK o ho
              injection ho with ho
              subst ho
              go_simp
              refine hK _ _ (hb9.alloc hb9.size _) ?_
              clear hK K
              intro K hK o ho
              injection ho with ho
              subst ho
              have hb6 := hb9.alloc hb9.size (.cells (rcell pr).toArray 48)
              have hg6 : (w9.alloc (.cells (rcell pr).toArray 48)).heap[w9.heap.size]? = some (.cells (rcell pr).toArray 48 (0, 0)) := heap_alloc_new w9 _
              have hs6 : w9.heap.size < (w9.alloc (.cells (rcell pr).toArray 48)).heap.size := by simp
              have hO6 := HO9.out.alloc (.cells (rcell pr).toArray 48)
              subst hpr
              change Oper.wp _ _ _ (w9.alloc (.cells (rcell ⟨⟨ph, pl, pn⟩, 0⟩).toArray 48)) _ _
              generalize hpr : (⟨⟨ph, pl, pn⟩, 0⟩ : Rt) = pr at *
              generalize World.alloc w9 _ = w6 at *
              refine wp_append_nil (.tmp 162) rfl w8.heap.size _ _ N rfl hO6 (by omega) hb6.size ?_
              intro v6 w7 hO7 hg7
              have hb7 : Below w8.heap.size w8 w7 := hb6.grown hg7 hb6.size (fun k e => by cases e)
              have hX := cells_at ((hg7.block w9.heap.size hs6 (by simp)).trans hg6) 0 (rcell pr) (by simp [rcell])
              refine hK _ _ hb7 ?_
              clear hK K hg6 hs6 hO6 hg7 hb6
              simp only [pickL, List.filterMap_cons, List.filterMap_nil, List.getElem?_toArray, List.getElem?_cons_succ, List.getElem?_cons_zero]
              obtain ⟨i0, hi0, iz0, iz1, iz2⟩ := info_parts infoR
              refine wpList_append_own_at _ rfl (.tmp 163) (.tmp 166) 43 rfl w8.heap.size 48 i0 _ 4 32 Try.underlying43 hi0 iz0 iz1 iz2 rfl (by decide) _ _ _ rfl hO7 ⟨w9.heap.size, 0, none⟩ 1 1 (rcell pr) rfl rfl hX (by simp [rcell, Value.oneCell']) (by unfold maxLen; omega) (by omega) hb7.size ?_
              intro v10 w10 hown8 hg8 _ hat8
              have hown9 := own_rsnoc (L := N) hown8 rfl
              have hw10 : Below w8.heap.size w8 w10 := hb7.grown hg8 hb7.size (fun k e => (hO7.lt k e).1)
              rw [← HKSE.out] at hown9
              obtain ⟨p9, c9, rfl⟩ := own_slice hown9
              clear hown8 hg8 hat8 hO7 hX hb7
              go_wp2_with fail
              rw [← hNQ]
              refine NoPanic.normal ?_
              clear hNQ
              have HP10 := Lib.hid (HP8.out.quiet hw10)
              have HKS := Lib.hid hown9
              clear hw10 hown9 HP8
              go_wp2_with fail
              go_loopg [23, 24, 25, 26, 27, 28, 29] KS.length (fun gk s23 s24 s25 s26 s27 s28 s29 wr => ∃ k : Nat, gk + k = KS.length ∧ s23 = .int .i64 (k : Int) ∧ Hid (Two wB wr t rt T T) ∧ Hid (wr.ownsRow w8.heap.size 48 4 (.slice p9 KS.length c9) KS.length (rcs KS)))
              case atStart => exact ⟨0, by omega, rfl, HP10, HKS⟩
              case round =>
                clear HP10 HKS
                obtain ⟨k, hk, rfl, HP, HKS⟩ := hrel
                by_cases hkl : k < KS.length
                · obtain ⟨gr, or, rfl, hgr, r0, r1, r2, r3⟩ := (Row.of_own HKS.out).rt hkl
                  have hgd := HKG.out KS[k] (List.getElem_mem hkl)
                  generalize KS[k] = r at *
                  have hG := fun wx (H : Two wB wx t rt T T) => H.get r.k HI.out hgd hNl
                  have hRG := fun wx (H : Two wB wx t rt T T) => H.rget r.k HI.out hgd hNl
                  have hrl := read_len T r.k
                  obtain ⟨gv, hgv⟩ : ∃ x, x = (getT T r.k).getD 0 := ⟨_, rfl⟩
                  obtain ⟨gs, hgs⟩ : ∃ x, x = (getT T r.k).isSome := ⟨_, rfl⟩
                  obtain ⟨rl, hrl2⟩ : ∃ x, x = readT T r.k := ⟨_, rfl⟩
                  rw [← hgv, ← hgs, ← hrl2] at hG hRG
                  rw [← hrl2] at hrl
                  unfold kyV at hG hRG
                  have HG := Lib.hid hG
                  have HRG := Lib.hid hRG
                  clear hG hRG hgv hgs hrl2 hgd
                  have i1 : (k : Int) < (KS.length : Int) := by omega
                  go_wp2_with fail
                  refine (HG.out _ HP.out).mono ?_
                  rintro e w11 ⟨p11, c11, rfl, ho11, hb11⟩
                  have HP11 := Lib.hid (HP.out.quiet hb11)
                  have HK11 := Lib.hid (own_below HKS.out hb11)
                  have r0 := (hb11.cell (p := ⟨gr, or + k * 4, none⟩) hgr).trans r0
                  have r1 := (hb11.cell (p := ⟨gr, or + k * 4 + 1, none⟩) hgr).trans r1
                  have r2 := (hb11.cell (p := ⟨gr, or + k * 4 + 2, none⟩) hgr).trans r2
                  have hgr11 := Nat.lt_of_lt_of_le hgr hb11.size
                  have HO11 := Lib.hid ho11
                  clear hb11 HP HKS HG ho11 r3 hgr
                  go_wp2_with fail
                  refine (HRG.out _ HP11.out).mono ?_
                  rintro e w12 ⟨p12, c12, rfl, ho12, hb12⟩
                  have HP12 := Lib.hid (HP11.out.quiet hb12)
                  have HK12 := Lib.hid (own_below HK11.out hb12)
                  have HO12 := Lib.hid (own_below HO11.out hb12)
                  have HO13 := Lib.hid ho12
                  clear hb12 HP11 HK11 HRG HO11 ho12 r0 r1 r2 hgr11
                  go_wp2_with fail
                  refine (samei_any p11 p12 c11 c12 rl rl _ (by omega) (by omega) (IRow.of_own HO12.out) (IRow.of_own HO13.out)).mono ?_
                  rintro e w13 ⟨rfl, hb13⟩
                  have HP13 := Lib.hid (HP12.out.quiet hb13)
                  have HK13 := Lib.hid (own_below HK12.out hb13)
                  rw [decide_eq_true rfl]
                  clear hb13 HP12 HK12 HO12 HO13
                  go_wp2_with fail
                  go_roundg (gk - 1)
                  case measure => omega
                  case rel => exact ⟨k + 1, by omega, by go_num, HP13, HK13⟩
                · have i1 : ¬ ((k : Int) < (KS.length : Int)) := by omega
                  go_wp2
                  go_ret
                  exact ⟨rfl, hB.trans (HP.out.below.mono hB.size)⟩
end Go.Proofs.Ytlglppfkpieabaa
