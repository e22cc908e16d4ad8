/-
  sort.choosePivot_func, at a test that may make blocks of its own. No condition but those that stand in each.
-/
import Derived.Test.YtoihkbanmnagkaaGreatSort3
set_option linter.unusedSimpArgs false
set_option linter.unusedVariables false
namespace Go.Proofs.YtoihkbanmnagkaaGreat
open Go.RowKit Go.Sort M

section
variable {α : Type} [Inhabited α] {enc : α → List Value} {k : Nat} {w0 : World} {blk off n : Nat} {lt : α → α → Bool} {g : Nat} {lb : Array Value} {sfn : Fn} {sa sb : Array Value}
def hintN : Hint → Nat
  | .unknown => 0
  | .increasing => 1
  | .decreasing => 2
def hintOf (s : Nat) : Hint := if s = 0 then .increasing else if s = 12 then .decreasing else .unknown
set_option maxHeartbeats 1000000 in
set_option maxRecDepth 100000 in
theorem pivot_any (eg : ∀ args w, (callFunc g args).run Tryz.prog w = .ok (.enter g args) w) (hL : LessB g lb enc k lt w0 blk off n) (hn : n < 4611686018427387904)
    (a b l : Nat) (hl0 : 0 < l) (hab : a + l = b) (hb : b ≤ n) (d : Array α) (W : World) (S : Srt enc k w0 blk off n d W) :
    Calls Tryz.prog 123 #[.agg #[.func (.func g) #[] lb, .func sfn sa sb], .int .i64 (a : Int), .int .i64 (b : Int)] W fun e w' =>
      e = .returned (.tuple #[.int .i64 ((choosePivot lt d a b).1 : Nat), .int .i64 (hintN (choosePivot lt d a b).2 : Nat)]) ∧ RowKit.Below W.heap.size W w' := by
  have HA := Lib.hid (fun a s cb ha1 ha2 hs hcb W S K => medAdj_any (sfn := sfn) (sa := sa) (sb := sb) eg hL hn a s cb ha1 ha2 hs hcb d W S K)
  have HM := Lib.hid (fun a b c s cb ha hb hc hs hcb W S K => median_any (sfn := sfn) (sa := sa) (sb := sb) eg hL a b c s cb ha hb hc hs hcb d W S K)
  have hS := Lib.hid S
  clear S hL
  obtain ⟨q, hq⟩ : ∃ q, q = l / 4 := ⟨_, rfl⟩
  have hq4 : (l : Int) / 4 = (q : Int) := by rw [hq]; rfl
  have hsub : (b : Int) - (a : Int) = (l : Int) := by omega
  have hsub2 : b - a = l := by omega
  have hql : 4 * q ≤ l := by omega
  by_cases h8 : 8 ≤ l
  · by_cases h50 : 50 ≤ l
    · obtain ⟨ri, ei⟩ : ∃ r, r = medianAdjacent lt d (a + q * 1) 0 := ⟨_, rfl⟩
      obtain ⟨rj, ej⟩ : ∃ r, r = medianAdjacent lt d (a + q * 2) ri.2 := ⟨_, rfl⟩
      obtain ⟨rk, ek⟩ : ∃ r, r = medianAdjacent lt d (a + q * 3) rj.2 := ⟨_, rfl⟩
      obtain ⟨rm, em⟩ : ∃ r, r = median lt d ri.1 rj.1 rk.1 rk.2 := ⟨_, rfl⟩
      have e0 : choosePivot lt d a b = (rm.1, hintOf rm.2) := by
        unfold choosePivot
        simp only [hsub2]
        rw [if_pos (show l ≥ 8 from h8), if_pos (show l ≥ 50 from h50), ← hq]
        simp only [← ei]
        simp only [← ej]
        simp only [← ek]
        simp only [← em]
        rfl
      rw [e0]
      have li : ri.1 < n ∧ ri.2 ≤ 0 + 3 := by rw [ei]; exact med_lt lt d 0 (by omega) (by omega) (by omega)
      have lj : rj.1 < n ∧ rj.2 ≤ ri.2 + 3 := by rw [ej]; exact med_lt lt d _ (by omega) (by omega) (by omega)
      have lk : rk.1 < n ∧ rk.2 ≤ rj.2 + 3 := by rw [ek]; exact med_lt lt d _ (by omega) (by omega) (by omega)
      have EI := Lib.hid ei
      have EJ := Lib.hid ej
      have EK := Lib.hid ek
      have EM := Lib.hid em
      clear e0 hq hsub2 hab ei ej ek em
      obtain ⟨mi, si⟩ := ri
      obtain ⟨mj, sj⟩ := rj
      obtain ⟨mk, sk⟩ := rk
      obtain ⟨mm, s⟩ := rm
      simp only at li lj lk
      obtain ⟨li, li2⟩ := li
      obtain ⟨lj, lj2⟩ := lj
      obtain ⟨lk, lk2⟩ := lk
      have h8z : (8 : Int) ≤ (l : Int) := by omega
      have h50z : (50 : Int) ≤ (l : Int) := by omega
      go_enter Tryz.func123, Tryz.ntmps123
      go_wp2_with fail
      have hw1 : RowKit.Below W.heap.size W ((W.alloc (.cells #[.func (.func g) #[] lb, .func sfn sa sb] 148)).alloc (.cells #[.int .i64 0] 3)) := by go_grown
      have S1 := hS.out.below hw1
      have K1 : Ctr (W.heap.size + 1) 0 ((W.alloc (.cells #[.func (.func g) #[] lb, .func sfn sa sb] 148)).alloc (.cells #[.int .i64 0] 3)) := ⟨by simp [go_sem], by simp [go_sem], by simp⟩
      have B1 : Bxd (.func (.func g) #[] lb) (.func sfn sa sb) W.heap.size (W.heap.size + 1) ((W.alloc (.cells #[.func (.func g) #[] lb, .func sfn sa sb] 148)).alloc (.cells #[.int .i64 0] 3)) := ⟨by simp, by simp, by simp; omega, by omega⟩
      have hcb : w0.heap.size ≤ W.heap.size + 1 := by have := hS.out.touch.size; omega
      have hc := HA.out (a + q * 1) 0 (W.heap.size + 1) (by omega) (by omega) (by omega) hcb _ S1 K1
      rw [show ((a + q * 1 : Nat) : Int) = (a : Int) + (q : Int) by omega] at hc
      refine hc.mono ?_
      clear hc
      rw [← EI.out]
      rintro e w2 ⟨rfl, hT2, K2⟩
      have S2 := S1.moved hT2 (by rintro j rfl; exact hcb)
      have B2 := B1.touch hT2
      have c0 := B2.c0
      have c1 := B2.c1
      have hbl := B2.lt
      have HT2 := Lib.hid ((Touch.quiet (S := (· = W.heap.size + 1)) hw1).trans hT2)
      clear S1 K1 B1 hT2 hw1
      go_wp2_with fail
      have hc := HA.out (a + q * 2) si (W.heap.size + 1) (by omega) (by omega) (by omega) hcb _ S2 K2
      rw [show ((a + q * 2 : Nat) : Int) = (a : Int) + (q : Int) * 2 by omega] at hc
      refine hc.mono ?_
      clear hc
      rw [← EJ.out]
      rintro e w3 ⟨rfl, hT3, K3⟩
      have S3 := S2.moved hT3 (by rintro j rfl; exact hcb)
      have B3 := B2.touch hT3
      have c0 := B3.c0
      have c1 := B3.c1
      have hbl := B3.lt
      have HT3 := Lib.hid (HT2.out.trans hT3)
      clear S2 K2 B2 hT3 HT2
      go_wp2_with fail
      have hc := HA.out (a + q * 3) sj (W.heap.size + 1) (by omega) (by omega) (by omega) hcb _ S3 K3
      rw [show ((a + q * 3 : Nat) : Int) = (a : Int) + (q : Int) * 3 by omega] at hc
      refine hc.mono ?_
      clear hc
      rw [← EK.out]
      rintro e w4 ⟨rfl, hT4, K4⟩
      have S4 := S3.moved hT4 (by rintro j rfl; exact hcb)
      have B4 := B3.touch hT4
      have c0 := B4.c0
      have c1 := B4.c1
      have hbl := B4.lt
      have HT4 := Lib.hid (HT3.out.trans hT4)
      clear S3 K3 B3 hT4 HT3
      go_wp2_with fail
      have hc := HM.out mi mj mk sk (W.heap.size + 1) (by omega) (by omega) (by omega) (by omega) hcb _ S4 K4
      refine hc.mono ?_
      clear hc
      rw [← EM.out]
      rintro e w5 ⟨rfl, hT5, K5⟩
      have S5 := S4.moved hT5 (by rintro j rfl; exact hcb)
      have B5 := B4.touch hT5
      have c0 := B5.c0
      have c1 := B5.c1
      have hbl := B5.lt
      have HT := Lib.hid (HT4.out.trans hT5)
      have K := K5
      clear S4 K4 B4 hT5 HT4 S5 B5 K5 c0 c1 hbl
      have HB : Hid (RowKit.Below W.heap.size W w5) := Lib.hid (HT.out.below (Nat.le_refl _) (fun j e => by omega))
      have k0 := K.c
      have kl := K.lt
      clear HT
      by_cases s0 : s = 0
      · have z1 : ((s : Int) == 0) = true := by simp; omega
        go_wp2
        go_ret2
        refine ⟨?_, HB.out⟩
        rw [show hintOf s = .increasing by simp [hintOf, s0]]
        rfl
      · have z1 : ((s : Int) == 0) = false := by simp; omega
        by_cases s1 : s = 12
        · have z2 : ((s : Int) == 12) = true := by simp; omega
          go_wp2
          go_ret2
          refine ⟨?_, HB.out⟩
          rw [show hintOf s = .decreasing by simp [hintOf, s1]]
          rfl
        · have z2 : ((s : Int) == 12) = false := by simp; omega
          go_wp2
          go_ret2
          refine ⟨?_, HB.out⟩
          rw [show hintOf s = .unknown by simp [hintOf, s0, s1]]
          rfl
    · obtain ⟨rm, em⟩ : ∃ r, r = median lt d (a + q * 1) (a + q * 2) (a + q * 3) 0 := ⟨_, rfl⟩
      have e0 : choosePivot lt d a b = (rm.1, hintOf rm.2) := by
        unfold choosePivot
        simp only [hsub2]
        rw [if_pos (show l ≥ 8 from h8), if_neg (show ¬ l ≥ 50 from h50), ← hq]
        simp only [← em]
        rfl
      rw [e0]
      have EM := Lib.hid em
      clear e0 hq hsub2 hab em
      obtain ⟨mm, s⟩ := rm
      have h8z : (8 : Int) ≤ (l : Int) := by omega
      have h50z : ¬ (50 : Int) ≤ (l : Int) := by omega
      go_enter Tryz.func123, Tryz.ntmps123
      go_wp2_with fail
      have hw1 : RowKit.Below W.heap.size W ((W.alloc (.cells #[.func (.func g) #[] lb, .func sfn sa sb] 148)).alloc (.cells #[.int .i64 0] 3)) := by go_grown
      have S1 := hS.out.below hw1
      have K1 : Ctr (W.heap.size + 1) 0 ((W.alloc (.cells #[.func (.func g) #[] lb, .func sfn sa sb] 148)).alloc (.cells #[.int .i64 0] 3)) := ⟨by simp [go_sem], by simp [go_sem], by simp⟩
      have B1 : Bxd (.func (.func g) #[] lb) (.func sfn sa sb) W.heap.size (W.heap.size + 1) ((W.alloc (.cells #[.func (.func g) #[] lb, .func sfn sa sb] 148)).alloc (.cells #[.int .i64 0] 3)) := ⟨by simp, by simp, by simp; omega, by omega⟩
      have hcb : w0.heap.size ≤ W.heap.size + 1 := by have := hS.out.touch.size; omega
      have hc := HM.out (a + q * 1) (a + q * 2) (a + q * 3) 0 (W.heap.size + 1) (by omega) (by omega) (by omega) (by omega) hcb _ S1 K1
      rw [show ((a + q * 1 : Nat) : Int) = (a : Int) + (q : Int) by omega, show ((a + q * 2 : Nat) : Int) = (a : Int) + (q : Int) * 2 by omega, show ((a + q * 3 : Nat) : Int) = (a : Int) + (q : Int) * 3 by omega] at hc
      refine hc.mono ?_
      clear hc
      rw [← EM.out]
      rintro e w2 ⟨rfl, hT2, K2⟩
      have S2 := S1.moved hT2 (by rintro j rfl; exact hcb)
      have B2 := B1.touch hT2
      have c0 := B2.c0
      have c1 := B2.c1
      have hbl := B2.lt
      have HT := Lib.hid ((Touch.quiet (S := (· = W.heap.size + 1)) hw1).trans hT2)
      have K := K2
      clear S1 K1 B1 hT2 S2 B2 K2 c0 c1 hbl hw1
      have HB : Hid (RowKit.Below W.heap.size W w2) := Lib.hid (HT.out.below (Nat.le_refl _) (fun j e => by omega))
      have k0 := K.c
      have kl := K.lt
      clear HT
      by_cases s0 : s = 0
      · have z1 : ((s : Int) == 0) = true := by simp; omega
        go_wp2
        go_ret2
        refine ⟨?_, HB.out⟩
        rw [show hintOf s = .increasing by simp [hintOf, s0]]
        rfl
      · have z1 : ((s : Int) == 0) = false := by simp; omega
        by_cases s1 : s = 12
        · have z2 : ((s : Int) == 12) = true := by simp; omega
          go_wp2
          go_ret2
          refine ⟨?_, HB.out⟩
          rw [show hintOf s = .decreasing by simp [hintOf, s1]]
          rfl
        · have z2 : ((s : Int) == 12) = false := by simp; omega
          go_wp2
          go_ret2
          refine ⟨?_, HB.out⟩
          rw [show hintOf s = .unknown by simp [hintOf, s0, s1]]
          rfl
  · have e0 : choosePivot lt d a b = (a + q * 2, hintOf 0) := by
      unfold choosePivot
      simp only [hsub2]
      rw [if_neg (by omega), hq]
      rfl
    rw [e0]
    clear e0 hq hsub2 hab
    go_enter Tryz.func123, Tryz.ntmps123
    go_wp2
    go_ret2
    exact ⟨rfl, by go_grown⟩
end
end Go.Proofs.YtoihkbanmnagkaaGreat
