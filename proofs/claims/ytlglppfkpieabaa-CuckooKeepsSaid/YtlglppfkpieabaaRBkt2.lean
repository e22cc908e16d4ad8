/-
  Put and Take of the reference's bucket: what they hand back, and what it is then. No condition but that its cells lie in memory.
-/
import Derived.Test.YtlglppfkpieabaaTouch0
set_option linter.unusedSimpArgs false
set_option linter.unusedVariables false
namespace Go.Proofs.Ytlglppfkpieabaa
open Go.RowKit Go.Sort M

/-- The first place of a kind from number j on, or -1. -/
def fromI (p : Pl → Bool) (C : List Pl) (j : Nat) : Int :=
  match (C.drop j).findIdx? p with
  | some i => ((j + i : Nat) : Int)
  | none => -1
theorem fromI_end {p : Pl → Bool} {C : List Pl} {j : Nat} (h : C.length ≤ j) : fromI p C j = -1 := by
  unfold fromI
  rw [List.drop_of_length_le h]
  rfl
theorem fromI_step {p : Pl → Bool} {C : List Pl} {j : Nat} (h : j < C.length) : fromI p C j = if p C[j] = true then (j : Int) else fromI p C (j + 1) := by
  unfold fromI
  rw [List.drop_eq_getElem_cons h, List.findIdx?_cons]
  cases e : p C[j]
  · simp only [Bool.false_eq_true, if_false]
    cases (C.drop (j + 1)).findIdx? p with
    | none => rfl
    | some i => show ((j + (i + 1) : Nat) : Int) = ((j + 1 + i : Nat) : Int); omega
  · simp
theorem fromI_zero (p : Pl → Bool) (C : List Pl) : fromI p C 0 = idxI p C := by
  unfold fromI idxI
  rw [List.drop_zero]
  cases C.findIdx? p with
  | none => rfl
  | some i => show ((0 + i : Nat) : Int) = i; omega
theorem four_drew {w : World} {g p : Nat} {x : Pl} (hl : g < w.heap.size) (h : Four w g p x) : Four w.drew g p x := by
  have hb : Below w.heap.size w w.drew := by go_grown
  obtain ⟨a, b, c, d⟩ := h
  exact ⟨(hb.cell (p := ⟨g, p, none⟩) hl).trans a, (hb.cell (p := ⟨g, p + 1, none⟩) hl).trans b, (hb.cell (p := ⟨g, p + 2, none⟩) hl).trans c, (hb.cell (p := ⟨g, p + 3, none⟩) hl).trans d⟩
theorem on_set {w : World} {g p : Nat} {u v : Value} (h : w.cell? ⟨g, p, none⟩ = some u) : (w.setCell ⟨g, p, none⟩ v).cell? ⟨g, p, none⟩ = some v := World.cell?_setCell_same _ _ _ h
theorem RBk.put_drew {w w1 : World} {g o : Nat} {C : List Pl} (H : RBk w g o C) (hb : Below w.heap.size w w1) {i : Nat} (hi : i < C.length) (x : Pl) :
    RBk (((put4 w1 g (o + i * 4) x).drew).setCell ⟨g, o + 16 + i, none⟩ (.bool x.isSome)) g o (C.set i x) ∧ Turn w (((put4 w1 g (o + i * 4) x).drew).setCell ⟨g, o + 16 + i, none⟩ (.bool x.isSome)) g o 20 := by
  have H1 := H.below hb
  have h4 := H.four
  have t1 := turn_put4 w1 g (o + i * 4) x
  have hl : g < (put4 w1 g (o + i * 4) x).heap.size := Nat.lt_of_lt_of_le H1.lt t1.grown.size
  have t2 := t1.drew H1.lt
  have := H1.turned hi x t2 (four_drew hl (four_put x (H1.rt i hi))) (turn_one _ g (o + 16 + i) 1 (o + 16 + i) _ (Nat.le_refl _) (by omega)) (on_set ((t2.cell _ (by omega)).trans (H1.on i hi)))
  exact ⟨this.1, (Turn.of_below H.lt hb).trans this.2⟩
theorem RBk.put_plain {w w1 : World} {g o : Nat} {C : List Pl} (H : RBk w g o C) (hb : Below w.heap.size w w1) {i : Nat} (hi : i < C.length) (x : Pl) :
    RBk ((put4 w1 g (o + i * 4) x).setCell ⟨g, o + 16 + i, none⟩ (.bool x.isSome)) g o (C.set i x) ∧ Turn w ((put4 w1 g (o + i * 4) x).setCell ⟨g, o + 16 + i, none⟩ (.bool x.isSome)) g o 20 := by
  have H1 := H.below hb
  have h4 := H.four
  have t1 := turn_put4 w1 g (o + i * 4) x
  have := H1.turned hi x t1 (four_put x (H1.rt i hi)) (turn_one _ g (o + 16 + i) 1 (o + 16 + i) _ (Nat.le_refl _) (by omega)) (on_set ((t1.cell _ (by omega)).trans (H1.on i hi)))
  exact ⟨this.1, (Turn.of_below H.lt hb).trans this.2⟩
theorem RBk.put_swap {w w1 : World} {g o : Nat} {C : List Pl} (H : RBk w g o C) (hb : Below w.heap.size w w1) {i : Nat} (hi : i < C.length) (x : Pl) (hx : x.isSome = C[i].isSome) :
    RBk (put4 w1 g (o + i * 4) x).drew g o (C.set i x) ∧ Turn w (put4 w1 g (o + i * 4) x).drew g o 20 := by
  have H1 := H.below hb
  have h4 := H.four
  have t1 := turn_put4 w1 g (o + i * 4) x
  have hl : g < (put4 w1 g (o + i * 4) x).heap.size := Nat.lt_of_lt_of_le H1.lt t1.grown.size
  have t2 := t1.drew H1.lt
  have := H1.turned hi x t2 (four_drew hl (four_put x (H1.rt i hi))) (Turn.of_below (o := o + 16 + i) (n := 1) (Nat.lt_of_lt_of_le H1.lt t2.grown.size) (Below.refl _ _)) (by rw [hx]; exact (t2.cell _ (by omega)).trans (H1.on i hi))
  exact ⟨this.1, (Turn.of_below H.lt hb).trans this.2⟩
set_option maxHeartbeats 1000000 in
set_option maxRecDepth 100000 in
theorem rtake11_any (g o : Nat) (C : List Pl) (k : Ky) (w : World) (H : RBk w g o C) :
    Calls Try.prog 32 #[.pointer (some ⟨g, o, none⟩), kyV k] w fun e w' => e = .returned (.bool (takeC C k).isSome) ∧ RBk w' g o ((takeC C k).getD C) ∧ Turn w w' g o 20 := by
  have HH := Lib.hid H
  have h4 := H.four
  have hg := H.lt
  clear H
  unfold kyV
  go_enter Try.func32, Try.ntmps32
  go_wp2
  go_loopw [5] (fun i wr => ∃ (j : Nat), j ≤ 4 ∧ i = .int .i64 (j : Int) ∧ (∀ x (hx : x < C.length), x < j → hasK k C[x] = false) ∧ wr.cell? ⟨w.heap.size, 0, none⟩ = some (.int .u64 (k.h : Int)) ∧ wr.cell? ⟨w.heap.size, 1, none⟩ = some (.int .u64 (k.l : Int)) ∧ wr.cell? ⟨w.heap.size, 2, none⟩ = some (.int .i64 k.n) ∧ w.heap.size < wr.heap.size ∧ Below w.heap.size w wr) (fun i _ => 4 - (intOf i).toNat)
  case atStart => exact ⟨0, by omega, rfl, fun x _ h => absurd h (by omega), by simp [go_sem], by simp [go_sem], by simp [go_sem], by simp, by go_grown⟩
  case round =>
    obtain ⟨j, hj, rfl, hno, k0, k1, k2, hz, hb⟩ := hrel
    by_cases hlt : j < 4
    · have H1 := HH.out.below hb
      have hno' := Lib.hid hno
      have hon := H1.on j (by omega)
      obtain ⟨r0, r1, r2, r3⟩ := H1.rt j (by omega)
      have hK := Lib.hid (hasK_eq k (C[j]'(by omega)))
      have hl1 := H1.lt
      clear hno H1
      generalize hx : (C[j]'(by omega)) = x at hon r0 r1 r2 r3 hK
      have HX := Lib.hid hx
      have hE := eqlK (xh x) (xl x) (xn x) k.h k.l k.n
      have j0 : (0 : Int) ≤ (j : Int) := by omega
      have j4 : (j : Int) < 4 := by omega
      clear hx
      by_cases hs : x.isSome = true
      · rw [hs] at hon
        by_cases he : xh x = k.h ∧ xl x = k.l ∧ xn x = k.n
        · rw [decide_eq_true he] at hE
          have hm : Hid (hasK k x = true) := by show hasK k x = true; rw [hK.out, hs, decide_eq_true he]; rfl
          clear hs hK he
          go_wp2_with fail
          have kg := cell_grow
          refine region_whole (by kernel_rfl) (by kernel_rfl) ?_
          repeat (any_goals (first | go_big_quiet_step (fail) | quiet_step (fail)))
          refine wpQuiet_nil ?_
          clear kg
          intro w1 hb1
          obtain ⟨hc1, hf1⟩ := bcell hb1
          have hw1 := hb.trans (hb1.mono (by omega))
          have hh := Lib.hid (idx_hit (p := hasK k) (i := j) (C := C) (by omega) (by rw [HX.out]; exact hm.out) hno'.out)
          have hi : j < C.length := by omega
          clear hE hno' hon r0 r1 r2 r3 hf1 hc1 hb1 HX hm
          have i := j
          have H1 := HH.out.below hw1
          obtain ⟨c0, c1, c2, c3⟩ := H1.rt j hi
          have c4 := H1.on j hi
          have f0 := H1.free (j * 4) (by omega)
          have f1 := H1.free (j * 4 + 1) (by omega)
          have f2 := H1.free (j * 4 + 2) (by omega)
          have f3 := H1.free (j * 4 + 3) (by omega)
          have f4 := H1.free (16 + j) (by omega)
          have hl := H1.lt
          simp only [← Nat.add_assoc] at f1 f2 f3 f4
          clear H1
          go_wp2
          go_ret
          rw [show takeC C k = some (C.set j none) by unfold takeC; rw [hh.out]]
          have hP := HH.out.put_plain hw1 hi none
          exact ⟨rfl, hP.1, hP.2⟩
        · rw [decide_eq_false he] at hE
          have hm : Hid (hasK k x = false) := by show hasK k x = false; rw [hK.out, hs, decide_eq_false he]; rfl
          clear hs hK he
          go_wp2_with fail
          have kg := cell_grow
          refine region_whole (by kernel_rfl) (by kernel_rfl) ?_
          repeat (any_goals (first | go_big_quiet_step (fail) | quiet_step (fail)))
          refine wpQuiet_nil ?_
          clear kg
          intro w1 hb1
          obtain ⟨hc1, hf1⟩ := bcell hb1
          go_wp2
          go_roundw
          case rel =>
            refine ⟨j + 1, by omega, by go_num, fun y hy hlt2 => ?_, (hc1 _ _ (by omega)).trans k0, (hc1 _ _ (by omega)).trans k1, (hc1 _ _ (by omega)).trans k2, Nat.lt_of_lt_of_le hz hb1.size, hb.trans (hb1.mono (by omega))⟩
            by_cases e : y = j
            · subst e; rw [HX.out]; exact hm.out
            · exact hno'.out y hy (by omega)
          case measure => simp [intOf]; omega
      · rw [Bool.not_eq_true] at hs
        rw [hs] at hon
        have hm : Hid (hasK k x = false) := by show hasK k x = false; rw [hK.out, hs]; rfl
        clear hs hK hE
        go_wp2_with fail
        have kg := cell_grow
        refine region_whole (by kernel_rfl) (by kernel_rfl) ?_
        repeat (any_goals (first | go_big_quiet_step (fail) | quiet_step (fail)))
        refine wpQuiet_nil ?_
        clear kg
        intro w1 hb1
        obtain ⟨hc1, hf1⟩ := bcell hb1
        go_wp2
        go_roundw
        case rel =>
          refine ⟨j + 1, by omega, by go_num, fun y hy hlt2 => ?_, (hc1 _ _ (by omega)).trans k0, (hc1 _ _ (by omega)).trans k1, (hc1 _ _ (by omega)).trans k2, Nat.lt_of_lt_of_le hz hb1.size, hb.trans (hb1.mono (by omega))⟩
          by_cases e : y = j
          · subst e; rw [HX.out]; exact hm.out
          · exact hno'.out y hy (by omega)
        case measure => simp [intOf]; omega
    · go_wp2
      go_ret
      rw [show takeC C k = none by unfold takeC; rw [idx_miss (fun x hx => hno x hx (by omega))]]
      exact ⟨rfl, HH.out.below hb, Turn.of_below hg hb⟩
end Go.Proofs.Ytlglppfkpieabaa
