/-
  The reference's bucket in memory: twenty cells of a block, from an offset on: four routes, and which of them are there; what its calls hand back, and what it is then. No condition but that its cells lie in memory.
-/
import Derived.Test.YtlglppfkpieabaaW11c
set_option linter.unusedSimpArgs false
set_option linter.unusedVariables false
namespace Go.Proofs.Ytlglppfkpieabaa
open Go.RowKit Go.Sort M

structure RBk (w : World) (g o : Nat) (C : List Pl) : Prop where
  four : C.length = 4
  lt : g < w.heap.size
  rt : ∀ (i : Nat) (hi : i < C.length), w.cell? ⟨g, o + i * 4, none⟩ = some (.int .u64 (xh C[i] : Int)) ∧ w.cell? ⟨g, o + i * 4 + 1, none⟩ = some (.int .u64 (xl C[i] : Int)) ∧ w.cell? ⟨g, o + i * 4 + 2, none⟩ = some (.int .i64 (xn C[i])) ∧ w.cell? ⟨g, o + i * 4 + 3, none⟩ = some (.int .i64 (xv C[i]))
  on : ∀ (i : Nat) (hi : i < C.length), w.cell? ⟨g, o + 16 + i, none⟩ = some (.bool C[i].isSome)
  free : ∀ j, j < 20 → w.frozen? ⟨g, o + j, none⟩ = false
theorem RBk.kept {w w' : World} {g o : Nat} {C : List Pl} (H : RBk w g o C) (hs : w.heap.size ≤ w'.heap.size) (h : ∀ x, x < 20 → w'.cell? ⟨g, o + x, none⟩ = w.cell? ⟨g, o + x, none⟩ ∧ w'.frozen? ⟨g, o + x, none⟩ = w.frozen? ⟨g, o + x, none⟩) : RBk w' g o C := by
  have h4 := H.four
  refine ⟨H.four, Nat.lt_of_lt_of_le H.lt hs, fun i hi => ?_, fun i hi => ?_, fun j hj => (h j hj).2.trans (H.free j hj)⟩
  · obtain ⟨a, b, c, d⟩ := H.rt i hi
    simp only [Nat.add_assoc] at *
    exact ⟨(h _ (by omega)).1.trans a, (h _ (by omega)).1.trans b, (h _ (by omega)).1.trans c, (h _ (by omega)).1.trans d⟩
  · have := H.on i hi
    rw [Nat.add_assoc] at *
    exact (h _ (by omega)).1.trans this
theorem RBk.below {w w' : World} {g o : Nat} {C : List Pl} (H : RBk w g o C) (hb : Below w.heap.size w w') : RBk w' g o C :=
  H.kept hb.size fun x _ => ⟨hb.cell (p := ⟨g, o + x, none⟩) H.lt, hb.frozen (p := ⟨g, o + x, none⟩) H.lt⟩
theorem RBk.apart {w w' : World} {g o g' o' n : Nat} {C : List Pl} (H : RBk w g o C) (h : Turn w w' g' o' n) (hne : g ≠ g' ∨ o + 20 ≤ o' ∨ o' + n ≤ o) : RBk w' g o C := by
  refine H.kept h.grown.size fun x hx => ?_
  by_cases e : g = g'
  · subst e
    exact ⟨h.cell _ (by omega), h.frozen _⟩
  · have hb := h.grown.block g H.lt (by simpa using e)
    exact ⟨World.cell?_of_block hb, by unfold World.frozen?; rw [hb]⟩
/-- The four cells of a route are written. -/
def put4 (w : World) (g p : Nat) (x : Pl) : World :=
  (((w.setCell ⟨g, p, none⟩ (.int .u64 (xh x : Int))).setCell ⟨g, p + 1, none⟩ (.int .u64 (xl x : Int))).setCell ⟨g, p + 2, none⟩ (.int .i64 (xn x))).setCell ⟨g, p + 3, none⟩ (.int .i64 (xv x))
theorem turn_put4 (w : World) (g p : Nat) (x : Pl) : Turn w (put4 w g p x) g p 4 :=
  (((turn_one w g p 4 p _ (by omega) (by omega)).trans (turn_one _ g p 4 (p + 1) _ (by omega) (by omega))).trans (turn_one _ g p 4 (p + 2) _ (by omega) (by omega))).trans (turn_one _ g p 4 (p + 3) _ (by omega) (by omega))
def Four (w : World) (g p : Nat) (x : Pl) : Prop := w.cell? ⟨g, p, none⟩ = some (.int .u64 (xh x : Int)) ∧ w.cell? ⟨g, p + 1, none⟩ = some (.int .u64 (xl x : Int)) ∧ w.cell? ⟨g, p + 2, none⟩ = some (.int .i64 (xn x)) ∧ w.cell? ⟨g, p + 3, none⟩ = some (.int .i64 (xv x))
theorem four_put {w : World} {g p : Nat} (x : Pl) {y : Pl} (h : Four w g p y) : Four (put4 w g p x) g p x := by
  obtain ⟨a, b, c, d⟩ := h
  unfold put4
  refine ⟨?_, ?_, ?_, ?_⟩ <;> simp [go_sem, a, b, c, d]
theorem RBk.turned {w : World} {g o : Nat} {C : List Pl} (H : RBk w g o C) {i : Nat} (hi : i < C.length) (x : Pl) {wa wb : World} (h1 : Turn w wa g (o + i * 4) 4) (hc : Four wa g (o + i * 4) x) (h2 : Turn wa wb g (o + 16 + i) 1)
    (hd : wb.cell? ⟨g, o + 16 + i, none⟩ = some (.bool x.isSome)) : RBk wb g o (C.set i x) ∧ Turn w wb g o 20 := by
  have h4 := H.four
  refine ⟨⟨by simpa using h4, Nat.lt_of_lt_of_le H.lt (Nat.le_trans h1.grown.size h2.grown.size), fun k hk => ?_, fun k hk => ?_, fun j hj => (h2.frozen _).trans ((h1.frozen _).trans (H.free j hj))⟩, (h1.mono (by omega) (by omega)).trans (h2.mono (by omega) (by omega))⟩
  · rw [List.length_set] at hk
    by_cases e : i = k
    · subst e
      rw [List.getElem_set_self]
      obtain ⟨a, b, c, d⟩ := hc
      exact ⟨(h2.cell _ (by omega)).trans a, (h2.cell _ (by omega)).trans b, (h2.cell _ (by omega)).trans c, (h2.cell _ (by omega)).trans d⟩
    · rw [List.getElem_set_ne e]
      obtain ⟨a, b, c, d⟩ := H.rt k hk
      exact ⟨((h2.cell _ (by omega)).trans (h1.cell _ (by omega))).trans a, ((h2.cell _ (by omega)).trans (h1.cell _ (by omega))).trans b, ((h2.cell _ (by omega)).trans (h1.cell _ (by omega))).trans c, ((h2.cell _ (by omega)).trans (h1.cell _ (by omega))).trans d⟩
  · rw [List.length_set] at hk
    by_cases e : i = k
    · subst e
      rw [List.getElem_set_self]
      exact hd
    · rw [List.getElem_set_ne e]
      exact ((h2.cell _ (by omega)).trans (h1.cell _ (by omega))).trans (H.on k hk)
set_option maxHeartbeats 1000000 in
set_option maxRecDepth 100000 in
theorem rget11_any (g o : Nat) (C : List Pl) (k : Ky) (w : World) (H : RBk w g o C) :
    Calls Try.prog 39 #[.pointer (some ⟨g, o, none⟩), kyV k] w fun e w' => e = .returned (.tuple #[.int .i64 ((getC C k).getD 0), .bool (getC C k).isSome]) ∧ Below w.heap.size w w' := by
  have HH := Lib.hid H
  have h4 := H.four
  have hg := H.lt
  clear H
  unfold kyV
  go_enter Try.func39, Try.ntmps39
  go_wp2
  go_loopw [6] (fun i wr => ∃ (j : Nat), j ≤ 4 ∧ i = .int .i64 (j : Int) ∧ (∀ x (hx : x < C.length), x < j → hasK k C[x] = false) ∧ wr.cell? ⟨w.heap.size, 0, none⟩ = some (.int .u64 (k.h : Int)) ∧ wr.cell? ⟨w.heap.size, 1, none⟩ = some (.int .u64 (k.l : Int)) ∧ wr.cell? ⟨w.heap.size, 2, none⟩ = some (.int .i64 k.n) ∧ w.heap.size < wr.heap.size ∧ Below w.heap.size w wr) (fun i _ => 4 - (intOf i).toNat)
  case atStart => exact ⟨0, by omega, rfl, fun x _ h => absurd h (by omega), by simp [go_sem], by simp [go_sem], by simp [go_sem], by simp, by go_grown⟩
  case round =>
    obtain ⟨j, hj, rfl, hno, k0, k1, k2, hz, hb⟩ := hrel
    by_cases hlt : j < 4
    · have H1 := HH.out.below hb
      have hno' := Lib.hid hno
      have hon := H1.on j (by omega)
      obtain ⟨r0, r1, r2, r3⟩ := H1.rt j (by omega)
      have hK := Lib.hid (hasK_eq k (C[j]'(by omega)))
      have hl1 := H1.lt
      clear hno H1
      generalize hx : (C[j]'(by omega)) = x at hon r0 r1 r2 r3 hK
      have HX := Lib.hid hx
      have hE := eqlK (xh x) (xl x) (xn x) k.h k.l k.n
      have j0 : (0 : Int) ≤ (j : Int) := by omega
      have j4 : (j : Int) < 4 := by omega
      clear hx
      by_cases hs : x.isSome = true
      · rw [hs] at hon
        by_cases he : xh x = k.h ∧ xl x = k.l ∧ xn x = k.n
        · rw [decide_eq_true he] at hE
          have hm : Hid (hasK k x = true) := by show hasK k x = true; rw [hK.out, hs, decide_eq_true he]; rfl
          clear hs hK he
          go_wp2_with fail
          have kg := cell_grow
          refine region_whole (by kernel_rfl) (by kernel_rfl) ?_
          repeat (any_goals (first | go_big_quiet_step (fail) | quiet_step (fail)))
          refine wpQuiet_nil ?_
          clear kg
          intro w1 hb1
          obtain ⟨hc1, hf1⟩ := bcell hb1
          have r3 := (hc1 _ _ (by omega)).trans r3
          go_wp2
          go_ret2
          have hh := idx_hit (p := hasK k) (i := j) (C := C) (by omega) (by rw [HX.out]; exact hm.out) hno'.out
          rw [getC_hit (by omega) hh (by rw [HX.out]; exact hm.out), HX.out]
          exact ⟨rfl, hb.trans (hb1.mono (by omega))⟩
        · rw [decide_eq_false he] at hE
          have hm : Hid (hasK k x = false) := by show hasK k x = false; rw [hK.out, hs, decide_eq_false he]; rfl
          clear hs hK he
          go_wp2_with fail
          have kg := cell_grow
          refine region_whole (by kernel_rfl) (by kernel_rfl) ?_
          repeat (any_goals (first | go_big_quiet_step (fail) | quiet_step (fail)))
          refine wpQuiet_nil ?_
          clear kg
          intro w1 hb1
          obtain ⟨hc1, hf1⟩ := bcell hb1
          go_wp2
          go_roundw
          case rel =>
            refine ⟨j + 1, by omega, by go_num, fun y hy hlt2 => ?_, (hc1 _ _ (by omega)).trans k0, (hc1 _ _ (by omega)).trans k1, (hc1 _ _ (by omega)).trans k2, Nat.lt_of_lt_of_le hz hb1.size, hb.trans (hb1.mono (by omega))⟩
            by_cases e : y = j
            · subst e; rw [HX.out]; exact hm.out
            · exact hno'.out y hy (by omega)
          case measure => simp [intOf]; omega
      · rw [Bool.not_eq_true] at hs
        rw [hs] at hon
        have hm : Hid (hasK k x = false) := by show hasK k x = false; rw [hK.out, hs]; rfl
        clear hs hK hE
        go_wp2_with fail
        have kg := cell_grow
        refine region_whole (by kernel_rfl) (by kernel_rfl) ?_
        repeat (any_goals (first | go_big_quiet_step (fail) | quiet_step (fail)))
        refine wpQuiet_nil ?_
        clear kg
        intro w1 hb1
        obtain ⟨hc1, hf1⟩ := bcell hb1
        go_wp2
        go_roundw
        case rel =>
          refine ⟨j + 1, by omega, by go_num, fun y hy hlt2 => ?_, (hc1 _ _ (by omega)).trans k0, (hc1 _ _ (by omega)).trans k1, (hc1 _ _ (by omega)).trans k2, Nat.lt_of_lt_of_le hz hb1.size, hb.trans (hb1.mono (by omega))⟩
          by_cases e : y = j
          · subst e; rw [HX.out]; exact hm.out
          · exact hno'.out y hy (by omega)
        case measure => simp [intOf]; omega
    · go_wp2
      go_ret2
      rw [getC_miss (idx_miss (fun x hx => hno x hx (by omega)))]
      exact ⟨rfl, hb⟩
end Go.Proofs.Ytlglppfkpieabaa
