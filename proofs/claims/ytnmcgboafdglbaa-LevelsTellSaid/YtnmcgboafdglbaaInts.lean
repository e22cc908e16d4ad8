/-
  Rows of whole numbers in memory: a list of numbers as cells, one to each; rows of the call's own, and what is read of them. No condition but those that stand in each.
-/
import Derived.Test.YtnmcgboafdglbaaW1
import Derived.Test.YtnmcgboafdglbaaOwn
import Derived.WalkKit
import Derived.Maps.AppendAt
set_option linter.unusedSimpArgs false
set_option linter.unusedVariables false
namespace Go.Proofs.Ytnmcgboafdglbaa
open Go.RowKit Go.Sort

/-- The cells of a list of numbers. -/
def ics (L : List Int) : List Value := L.map fun x => .int .i64 x
theorem ics_len (L : List Int) : (ics L).length = L.length := by simp [ics]
theorem ics_append (L M : List Int) : ics (L ++ M) = ics L ++ ics M := by simp [ics]
theorem ics_one (x : Int) : ics [x] = [.int .i64 x] := rfl
theorem ics_cell (L : List Int) (k : Nat) (h : k < L.length) : (ics L)[k]? = some (.int .i64 L[k]) := by simp [ics, h]
theorem ics_one' (L : List Int) : ∀ u ∈ ics L, u.oneCell' = true := by
  intro u hu
  unfold ics at hu
  rw [List.mem_map] at hu
  obtain ⟨p, -, rfl⟩ := hu
  rfl
theorem set1_take (xs : List Value) (k : Nat) (u : Value) (h : k < xs.length) : (xs.set k u).take (k + 1) = xs.take k ++ [u] := by
  rw [List.take_succ_eq_append_getElem (by rw [List.length_set]; exact h), List.take_set_of_le (Nat.le_refl _)]
  simp
/-- The cells xs lie at p. -/
def IRow (w : World) (p : Option Addr) (L : List Int) : Prop := L = [] ∨ ∃ g o, p = some ⟨g, o, none⟩ ∧ g < w.heap.size ∧ ∀ j u, (ics L)[j]? = some u → w.cell? ⟨g, o + j, none⟩ = some u
theorem IRow.below {w w' : World} {p : Option Addr} {L : List Int} (h : IRow w p L) (hb : Below w.heap.size w w') : IRow w' p L := by
  rcases h with h | ⟨g, o, e, hg, hc⟩
  · exact .inl h
  · exact .inr ⟨g, o, e, Nat.lt_of_lt_of_le hg hb.size, fun j u hu => (hb.cell (p := ⟨g, o + j, none⟩) hg).trans (hc j u hu)⟩
theorem IRow.of_own {w : World} {B n c : Nat} {e : TypeId} {p : Option Addr} {L : List Int} (h : w.ownsRow B e 1 (.slice p n c) n (ics L)) : IRow w p L := by
  by_cases h0 : L = []
  · exact .inl h0
  · have hc := fun g hg => h.cells (g := g) hg
    have hl := h.lt
    rcases h.2 with ⟨e, h1⟩ | ⟨g, cap, cur, e, -, -, -, -, -, -⟩
    · have := h.1
      rw [ics_len, h1] at this
      exact absurd (List.length_eq_zero_iff.1 (by omega)) h0
    · injection e with e1 e2 e3
      subst e1
      refine .inr ⟨g, 0, rfl, (hl g rfl).2, fun j u hu => ?_⟩
      have := hc g rfl j u hu
      rw [Nat.zero_add]
      rwa [show (⟨g, 0, none⟩ : Addr).add j = ⟨g, j, none⟩ by unfold Addr.add; split <;> simp_all] at this
/-- Number k of a row. -/
theorem IRow.at {w : World} {p : Option Addr} {L : List Int} (h : IRow w p L) {k : Nat} (hk : k < L.length) : ∃ g o, p = some ⟨g, o, none⟩ ∧ g < w.heap.size ∧ w.cell? ⟨g, o + k, none⟩ = some (.int .i64 L[k]) := by
  rcases h with h | ⟨g, o, e, hg, hc⟩
  · rw [h] at hk
    simp at hk
  · exact ⟨g, o, e, hg, hc k _ (ics_cell L k hk)⟩
/-- What a function that hands back a new row of numbers does. -/
def GivesInts (f : FuncId) (args : Array Value) (L : List Int) : Prop := ∀ w, Calls Try.prog f args w fun e w' => ∃ p c, e = .returned (.slice p L.length c) ∧ w'.ownsRow w.heap.size 3 1 (.slice p L.length c) L.length (ics L) ∧ Below w.heap.size w w'
theorem infoI : (Try.prog.info? 3).map (fun i => (i.zero, i.size, i.bytes)) = some (some (.int .i64 0), 1, 8) := by kernel_rfl
/-- One new cell, at the head of its block. -/
theorem one_new {w : World} {g : Nat} {v : Value} (h : w.cell? ⟨g, 0, none⟩ = some v) : ∀ j u, [v][j]? = some u → w.cell? ((⟨g, 0, none⟩ : Addr).add j) = some u := by
  intro j u hj
  match j, hj with
  | 0, hj => simp only [List.getElem?_cons_zero, Option.some.injEq] at hj; subst hj; simpa [Addr.add] using h
theorem own_isnoc {w : World} {B n : Nat} {e : TypeId} {v : Value} {L : List Int} {x : Int} (h : w.ownsRow B e 1 v (n + 1) (ics L ++ [.int .i64 x])) (hn : n = L.length) : w.ownsRow B e 1 v (L ++ [x]).length (ics (L ++ [x])) := by
  rw [ics_append, ics_one, List.length_append, ← hn]
  exact h

set_option maxHeartbeats 1000000 in
theorem samei_any (p q : Option Addr) (c d : Nat) (L M : List Int) (w : World) (hL : L.length ≤ 1000000000) (hM : M.length ≤ 1000000000) (hp : IRow w p L) (hq : IRow w q M) :
    Calls Try.prog 10 #[.slice p L.length c, .slice q M.length d] w fun e w' => e = .returned (.bool (decide (L = M))) ∧ Below w.heap.size w w' := by
  by_cases hlen : L.length = M.length
  · have hl : ((L.length : Int) != (M.length : Int)) = false := by simp [hlen]
    have HLEN := Lib.hid hlen
    clear hlen
    go_enter Try.func10, Try.ntmps10
    go_wp2
    go_loopw [5] (fun i wr => ∃ k : Nat, k ≤ L.length ∧ i = .int .i64 k ∧ Hid (L.take k = M.take k) ∧ Below w.heap.size w wr) (fun i _ => L.length - (intOf i).toNat)
    case atStart => exact ⟨0, Nat.zero_le _, rfl, Lib.hid (by simp), by go_grown⟩
    case round =>
      obtain ⟨k, hk, rfl, htk, hw0⟩ := hrel
      have hz0 := hw0.size
      by_cases hlt : k < L.length
      · have hltm : k < M.length := by have := HLEN.out; omega
        obtain ⟨g1, o1, rfl, hg1, a0⟩ := (hp.below hw0).at hlt
        obtain ⟨g2, o2, rfl, hg2, b0⟩ := (hq.below hw0).at hltm
        have i1 : (0 : Int) ≤ (k : Int) := by omega
        have i2 : (k : Int) < (L.length : Int) := by omega
        have i3 : (k : Int) < (M.length : Int) := by omega
        by_cases he : L[k] = M[k]
        · have nq : (L[k] != M[k]) = false := by simp [he]
          have HT : Hid (L.take (k + 1) = M.take (k + 1)) := by rw [List.take_succ_eq_append_getElem hlt, List.take_succ_eq_append_getElem hltm, htk.out, he]; exact Lib.hid rfl
          clear he htk
          go_wp2_with fail
          have kg := cell_grow
          refine region_whole (by kernel_rfl) (by kernel_rfl) ?_
          repeat (any_goals (first | go_big_quiet_step (fail) | quiet_step (fail)))
          refine wpQuiet_nil ?_
          clear kg
          intro w1 hb1
          obtain ⟨hc1, hf1⟩ := bcell hb1
          have hw1 : Below w.heap.size w w1 := by
            refine Below.trans ?_ (hb1.mono ?_)
            · go_grown
            · first | omega | go_size
          go_wp2
          go_roundw
          case rel => exact ⟨k + 1, by omega, by go_num, HT, by go_grown⟩
          case measure => simp [intOf]; omega
        · have nq : (L[k] != M[k]) = true := by simpa using he
          have HF : Hid (decide (L = M) = false) := by
            rw [decide_eq_false_iff_not]
            rintro rfl
            exact he rfl
          clear he htk
          go_wp2_with fail
          have kg := cell_grow
          refine region_whole (by kernel_rfl) (by kernel_rfl) ?_
          repeat (any_goals (first | go_big_quiet_step (fail) | quiet_step (fail)))
          refine wpQuiet_nil ?_
          clear kg
          intro w1 hb1
          obtain ⟨hc1, hf1⟩ := bcell hb1
          have hw1 : Below w.heap.size w w1 := by
            refine Below.trans ?_ (hb1.mono ?_)
            · go_grown
            · first | omega | go_size
          go_wp2
          go_ret
          exact ⟨ret_bool HF.out.symm, by go_grown⟩
      · go_wp2
        go_ret
        refine ⟨ret_bool ?_, hw0⟩
        have h1 := htk.out
        have h2 := HLEN.out
        rw [List.take_of_length_le (by omega), List.take_of_length_le (by omega)] at h1
        simp [h1]
  · have hl : ((L.length : Int) != (M.length : Int)) = true := by simp; omega
    have hne : decide (L = M) = false := by simp; intro e; exact hlen (by rw [e])
    rw [hne]
    clear hlen hne
    go_enter Try.func10, Try.ntmps10
    go_wp2
    go_ret
    exact ⟨rfl, by go_grown⟩
end Go.Proofs.Ytnmcgboafdglbaa
