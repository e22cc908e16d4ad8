/-
  What histo.Count and the reference's Count hand back: a new row of 129 numbers. No condition but that the routes lie in memory and are short of a million.
-/
import Derived.Test.YtpmldedombiadaaInts
import Derived.Test.YtpmldedombiadaaRts
import Derived.Test.YtpmldedombiadaaM16
import Derived.Test.YtpmldedombiadaaRow
import Derived.Deep.LoopGhost
import Derived.Deep.DeepCutAuto
set_option linter.unusedSimpArgs false
set_option linter.unusedVariables false
namespace Go.Proofs.Ytpmldedombiadaa
open Go Go.RowKit Go.Sort M

/-- How many of the routes have each length. -/
def lenC (L : List Rt) (n : Nat) : Nat := L.countP fun r => decide (r.k.n = (n : Int))
def cntR (L : List Rt) : List Int := (List.range 129).map fun n => ((lenC L n : Nat) : Int)
theorem cntR_len (L : List Rt) : (cntR L).length = 129 := by simp [cntR]
theorem cntR_at (L : List Rt) (n : Nat) (h : n < (cntR L).length) : (cntR L)[n] = ((lenC L n : Nat) : Int) := by simp [cntR]
theorem lenC_le (L : List Rt) (n : Nat) : lenC L n ≤ L.length := List.countP_le_length
theorem lenC_snoc (L : List Rt) (r : Rt) (n : Nat) : lenC (L ++ [r]) n = if r.k.n = (n : Int) then lenC L n + 1 else lenC L n := by
  unfold lenC
  rw [List.countP_append, List.countP_singleton]
  by_cases h : r.k.n = (n : Int)
  · simp [h]
  · simp [h]
theorem cntR_in (L : List Rt) (r : Rt) (n : Nat) (h : r.k.n = (n : Int)) (hn : n < 129) : cntR (L ++ [r]) = (cntR L).set n ((lenC L n + 1 : Nat) : Int) := by
  refine List.ext_getElem (by simp [cntR]) fun j h1 h2 => ?_
  rw [cntR_at, List.getElem_set]
  have hj : j < 129 := by rw [cntR_len] at h1; exact h1
  by_cases e : n = j
  · subst e
    rw [if_pos rfl, lenC_snoc, if_pos h]
  · rw [if_neg e, cntR_at, lenC_snoc, if_neg (by omega)]
theorem cntR_out (L : List Rt) (r : Rt) (h : ¬ (0 ≤ r.k.n ∧ r.k.n < 129)) : cntR (L ++ [r]) = cntR L := by
  refine List.ext_getElem (by simp [cntR]) fun j h1 h2 => ?_
  have hj : j < 129 := by rw [cntR_len] at h1; exact h1
  rw [cntR_at, cntR_at, lenC_snoc, if_neg (by omega)]
theorem cntR_none : cntR [] = (List.range 129).map fun _ => 0 := rfl
theorem made_some (n : Nat) : (madeCells #[.int .i64 0] n).toList = ics ((List.range n).map fun _ => (0 : Int)) := by
  apply List.ext_getElem?
  intro j
  by_cases h : j < n
  · simp [madeCells, ics, h, Nat.mod_one]
  · rw [List.getElem?_eq_none (by simp [madeCells]; omega), List.getElem?_eq_none (by simp [ics]; omega)]
theorem ics_set' (L : List Int) (n : Nat) (x : Int) : ics (L.set n x) = (ics L).set n (.int .i64 x) := by
  unfold ics
  rw [List.map_set]
theorem made_129 : (madeCells #[.int .i64 0] 129).toList = ics (cntR []) := by
  rw [cntR_none, made_some]
theorem cnt_own (w w0 : World) (t : TypeId) (hb : w.heap.size ≤ w0.heap.size) : (w0.alloc (.cells (madeCells #[.int .i64 0] 129) t)).ownsRow w.heap.size t 1 (.slice (some ⟨w0.heap.size, 0, none⟩) 129 129) 129 (ics (cntR [])) := by
  rw [← made_129]
  exact World.ownsRow_lit _ _ 129 (by omega) (by unfold maxLen; omega) (by simp [madeCells])
theorem make_129 : ∀ w, (Instr.makeSlice 22 (.int .i64 129) (.int .i64 129)).run Try.prog w = .ok (.slice (some ⟨w.heap.size, 0, none⟩) 129 129) (w.alloc (.cells (madeCells #[.int .i64 0] 129) 3)) := fun w => make_row Try.underlying22 infoI 129 (by decide) (by unfold maxLen; decide) w
set_option maxHeartbeats 1000000 in
set_option maxRecDepth 100000 in
theorem cntr_any (p : Option Addr) (c : Nat) (L : List Rt) (w : World) (hR : Row w p (rcs L)) (hl : L.length ≤ 1000000) :
    Calls Try.prog 8 #[.slice p L.length c] w fun e w' => ∃ q d, e = .returned (.slice q 129 d) ∧ 129 ≤ d ∧ w'.ownsRow w.heap.size 3 1 (.slice q 129 d) 129 (ics (cntR L)) ∧ Below w.heap.size w w' := by
  have HRW := Lib.hid hR
  have hown0 := cnt_own w w 3 (Nat.le_refl _)
  have hmk := make_129
  clear hR
  go_enter Try.func8, Try.ntmps8
  go_wp2
  go_loopg [10] L.length (fun kx s10 wr => ∃ (i : Nat), s10 = .int .i64 (i : Int) ∧ L.length - i ≤ kx ∧ i ≤ L.length ∧ Hid (wr.ownsRow w.heap.size 3 1 (.slice (some ⟨w.heap.size, 0, none⟩) 129 129) 129 (ics (cntR (L.take i)))) ∧ Below w.heap.size w wr)
  case atStart => exact ⟨0, rfl, by omega, by omega, Lib.hid hown0, by go_grown⟩
  case round =>
    clear hown0
    obtain ⟨i, rfl, h1, h2, HO, hb⟩ := hrel
    by_cases hi : i < L.length
    · obtain ⟨g, o, rfl, hg, x0, x1, x2, x3⟩ := HRW.out.rt hi
      have x0 := (hb.cell (p := ⟨g, o + i * 4, none⟩) hg).trans x0
      have x1 := (hb.cell (p := ⟨g, o + i * 4 + 1, none⟩) hg).trans x1
      have x2 := (hb.cell (p := ⟨g, o + i * 4 + 2, none⟩) hg).trans x2
      have x3 := (hb.cell (p := ⟨g, o + i * 4 + 3, none⟩) hg).trans x3
      have hg2 := Nat.lt_of_lt_of_le hg hb.size
      have hz0 := hb.size
      have i1 : (0 : Int) ≤ (i : Int) := by omega
      have i2 : (i : Int) < (L.length : Int) := by omega
      have hsn : L.take (i + 1) = L.take i ++ [L[i]] := List.take_succ_eq_append_getElem hi
      obtain ⟨r, hr⟩ : ∃ r, r = L[i] := ⟨_, rfl⟩
      rw [← hr] at x0 x1 x2 x3 hsn
      clear hr
      by_cases hn0 : 0 ≤ r.k.n
      · by_cases hn1 : r.k.n < 129
        · skip
          obtain ⟨k, hk⟩ := Int.eq_ofNat_of_zero_le hn0
          have hk2 : k < 129 := by omega
          have HS := Lib.hid (cntR_in (L.take i) r k hk hk2)
          have hat := ics_cell (cntR (L.take i)) k (by rw [cntR_len]; exact hk2)
          rw [cntR_at] at hat
          have hcl := lenC_le (L.take i) k
          rw [List.length_take] at hcl
          obtain ⟨u, hu⟩ : ∃ u, u = lenC (L.take i) k := ⟨_, rfl⟩
          rw [← hu] at hat hcl HS
          rw [hk] at x2 hn0 hn1
          clear hk
          have hgz := (HO.out.lt w.heap.size rfl).2
          have d0 : wr.cell? ⟨w.heap.size, k, none⟩ = some (.int .i64 (u : Int)) := (HO.out.cellAt k (by omega)).trans hat
          have f0 := HO.out.frozenAt k
          have s0 : wrap64 ((u : Int) + 1) = (u : Int) + 1 := IntWalk.wrap64_in _ (by omega)
          have HSN := Lib.hid hsn
          clear hat hu hsn hk2
          go_wp2
          go_roundg (L.length - (i + 1))
          case measure => omega
          case rel =>
            refine ⟨i + 1, by go_num, by omega, by omega, Lib.hid ?_, by go_grown⟩
            have := (HO.out.stored k (.int .i64 ((u : Int) + 1))).1
            rw [HSN.out, HS.out, ics_set']
            exact this.alloc _
        · have HSN : Hid (cntR (L.take (i + 1)) = cntR (L.take i)) := by rw [hsn]; exact Lib.hid (cntR_out _ r (by omega))
          clear hsn
          go_wp2
          go_roundg (L.length - (i + 1))
          case measure => omega
          case rel => exact ⟨i + 1, by go_num, by omega, by omega, Lib.hid (by rw [HSN.out]; exact HO.out.alloc _), by go_grown⟩
      · have HSN : Hid (cntR (L.take (i + 1)) = cntR (L.take i)) := by rw [hsn]; exact Lib.hid (cntR_out _ r (by omega))
        clear hsn
        go_wp2
        go_roundg (L.length - (i + 1))
        case measure => omega
        case rel => exact ⟨i + 1, by go_num, by omega, by omega, Lib.hid (by rw [HSN.out]; exact HO.out.alloc _), by go_grown⟩
    · go_wp2
      go_ret
      have := HO.out
      rw [List.take_of_length_le (by omega)] at this
      exact ⟨_, _, rfl, by omega, this, hb⟩
end Go.Proofs.Ytpmldedombiadaa
