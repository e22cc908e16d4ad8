/-
  What Shares of package weigh hands back. No condition but that the numbers are whole numbers of 64 bits, and that the row's length is one.
-/
import Derived.Test.YtdfmebfkhcdphaaW10c
set_option linter.unusedSimpArgs false
set_option linter.unusedVariables false
namespace Go.Proofs.Ytdfmebfkhcdphaa
open Go.RowKit Go.Sort M

/-- May so much be shared so. -/
def shOk (total least : Int) (n : Nat) : Prop := 1 ≤ n ∧ n ≤ 200 ∧ 1 ≤ least ∧ least ≤ 65536 ∧ least * n ≤ total ∧ total ≤ 1073741824
/-- The shares of a total. -/
def shL (total least : Int) (X : List Nat) : List Int := (List.range X.length).map (shF (wtF X) least.toNat (total - least * X.length).toNat X.length)
theorem shL_len (total least : Int) (X : List Nat) : (shL total least X).length = X.length := by simp [shL]
/-- A total that is one: least and what is left as plain numbers. -/
theorem shOk_parts {total least : Int} {n : Nat} (h : shOk total least n) : ∃ l r : Nat, least = l ∧ total = ((n * l + r : Nat) : Int) ∧ 1 ≤ l ∧ l ≤ 65536 ∧ r ≤ 1073741824 ∧ n * l + r ≤ 1073741824 ∧ n * l ≤ 1073741824 ∧ (total - least * n).toNat = r := by
  obtain ⟨-, -, h1, h2, h3, h4⟩ := h
  obtain ⟨l, rfl⟩ := Int.eq_ofNat_of_zero_le (show 0 ≤ least by omega)
  have e : (l : Int) * (n : Int) = ((n * l : Nat) : Int) := by rw [Int.natCast_mul, Int.mul_comm]
  rw [e] at h3
  obtain ⟨m, hm⟩ : ∃ m, m = n * l := ⟨_, rfl⟩
  rw [← hm] at h3
  refine ⟨l, (total - m).toNat, rfl, ?_, by omega, by omega, by omega, ?_, ?_, ?_⟩
  · rw [← hm]; omega
  · rw [← hm]; omega
  · rw [← hm]; omega
  · rw [e, ← hm]
theorem shares_all0 (w : Nat → Nat) (least left n : Nat) (h : sumF w n = 0) (hn : 1 ≤ n) :
    ((List.range n).map fun _ => (least : Int)).set 0 ((least + left : Nat) : Int) = (List.range n).map (shF w least left n) := by
  rw [← mixL_none (shF w least left n)]
  have h0 : shF w least left n 0 = ((least + left : Nat) : Int) := by
    unfold shF share
    rw [if_pos h, if_pos rfl]
  rw [← h0, mixL_set, ← mixL_full (shF w least left n) (fun _ => (least : Int))]
  refine mixL_congr fun j hj => ?_
  rw [if_pos hj]
  by_cases e : j < 0 + 1
  · rw [if_pos e]
  · rw [if_neg e]
    unfold shF share
    rw [if_pos h, if_neg (by omega)]

set_option maxHeartbeats 2000000 in
theorem shares_bad (total least : Int) (p : Option Addr) (c : Nat) (n : Nat) (w : World) (hn : n ≤ 1000000000) (h : ¬ shOk total least n) :
    Calls Try.prog 8 #[.int .i64 total, .int .i64 least, .slice p n c] w fun e w' => e = .returned (.tuple #[.slice none 0 0, .int .i64 1]) ∧ Below w.heap.size w w' := by
  unfold shOk at h
  by_cases n0 : n < 1
  · clear h
    go_enter Try.func8, Try.ntmps8
    go_wp2_with fail
    go_ret2
    exact ⟨rfl, by go_grown⟩
  · by_cases n1 : 200 < n
    · clear h
      go_enter Try.func8, Try.ntmps8
      go_wp2_with fail
      go_ret2
      exact ⟨rfl, by go_grown⟩
    · by_cases l0 : least < 1
      · clear h
        go_enter Try.func8, Try.ntmps8
        go_wp2_with fail
        go_ret2
        exact ⟨rfl, by go_grown⟩
      · by_cases l1 : 65536 < least
        · clear h
          go_enter Try.func8, Try.ntmps8
          go_wp2_with fail
          go_ret2
          exact ⟨rfl, by go_grown⟩
        · obtain ⟨l, rfl⟩ := Int.eq_ofNat_of_zero_le (show 0 ≤ least by omega)
          have hm : l * n ≤ 65536 * 200 := Nat.mul_le_mul (by omega) (by omega)
          have e : (l : Int) * (n : Int) = ((l * n : Nat) : Int) := by rw [Int.natCast_mul]
          rw [e] at h
          have q0 : wrap64 ((l : Int) * (n : Int)) = ((l * n : Nat) : Int) := by
            rw [e]
            exact IntWalk.wrap64_in _ (by omega)
          generalize l * n = m at *
          clear e
          have Q0 := Lib.hid q0
          clear q0
          by_cases t0 : total < (m : Int)
          · clear h
            go_enter Try.func8, Try.ntmps8
            go_wp2_with (first | rw [Q0.out] | fail)
            go_ret2
            exact ⟨rfl, by go_grown⟩
          · have t1 : 1073741824 < total := by omega
            clear h
            go_enter Try.func8, Try.ntmps8
            go_wp2_with (first | rw [Q0.out] | fail)
            go_ret2
            exact ⟨rfl, by go_grown⟩
set_option maxHeartbeats 2000000 in
theorem shares_any (total least : Int) (p : Option Addr) (c : Nat) (X : List Nat) (w : World) (hX : Row w p (fcs X)) (h : shOk total least X.length) :
    Calls Try.prog 8 #[.int .i64 total, .int .i64 least, .slice p X.length c] w fun e w' => ∃ q d, e = .returned (.tuple #[.slice q X.length d, .int .i64 0]) ∧
      w'.ownsRow w.heap.size 3 1 (.slice q X.length d) X.length (ics (shL total least X)) ∧ Below w.heap.size w w' := by
  unfold shL
  have n1 := h.1
  have n2 := h.2.1
  obtain ⟨l, r, rfl, rfl, l1, l2, r1, t1, m1, e⟩ := shOk_parts h
  rw [e, Int.toNat_natCast]
  clear h e
  have hwa := fun wx hb => weighAll_any p c X wx (hX.below (w' := wx) hb) n1 n2
  have hwt := wtF_le X
  have hal := shares_all0 (wtF X) l r X.length
  generalize wtF X = wt at *
  generalize hn : X.length = n at *
  clear hX
  have hmk := make_row (P := Try.prog) (t := 25) Try.underlying25 infoI n (by omega) (by unfold maxLen; omega)
  have hdv := fun g h c d B wx hgh h0 ho hw => divide_any g h c d B n l r wt wx hgh n2 hwt l2 r1 h0 ho hw
  obtain ⟨m, hm⟩ : ∃ m, m = n * l := ⟨_, rfl⟩
  rw [← hm] at t1 m1 ⊢
  obtain ⟨T, hT⟩ : ∃ T : Int, T = ((m + r : Nat) : Int) := ⟨_, rfl⟩
  rw [← hT]
  have hT1 : T ≤ 1073741824 := by omega
  have hT2 : (m : Int) ≤ T := by omega
  have hr : (r : Int) = T - m := by omega
  have hr2 : T - (m : Int) ≤ 1073741824 := by omega
  simp only [hr] at hdv
  have HR := Lib.hid hr
  have q0 : wrap64 ((l : Int) * (n : Int)) = (m : Int) := by
    rw [hm, show (l : Int) * (n : Int) = ((n * l : Nat) : Int) by rw [Int.natCast_mul, Int.mul_comm]]
    exact IntWalk.wrap64_in _ (by omega)
  have Q0 := Lib.hid q0
  have HWA := Lib.hid hwa
  have HDV := Lib.hid hdv
  have HAL := Lib.hid hal
  have HWT := Lib.hid hwt
  clear q0 hwa hdv hal hwt hm hn hT hr
  go_enter Try.func8, Try.ntmps8
  go_wp2_with (first | rw [Q0.out] | fail)
  refine (HWA.out _ (by go_grown)).mono ?_
  rintro e w1 ⟨h1, d1, rfl, hw, hb1⟩
  have hw1 : Below w.heap.size w w1 := hb1
  have hz1 := hw1.size
  have hlo := (hw.lt h1 rfl)
  have hh1 := hlo.1
  have hh2 := hlo.2
  have hown0 : (w1.alloc (.cells (madeCells #[.int .i64 0] n) 3)).ownsRow w.heap.size 3 1 (.slice (some ⟨w1.heap.size, 0, none⟩) n n) n (ics (mixL (fun _ => (l : Int)) (fun _ => 0) 0 n)) := by
    rw [mixL_none, ← made_ints]
    exact World.ownsRow_lit _ _ n (by omega) (by unfold maxLen; omega) (by simp [madeCells])
  have hwa2 : (w1.alloc (.cells (madeCells #[.int .i64 0] n) 3)).ownsRow w.heap.size 2 1 (.slice (some ⟨h1, 0, none⟩) n d1) n (ics ((List.range n).map fun j => ((wt j : Nat) : Int))) := hw.alloc _
  clear hb1 hw hlo HWA
  obtain ⟨a, ha⟩ : ∃ a, a = sumF wt n := ⟨_, rfl⟩
  rw [← ha] at HDV HAL ⊢
  clear ha
  go_wp2_with (first | rw [Q0.out] | fail)
  go_loopw [55] (fun s55 wr => ∃ k : Nat, k ≤ n ∧ s55 = .int .i64 k ∧
    wr.ownsRow w.heap.size 3 1 (.slice (some ⟨w1.heap.size, 0, none⟩) n n) n (ics (mixL (fun _ => (l : Int)) (fun _ => 0) k n)) ∧
    wr.ownsRow w.heap.size 2 1 (.slice (some ⟨h1, 0, none⟩) n d1) n (ics ((List.range n).map fun j => ((wt j : Nat) : Int))) ∧ Below w.heap.size w wr) (fun s55 _ => n - (intOf s55).toNat)
  case atStart => exact ⟨0, Nat.zero_le _, rfl, hown0, hwa2, by go_grown⟩
  case round =>
    clear hown0 hwa2 hw1 hmk
    obtain ⟨k, hk, rfl, ho, hw, hb⟩ := hrel
    have hz := hb.size
    have hgz := (ho.lt w1.heap.size rfl).2
    by_cases hlt : k < n
    · have hset := mixL_set (fun _ => (l : Int)) (fun _ => 0) k n
      obtain ⟨v0, d0⟩ : ∃ v, wr.cell? ⟨w1.heap.size, k, none⟩ = some v := ⟨_, (ho.cellAt k (by omega)).trans (List.getElem?_eq_getElem (by rw [ics_len, mixL_len]; exact hlt))⟩
      have f0 := ho.frozenAt k
      have HSET := Lib.hid hset
      clear hset
      go_wp2_with fail
      go_roundw
      case rel =>
        have hst := ho.stored k (.int .i64 (l : Nat))
        refine ⟨k + 1, by omega, by go_num, ?_, ?_, by go_grown⟩
        · have := hst.1
          rw [ics_set, HSET.out] at this
          exact this
        · exact hw.kept hst.2 (.inr (by simp [Value.ownBlock]; omega))
      case measure => simp [intOf]; omega
    · have hkn : k = n := by omega
      have e1 : mixL (fun _ => (l : Int)) (fun _ => 0) k n = (List.range n).map fun _ => (l : Int) := by rw [hkn, mixL_full]
      rw [e1] at ho
      have hoc := range_map_at (fun _ => (l : Int)) n 0 (by omega)
      have d0 : wr.cell? ⟨w1.heap.size, 0, none⟩ = some (.int .i64 (l : Nat)) := (ho.cellAt 0 (by omega)).trans hoc
      have f0 := ho.frozenAt 0
      clear e1 hkn hoc
      by_cases ha : a = 0
      · have HA2 := Lib.hid (HAL.out ha n1)
        subst ha
        clear HAL HDV
        go_wp2_with fail
        go_ret2
        have hst := ho.stored 0 (.int .i64 ((l : Int) + (T - m)))
        refine ⟨some ⟨w1.heap.size, 0, none⟩, n, rfl, ?_, by go_grown⟩
        have := hst.1
        rw [ics_set, ← HR.out, show (l : Int) + (r : Int) = ((l + r : Nat) : Int) from rfl, HA2.out] at this
        rw [← HR.out] 
        exact this
      · have ha2 : ((a : Int) == 0) = false := by simp; omega
        go_wp2_with fail
        refine (HDV.out w1.heap.size h1 n d1 w.heap.size _ (by omega) (by omega) ho hw).mono ?_
        rintro e w2 ⟨rfl, ho2, hb2⟩
        have hw2 := hb.trans hb2
        go_wp2
        go_ret2
        exact ⟨some ⟨w1.heap.size, 0, none⟩, n, rfl, ho2, hw2⟩
end Go.Proofs.Ytdfmebfkhcdphaa
