/-
  The given laws of chapter 8 as walks: the example, and MirrorAlone, hand back true, for every input. No condition.
-/
import Derived.Test.YthpdjiikbhjhdaaBits
set_option linter.unusedSimpArgs false
set_option linter.unusedVariables false
namespace Go.Proofs.Ythpdjiikbhjhdaa
open Go.RowKit Go.Sort M

set_option maxHeartbeats 1000000 in
theorem alive8_any : Gives Try.prog 5 #[] (.bool true) := by
  intro w
  go_enter Try.func5, Try.ntmps5
  go_wp2_with fail
  refine (bnew_any 5 (by decide) (by decide) _).mono ?_
  rintro e w1 ⟨v, rfl, ⟨g, h, rfl, H1⟩, hw1⟩
  have hz1 := hw1.size
  go_wp2_with fail
  refine (bcount_any _ _ _ _ _ H1).mono ?_
  rintro e w2 ⟨rfl, hb2⟩
  rw [show cntB (List.replicate (min (5 : Int).toNat 65536) false) = 0 by decide +kernel]
  have H2 := H1.below hb2
  have hw2 := hw1.trans (hb2.mono hz1)
  have hlow := H2.low2.1
  clear H1 hb2 hw1 hz1
  go_wp2_with fail
  refine (bset_any _ _ _ _ 4 true _ H2).mono ?_
  rintro e w3 ⟨rfl, H3, hg3⟩
  rw [show min (5 : Int).toNat 65536 = 5 by decide, show setB (List.replicate 5 false) 4 true = [false, false, false, false, true] by decide +kernel] at H3
  have hw3 := below_write hw2 hw2.size hg3 hlow
  clear hg3 hw2 H2
  go_wp2_with fail
  refine (bget_any _ _ _ _ 4 _ H3).mono ?_
  rintro e w4 ⟨rfl, hb4⟩
  rw [show getB [false, false, false, false, true] 4 = true by decide +kernel]
  have H4 := H3.below hb4
  have hw4 := hw3.trans (hb4.mono hw3.size)
  go_wp2_with fail
  refine (bcount_any _ _ _ _ _ H4).mono ?_
  rintro e w5 ⟨rfl, hb5⟩
  rw [show cntB [false, false, false, false, true] = 1 by decide +kernel]
  have H5 := H4.below hb5
  have hw5 := hw4.trans (hb5.mono hw4.size)
  go_wp2_with fail
  refine (blen_any _ _ _ _ _ H5).mono ?_
  rintro e w6 ⟨rfl, hb6⟩
  rw [show (([false, false, false, false, true] : List Bool).length : Int) = 5 by decide]
  have hw6 := hw5.trans (hb6.mono hw5.size)
  go_wp2
  go_ret
  exact ⟨rfl, hw6⟩

/-- The first i bits of n are on. -/
def onL (n i : Nat) : List Bool := List.replicate i true ++ List.replicate (n - i) false
theorem onL_len (n i : Nat) (h : i ≤ n) : (onL n i).length = n := by simp [onL]; omega
theorem onL_zero (n : Nat) : List.replicate n false = onL n 0 := by simp [onL]
theorem onL_set (n i : Nat) (h : i < n) : setB (onL n i) (i : Int) true = onL n (i + 1) := by
  unfold setB
  rw [if_pos ⟨by omega, by rw [onL_len n i (by omega)]; omega⟩, Int.toNat_natCast]
  unfold onL
  rw [List.set_append_right _ _ (by simp), List.length_replicate, Nat.sub_self, show n - i = (n - (i + 1)) + 1 by omega, List.replicate_succ, List.set_cons_zero, List.replicate_succ', List.append_assoc]
  rfl
theorem onL_full (n : Nat) : onL n n = List.replicate n true := by simp [onL]
theorem cnt_set {C : List Bool} {k : Nat} (v : Bool) (h : k < C.length) : cntB (C.set k v) + (C[k]).toNat = cntB C + v.toNat := by
  have e : C = C.take k ++ C[k] :: C.drop (k + 1) := by rw [List.getElem_cons_drop, List.take_append_drop]
  have h1 : cntB C = cntB (C.take k) + (cntB (C.drop (k + 1)) + (C[k]).toNat) := by
    conv => lhs; rw [e]
    rw [cntB_append, cntB_cons]
  rw [List.set_eq_take_append_cons_drop, if_pos h, cntB_append, cntB_cons, h1]
  omega
theorem alone_get (n a : Nat) (all : Bool) (h : a < n) (k : Nat) (hk : k < n) : getB ((List.replicate n all).set a (!all)) (k : Int) = (all != ((k : Int) == (a : Int))) := by
  unfold getB
  rw [if_pos (by omega), Int.toNat_natCast, getDB_set (by simpa using h)]
  by_cases e : k = a
  · subst e
    rw [if_pos rfl]
    cases all <;> simp
  · rw [if_neg e, List.getD_eq_getElem?_getD, List.getElem?_replicate, if_pos hk]
    have : ((k : Int) == (a : Int)) = false := by simp; omega
    rw [this]
    cases all <;> rfl
theorem cnt_full (n : Nat) (all : Bool) : cntB (List.replicate n all) = if all then n else 0 := by
  unfold cntB
  rw [List.count_replicate]
  cases all <;> simp
theorem alone_cnt (n a : Nat) (all : Bool) (h : a < n) : cntB ((List.replicate n all).set a (!all)) = if all then n - 1 else 1 := by
  have := cnt_set (C := List.replicate n all) (k := a) (!all) (by simpa using h)
  rw [cnt_full, List.getElem_replicate] at this
  cases all
  · simp at this ⊢
    omega
  · simp at this ⊢
    omega
set_option maxHeartbeats 2000000 in
theorem mirrorAlone_walk (m u : Int) (all : Bool) : Gives Try.prog 4 #[.int .i64 m, .int .i64 u, .bool all] (.bool true) := by
  intro w
  have HA := Lib.hid alive8_any
  by_cases m0 : 1 ≤ m
  · by_cases m1 : m ≤ 300
    · by_cases u0 : 0 ≤ u
      · by_cases u1 : u < m
        · obtain ⟨n, rfl⟩ := Int.eq_ofNat_of_zero_le (show 0 ≤ m by omega)
          obtain ⟨a, rfl⟩ := Int.eq_ofNat_of_zero_le u0
          have ha : a < n := by omega
          have hD : setB (List.replicate n all) (a : Int) (!all) = (List.replicate n all).set a (!all) := by
            unfold setB
            rw [if_pos ⟨by omega, by simpa using ha⟩, Int.toNat_natCast]
          have hG := alone_get n a all ha
          have hN := alone_cnt n a all ha
          obtain ⟨D, hDD⟩ : ∃ D, D = (List.replicate n all).set a (!all) := ⟨_, rfl⟩
          rw [← hDD] at hD hG hN
          have HS := Lib.hid hD
          have HG := Lib.hid hG
          have HN := Lib.hid hN
          clear hD hG hN hDD
          go_enter Try.func4, Try.ntmps4
          go_wp2_with fail
          refine (HA.out _).mono ?_
          rintro e0 w0 ⟨rfl, hb0⟩
          have hw0 : Below w.heap.size w w0 := by
            refine Below.trans ?_ (hb0.mono ?_)
            · go_grown
            · go_size
          have hz0 := hw0.size
          go_wp2_with fail
          refine (bnew_any n (by omega) (by omega) _).mono ?_
          rintro e w1 ⟨v, rfl, ⟨g, h, rfl, H1⟩, hb1⟩
          rw [show min (n : Int).toNat 65536 = n by omega] at H1
          have hw1 := hw0.trans (hb1.mono hz0)
          have hz1 := hw1.size
          have hlow : w.heap.size ≤ h := Nat.le_trans hz0 H1.low2.1
          clear hb1 hw0
          cases all
          · go_wp2
            go_loopw [9] (fun i9 wr => i9 = .int .i64 0 ∧ Bts wr w0.heap.size g h (List.replicate n false) ∧ Below w.heap.size w wr) (fun _ _ => 0)
            case atStart => exact ⟨rfl, H1, hw1⟩
            case round =>
              clear H1 hw1 hz1
              obtain ⟨rfl, H1, hw1⟩ := hrel
              have hz1 := hw1.size
              have npos : (0 : Int) < (n : Int) := by omega
              go_wp2_with fail
              refine (bset_any _ _ _ _ _ _ _ H1).mono ?_
              rintro e w3 ⟨rfl, H3, hg3⟩
              have hw3 := below_write hw1 hz1 hg3 hlow
              rw [show setB (List.replicate n false) (a : Int) true = D from HS.out] at H3
              clear hg3 hw1 hz1 H1
              go_wp2
              go_loopw [10] (fun k10 wr3 => ∃ k : Nat, k ≤ n ∧ k10 = .int .i64 k ∧ Bts wr3 w0.heap.size g h D ∧ Below w.heap.size w wr3) (fun k10 _ => n - (intOf k10).toNat)
              case atStart => exact ⟨0, by omega, rfl, H3, hw3⟩
              case round =>
                clear H3 hw3
                obtain ⟨k, hk, rfl, H3, hw3⟩ := hrel
                have hz3 := hw3.size
                by_cases hlt3 : k < n
                · have hgk := HG.out k hlt3
                  by_cases hka : k = a
                  · have he : ((k : Int) == (a : Int)) = true := by simp; omega
                    rw [he] at hgk
                    have HE := Lib.hid he
                    have HK := Lib.hid hgk
                    clear hgk hka he
                    go_wp2_with fail
                    refine (bget_any _ _ _ _ k _ H3).mono ?_
                    rintro e w4 ⟨rfl, hb4⟩
                    rw [HK.out]
                    have H4 := H3.below hb4
                    have hw4 := hw3.trans (hb4.mono hz3)
                    have he := HE.out
                    go_wp2
                    go_roundw
                    case rel => exact ⟨k + 1, by omega, by go_num, H4, hw4⟩
                    case measure => simp [intOf]; omega
                  · have he : ((k : Int) == (a : Int)) = false := by simp; omega
                    rw [he] at hgk
                    have HE := Lib.hid he
                    have HK := Lib.hid hgk
                    clear hgk hka he
                    go_wp2_with fail
                    refine (bget_any _ _ _ _ k _ H3).mono ?_
                    rintro e w4 ⟨rfl, hb4⟩
                    rw [HK.out]
                    have H4 := H3.below hb4
                    have hw4 := hw3.trans (hb4.mono hz3)
                    have he := HE.out
                    go_wp2
                    go_roundw
                    case rel => exact ⟨k + 1, by omega, by go_num, H4, hw4⟩
                    case measure => simp [intOf]; omega
                · go_wp2_with fail
                  refine (bcount_any _ _ _ _ _ H3).mono ?_
                  rintro e w4 ⟨rfl, hb4⟩
                  rw [show cntB D = 1 from HN.out]
                  have H4 := H3.below hb4
                  have hw4 := hw3.trans (hb4.mono hz3)
                  go_wp2
                  go_ret
                  exact ⟨rfl, hw4⟩
          · rw [onL_zero] at H1
            go_wp2
            go_loopw [9] (fun i9 wr => ∃ i : Nat, i ≤ n ∧ i9 = .int .i64 i ∧ Bts wr w0.heap.size g h (onL n i) ∧ Below w.heap.size w wr) (fun i9 _ => n - (intOf i9).toNat)
            case atStart => exact ⟨0, Nat.zero_le _, rfl, H1, hw1⟩
            case round =>
              clear H1 hw1 hz1
              obtain ⟨i, hi, rfl, H1, hw1⟩ := hrel
              have hz1 := hw1.size
              by_cases hlt : i < n
              · go_wp2_with fail
                refine (bset_any _ _ _ _ i _ _ H1).mono ?_
                rintro e w2 ⟨rfl, H2, hg2⟩
                rw [onL_set n i hlt] at H2
                have hw2 := below_write hw1 hz1 hg2 hlow
                clear hg2 hw1 hz1 H1
                go_wp2
                go_roundw
                case rel => exact ⟨i + 1, by omega, by go_num, H2, hw2⟩
                case measure => simp [intOf]; omega
              · have HI : Hid (i = n) := by show i = n; omega
                rw [HI.out, onL_full] at H1
                go_wp2_with fail
                refine (bset_any _ _ _ _ _ _ _ H1).mono ?_
                rintro e w3 ⟨rfl, H3, hg3⟩
                have hw3 := below_write hw1 hz1 hg3 hlow
                rw [show setB (List.replicate n true) (a : Int) false = D from HS.out] at H3
                clear hg3 hw1 hz1 H1
                go_wp2
                go_loopw [10] (fun k10 wr3 => ∃ k : Nat, k ≤ n ∧ k10 = .int .i64 k ∧ Bts wr3 w0.heap.size g h D ∧ Below w.heap.size w wr3) (fun k10 _ => n - (intOf k10).toNat)
                case atStart => exact ⟨0, by omega, rfl, H3, hw3⟩
                case round =>
                  clear H3 hw3
                  obtain ⟨k, hk, rfl, H3, hw3⟩ := hrel
                  have hz3 := hw3.size
                  by_cases hlt3 : k < n
                  · have hgk := HG.out k hlt3
                    by_cases hka : k = a
                    · have he : ((k : Int) == (a : Int)) = true := by simp; omega
                      rw [he] at hgk
                      have HE := Lib.hid he
                      have HK := Lib.hid hgk
                      clear hgk hka he
                      go_wp2_with fail
                      refine (bget_any _ _ _ _ k _ H3).mono ?_
                      rintro e w4 ⟨rfl, hb4⟩
                      rw [HK.out]
                      have H4 := H3.below hb4
                      have hw4 := hw3.trans (hb4.mono hz3)
                      have he := HE.out
                      go_wp2
                      go_roundw
                      case rel => exact ⟨k + 1, by omega, by go_num, H4, hw4⟩
                      case measure => simp [intOf]; omega
                    · have he : ((k : Int) == (a : Int)) = false := by simp; omega
                      rw [he] at hgk
                      have HE := Lib.hid he
                      have HK := Lib.hid hgk
                      clear hgk hka he
                      go_wp2_with fail
                      refine (bget_any _ _ _ _ k _ H3).mono ?_
                      rintro e w4 ⟨rfl, hb4⟩
                      rw [HK.out]
                      have H4 := H3.below hb4
                      have hw4 := hw3.trans (hb4.mono hz3)
                      have he := HE.out
                      go_wp2
                      go_roundw
                      case rel => exact ⟨k + 1, by omega, by go_num, H4, hw4⟩
                      case measure => simp [intOf]; omega
                  · go_wp2_with fail
                    refine (bcount_any _ _ _ _ _ H3).mono ?_
                    rintro e w4 ⟨rfl, hb4⟩
                    rw [show cntB D = (n - 1) from HN.out]
                    have H4 := H3.below hb4
                    have hw4 := hw3.trans (hb4.mono hz3)
                    obtain ⟨M, hM⟩ : ∃ M, M = n - 1 := ⟨_, rfl⟩
                    have n1 : (n : Int) - 1 = (M : Int) := by omega
                    rw [← hM]
                    have HM := Lib.hid hM
                    clear hM
                    by_cases n2 : M = 1
                    · have n3 : (M : Int) = 1 := by omega
                      go_wp2_with fail
                      refine (bcount_any _ _ _ _ _ H4).mono ?_
                      rintro e w5 ⟨rfl, hb5⟩
                      rw [show cntB D = n - 1 from HN.out, ← HM.out]
                      have hw5 := hw4.trans (hb5.mono hw4.size)
                      go_wp2
                      go_ret
                      exact ⟨ret_bool (by simp), hw5⟩
                    · have n3 : (M : Int) ≠ 1 := by omega
                      go_wp2_with fail
                      refine (bcount_any _ _ _ _ _ H4).mono ?_
                      rintro e w5 ⟨rfl, hb5⟩
                      rw [show cntB D = n - 1 from HN.out, ← HM.out]
                      have hw5 := hw4.trans (hb5.mono hw4.size)
                      go_wp2
                      go_ret
                      exact ⟨ret_bool (by simp), hw5⟩
        · skip
          go_enter Try.func4, Try.ntmps4
          go_wp2_with fail
          refine (HA.out _).mono ?_
          rintro e0 w0 ⟨rfl, hb0⟩
          have hw0 : Below w.heap.size w w0 := by
            refine Below.trans ?_ (hb0.mono ?_)
            · go_grown
            · go_size
          go_wp2
          all_goals
            go_ret
            exact ⟨rfl, by go_grown⟩
      · skip
        go_enter Try.func4, Try.ntmps4
        go_wp2_with fail
        refine (HA.out _).mono ?_
        rintro e0 w0 ⟨rfl, hb0⟩
        have hw0 : Below w.heap.size w w0 := by
          refine Below.trans ?_ (hb0.mono ?_)
          · go_grown
          · go_size
        go_wp2
        all_goals
          go_ret
          exact ⟨rfl, by go_grown⟩
    · skip
      go_enter Try.func4, Try.ntmps4
      go_wp2_with fail
      refine (HA.out _).mono ?_
      rintro e0 w0 ⟨rfl, hb0⟩
      have hw0 : Below w.heap.size w w0 := by
        refine Below.trans ?_ (hb0.mono ?_)
        · go_grown
        · go_size
      go_wp2
      all_goals
        go_ret
        exact ⟨rfl, by go_grown⟩
  · skip
    go_enter Try.func4, Try.ntmps4
    go_wp2_with fail
    refine (HA.out _).mono ?_
    rintro e0 w0 ⟨rfl, hb0⟩
    have hw0 : Below w.heap.size w w0 := by
      refine Below.trans ?_ (hb0.mono ?_)
      · go_grown
      · go_size
    go_wp2
    all_goals
      go_ret
      exact ⟨rfl, by go_grown⟩
end Go.Proofs.Ythpdjiikbhjhdaa
