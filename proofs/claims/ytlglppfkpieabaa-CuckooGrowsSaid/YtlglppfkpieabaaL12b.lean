/-
  CuckooGrows as a walk: it hands back true, for every input. No condition but that the numbers are whole numbers of 64 bits.
-/
import Derived.Test.YtlglppfkpieabaaL12
set_option linter.unusedSimpArgs false
set_option linter.unusedVariables false
namespace Go.Proofs.Ytlglppfkpieabaa
open Go.RowKit Go.Sort M

def kG (j : Nat) : Ky := ⟨j * 4294967296, 0, 32⟩
def vG (j : Nat) : Int := j
theorem kG_good {j : Nat} (h : j < 128) : (kG j).good := ⟨W64.mk (by show j * 4294967296 < _; omega), W64.mk (by show (0 : Nat) < _; decide)⟩
theorem kG_v (j : Nat) : kyV (kG j) = .agg #[.int .u64 ((j : Int) * 4294967296), .int .u64 0, .int .i64 32] := by
  unfold kyV kG
  rw [show ((j * 4294967296 : Nat) : Int) = (j : Int) * 4294967296 by omega]
  rfl
theorem kG_ne {i j : Nat} (h : i ≠ j) : kG i ≠ kG j := fun e => h (by injection e with e; omega)
/-- The table of the law behind so many puts. -/
structure Grew (T : Tab) (j : Nat) : Prop where
  hold : Hold T j kG vG
  calm : Calm T
  one : j ≤ 12 → T.B.length = 1
theorem Grew.put {T : Tab} {j : Nat} (H : Grew T j) (hj : j < 128) : Grew (putF 16 T ⟨kG j, vG j⟩) (j + 1) := by
  have hlo := H.hold.inv.lo
  have h := H.hold.new 16 (kG_good hj) (fun i hi => kG_ne (by omega))
  exact ⟨h, putF_calm 16 T _ H.hold.inv (kG_good hj) (by omega) H.calm, fun h12 => put_small 16 H.hold.inv (kG_good hj) (H.one (by omega)) (by rw [h.len]; omega)⟩
theorem Grew.small {T : Tab} {j : Nat} (H : Grew T j) (h : j ≤ 12) : T.B.length = 1 ∧ T.st.length ≤ 8 := by
  have h1 := H.one h
  have := H.calm
  unfold Calm at this
  omega
theorem Grew.great {T : Tab} {j : Nat} (H : Grew T j) (h : 12 < j) : 2 ≤ T.B.length := by
  have h1 := H.hold.inv.lo
  have h2 := H.hold.len
  by_cases e : T.B.length = 1
  · have := small_le H.hold.inv H.calm e
    omega
  · omega
set_option maxRecDepth 100000 in
set_option maxHeartbeats 8000000 in
theorem grows_walk (s : Nat) (n : Int) (ws : W64 s) (wn : (Lit.int .i64 n).wf = true) (w : World) :
    Calls Try.prog 5 #[.int .u64 s, .int .i64 n] w fun e w' => e = .returned (.bool true) ∧ Below w.heap.size w w' := by
  have HA := Lib.hid alive12_any
  clear wn
  by_cases n0 : n < 0
  · have n1 := n0
    go_enter Try.func5, Try.ntmps5
    go_wp2_with fail
    refine (HA.out _).mono ?_
    rintro e0 w0 ⟨rfl, hb0⟩
    have hw0 : Below w.heap.size w w0 := by
      refine Below.trans ?_ (hb0.mono ?_)
      · go_grown
      · go_size
    go_wp2
    go_ret
    exact ⟨rfl, by go_grown⟩
  · by_cases n1 : 120 < n
    · have n2 := n1
      go_enter Try.func5, Try.ntmps5
      go_wp2_with fail
      refine (HA.out _).mono ?_
      rintro e0 w0 ⟨rfl, hb0⟩
      have hw0 : Below w.heap.size w w0 := by
        refine Below.trans ?_ (hb0.mono ?_)
        · go_grown
        · go_size
      go_wp2
      go_ret
      exact ⟨rfl, by go_grown⟩
    · obtain ⟨N, rfl⟩ := Int.eq_ofNat_of_zero_le (show 0 ≤ n by omega)
      have HN := Lib.hid (num12_any 0)
      have hN : N ≤ 120 := by omega
      go_enter Try.func5, Try.ntmps5
      go_wp2_with fail
      refine (HA.out _).mono ?_
      rintro e0 w0 ⟨rfl, hb0⟩
      have hw0 : Below w.heap.size w w0 := by
        refine Below.trans ?_ (hb0.mono ?_)
        · go_grown
        · go_size
      have hz0 := hw0.size
      go_wp2_with fail
      refine (Seat.new s 1 _ (by decide) (by decide)).mono ?_
      rintro e w1 ⟨t, rfl, H1, hb1⟩
      have hw1 := hw0.trans (hb1.mono hz0)
      have H1 : Seat (fun k => w.heap.size ≤ k) w1 t (emptyT s 1) := H1.mono fun k _ hk => Nat.le_trans hz0 hk
      clear hb1 hw0 hz0
      go_wp2_with fail
      refine (HN.out _).mono ?_
      rintro e w2 ⟨rfl, hb2⟩
      have hw2 := hw1.trans (hb2.mono hw1.size)
      have H2 := H1.below hb2
      have HG0 : Grew (emptyT s 1) 0 := ⟨Hold.empty ws (by decide) (by decide) _ _, .inl (by simp [emptyT]), fun _ => by simp [emptyT]⟩
      clear hb2 H1 hw1
      go_wp2
      go_loopw [8] (fun i8 wr => ∃ (j : Nat) (T : Tab), j ≤ N ∧ i8 = .int .i64 (j : Int) ∧ Hid (Grew T j) ∧ Hid (Seat (fun k => w.heap.size ≤ k) wr t T) ∧ Below w.heap.size w wr) (fun i8 _ => N - (intOf i8).toNat)
      case atStart => exact ⟨0, _, Nat.zero_le _, rfl, HG0, H2, hw2⟩
      case round =>
        clear H2 hw2 HG0
        obtain ⟨j, T, hj, rfl, HGT, HST, hw⟩ := hrel
        by_cases hlt : j < N
        · have HG2 := Lib.hid (HGT.out.put (by omega))
          have hP := Seat.put (P := fun k => w.heap.size ≤ k) t T ⟨kG j, vG j⟩ wr HST.out HGT.out.hold.inv (kG_good (by omega)) (by rw [HGT.out.hold.len]; omega) (fun k hk => Nat.le_trans hw.size hk)
          obtain ⟨T2, hT2⟩ : ∃ T2, T2 = putF 16 T ⟨kG j, vG j⟩ := ⟨_, rfl⟩
          rw [← hT2] at hP HG2
          rw [kG_v] at hP
          unfold vG at hP
          have HP := Lib.hid hP
          clear hP hT2
          go_wp2_with fail
          refine HP.out.mono ?_
          rintro e w3 ⟨rfl, H3, ht3⟩
          have hw3 := hw.trans (ht3.below hw.size fun k hk => hk)
          have hsz := Seat.size t T2 _ H3
          have hbb : ∃ bI sI : Int, bI = (T2.B.length : Int) ∧ sI = (T2.st.length : Int) := ⟨_, _, rfl, rfl⟩
          obtain ⟨bI, sI, hbI, hsI⟩ := hbb
          rw [← hbI, ← hsI] at hsz
          have hs8 : sI ≤ 8 ∨ 65536 ≤ bI := by have := HG2.out.calm; unfold Calm at this; omega
          have HS2 := Lib.hid hsz
          have HST2 := Lib.hid H3
          have hcase : (j < 12 ∧ bI = 1 ∧ sI ≤ 8) ∨ (j = 12 ∧ 2 ≤ bI) ∨ 12 < j := by
            by_cases h1 : j < 12
            · have := HG2.out.small (by omega); exact .inl ⟨h1, by omega, by omega⟩
            · by_cases h2 : j = 12
              · have := HG2.out.great (by omega); exact .inr (.inl ⟨h2, by omega⟩)
              · exact .inr (.inr (by omega))
          clear H3 ht3 hsz hbI hsI HP HGT HST hw
          rcases hcase with ⟨j1, b1, s1⟩ | ⟨j1, b1⟩ | j1
          · have g1 : (j : Int) < 12 := by omega
            have g2 : ¬ (8 : Int) < sI := by omega
            have g3 : ((j : Int) == 12) = false := by simp; omega
            subst b1
            clear hs8
            go_wp2_with fail
            refine HS2.out.mono ?_
            rintro e w4 ⟨rfl, hb4⟩
            have hw4 := hw3.trans (hb4.mono hw3.size)
            have H4 := Lib.hid (HST2.out.below hb4)
            clear hb4
            go_wp2
            go_roundw
            all_goals first
              | exact ⟨_, T2, by omega, by go_num, HG2, H4, hw4⟩
              | (simp [intOf]; omega)
              | exact ⟨⟨_, T2, by omega, by go_num, HG2, H4, hw4⟩, by simp [intOf]; omega⟩
          · subst j1
            have g1 : ¬ bI < 2 := by omega
            rcases hs8 with h8 | h8
            · have g2 : ¬ (8 : Int) < sI := by omega
              go_wp2_with fail
              refine HS2.out.mono ?_
              rintro e w4 ⟨rfl, hb4⟩
              have hw4 := hw3.trans (hb4.mono hw3.size)
              have H4 := Lib.hid (HST2.out.below hb4)
              clear hb4
              go_wp2
              go_roundw
              all_goals first
                | exact ⟨_, T2, by omega, by go_num, HG2, H4, hw4⟩
                | (simp [intOf]; omega)
                | exact ⟨⟨_, T2, by omega, by go_num, HG2, H4, hw4⟩, by simp [intOf]; omega⟩
            · have g2 : ¬ bI < 65536 := by omega
              go_wp2_with fail
              refine HS2.out.mono ?_
              rintro e w4 ⟨rfl, hb4⟩
              have hw4 := hw3.trans (hb4.mono hw3.size)
              have H4 := Lib.hid (HST2.out.below hb4)
              clear hb4
              go_wp2
              go_roundw
              all_goals first
                | exact ⟨_, T2, by omega, by go_num, HG2, H4, hw4⟩
                | (simp [intOf]; omega)
                | exact ⟨⟨_, T2, by omega, by go_num, HG2, H4, hw4⟩, by simp [intOf]; omega⟩
          · have g1 : ¬ (j : Int) < 12 := by omega
            have g3 : ((j : Int) == 12) = false := by simp; omega
            rcases hs8 with h8 | h8
            · have g2 : ¬ (8 : Int) < sI := by omega
              go_wp2_with fail
              refine HS2.out.mono ?_
              rintro e w4 ⟨rfl, hb4⟩
              have hw4 := hw3.trans (hb4.mono hw3.size)
              have H4 := Lib.hid (HST2.out.below hb4)
              clear hb4
              go_wp2
              go_roundw
              all_goals first
                | exact ⟨_, T2, by omega, by go_num, HG2, H4, hw4⟩
                | (simp [intOf]; omega)
                | exact ⟨⟨_, T2, by omega, by go_num, HG2, H4, hw4⟩, by simp [intOf]; omega⟩
            · have g2 : ¬ bI < 65536 := by omega
              go_wp2_with fail
              refine HS2.out.mono ?_
              rintro e w4 ⟨rfl, hb4⟩
              have hw4 := hw3.trans (hb4.mono hw3.size)
              have H4 := Lib.hid (HST2.out.below hb4)
              clear hb4
              go_wp2
              go_roundw
              all_goals first
                | exact ⟨_, T2, by omega, by go_num, HG2, H4, hw4⟩
                | (simp [intOf]; omega)
                | exact ⟨⟨_, T2, by omega, by go_num, HG2, H4, hw4⟩, by simp [intOf]; omega⟩
        · obtain rfl : j = N := by omega
          have HH := HGT.out.hold
          have hlen := HH.len
          have hGET : ∀ (i : Nat) (w1 : World), i < j → Seat (fun k => w.heap.size ≤ k) w1 t T → Calls Try.prog 21 #[.pointer (some ⟨t, 0, none⟩), .agg #[.int .u64 ((i : Int) * 4294967296), .int .u64 0, .int .i64 32]] w1 fun e w' => ∃ p c, e = .returned (.tuple #[.int .i64 (i : Int), .bool true, .slice p (readT T (kG i)).length c]) ∧ w'.ownsRow w1.heap.size 3 1 (.slice p (readT T (kG i)).length c) (readT T (kG i)).length (ics (readT T (kG i))) ∧ Below w1.heap.size w1 w' := by
            intro i w1 hi H
            have h := Seat.get t T (kG i) w1 H HH.inv (kG_good (by omega)) (by omega)
            rw [HH.get hi, kG_v] at h
            exact h
          have HLEN : Hid (∀ (w1 : World), Seat (fun k => w.heap.size ≤ k) w1 t T → Calls Try.prog 20 #[.pointer (some ⟨t, 0, none⟩)] w1 fun e w' => e = .returned (.int .i64 (j : Int)) ∧ Below w1.heap.size w1 w') := by
            intro w1 H
            have h := Seat.len t T w1 H
            rw [hlen] at h
            exact h
          have HGET := Lib.hid hGET
          have hlast : ¬ ((j : Int) < (j : Int)) := by omega
          clear hGET HH hlen HGT
          go_wp2_with fail
          go_loopw [12] (fun i12 wr2 => ∃ (i : Nat), i ≤ j ∧ i12 = .int .i64 (i : Int) ∧ Hid (Seat (fun k => w.heap.size ≤ k) wr2 t T) ∧ Below w.heap.size w wr2) (fun i12 _ => j - (intOf i12).toNat)
          case atStart => exact ⟨0, Nat.zero_le _, rfl, HST, hw⟩
          case round =>
            clear HST hw hlast
            obtain ⟨i, hi, rfl, HSR, hw⟩ := hrel
            by_cases hil : i < j
            · have HC := Lib.hid (HGET.out i _ hil HSR.out)
              obtain ⟨r, hr⟩ : ∃ r, r = (readT T (kG i)).length := ⟨_, rfl⟩
              have hrl := (read_len T (kG i)).1
              rw [← hr] at HC hrl
              have hr0 : ((r : Int) == 0) = false := by simp; omega
              clear hr hrl
              go_wp2_with fail
              refine HC.out.mono ?_
              rintro e w4 ⟨p, c, rfl, -, hb4⟩
              have hw4 := hw.trans (hb4.mono hw.size)
              have H4 := Lib.hid (HSR.out.below hb4)
              clear hb4 HC
              go_wp2
              go_roundw
              all_goals first
                | exact ⟨i + 1, by omega, by go_num, H4, hw4⟩
                | (simp [intOf]; omega)
                | exact ⟨⟨i + 1, by omega, by go_num, H4, hw4⟩, by simp [intOf]; omega⟩
            · have hie : i = j := by omega
              subst hie
              go_wp2_with fail
              refine (HLEN.out _ HSR.out).mono ?_
              rintro e w4 ⟨rfl, hb4⟩
              have hw4 := hw.trans (hb4.mono hw.size)
              clear hb4
              go_wp2
              go_ret
              exact ⟨rfl, hw4⟩
end Go.Proofs.Ytlglppfkpieabaa
