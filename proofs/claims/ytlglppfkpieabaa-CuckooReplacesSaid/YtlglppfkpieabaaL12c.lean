/-
  CuckooReplaces as a walk: it hands back true, for every input. No condition but that the numbers are whole numbers of 64 bits and that the row of numbers lies in old memory.
-/
import Derived.Test.YtlglppfkpieabaaL12
set_option linter.unusedSimpArgs false
set_option linter.unusedVariables false
namespace Go.Proofs.Ytlglppfkpieabaa
open Go.RowKit Go.Sort M

def kR (j : Nat) : Ky := ⟨j * 1125899906842624, 0, 14⟩
theorem kR_good {j : Nat} (h : j < 64) : (kR j).good := ⟨W64.mk (by show j * 1125899906842624 < _; omega), W64.mk (by show (0 : Nat) < _; decide)⟩
theorem kR_v (j : Nat) : kyV (kR j) = .agg #[.int .u64 ((j : Int) * 1125899906842624), .int .u64 0, .int .i64 14] := by
  unfold kyV kR
  rw [show ((j * 1125899906842624 : Nat) : Int) = (j : Int) * 1125899906842624 by omega]
  rfl
theorem kR_ne {i j : Nat} (h : i ≠ j) : kR i ≠ kR j := fun e => h (by injection e with e; omega)
theorem mask1023 (x : Int) : bits BinOp.and IntKind.i64 x 1023 = ((x % 1024).toNat : Int) := by
  have h : (BitVec.ofInt 64 x &&& BitVec.ofInt 64 1023).toNat = (x % 1024).toNat := by
    rw [BitVec.toNat_and, BitVec.toNat_ofInt, show (BitVec.ofInt 64 1023).toNat = 2 ^ 10 - 1 by decide, Nat.and_two_pow_sub_one_eq_mod]
    omega
  show IntKind.i64.wrap (((BitVec.ofInt 64 x &&& BitVec.ofInt 64 1023).toNat : Nat) : Int) = _
  rw [h, IntKind.wrap_i64]
  omega
def rowV (L : List Int) (j : Nat) : Int := L.getD j 0
theorem rowV_at (L : List Int) (j : Nat) (h : j < L.length) : rowV L j = L[j] := by simp [rowV, h]
theorem rowV_set (L : List Int) (i : Nat) (x : Int) (h : i < L.length) : rowV (L.set i x) i = x := by simp [rowV, h]
theorem rowV_ne (L : List Int) (i j : Nat) (x : Int) (h : j ≠ i) : rowV (L.set i x) j = rowV L j := by simp [rowV, List.getElem?_set, Ne.symm h]
theorem rowV_zero (n j : Nat) : rowV (List.replicate n 0) j = 0 := by
  unfold rowV
  rw [List.getD_eq_getElem?_getD, List.getElem?_replicate]
  split <;> rfl
theorem Hold.same {T : Tab} {n : Nat} {K : Nat → Ky} {V V' : Nat → Int} (H : Hold T n K V) (h : ∀ j, j < n → V' j = V j) : Hold T n K V' := ⟨H.inv, H.len, fun j hj => by rw [h j hj]; exact H.mem j hj, H.all⟩
/-- The table and the row of the law, behind so many puts. -/
structure Repl (T : Tab) (n : Nat) (L : List Int) (b c : Nat) (s : Nat) : Prop where
  hold : Hold T n kR (rowV L)
  len : L.length = n
  b : T.B.length = b
  c : T.st.length = c
  s : T.s = s
theorem Repl.again {T : Tab} {n b c s : Nat} {L : List Int} (H : Repl T n L b c s) {i : Nat} (hi : i < n) (x : Int) : Repl (putF 16 T ⟨kR i, x⟩) n (L.set i x) b c s := by
  have h := H.hold.again 16 (V' := rowV (L.set i x)) hi (fun j _ e => kR_ne e) (fun j _ e => rowV_ne L i j x e)
  rw [rowV_set L i x (by rw [H.len]; exact hi)] at h
  exact ⟨h.1, by rw [List.length_set]; exact H.len, h.2.1.trans H.b, h.2.2.1.trans H.c, h.2.2.2.trans H.s⟩
theorem icsR_set (L : List Int) (k : Nat) (x : Int) : (ics L).set k (.int .i64 x) = ics (L.set k x) := by simp [ics, List.map_set]
theorem ics_zero (n : Nat) : ics (List.replicate n 0) = (madeCells #[.int .i64 0] n).toList := by
  apply List.ext_getElem?
  intro j
  by_cases h : j < n
  · simp [ics, madeCells, h, Nat.mod_one]
  · rw [List.getElem?_eq_none (by simp [ics]; omega), List.getElem?_eq_none (by simp [madeCells]; omega)]
set_option maxRecDepth 100000 in
set_option maxHeartbeats 8000000 in
theorem replaces_walk (s : Nat) (n keys : Int) (p : Option Addr) (q : Nat) (A : List Int) (ws : W64 s) (w : World) (hR : IRow w p A) (hA : A.length ≤ maxLen) :
    Calls Try.prog 6 #[.int .u64 s, .int .i64 n, .int .i64 keys, .slice p A.length q] w fun e w' => e = .returned (.bool true) ∧ Below w.heap.size w w' := by
  have HA := Lib.hid alive12_any
  have HR := Lib.hid hR
  unfold maxLen at hA
  clear hR
  by_cases n0 : n < 1
  · have n1 := n0
    go_enter Try.func6, Try.ntmps6
    go_wp2_with fail
    refine (HA.out _).mono ?_
    rintro e0 w0 ⟨rfl, hb0⟩
    have hw0 : Below w.heap.size w w0 := by
      refine Below.trans ?_ (hb0.mono ?_)
      · go_grown
      · go_size
    go_wp2
    go_ret
    exact ⟨rfl, by go_grown⟩
  · by_cases n1 : 20 < n
    · have n2 := n1
      go_enter Try.func6, Try.ntmps6
      go_wp2_with fail
      refine (HA.out _).mono ?_
      rintro e0 w0 ⟨rfl, hb0⟩
      have hw0 : Below w.heap.size w w0 := by
        refine Below.trans ?_ (hb0.mono ?_)
        · go_grown
        · go_size
      go_wp2
      go_ret
      exact ⟨rfl, by go_grown⟩
    · by_cases k0 : keys < 1
      · have k1 := k0
        go_enter Try.func6, Try.ntmps6
        go_wp2_with fail
        refine (HA.out _).mono ?_
        rintro e0 w0 ⟨rfl, hb0⟩
        have hw0 : Below w.heap.size w w0 := by
          refine Below.trans ?_ (hb0.mono ?_)
          · go_grown
          · go_size
        go_wp2
        go_ret
        exact ⟨rfl, by go_grown⟩
      · by_cases k1 : 60 < keys
        · have k2 := k1
          go_enter Try.func6, Try.ntmps6
          go_wp2_with fail
          refine (HA.out _).mono ?_
          rintro e0 w0 ⟨rfl, hb0⟩
          have hw0 : Below w.heap.size w w0 := by
            refine Below.trans ?_ (hb0.mono ?_)
            · go_grown
            · go_size
          go_wp2
          go_ret
          exact ⟨rfl, by go_grown⟩
        · by_cases l0 : (100 : Int) < (A.length : Int)
          · have l1 := l0
            go_enter Try.func6, Try.ntmps6
            go_wp2_with fail
            refine (HA.out _).mono ?_
            rintro e0 w0 ⟨rfl, hb0⟩
            have hw0 : Below w.heap.size w w0 := by
              refine Below.trans ?_ (hb0.mono ?_)
              · go_grown
              · go_size
            go_wp2
            go_ret
            exact ⟨rfl, by go_grown⟩
          · obtain ⟨N, rfl⟩ := Int.eq_ofNat_of_zero_le (show 0 ≤ n by omega)
            obtain ⟨M, rfl⟩ := Int.eq_ofNat_of_zero_le (show 0 ≤ keys by omega)
            have HN := Lib.hid (num12_any 0)
            have hN : 1 ≤ N ∧ N ≤ 20 := by omega
            have hM : 1 ≤ M ∧ M ≤ 60 := by omega
            have hmk := make_row (P := Try.prog) (t := 49) Try.underlying49 infoI M (by omega) (by unfold maxLen; omega)
            go_enter Try.func6, Try.ntmps6
            go_wp2_with fail
            refine (HA.out _).mono ?_
            rintro e0 w0 ⟨rfl, hb0⟩
            have hw0 : Below w.heap.size w w0 := by
              refine Below.trans ?_ (hb0.mono ?_)
              · go_grown
              · go_size
            have hz0 := hw0.size
            go_wp2_with fail
            refine (Seat.new s N _ (by omega) (by omega)).mono ?_
            rintro e w1 ⟨t, rfl, H1, hb1⟩
            have hw1 := hw0.trans (hb1.mono hz0)
            have H1 : Seat (fun k => w.heap.size ≤ k) w1 t (emptyT s N) := H1.mono fun k _ hk => Nat.le_trans hz0 hk
            clear hb1 hw0 hz0
            go_wp2_with fail
            refine (HN.out _).mono ?_
            rintro e w2 ⟨rfl, hb2⟩
            have hw2 := hw1.trans (hb2.mono hw1.size)
            have H2 := H1.below hb2
            clear hb2 H1 hw1
            go_wp2
            obtain ⟨gc, hgc⟩ : ∃ gc, gc = w2.heap.size := ⟨_, rfl⟩
            have hown0 : (w2.alloc (.cells (madeCells #[.int .i64 0] M) 3)).ownsRow w.heap.size 3 1 (.slice (some ⟨gc, 0, none⟩) M M) M (ics (List.replicate M 0)) := by
              rw [ics_zero, hgc]
              exact World.ownsRow_lit _ _ M hw2.size (by unfold maxLen; omega) (by simp [madeCells])
            have H2a : Seat (fun k => w.heap.size ≤ k ∧ k ≠ gc) (w2.alloc (.cells (madeCells #[.int .i64 0] M) 3)) t (emptyT s N) := (H2.mono (Q := fun k => w.heap.size ≤ k ∧ k ≠ gc) fun k hk hp => ⟨hp, by omega⟩).below (by go_grown)
            have hw2a : Below w.heap.size w (w2.alloc (.cells (madeCells #[.int .i64 0] M) 3)) := hw2.alloc hw2.size _
            have hgs : gc < (w2.alloc (.cells (madeCells #[.int .i64 0] M) 3)).heap.size := by rw [hgc]; simp
            rw [← hgc]
            generalize World.alloc w2 _ = w3 at *
            have HH0 : Hold (emptyT s N) 0 kR (fun _ => 0) := Hold.empty ws (by omega) (by omega) _ _
            clear H2 hw2 hgc hmk
            go_loopw [13] (fun i13 wr => ∃ (j : Nat) (T : Tab), j ≤ M ∧ i13 = .int .i64 (j : Int) ∧ Hid (Hold T j kR (fun _ => 0)) ∧ Hid (Seat (fun k => w.heap.size ≤ k ∧ k ≠ gc) wr t T) ∧ Hid (wr.ownsRow w.heap.size 3 1 (.slice (some ⟨gc, 0, none⟩) M M) M (ics (List.replicate M 0))) ∧ Below w.heap.size w wr) (fun i13 _ => M - (intOf i13).toNat)
            case atStart => exact ⟨0, _, Nat.zero_le _, rfl, HH0, H2a, hown0, hw2a⟩
            case round =>
              clear H2a hown0 hw2a HH0 hgs
              obtain ⟨j, T, hj, rfl, HHT, HST, HO, hw⟩ := hrel
              by_cases hlt : j < M
              · have hgs := (HO.out.lt gc rfl).2
                have hP := Seat.put t T ⟨kR j, 0⟩ wr HST.out HHT.out.inv (kR_good (by omega)) (by rw [HHT.out.len]; omega) (fun k hk => ⟨Nat.le_trans hw.size hk, by omega⟩)
                rw [kR_v] at hP
                have HP := Lib.hid hP
                have HH2 := Lib.hid (HHT.out.new 16 (kR_good (by omega)) (fun i hi => kR_ne (by omega)))
                clear hP hgs
                go_wp2_with fail
                refine HP.out.mono ?_
                rintro e w4 ⟨rfl, H4, ht4⟩
                have hw4 := hw.trans (ht4.below hw.size fun k hk => hk.1)
                have HO4 := Lib.hid (Touch.own HO.out ht4 (fun j e hj => by cases e; exact hj.2 rfl))
                have H4 := Lib.hid H4
                clear ht4 HP HST HO hw
                go_wp2
                go_roundw
                all_goals first
                  | exact ⟨j + 1, _, by omega, by go_num, HH2, H4, HO4, hw4⟩
                  | (simp [intOf]; omega)
              · obtain rfl : j = M := by omega
                have hjj : ¬ ((j : Int) < (j : Int)) := by omega
                obtain ⟨b, hb⟩ : ∃ b, b = T.B.length := ⟨_, rfl⟩
                obtain ⟨c, hc⟩ : ∃ c, c = T.st.length := ⟨_, rfl⟩
                obtain ⟨s2, hs2⟩ : ∃ s2, s2 = T.s := ⟨_, rfl⟩
                have HREP : Hid (Repl T j (List.replicate j 0) b c s2) := ⟨HHT.out.same (fun i _ => rowV_zero j i), List.length_replicate, hb.symm, hc.symm, hs2.symm⟩
                have HSZ : Hid (∀ (T : Tab) (L : List Int) (w1 : World), Repl T j L b c s2 → Seat (fun k => w.heap.size ≤ k ∧ k ≠ gc) w1 t T → Calls Try.prog 15 #[.pointer (some ⟨t, 0, none⟩)] w1 fun e w' => e = .returned (.tuple #[.int .u64 (s2 : Int), .int .i64 (b : Int), .int .i64 (c : Int)]) ∧ Below w1.heap.size w1 w') := by
                  intro T L w1 HR H
                  have h := Seat.size t T w1 H
                  rw [HR.s, HR.b, HR.c] at h
                  exact h
                clear HHT hb hc hs2
                go_wp2_with fail
                refine (HSZ.out T _ _ HREP.out HST.out).mono ?_
                rintro e w4 ⟨rfl, hb4⟩
                have hw4 := hw.trans (hb4.mono hw.size)
                have HST4 := Lib.hid (HST.out.below hb4)
                have HO4 := Lib.hid (own_below HO.out hb4)
                clear hb4 HST HO hw
                go_wp2
                go_loopw [17, 18] (fun i17 i18 wr2 => ∃ (i : Nat) (T : Tab) (L : List Int), i ≤ A.length ∧ i17 = .int .i64 (i : Int) ∧ Hid (Repl T j L b c s2) ∧ Hid (Seat (fun k => w.heap.size ≤ k ∧ k ≠ gc) wr2 t T) ∧ Hid (wr2.ownsRow w.heap.size 3 1 (.slice (some ⟨gc, 0, none⟩) j j) j (ics L)) ∧ Below w.heap.size w wr2) (fun i17 _ _ => A.length - (intOf i17).toNat)
                case atStart => exact ⟨0, _, _, Nat.zero_le _, rfl, HREP, HST4, HO4, hw4⟩
                case round =>
                  clear HREP HST4 HO4 hw4 hjj T
                  obtain ⟨i, T, L, hi, rfl, HREP, HST, HO, hw⟩ := hrel
                  by_cases hil : i < A.length
                  · obtain ⟨ga, oa, rfl, hga, d0⟩ := HR.out.at hil
                    obtain ⟨x, hx⟩ : ∃ x, x = (A[i] % 1024).toNat % j := ⟨_, rfl⟩
                    have hxj : x < j := by rw [hx]; exact Nat.mod_lt _ (by omega)
                    have hmd := mask1023 A[i]
                    have d1 := (hw.cell (p := ⟨ga, oa + i, none⟩) hga).trans d0
                    have hga2 := Nat.lt_of_lt_of_le hga hw.size
                    have hrem : ((A[i] % 1024).toNat : Int).tmod (j : Int) = (x : Int) := by
                      rw [hx, Int.tmod_eq_emod_of_nonneg (by omega)]
                      omega
                    generalize A[i] = ai at *
                    have hj0 : ¬ (j : Int) = 0 := by omega
                    clear hx d0
                    generalize (ai % 1024).toNat = am at *
                    have hLl := HREP.out.len
                    have q0 : wr.cell? ⟨gc, x, none⟩ = some (.int .i64 L[x]) := (HO.out.cellAt x (by omega)).trans (ics_cell L x (by omega))
                    have f0 := HO.out.frozenAt x
                    have hgw := (HO.out.lt gc rfl).2
                    generalize L[x] = lx at *
                    obtain ⟨hs1, hs2⟩ := HO.out.stored x (.int .i64 ((i : Int) + 1))
                    rw [icsR_set] at hs1
                    have HS1 := Lib.hid hs1
                    have HS2 := Lib.hid (HST.out.touched (S := fun k => k = gc) (Touch.of_grown hs2 (fun j e => by cases e; rfl)) (fun k hp he => hp.2 he))
                    have HREP2 := Lib.hid (HREP.out.again hxj ((i : Int) + 1))
                    have hP := fun w1 H hg => Seat.put (P := fun k => w.heap.size ≤ k ∧ k ≠ gc) t T ⟨kR x, (i : Int) + 1⟩ w1 H HREP.out.hold.inv (kR_good (by omega)) (by rw [HREP.out.hold.len]; omega) hg
                    rw [kR_v] at hP
                    have HP := Lib.hid hP
                    have hw5 := Lib.hid (hw.grown hs2 hw.size (fun k e => by cases e; exact (HO.out.lt gc rfl).1))
                    clear hs1 hs2 hP hLl
                    go_wp2_with fail
                    refine (HP.out _ HS2.out (fun k hk => ⟨Nat.le_trans hw5.out.size hk, by have := (HS1.out.lt gc rfl).2; omega⟩)).mono ?_
                    rintro e w6 ⟨rfl, H6, ht6⟩
                    have hw6 := hw5.out.trans (ht6.below hw5.out.size fun k hk => hk.1)
                    have HO6 := Lib.hid (Touch.own HS1.out ht6 (fun j e hj => by cases e; exact hj.2 rfl))
                    have HST6 := Lib.hid H6
                    clear H6 ht6 HP HS1 HS2 hw5 HST HO hw HREP q0 f0 hgw d1 hga2
                    go_wp2
                    go_roundw
                    all_goals first
                      | exact ⟨i + 1, _, _, by omega, by go_num, HREP2, HST6, HO6, hw6⟩
                      | (simp [intOf]; omega)
                  · have hai : i = A.length := by omega
                    have hjj : ¬ ((i : Int) < (A.length : Int)) := by omega
                    have hhold := HREP.out.hold
                    have hGET : ∀ (k : Nat) (w1 : World), k < j → Seat (fun k => w.heap.size ≤ k ∧ k ≠ gc) w1 t T → Calls Try.prog 21 #[.pointer (some ⟨t, 0, none⟩), .agg #[.int .u64 ((k : Int) * 1125899906842624), .int .u64 0, .int .i64 14]] w1 fun e w' => ∃ p c, e = .returned (.tuple #[.int .i64 (rowV L k), .bool true, .slice p (readT T (kR k)).length c]) ∧ w'.ownsRow w1.heap.size 3 1 (.slice p (readT T (kR k)).length c) (readT T (kR k)).length (ics (readT T (kR k))) ∧ Below w1.heap.size w1 w' := by
                      intro k w1 hk H
                      have h := Seat.get t T (kR k) w1 H hhold.inv (kR_good (by omega)) (by rw [hhold.len]; omega)
                      rw [hhold.get hk, kR_v] at h
                      exact h
                    have HLEN : Hid (∀ (w1 : World), Seat (fun k => w.heap.size ≤ k ∧ k ≠ gc) w1 t T → Calls Try.prog 20 #[.pointer (some ⟨t, 0, none⟩)] w1 fun e w' => e = .returned (.int .i64 (j : Int)) ∧ Below w1.heap.size w1 w') := by
                      intro w1 H
                      have h := Seat.len t T w1 H
                      rw [hhold.len] at h
                      exact h
                    have HGET := Lib.hid hGET
                    clear hGET hhold hai
                    go_wp2_with fail
                    refine (HSZ.out T L _ HREP.out HST.out).mono ?_
                    rintro e w4 ⟨rfl, hb4⟩
                    have hw4 := hw.trans (hb4.mono hw.size)
                    have HST4 := Lib.hid (HST.out.below hb4)
                    have HO4 := Lib.hid (own_below HO.out hb4)
                    clear hb4 HST HO hw hjj
                    go_wp2
                    go_loopw [22] (fun i22 wr2 => ∃ (k : Nat), k ≤ j ∧ i22 = .int .i64 (k : Int) ∧ Hid (Seat (fun k => w.heap.size ≤ k ∧ k ≠ gc) wr2 t T) ∧ Hid (wr2.ownsRow w.heap.size 3 1 (.slice (some ⟨gc, 0, none⟩) j j) j (ics L)) ∧ Below w.heap.size w wr2) (fun i22 _ => j - (intOf i22).toNat)
                    case atStart => exact ⟨0, Nat.zero_le _, rfl, HST4, HO4, hw4⟩
                    case round =>
                      clear HST4 HO4 hw4
                      obtain ⟨k, hk, rfl, HST, HO, hw⟩ := hrel
                      by_cases hkl : k < j
                      · have hLl := HREP.out.len
                        have HC := Lib.hid (HGET.out k _ hkl HST.out)
                        have hrv := rowV_at L k (by omega)
                        have q0 : wr.cell? ⟨gc, k, none⟩ = some (.int .i64 (rowV L k)) := by rw [hrv]; exact (HO.out.cellAt k (by omega)).trans (ics_cell L k (by omega))
                        have hgw := (HO.out.lt gc rfl).2
                        clear hrv
                        generalize rowV L k = x at *
                        go_wp2_with fail
                        refine HC.out.mono ?_
                        rintro e w5 ⟨p5, c5, rfl, -, hb5⟩
                        have hw5 := hw.trans (hb5.mono hw.size)
                        have HST5 := Lib.hid (HST.out.below hb5)
                        have HO5 := Lib.hid (own_below HO.out hb5)
                        have q0 := (hb5.cell (p := ⟨gc, k, none⟩) hgw).trans q0
                        have hgw5 := Nat.lt_of_lt_of_le hgw hb5.size
                        clear hb5 HC HST HO hw hgw
                        go_wp2
                        go_roundw
                        all_goals first
                          | exact ⟨k + 1, by omega, by go_num, HST5, HO5, hw5⟩
                          | (simp [intOf]; omega)
                          | exact ⟨⟨k + 1, by omega, by go_num, HST5, HO5, hw5⟩, by simp [intOf]; omega⟩
                      · have hkj : k = j := by omega
                        have hkn : ¬ ((k : Int) < (j : Int)) := by omega
                        clear hkl
                        go_wp2_with fail
                        refine (HLEN.out _ HST.out).mono ?_
                        rintro e w5 ⟨rfl, hb5⟩
                        have hw5 := hw.trans (hb5.mono hw.size)
                        clear hb5
                        go_wp2
                        go_ret
                        exact ⟨rfl, hw5⟩
end Go.Proofs.Ytlglppfkpieabaa
