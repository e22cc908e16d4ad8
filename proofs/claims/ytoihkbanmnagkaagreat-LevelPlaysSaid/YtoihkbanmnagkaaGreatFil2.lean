/-
  What Add of a counting filter does. No condition but those that stand in each.
-/
import Derived.Test.YtoihkbanmnagkaaGreatRFil2d
import Derived.Test.YtoihkbanmnagkaaGreatRL21c
import Derived.Test.YtoihkbanmnagkaaGreatOpen21
import Derived.Test.YtoihkbanmnagkaaGreatW1c
import Derived.Test.YtoihkbanmnagkaaGreatM12
/-
  LevelPlays' walk: the program's level beside the reference's. No condition but those that stand in it.
-/
set_option linter.unusedSimpArgs false
set_option linter.unusedVariables false
namespace Go.Proofs.YtoihkbanmnagkaaGreat
open Go Go.RowKit Go.Sort M

theorem own_cap21 {w : World} {B n m d k : Nat} {e : TypeId} {q : Option Addr} {xs : List Value} (h : w.ownsRow B e k (.slice q n d) m xs) : n ≤ d := by
  rcases h.2 with ⟨e1, _⟩ | ⟨g, cap, cur, e1, _, _, hc, _⟩
  · injection e1 with _ e2 e3
    omega
  · injection e1 with _ e2 e3
    omega
theorem infoCh21 : (Tryz.prog.info? 40).map (fun i => (i.zero, i.size, i.bytes)) = some (some (.agg #[.int .u64 0, .int .u64 0, .int .i64 0, .int .i64 0, .int .i64 0]), 5, 40) := by kernel_rfl
def lpD (N : List Rt) (t : Nat) (n : Int) (i : Nat) (v : Value) (W : World) : Prop :=
  match i with
  | 1 => ∃ p c, v = .slice p N.length c ∧ Row W p (rcs N)
  | 6 => ∃ p c, v = .slice p N.length c ∧ Row W p (rcs N)
  | 7 => v = .bool true
  | 8 => v = .bool true
  | 9 => v = .pointer (some ⟨t, 0, none⟩)
  | 10 => v = .int .i64 n
  | 11 => v = .int .i64 n
  | 12 => v = .bool true
  | 13 => v = .bool true
  | 14 => v = .bool true
  | _ => True
theorem lpD_stable (N : List Rt) (t : Nat) (n : Int) : ∀ i v W W', Below W.heap.size W W' → lpD N t n i v W → lpD N t n i v W' := by
  intro i v W W' hb h
  unfold lpD at h ⊢
  split at h
  · obtain ⟨p, c, e, hr⟩ := h
    exact ⟨p, c, e, hr.below hb⟩
  · obtain ⟨p, c, e, hr⟩ := h
    exact ⟨p, c, e, hr.below hb⟩
  all_goals first | exact h | trivial
section
variable {P : World → (Nat → Prop) → Nat → Lv → Prop}
set_option maxHeartbeats 8000000 in
set_option maxRecDepth 100000 in
theorem plays_walk (D : LevC P) (n k m b : Int) (s : Nat) (q q2 : Option Addr) (c c2 : Nat) (L : List Ch) (T : List (Nat × Nat)) (w : World) (ws : W64 s) (hR : Row w q (ccs L)) (hg : ∀ x ∈ L, x.k.good) (hA : RowA 2 adrA w q2 T) (hgA : ∀ a ∈ T, W64 a.1 ∧ W64 a.2) (hL : L.length ≤ maxLen) (hT : T.length ≤ maxLen) :
    Calls Tryz.prog 3 #[.int .i64 n, .int .u64 (s : Int), .int .i64 k, .int .i64 m, .int .i64 b, .slice q L.length c, .slice q2 T.length c2] w fun e w' => e = .returned (.bool true) ∧ Below w.heap.size w w' := by
  have HA := Lib.hid (fun w => alive21_any D w)
  unfold maxLen at hL hT
  by_cases m1 : 300 < m
  · by_cases m2 : m ≤ 65536
    · skip
      clear hR hg hA
      go_enter Tryz.func3, Tryz.ntmps3
      go_wp2_with fail
      refine (HA.out _).mono ?_
      rintro e w1 ⟨rfl, hb1⟩
      clear HA
      go_wp2
      go_ret
      exact ⟨rfl, hb1⟩
    · by_cases b1 : 20 < b
      · by_cases b2 : b ≤ 65536
        · skip
          clear hR hg hA
          go_enter Tryz.func3, Tryz.ntmps3
          go_wp2_with fail
          refine (HA.out _).mono ?_
          rintro e w1 ⟨rfl, hb1⟩
          clear HA
          go_wp2
          go_ret
          exact ⟨rfl, hb1⟩
        · skip
          by_cases g7 : 60 < (L.length : Int)
          · skip
            clear hR hg hA
            go_enter Tryz.func3, Tryz.ntmps3
            go_wp2_with fail
            refine (HA.out _).mono ?_
            rintro e w1 ⟨rfl, hb1⟩
            clear HA
            go_wp2
            go_ret
            exact ⟨rfl, hb1⟩
          · by_cases g8 : 30 < (T.length : Int)
            · skip
              clear hR hg hA
              go_enter Tryz.func3, Tryz.ntmps3
              go_wp2_with fail
              refine (HA.out _).mono ?_
              rintro e w1 ⟨rfl, hb1⟩
              clear HA
              go_wp2
              go_ret
              exact ⟨rfl, hb1⟩
            · have hbad : badV n k m b := by unfold badV; omega
              have HB1 := Lib.hid (fun W => D.bad n k m b s W ws hbad)
              have HB2 := Lib.hid (fun W => rnewlevel_bad n k m b s W ws hbad)
              clear hR hg hA hbad
              go_enter Tryz.func3, Tryz.ntmps3
              go_wp2_with fail
              refine (HA.out _).mono ?_
              rintro e w1 ⟨rfl, hb1⟩
              clear HA
              go_wp2_with fail
              refine (HB1.out _).mono ?_
              rintro e w2 ⟨rfl, hb2⟩
              have hw2 := hb1.trans (hb2.mono hb1.size)
              clear HB1 hb1 hb2
              go_wp2_with fail
              refine (HB2.out _).mono ?_
              rintro e w3 ⟨rfl, hb3⟩
              have hw3 := hw2.trans (hb3.mono hw2.size)
              clear HB2 hw2 hb3
              go_wp2_with fail
              refine (num21_any 1 _).mono ?_
              rintro e w4 ⟨rfl, hb4⟩
              have hw4 := hw3.trans (hb4.mono hw3.size)
              clear hw3 hb4
              go_wp2
              go_ret
              exact ⟨rfl, hw4⟩
      · skip
        by_cases g7 : 60 < (L.length : Int)
        · skip
          clear hR hg hA
          go_enter Tryz.func3, Tryz.ntmps3
          go_wp2_with fail
          refine (HA.out _).mono ?_
          rintro e w1 ⟨rfl, hb1⟩
          clear HA
          go_wp2
          go_ret
          exact ⟨rfl, hb1⟩
        · by_cases g8 : 30 < (T.length : Int)
          · skip
            clear hR hg hA
            go_enter Tryz.func3, Tryz.ntmps3
            go_wp2_with fail
            refine (HA.out _).mono ?_
            rintro e w1 ⟨rfl, hb1⟩
            clear HA
            go_wp2
            go_ret
            exact ⟨rfl, hb1⟩
          · have hbad : badV n k m b := by unfold badV; omega
            have HB1 := Lib.hid (fun W => D.bad n k m b s W ws hbad)
            have HB2 := Lib.hid (fun W => rnewlevel_bad n k m b s W ws hbad)
            clear hR hg hA hbad
            go_enter Tryz.func3, Tryz.ntmps3
            go_wp2_with fail
            refine (HA.out _).mono ?_
            rintro e w1 ⟨rfl, hb1⟩
            clear HA
            go_wp2_with fail
            refine (HB1.out _).mono ?_
            rintro e w2 ⟨rfl, hb2⟩
            have hw2 := hb1.trans (hb2.mono hb1.size)
            clear HB1 hb1 hb2
            go_wp2_with fail
            refine (HB2.out _).mono ?_
            rintro e w3 ⟨rfl, hb3⟩
            have hw3 := hw2.trans (hb3.mono hw2.size)
            clear HB2 hw2 hb3
            go_wp2_with fail
            refine (num21_any 1 _).mono ?_
            rintro e w4 ⟨rfl, hb4⟩
            have hw4 := hw3.trans (hb4.mono hw3.size)
            clear hw3 hb4
            go_wp2
            go_ret
            exact ⟨rfl, hw4⟩
  by_cases b1 : 20 < b
  · by_cases b2 : b ≤ 65536
    · skip
      clear hR hg hA
      go_enter Tryz.func3, Tryz.ntmps3
      go_wp2_with fail
      refine (HA.out _).mono ?_
      rintro e w1 ⟨rfl, hb1⟩
      clear HA
      go_wp2
      go_ret
      exact ⟨rfl, hb1⟩
    · skip
      by_cases g7 : 60 < (L.length : Int)
      · skip
        clear hR hg hA
        go_enter Tryz.func3, Tryz.ntmps3
        go_wp2_with fail
        refine (HA.out _).mono ?_
        rintro e w1 ⟨rfl, hb1⟩
        clear HA
        go_wp2
        go_ret
        exact ⟨rfl, hb1⟩
      · by_cases g8 : 30 < (T.length : Int)
        · skip
          clear hR hg hA
          go_enter Tryz.func3, Tryz.ntmps3
          go_wp2_with fail
          refine (HA.out _).mono ?_
          rintro e w1 ⟨rfl, hb1⟩
          clear HA
          go_wp2
          go_ret
          exact ⟨rfl, hb1⟩
        · have hbad : badV n k m b := by unfold badV; omega
          have HB1 := Lib.hid (fun W => D.bad n k m b s W ws hbad)
          have HB2 := Lib.hid (fun W => rnewlevel_bad n k m b s W ws hbad)
          clear hR hg hA hbad
          go_enter Tryz.func3, Tryz.ntmps3
          go_wp2_with fail
          refine (HA.out _).mono ?_
          rintro e w1 ⟨rfl, hb1⟩
          clear HA
          go_wp2_with fail
          refine (HB1.out _).mono ?_
          rintro e w2 ⟨rfl, hb2⟩
          have hw2 := hb1.trans (hb2.mono hb1.size)
          clear HB1 hb1 hb2
          go_wp2_with fail
          refine (HB2.out _).mono ?_
          rintro e w3 ⟨rfl, hb3⟩
          have hw3 := hw2.trans (hb3.mono hw2.size)
          clear HB2 hw2 hb3
          go_wp2_with fail
          refine (num21_any 1 _).mono ?_
          rintro e w4 ⟨rfl, hb4⟩
          have hw4 := hw3.trans (hb4.mono hw3.size)
          clear hw3 hb4
          go_wp2
          go_ret
          exact ⟨rfl, hw4⟩
  by_cases g7 : 60 < (L.length : Int)
  · skip
    clear hR hg hA
    go_enter Tryz.func3, Tryz.ntmps3
    go_wp2_with fail
    refine (HA.out _).mono ?_
    rintro e w1 ⟨rfl, hb1⟩
    clear HA
    go_wp2
    go_ret
    exact ⟨rfl, hb1⟩
  by_cases g8 : 30 < (T.length : Int)
  · skip
    clear hR hg hA
    go_enter Tryz.func3, Tryz.ntmps3
    go_wp2_with fail
    refine (HA.out _).mono ?_
    rintro e w1 ⟨rfl, hb1⟩
    clear HA
    go_wp2
    go_ret
    exact ⟨rfl, hb1⟩
  by_cases hbad : badV n k m b
  · skip
    have HB1 := Lib.hid (fun W => D.bad n k m b s W ws hbad)
    have HB2 := Lib.hid (fun W => rnewlevel_bad n k m b s W ws hbad)
    clear hR hg hA hbad
    go_enter Tryz.func3, Tryz.ntmps3
    go_wp2_with fail
    refine (HA.out _).mono ?_
    rintro e w1 ⟨rfl, hb1⟩
    clear HA
    go_wp2_with fail
    refine (HB1.out _).mono ?_
    rintro e w2 ⟨rfl, hb2⟩
    have hw2 := hb1.trans (hb2.mono hb1.size)
    clear HB1 hb1 hb2
    go_wp2_with fail
    refine (HB2.out _).mono ?_
    rintro e w3 ⟨rfl, hb3⟩
    have hw3 := hw2.trans (hb3.mono hw2.size)
    clear HB2 hw2 hb3
    go_wp2_with fail
    refine (num21_any 1 _).mono ?_
    rintro e w4 ⟨rfl, hb4⟩
    have hw4 := hw3.trans (hb4.mono hw3.size)
    clear hw3 hb4
    go_wp2
    go_ret
    exact ⟨rfl, hw4⟩
  obtain ⟨M, rfl⟩ := Int.eq_ofNat_of_zero_le (show 0 ≤ m by unfold badV at hbad; omega)
  obtain ⟨B, rfl⟩ := Int.eq_ofNat_of_zero_le (show 0 ≤ b by unfold badV at hbad; omega)
  have hn1 : 1 ≤ n ∧ 1 ≤ B ∧ B ≤ 65536 := by unfold badV at hbad; omega
  have hok0 := newV_ok n s k M B hn1.2.1 hn1.2.2
  have hok := hok0.turns L hg
  have hnn : ((newV n s k M B).turns L).n = n := turns_n _ _
  have HN1 := Lib.hid (fun W => D.new n k s M B W ws hbad)
  have HN2 := Lib.hid (fun W => rnewlevel_any n k s M B W ws hbad)
  obtain ⟨V0, hV0⟩ : ∃ V0, V0 = newV n s k M B := ⟨_, rfl⟩
  rw [← hV0] at hok0 hok hnn HN1 HN2
  obtain ⟨V, hV⟩ : ∃ V, V = V0.turns L := ⟨_, rfl⟩
  obtain ⟨N, hN⟩ : ∃ N, N = rowsT V0.n [] L := ⟨_, rfl⟩
  rw [← hV] at hok hnn
  rw [← hN] at hok
  obtain ⟨hokV, hNl⟩ := hok
  simp only [List.length_nil, Nat.zero_add] at hNl
  have hl60 : L.length ≤ 60 := by omega
  have htp := fun (W : World) (K : Nat → Prop) (t : Nat) (p : Option Addr) (c : Nat) (h : P W K t V0) (h1 : L.length ≤ c) (h2 : Row W p (ccs L)) h3 => D.turn W K t V0 [] p c L h hok0 hg (by simp; omega) h1 h2 h3
  have htr := fun (W : World) (K : Nat → Prop) (t : Nat) (h : RLev W K t V0) (h2 : Row W q (ccs L)) h3 => rturn21_any W K t V0 [] q c L h hok0 hg (by simp; omega) h2 h3
  rw [← hV] at htp htr
  have hlp := fun (W : World) (K : Nat → Prop) (t : Nat) (ah al : Nat) (h : P W K t V) (a : W64 ah) (b : W64 al) => D.look W K t V N ah al h hokV (by omega) (by omega) a b
  have hlr := fun (W : World) (K : Nat → Prop) (t : Nat) (ah al : Nat) (h : RLev W K t V) (a : W64 ah) (b : W64 al) => rlook21_any W K t V N ah al h hokV (by omega) a b (Nat.lt_of_le_of_lt hokV.st (by omega))
  have hkp := fun (W : World) (K : Nat → Prop) (t : Nat) (h : P W K t V) => D.keys W K t V N h hokV (by omega)
  have hbp := fun (W : World) (K : Nat → Prop) (t : Nat) (h : P W K t V) => D.bits W K t V h
  rw [hnn] at hbp
  have hall := fun (W : World) (lo hi f gg u b : Nat) (v : Value) (K : Nat → Prop) (t : Nat) (h : RLevB W K t V lo hi f gg u b v) => rall12_any u b v V.T W h.tab hokV.kept.inv.num (Nat.lt_of_le_of_lt hokV.st (by omega))
  rw [hokV.kept.row] at hall
  have hsame : Hid (∀ (q p : Option Addr) d e W, Row W q (rcs N) → Row W p (rcs N) → Calls Tryz.prog 13 #[.slice q N.length d, .slice p N.length e] W fun e w' => e = .returned (.bool true) ∧ Below W.heap.size W w') := Lib.hid fun q p d e W h1 h2 => by
    have := sameR_any q p d e N N W h1 h2 (by omega) (by omega)
    rw [decide_eq_true (rfl : N = N)] at this
    exact this
  have HTP := Lib.hid htp
  have HTR := Lib.hid htr
  have HLP := Lib.hid hlp
  have HLR := Lib.hid hlr
  have HKP := Lib.hid hkp
  have HBP := Lib.hid hbp
  have HALL := Lib.hid hall
  have HD := Lib.hid D
  have HGA := Lib.hid hgA
  have HR := Lib.hid hR
  have HAA := Lib.hid hA
  obtain ⟨j0, hj0, jz0, jz1, jz2⟩ := info_parts infoCh21
  clear htp htr hlp hlr hkp hbp hall hgA hR hA hg hok0 hokV hV hN hV0 hbad hnn
  go_enter Tryz.func3, Tryz.ntmps3
  go_wp2_with fail
  refine (HA.out _).mono ?_
  rintro e w1 ⟨rfl, hb1⟩
  clear HA
  go_wp2_with fail
  refine (HN1.out _).mono ?_
  rintro e w2 ⟨t, rfl, hp2, hb2⟩
  have hw2 := hb1.trans (hb2.mono hb1.size)
  have HP2 := Lib.hid hp2
  clear HN1 hp2
  go_wp2_with fail
  refine (HN2.out _).mono ?_
  rintro e w3 ⟨u, rfl, hr3, hb3⟩
  have hw3 := hw2.trans (hb3.mono hw2.size)
  have HP3 := Lib.hid (HD.out.below HP2.out hb3)
  have HR3 := Lib.hid hr3
  have hz1 := hb1.size
  have hz2 := hb2.size
  have hz3 := hb3.size
  clear HN2 hr3 HP2 hw2 hb2 hb1
  go_wp2_with fail
  refine (num21_any 0 _).mono ?_
  rintro e w4 ⟨rfl, hb4⟩
  have hw4 := hw3.trans (hb4.mono hw3.size)
  have HP4 := Lib.hid (HD.out.below HP3.out hb4)
  have HR4 := Lib.hid (HR3.out.below hb4)
  have hz4 := hb4.size
  clear hb4 HP3 HR3 hw3 hb3
  go_wp2
  go_loopg [20, 21] L.length (fun kx s20 s21 wr => ∃ (i : Nat) (p : Option Addr) (cp : Nat), s21 = .int .i64 (i : Int) ∧ L.length - i ≤ kx ∧ i ≤ L.length ∧ s20 = .slice p i cp ∧ Hid (wr.ownsRow w4.heap.size 40 5 (.slice p i cp) i (ccs (L.take i))) ∧ Below w4.heap.size w4 wr)
  case atStart => exact ⟨0, none, 0, rfl, by omega, by omega, rfl, Lib.hid (World.ownsRow_nil _ _ _ _), Below.refl _ _⟩
  case round =>
    obtain ⟨i, p, cp, rfl, k1, k2, rfl, HO, hb⟩ := hrel
    have hz := hb.size
    by_cases hi : i < L.length
    · obtain ⟨g0, o0, rfl, hg0, x0, x1, x2, x3, x4⟩ := (HR.out.below (hw4.trans (hb.mono hw4.size))).ch hi
      have hsn : L.take (i + 1) = L.take i ++ [L[i]] := List.take_succ_eq_append_getElem hi
      have j1 : (0 : Int) ≤ (i : Int) := by omega
      have j2 : (i : Int) < (L.length : Int) := by omega
      generalize L[i] = x at *
      obtain ⟨⟨kh, kl, kn⟩, xo, nw⟩ := x
      simp only at x0 x1 x2 x3 x4
      have HSN := Lib.hid hsn
      clear hsn
      go_wp2_with (at_builtin; go_loud (refine wpList_append_own_at _ rfl (.tmp 96) (.tmp 101) 34 rfl w4.heap.size 40 j0 _ 5 40 Tryz.underlying34 hj0 jz0 jz1 jz2 rfl (by decide) _ _ _ rfl (HO.out.alloc _) ⟨wr.heap.size, 0, none⟩ 1 1 (ccell ⟨⟨kh, kl, kn⟩, xo, nw⟩) rfl rfl (five_new (by simp [go_sem]) (by simp [go_sem]) (by simp [go_sem]) (by simp [go_sem]) (by simp [go_sem])) (by simp [ccell, Value.oneCell']) (by unfold maxLen; omega) (by omega) (by simp; omega) ?_))
      intro v8 w8 hown8 hg8 _ _
      obtain ⟨p8, c8, rfl⟩ := own_slice hown8
      have hb8 : Below w4.heap.size w4 w8 := (hb.alloc hz _).grown hg8 (by simp; omega) (fun j hj => (HO.out.lt j hj).1)
      have HO8 : Hid (w8.ownsRow w4.heap.size 40 5 (.slice p8 (i + 1) c8) (i + 1) (ccs (L.take (i + 1)))) := by
        rw [HSN.out, ccs_append, ccs_one]
        exact Lib.hid hown8
      clear hown8 hg8 HO hb
      go_wp2
      go_roundg (L.length - (i + 1))
      case measure => omega
      case rel => exact ⟨i + 1, p8, c8, by go_num, by omega, by omega, rfl, HO8, hb8⟩
    · obtain rfl : i = L.length := by omega
      have ho := HO.out
      rw [List.take_length] at ho
      have HOL := Lib.hid ho
      have hw5 := hw4.trans (hb.mono hw4.size)
      have HP5 := Lib.hid (HD.out.below HP4.out hb)
      have HR5 := Lib.hid (HR4.out.below hb)
      clear HO ho HP4 HR4
      go_wp2_with fail
      refine (HTP.out _ _ _ _ _ HP5.out (own_cap21 HOL.out) (Row.of_own HOL.out) (fun a ha hk => by
        subst ha
        rcases HOL.out.2 with ⟨e1, -⟩ | ⟨gg, cap, cur, e1, hB9, -⟩
        · injection e1 with e1
          cases e1
        · injection e1 with e1
          injection e1 with e1
          subst e1
          have := hk.2
          simp only at this
          omega)).mono ?_
      rintro e w6 ⟨rfl, K6, hp6, hT6, hK6⟩
      have hw6 : Below w.heap.size w w6 := hw5.trans (hT6.below (by have := hw5.size; omega) (fun j hj => by have := hj.1; omega))
      have HR6 := Lib.hid (HR5.out.touched hT6 (fun j h1 h2 => by have := h1.1; have := h2.2; omega))
      have HP6 := Lib.hid hp6
      have hz6 := hT6.size
      have HK6 := Lib.hid hK6
      clear HTP HP5 HR5 hp6 hT6 hK6
      go_wp2_with fail
      refine (HTR.out _ _ _ HR6.out (HR.out.below hw6) (fun hl a ha hk => by
        obtain ⟨g0, o0, e0, hg0, -⟩ := HR.out.ch hl
        rw [ha] at e0
        injection e0 with e0
        subst e0
        have := hk.1
        simp only at this
        omega)).mono ?_
      rintro e w7 ⟨rfl, K7, hr7, hT7, hK7⟩
      have hw7 : Below w.heap.size w w7 := hw6.trans (hT7.below (by have := hw6.size; omega) (fun j hj => by have := hj.1; omega))
      have HP7 := Lib.hid (HD.out.touched _ _ _ _ _ _ HP6.out hT7 (fun j h1 h2 => by
        rcases HK6.out j h1 with h | h
        · have := h.2; have := h2.1; omega
        · have := h.1; have := h2.2; omega))
      have HR7 := Lib.hid hr7
      clear HTR HP6 HR6 hr7 hT7 hK7 HK6 HOL
      go_wp2
      go_loopg [22] T.length (fun kx s22 wx => ∃ i : Nat, s22 = .int .i64 (i : Int) ∧ T.length - i ≤ kx ∧ i ≤ T.length ∧ Hid (P wx K6 t V) ∧ Hid (RLev wx K7 u V) ∧ Below w.heap.size w wx)
      case atStart => exact ⟨0, rfl, by omega, by omega, HP7, HR7, hw7⟩
      case round =>
        clear HP7 HR7 hw7 hw6 hw5 hb
        obtain ⟨i, rfl, m1, m2, HP, HRL, hbx⟩ := hrel
        by_cases hi2 : i < T.length
        · obtain ⟨ga, oa, rfl, hga, a0, a1⟩ := (HAA.out.below hbx).adr hi2
          have hgd := HGA.out T[i] (List.getElem_mem hi2)
          have j1 : (0 : Int) ≤ (i : Int) := by omega
          have j2 : (i : Int) < (T.length : Int) := by omega
          generalize T[i] = aa at *
          obtain ⟨ah, al⟩ := aa
          simp only at a0 a1 hgd
          have hl1 := fun W K t h => HLP.out W K t ah al h hgd.1 hgd.2
          have hl2 := fun W K t h => HLR.out W K t ah al h hgd.1 hgd.2
          obtain ⟨hv, hs, mb, hla⟩ : ∃ hv hs mb, lookA V ah al = .tuple #[.int .i64 hv, .bool hs, .bool mb] := ⟨_, _, _, rfl⟩
          rw [hla] at hl1 hl2
          have HL1 := Lib.hid hl1
          have HL2 := Lib.hid hl2
          have n1 : (hv != hv) = false := by simp
          have n2 : (hs != hs) = false := by simp
          have n3 : (mb != mb) = false := by simp
          clear hl1 hl2 hla hgd
          go_wp2_with fail
          refine (HL1.out _ _ _ HP.out).mono ?_
          rintro e w8 ⟨rfl, hb8⟩
          have HP8 := Lib.hid (HD.out.below HP.out hb8)
          have HR8 := Lib.hid (HRL.out.below hb8)
          have hw8 := hbx.trans (hb8.mono hbx.size)
          have a0 := (hb8.cell (p := ⟨ga, oa + i * 2, none⟩) hga).trans a0
          have a1 := (hb8.cell (p := ⟨ga, oa + i * 2 + 1, none⟩) hga).trans a1
          have hga := Nat.lt_of_lt_of_le hga hb8.size
          clear hb8 HP HRL HL1
          go_wp2_with fail
          refine (HL2.out _ _ _ HR8.out).mono ?_
          rintro e w9 ⟨rfl, hb9⟩
          have HP9 := Lib.hid (HD.out.below HP8.out hb9)
          have HR9 := Lib.hid (HR8.out.below hb9)
          have hw9 := hw8.trans (hb9.mono hw8.size)
          clear hb9 HP8 HR8 HL2 a0 a1
          go_wp2
          go_roundg (T.length - (i + 1))
          case measure => omega
          case rel => exact ⟨i + 1, by go_num, by omega, by omega, HP9, HR9, hw9⟩
        · obtain ⟨lo, hi1, f, gg, ub, bb, vv, hB⟩ := HRL.out
          have d2 := hB.c2
          have dl := hB.lt
          have HB := Lib.hid hB
          clear hB HRL HAA HGA HLP HLR
          go_wp2_with fail
          have kg := cell_grow
          refine wp_region_noPanic ?_
          generalize hNQ : NoPanic _ = NQ
          refine region_eff9 [0, 2, 3, 4] [5] [(1, 149, []), (6, 154, []), (7, 155, [(1, 149), (6, 154)]), (8, 156, [(7, 155)]), (9, 157, [(8, 156)]), (10, 158, [(8, 156), (9, 157)]), (11, 159, [(8, 156)]), (12, 160, [(8, 156), (10, 158), (11, 159)]), (13, 161, [(8, 156), (12, 160)]), (14, 14, [(13, 161)])] [] (lpD N t n) (lpD_stable _ _ _) (by kernel_rfl) (by rw [← hNQ]; exact fun _ _ _ h => h) (by kernel_rfl) (by kernel_rfl) (by kernel_rfl) ?_
          simp only [pickL, List.filterMap_cons, List.filterMap_nil, List.getElem?_toArray, List.getElem?_cons_succ, List.getElem?_cons_zero]
          repeat (any_goals (quiet_step (fail)))
          refine wpQuiet_nil ?_
          clear kg
          refine ⟨by rfl, ⟨?_, ?_, ?_, ?_, ?_, ?_, ?_, ?_, ?_, ?_, trivial⟩, ?_⟩
          · skip
            intro W hW K
            go_simp
            intro hK o ho
            injection ho with ho
            subst ho
            go_simp
            go_at_call 14
            refine (HKP.out _ _ _ (HD.out.below HP.out hW)).mono ?_
            rintro e w3 ⟨p3, c3, rfl, ho3, hb3⟩
            exact hK _ _ hb3 ⟨p3, c3, rfl, ho3⟩
          · skip
            intro W hW K
            go_simp
            intro hK o ho
            injection ho with ho
            subst ho
            go_simp
            go_at_call 15
            refine (HALL.out _ _ _ _ _ _ _ _ _ _ (HB.out.below hW)).mono ?_
            rintro e w3 ⟨p3, c3, rfl, ho3, hb3⟩
            exact hK _ _ hb3 ⟨p3, c3, rfl, Row.of_own ho3⟩
          · skip
            intro W hW v1 h1 v6 h6 K
            obtain ⟨p3, c3, rfl, hr3⟩ := h1
            obtain ⟨p6, c6, rfl, hr6⟩ := h6
            go_simp
            intro hK o ho
            injection ho with ho
            subst ho
            go_simp
            go_at_call 13
            refine (hsame.out _ _ _ _ _ hr3 hr6).mono ?_
            rintro e w3 ⟨rfl, hb3⟩
            exact hK _ _ hb3 rfl
          · skip
            intro W hW v7 h7 K
            obtain rfl : v7 = _ := h7
            go_simp
            intro hK o ho
            injection ho with ho
            subst ho
            go_simp
            exact hK _ _ (Below.refl _ _) rfl
          · skip
            intro W hW v8 h8 K
            obtain rfl : v8 = _ := h8
            go_simp
            intro hK o ho
            injection ho with ho
            subst ho
            go_simp
            exact hK _ _ (Below.refl _ _) rfl
          · skip
            intro W hW v8 h8 v9 h9 K
            obtain rfl : v8 = _ := h8
            obtain rfl : v9 = _ := h9
            go_simp
            intro hK o ho
            injection ho with ho
            subst ho
            go_simp
            go_at_call 16
            refine (HBP.out _ _ _ (HD.out.below HP.out hW)).mono ?_
            rintro e w3 ⟨rfl, hb3⟩
            exact hK _ _ hb3 rfl
          · skip
            intro W hW v8 h8 K
            obtain rfl : v8 = _ := h8
            go_simp
            intro hK o ho
            injection ho with ho
            subst ho
            go_simp
            exact hK _ _ (Below.refl _ _) rfl
          · skip
            intro W hW v8 h8 v10 h10 v11 h11 K
            obtain rfl : v8 = _ := h8
            obtain rfl : v10 = _ := h10
            obtain rfl : v11 = _ := h11
            go_simp
            intro hK o ho
            injection ho with ho
            subst ho
            go_simp
            exact hK _ _ (Below.refl _ _) rfl
          · skip
            intro W hW v8 h8 v12 h12 K
            obtain rfl : v8 = _ := h8
            obtain rfl : v12 = _ := h12
            go_simp
            intro hK o ho
            injection ho with ho
            subst ho
            go_simp
            exact hK _ _ (Below.refl _ _) rfl
          · skip
            intro W hW v13 h13 K
            obtain rfl : v13 = _ := h13
            go_simp
            intro hK o ho
            injection ho with ho
            subst ho
            go_simp
            exact hK _ _ (Below.refl _ _) rfl
          · intro W hW v1 h1 v6 h6 v7 h7 v8 h8 v9 h9 v10 h10 v11 h11 v12 h12 v13 h13 v14 h14
            obtain rfl : v14 = _ := h14
            have hwW := hbx.trans (hW.mono hbx.size)
            generalize hBB : Act.put _ (some 161) v13 = b9
            have hz : b9.tmps.size = 162 := by rw [← hBB]; simp only [put_size]; rfl
            have hd : b9.defers = [] := by rw [← hBB]; rfl
            clear hW h1 h6 h7 h8 h9 h10 h11 h12 h13 hBB
            show wpList _ _ _ _ _ _
            simp only [pickL, List.filterMap_nil]
            subst hNQ
            go_wp2_with fail
            refine NoPanic.normal ?_
            go_wp2
            refine bodyPost_ret (results_tmp rfl _ _ _) hd ?_
            exact ⟨by simp [Act.put, hz], hwW⟩
end
end Go.Proofs.YtoihkbanmnagkaaGreat
/-
  What Add of a counting filter does. No condition but those that stand in each.
-/
set_option linter.unusedSimpArgs false
set_option linter.unusedVariables false
namespace Go.Proofs.YtoihkbanmnagkaaGreat
open Go.RowKit Go.Sort M

set_option maxHeartbeats 2000000 in
theorem fadd_any (lo hi f s : Nat) (k : Int) (C : List Nat) (h l : Nat) (n : Int) (w : World) (H : Fil w lo hi f s k C) (wh : W64 h) (wl : W64 l) :
    Calls Tryz.prog 50 #[.pointer (some ⟨f, 0, none⟩), .agg #[.int .u64 h, .int .u64 l, .int .i64 n]] w fun e w' => e = .returned (.tuple #[]) ∧
      Fil w' lo hi f s k (addL C (plc s h l n k C.length)) ∧ Touch (In lo hi) w w' := by
  have hP : ∀ wx, Fil wx lo hi f s k C → Calls Tryz.prog 61 #[.pointer (some ⟨f, 0, none⟩), .agg #[.int .u64 h, .int .u64 l, .int .i64 n]] wx fun e w' => ∃ p c, e = .returned (.slice p (plc s h l n k C.length).length c) ∧
      w'.ownsRow wx.heap.size 3 1 (.slice p (plc s h l n k C.length).length c) (plc s h l n k C.length).length (ics (plc s h l n k C.length)) ∧ Below wx.heap.size wx w' := fun wx H => fplaces_any lo hi f s k C h l n wx H wh wl
  have hL16 := plc_len s h l n k C.length
  generalize plc s h l n k C.length = L at *
  have HP := Lib.hid hP
  have HC := Lib.hid H
  clear hP H
  go_enter Tryz.func50, Tryz.ntmps50
  go_wp2_with fail
  refine (HP.out _ (HC.out.below (by go_grown))).mono ?_
  rintro e w1 ⟨p, c, rfl, hown, hb1⟩
  have hw1 : Below w.heap.size w w1 := Below.trans (by go_grown) (hb1.mono (by go_size))
  have hown2 := own_le (B' := w.heap.size) hown (by go_size)
  have HC1 := Lib.hid (HC.out.below hw1)
  have htop : hi ≤ w.heap.size := by
    obtain ⟨g1, h1, g2, h2, H⟩ := HC.out
    exact H.top
  obtain ⟨g1, h1, g2, h2, H⟩ := HC1.out
  clear hown hb1 HC1 HP
  go_wp2
  go_loopw [10] (fun i10 wr => ∃ i : Nat, i ≤ L.length ∧ i10 = .int .i64 i ∧ FilB wr lo hi f g1 h1 g2 h2 s k (addL C (L.take i)) (onsC (addL C (L.take i))) ∧ wr.ownsRow w.heap.size 3 1 (.slice p L.length c) L.length (ics L) ∧ Touch (In lo hi) w wr) (fun i10 _ => L.length - (intOf i10).toNat)
  case atStart => exact ⟨0, Nat.zero_le _, rfl, H, hown2, Touch.of_below hw1 (fun k h1 h2 => absurd h1 (by omega))⟩
  case round =>
    clear H hown2 hw1
    obtain ⟨i, hi2, rfl, H, hown, ht⟩ := hrel
    have hz := ht.size
    by_cases hlt : i < L.length
    · obtain ⟨gr, orr, rfl, hgr, d0⟩ := (IRow.of_own hown).at hlt
      have hsn := addL_snoc C L i hlt
      have hlow := (hown.lt gr rfl).1
      generalize hx : L[i] = x at *
      generalize hA : addL C (L.take i) = A at *
      have HSN := Lib.hid hsn
      clear hx hA hsn
      have c2 := H.c2
      have hl := H.lt
      have HH := Lib.hid H
      have HO := Lib.hid hown
      clear H hown
      go_wp2_with fail
      refine (up_any _ _ _ _ x _ HH.out.cs).mono ?_
      rintro e w2 ⟨rfl, hN2, hg2⟩
      obtain ⟨H2, ht2⟩ := HH.out.turnC hN2 (upL_len _ _) hg2
      have hown2 := Touch.own HO.out ht2 (fun j e hj => by cases e; exact absurd (show gr < hi from hj.2) (by omega))
      have ht3 := ht.trans ht2
      have c3 := H2.c3
      have hl2 := H2.lt
      have HH2 := Lib.hid H2
      have HO2 := Lib.hid hown2
      clear H2 hown2 hN2 hg2 ht2 ht c2
      go_wp2_with fail
      refine (bset_any _ _ _ _ x _ _ HH2.out.bs).mono ?_
      rintro e w3 ⟨rfl, hN3, hg3⟩
      obtain ⟨H3, ht4⟩ := HH2.out.turnD hN3 (setB_len _ _ _) hg3
      have hown3 := Touch.own HO2.out ht4 (fun j e hj => by cases e; exact absurd (show gr < hi from hj.2) (by omega))
      have ht5 := ht3.trans ht4
      rw [ons_up, ← HSN.out] at H3
      clear hN3 hg3 ht3 ht4
      go_wp2
      go_roundw
      case rel => exact ⟨i + 1, by omega, by go_num, H3, hown3, ht5⟩
      case measure => simp [intOf]; omega
    · go_wp2
      go_end0
      rw [List.take_of_length_le (by omega)] at H
      exact ⟨rfl, ⟨_, _, _, _, H⟩, ht⟩
end Go.Proofs.YtoihkbanmnagkaaGreat
