/-
  WalkTells as a walk: it hands back true, for every input. No condition.
-/
import Derived.Test.YtcbmeollffkekaaW6
import Derived.Test.YtcbmeollffkekaaSlice
import Derived.Test.YtcbmeollffkekaaOwn
import Derived.Test.YtcbmeollffkekaaL15
/-
  How rows of whole numbers come in as arguments. No condition but those that stand in each.
-/
set_option linter.unusedSimpArgs false
set_option linter.unusedVariables false
namespace Go.Proofs.Ytcbmeollffkekaa
open Go.ChangeShapes Go.WideShapes Go.ChangeAt Go.RowKit Go.Joins Go.Deep Go.Sort M

theorem RowA.ints {w : World} {p : Option Addr} {L : List Int} (h : RowA 1 (fun x => [Value.int .i64 x]) w p L) : IRow w p L := by
  rcases h with h | ⟨g, o, e, hg, hc⟩
  · exact .inl h
  · refine .inr ⟨g, o, e, hg, fun j u hu => ?_⟩
    have hj : j < L.length := by
      have := (List.getElem?_eq_some_iff.1 hu).1
      rwa [ics_len] at this
    rw [ics_cell L j hj] at hu
    have := hc j hj 0 u (by simpa using hu)
    rwa [Nat.mul_one, Nat.add_zero] at this
section
variable {H : Type} {enc : TypeId × Value → H} {w : World} {base : Nat} {spare : Nat → Bool} {held : Bool} {r : Reach} {b0 : Nat}
theorem elemI (n : Nat) (cs : List Value) (x : DataW H × List MemPlace) (h : DataW.trod enc Try.prog w base spare held n 3 cs = some x) : ∃ a : Int, cs = [Value.int .i64 a] ∧ (Lit.int .i64 a).wf = true := by
  obtain ⟨a, e, -, wa⟩ := DataW.trod_int Try.underlying3 h
  exact ⟨a, e, wa⟩
set_option maxRecDepth 100000 in
theorem open_ints {v : Value} {d : DataW H} {p : List MemPlace} (hv : Value.okWide Try.prog w r b0 23 v) (h : DataW.Trod enc Try.prog w base spare held 23 v d p) :
    ∃ (q : Option Addr) (c : Nat) (L : List Int), v = .slice q L.length c ∧ IRow w q L ∧ (∀ x ∈ L, (Lit.int .i64 x).wf = true) ∧ L.length ≤ maxLen := by
  obtain ⟨q, c, L, e, hr, hg, hl⟩ := open_elems Try.underlying23 (show Try.prog.cellsOf 3 = 1 by kernel_rfl) (by decide) (fun _ _ => by simp) elemI hv h
  exact ⟨q, c, L, e, hr.ints, hg, hl⟩
end
end Go.Proofs.Ytcbmeollffkekaa
/-
  Old memory as it was, behind calls that make blocks and behind a write to a block of the call's own. No condition but those that stand in each.
-/
set_option linter.unusedSimpArgs false
set_option linter.unusedVariables false
namespace Go.Proofs.Ytcbmeollffkekaa
open Go.RowKit Go.Sort

theorem grown_below {w w' : World} (hb : Below w.heap.size w w') : w.grownBy w' none := ⟨hb.os, hb.tape, hb.output, hb.size, fun k hk _ => hb.block k hk⟩
/-- Old memory is as it was, behind a write to one of the call's own blocks. -/
theorem below_write {B : Nat} {w w1 w2 : World} {h : Nat} (hw : Below B w w1) (hB : B ≤ w1.heap.size) (hg : w1.grownBy w2 (some h)) (hh : B ≤ h) : Below B w w2 :=
  hw.grown hg hB (fun k e => by cases e; exact hh)
theorem below_grown {w w' : World} (hg : w.grownBy w' none) : Below w.heap.size w w' := ⟨hg.os, hg.tape, hg.output, hg.size, fun k hk => hg.block k hk (by simp)⟩
end Go.Proofs.Ytcbmeollffkekaa
/-
  WalkTells as a walk: it hands back true, for every input. No condition.
-/
set_option linter.unusedSimpArgs false
set_option linter.unusedVariables false
namespace Go.Proofs.Ytcbmeollffkekaa
open Go Go.RowKit Go.Sort M

/-- What 'want' holds: a row aside from the cursor's block. -/
def Want (w : World) (t : Nat) (p : Option Addr) (c : Nat) (R : List Rt) : Prop :=
  R.length ≤ c ∧ (R = [] ∨ ∃ g o, p = some ⟨g, o, none⟩ ∧ g ≠ t ∧ g < w.heap.size ∧ ∀ j u, (rcs R)[j]? = some u → w.cell? ⟨g, o + j, none⟩ = some u)
theorem Want.row {w : World} {t c : Nat} {p : Option Addr} {R : List Rt} (h : Want w t p c R) : Row w p (rcs R) := by
  rcases h.2 with h | ⟨g, o, e, -, hg, hc⟩
  · exact .inl (by rw [h]; rfl)
  · exact .inr ⟨g, o, e, hg, hc⟩
theorem Want.touch {w w' : World} {t c : Nat} {p : Option Addr} {R : List Rt} (h : Want w t p c R) (ht : Touch (· = t) w w') : Want w' t p c R := by
  refine ⟨h.1, ?_⟩
  rcases h.2 with h | ⟨g, o, e, hne, hg, hc⟩
  · exact .inl h
  · exact .inr ⟨g, o, e, hne, Nat.lt_of_lt_of_le hg ht.size, fun j u hu => ht.cell (hc j u hu) hne⟩
set_option maxHeartbeats 2000000 in
set_option maxRecDepth 100000 in
theorem walktells_walk (q : Option Addr) (c : Nat) (L : List Rt) (qn : Option Addr) (cn : Nat) (N : List Int) (w : World) (hR : Row w q (rcs L)) (hN : IRow w qn N) (hg : ∀ x ∈ N, (Lit.int .i64 x).wf = true) (hL : L.length ≤ maxLen) (hNl : N.length ≤ maxLen) :
    Calls Try.prog 3 #[.slice q L.length c, .slice qn N.length cn] w fun e w' => e = .returned (.bool true) ∧ Below w.heap.size w w' := by
  have HA := Lib.hid (alive15_any w)
  unfold maxLen at hL hNl
  have HR := Lib.hid hR
  have HN := Lib.hid hN
  have HG := Lib.hid hg
  clear hR hN hg
  by_cases l0 : (80 : Int) < (L.length : Int)
  · skip
    go_enter Try.func3, Try.ntmps3
    go_wp2_with fail
    refine HA.out.mono ?_
    rintro e w1 ⟨rfl, hb1⟩
    go_wp2
    go_ret
    exact ⟨rfl, hb1⟩
  · by_cases l1 : (80 : Int) < (N.length : Int)
    · skip
      go_enter Try.func3, Try.ntmps3
      go_wp2_with fail
      refine HA.out.mono ?_
      rintro e w1 ⟨rfl, hb1⟩
      go_wp2
      go_ret
      exact ⟨rfl, hb1⟩
    · have l2 : L.length ≤ 80 := by omega
      have l3 : N.length ≤ 80 := by omega
      clear hL hNl
      go_enter Try.func3, Try.ntmps3
      go_wp2_with fail
      refine HA.out.mono ?_
      rintro e w1 ⟨rfl, hb1⟩
      have HRS := Lib.hid (rsorted_any q c L w1 (HR.out.below hb1) (by omega))
      clear HA
      go_wp2_with fail
      refine HRS.out.mono ?_
      rintro e w2 ⟨p2, c2, rfl, hown2, hb2⟩
      have hw2 := hb1.trans (hb2.mono hb1.size)
      have HO2 := Lib.hid hown2
      have HR2 := Lib.hid (HR.out.below hw2)
      clear HRS hown2 hb1 hb2
      go_wp2_with (at_builtin; go_loud (refine wpList_append_arg15 rfl (.tmp 26) rfl w2.heap.size L q c rfl HR2.out (by omega) (Nat.le_refl _) ?_))
      intro p3 c3 w3 hown3 hp3 hg3
      have hb3 := below_grown hg3
      have HS := Lib.hid (wsorted_any p3 c3 L w3 (.of_own hown3) hp3 (by omega))
      have hw3 := hw2.trans (hb3.mono hw2.size)
      have HO3 := Lib.hid (own_below HO2.out hb3)
      clear hown3 hp3 hg3 HO2 HR2
      go_wp2_with fail
      refine HS.out.mono ?_
      rintro e w4 ⟨p4, c4, rfl, hown4, hb4⟩
      have hw4 := hw3.trans (hb4.mono hw3.size)
      have HO4 := Lib.hid (own_below HO3.out hb4)
      have HSR := Lib.hid (sameR_any p4 p2 c4 c2 (sortR L) (sortR L) w4 (.of_own hown4) (.of_own HO4.out) (by have := sortR_len L; omega) (by have := sortR_len L; omega))
      rw [decide_eq_true rfl] at HSR
      clear hown4 hb4 HS HO3
      go_wp2_with fail
      refine HSR.out.mono ?_
      rintro e w5 ⟨rfl, hb5⟩
      have hw5 := hw4.trans (hb5.mono hw4.size)
      have HO5 := Lib.hid (own_below HO4.out hb5)
      have HR5 := Lib.hid (HR.out.below hw5)
      clear hb5 HSR HO4
      go_wp2_with (at_builtin; go_loud (refine wpList_append_arg15 rfl (.tmp 32) rfl w5.heap.size L q c rfl HR5.out (by omega) (Nat.le_refl _) ?_))
      intro p6 c6 w6 hown6 hp6 hg6
      have hb6 := below_grown hg6
      have HS := Lib.hid (start_any p6 c6 L w6 (.of_own hown6) hp6 (by omega))
      have hw6 := hw5.trans (hb6.mono hw5.size)
      have HO6 := Lib.hid (own_below HO5.out hb6)
      clear hown6 hp6 hg6 HO5 HR5
      go_wp2_with fail
      refine HS.out.mono ?_
      rintro e w7 ⟨t, rfl, ht, hcur, hb7⟩
      have hw7 := hw6.trans (hb7.mono hw6.size)
      have HW : Hid (Want w7 t p2 c2 (sortR L)) := by
        have hO7 := own_below HO6.out hb7
        refine Lib.hid ⟨?_, ?_⟩
        · rcases hO7.2 with ⟨e, h0⟩ | ⟨g, cap, cur, e, -, -, h, -⟩
          · omega
          · injection e with e1 e2 e3
            omega
        · rcases Row.of_own HO6.out with h | ⟨g, o, e, hg, hc⟩
          · left
            have := rcs_len (sortR L)
            rw [h] at this
            exact List.length_eq_zero_iff.1 (by simp at this; omega)
          · exact .inr ⟨g, o, e, by omega, Nat.lt_of_lt_of_le hg hb7.size, fun j u hu => (hb7.cell (p := ⟨g, o + j, none⟩) hg).trans (hc j u hu)⟩
      have HC := Lib.hid hcur
      have hSl := sortR_len L
      have htw : w.heap.size ≤ t := Nat.le_trans hw6.size ht
      have hSl : (sortR L).length ≤ 80 := by omega
      clear hcur hb7 HO6 hw6 hw5 hw4 hw3 hw2 HS ht
      generalize sortR L = S at *
      go_wp2
      go_loopg [6, 8] N.length (fun kx s6 s8 wr => ∃ (i : Nat) (R : List Rt) (p : Option Addr) (c : Nat), s8 = .int .i64 (i : Int) ∧ N.length - i ≤ kx ∧ i ≤ N.length ∧ s6 = .slice p R.length c ∧ R.length ≤ 80 ∧ Hid (Want wr t p c R) ∧ Hid (Cur wr t R) ∧ Below w.heap.size w wr)
      case atStart => exact ⟨0, S, p2, c2, rfl, by omega, by omega, rfl, hSl, HW, HC, hw7⟩
      case round =>
        clear HW HC hSl
        obtain ⟨i, R, p, c, rfl, h1, h2, rfl, hRl, HW, HC, hb⟩ := hrel
        by_cases hi : i < N.length
        · obtain ⟨gn, on, rfl, hgn, x0⟩ := HN.out.at hi
          have x0 := (hb.cell (p := ⟨gn, on + i, none⟩) hgn).trans x0
          have hgn2 := Nat.lt_of_lt_of_le hgn hb.size
          have hwf := bounds_i64 (HG.out _ (List.getElem_mem hi))
          generalize N[i] = x at *
          obtain ⟨x1, x2⟩ := hwf
          have i1 : (0 : Int) ≤ (i : Int) := by omega
          have i2 : (i : Int) < (N.length : Int) := by omega
          obtain ⟨K, hK⟩ : ∃ K, K = cutN x R.length := ⟨_, rfl⟩
          have hKl : K ≤ R.length := by rw [hK]; unfold cutN; omega
          have HCAP : Hid (Calls Try.prog 9 #[.int .i64 x, .int .i64 0, .int .i64 (R.length : Int)] wr fun e w' => e = .returned (.int .i64 (K : Int)) ∧ wr = w') := by
            have e : (if x < 0 then 0 else if (R.length : Int) < x then (R.length : Int) else x) = (K : Int) := by
              rw [hK]
              unfold cutN
              split <;> (try split) <;> omega
            rw [← e]
            exact Lib.hid (cap_any x 0 R.length wr)
          have HK := Lib.hid hK
          clear hK
          go_wp2_with fail
          refine HCAP.out.mono ?_
          rintro e w8 ⟨rfl, rfl⟩
          clear HCAP
          have hKc : K ≤ c := Nat.le_trans hKl HW.out.1
          go_wp2_with fail
          have kg := cell_grow
          refine wp_region_noPanic ?_
          generalize hNQ : NoPanic _ = NQ
          refine region_guard 5 [6, 7, 8, 9, 10] [12, 13, 14] [11, 15, 16, 17] (by kernel_rfl) (by rw [← hNQ]; exact fun _ _ _ h => h) (by kernel_rfl) (by kernel_rfl) ?_
          simp only [List.take_succ_cons, List.take_zero]
          repeat (any_goals (first | go_big_quiet_step (exact Calls.regrown_of (left_any t R _ (HC.out.below (below_regrown _ _ _)))) | quiet_step (exact Calls.regrown_of (left_any t R _ (HC.out.below (below_regrown _ _ _))))))
          refine wpQuiet_nil ?_
          intro w8 hb8 KK hKK o ho
          injection ho with ho
          subst ho
          rw [if_pos (by rfl)]
          unfold Oper.wp execOp
          simp only [Sem.run_bind, Sem.run_pure, Result.andThen_ok]
          refine hKK _ _ ?_
          clear hKK KK
          have hw8 := hb.trans (hb8.mono hb.size)
          have HW8 := Lib.hid (HW.out.touch (.quiet hb8))
          have HC8 := Lib.hid (HC.out.below hb8)
          have x0 := (hb8.cell (p := ⟨gn, on + i, none⟩) hgn2).trans x0
          have hgn2 := Nat.lt_of_lt_of_le hgn2 hb8.size
          have hz8 := hb8.size
          unfold gQ
          simp only [pickL, List.filterMap_cons, List.filterMap_nil, List.getElem?_toArray, List.getElem?_cons_succ, List.getElem?_cons_zero]
          repeat (any_goals (first | go_big_quiet_step (fail) | quiet_step (fail)))
          refine wpQuiet_nil ?_
          repeat (any_goals (first | go_big_quiet_step (fail) | quiet_step (fail)))
          clear kg
          intro w9 hb9
          have hz9 := hb9.size
          have hw9 := hw8.trans (hb9.mono hw8.size)
          have HW9 := Lib.hid (HW8.out.touch (.quiet hb9))
          have lT : (R.take K).length = K := by rw [List.length_take]; omega
          have lD : (R.drop K).length = R.length - K := by rw [List.length_drop]
          have HNX := next_any t R x w9 (HC8.out.below hb9) (by omega) x1 (by omega)
          rw [← HK.out, lT] at HNX
          have HNX := Lib.hid HNX
          have LT := Lib.hid lT
          have LD := Lib.hid lD
          clear HW8 HC8 hb8 hb9 hz8 hz9 lT lD hw8 x0 HW HC
          go_wp2_with fail
          refine HNX.out.mono ?_
          rintro e w10 ⟨p10, c10, rfl, hown, hT, hcur⟩
          have hw10 := hw9.trans (hT.below hw9.size (fun k e => by subst e; exact htw))
          have HW10 := Lib.hid (HW9.out.touch hT)
          have hRT : Row w10 p (rcs (R.take K)) := by
            rcases HW10.out.row with h | ⟨g, o, e, hg, hc⟩
            · refine .inl (List.length_eq_zero_iff.1 ?_)
              have := congrArg List.length h
              rw [rcs_len] at this ⊢
              rw [LT.out]
              simp at this
              omega
            · exact .inr ⟨g, o, e, hg, fun j u hu => hc j u (by
                rw [← List.take_append_drop K R, rcs_append, List.getElem?_append_left (List.getElem?_eq_some_iff.1 hu).1]
                exact hu)⟩
          have HSR := sameR_any p10 p c10 c (R.take K) (R.take K) w10 (.of_own hown) hRT (by rw [LT.out]; omega) (by rw [LT.out]; omega)
          rw [decide_eq_true rfl, LT.out] at HSR
          have HSR := Lib.hid HSR
          have HC10 := Lib.hid hcur
          clear HNX hown hT hcur hRT HW9
          go_wp2_with fail
          refine HSR.out.mono ?_
          rintro e w11 ⟨rfl, hb11⟩
          have hw11 := hw10.trans (hb11.mono hw10.size)
          have HC11 := Lib.hid (HC10.out.below hb11)
          have HW11 := Lib.hid (HW10.out.touch (.quiet hb11))
          clear hb11 HSR HC10 HW10
          go_wp2_with fail
          rw [← hNQ]
          refine NoPanic.normal ?_
          clear hNQ NQ
          have hD : (R = [] ∧ K = 0) ∨ ∃ g o, p = some ⟨g, o, none⟩ ∧ Hid (g ≠ t ∧ g < w11.heap.size ∧ ∀ j u, (rcs R)[j]? = some u → w11.cell? ⟨g, o + j, none⟩ = some u) := by
            rcases HW11.out.2 with h | ⟨g, o, e, h⟩
            · exact .inl ⟨h, by rw [h] at hKl; simpa using hKl⟩
            · exact .inr ⟨g, o, e, Lib.hid h⟩
          rcases hD with ⟨hD, rfl⟩ | ⟨g, o, rfl, HGO⟩
          · subst hD
            have HC12 : Hid (Cur w11 t []) := HC11
            cases p with
            | none =>
              go_wp2
              go_roundg (N.length - (i + 1))
              case measure => omega
              case rel => exact ⟨i + 1, [], none, _, by go_num, by omega, by omega, rfl, by simp, Lib.hid ⟨Nat.zero_le _, .inl rfl⟩, HC12, hw11⟩
            | some a =>
              go_wp2
              go_roundg (N.length - (i + 1))
              case measure => omega
              case rel => exact ⟨i + 1, [], _, _, by go_num, by omega, by omega, rfl, by simp, Lib.hid ⟨Nat.zero_le _, .inl rfl⟩, HC12, hw11⟩
          · by_cases hcK : c = K
            · have hRc : R.length = c := by have := HW11.out.1; omega
              have HC12 : Hid (Cur w11 t []) := by
                have := HC11.out
                rw [List.drop_eq_nil_of_le (by omega)] at this
                exact Lib.hid this
              have HRC := Lib.hid hRc
              clear hRc
              go_wp2
              go_roundg (N.length - (i + 1))
              case measure => omega
              case rel => exact ⟨i + 1, [], some ⟨g, o, none⟩, 0, by go_num, by omega, by omega, by (first | rfl | (rw [show R.length - K = 0 from by have := HRC.out; omega]; rfl) | (rw [show R.length - c = 0 from by have := HRC.out; omega]; rfl)), by simp, Lib.hid ⟨Nat.zero_le _, .inl rfl⟩, HC12, hw11⟩
            · have hcK2 : ¬ c - K = 0 := by omega
              have HW12 : Hid (Want w11 t (some ⟨g, o + K * 4, none⟩) (c - K) (R.drop K)) := by
                refine Lib.hid ⟨by rw [LD.out]; have := HW11.out.1; omega, .inr ⟨g, o + K * 4, rfl, HGO.out.1, HGO.out.2.1, fun j u hu => ?_⟩⟩
                have := HGO.out.2.2 (K * 4 + j) u (by rw [← rcs_drop, List.getElem?_drop] at hu; exact hu)
                rwa [← Nat.add_assoc] at this
              go_wp2
              go_roundg (N.length - (i + 1))
              case measure => omega
              case rel => exact ⟨i + 1, R.drop K, _, _, by go_num, by omega, by omega, by rw [LD.out], by rw [LD.out]; omega, HW12, HC11, hw11⟩
        · have HLF := Lib.hid (left_any t R wr HC.out)
          go_wp2_with fail
          refine HLF.out.mono ?_
          rintro e w8 ⟨rfl, hb8⟩
          have hw8 := hb.trans (hb8.mono hb.size)
          clear hb8
          go_wp2
          go_ret
          exact ⟨rfl, hw8⟩
end Go.Proofs.Ytcbmeollffkekaa
