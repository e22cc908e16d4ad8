/-
  The given laws of chapter 8 as walks, continued: MirrorPlays hands back true, for every input. No condition but that the number is a whole number of 64 bits and that the row of calls lies in old memory.
-/
import Derived.Test.YthpdjiikbhjhdaaL8
import Derived.Test.YthpdjiikbhjhdaaSlice
import Derived.Deep.DeepCutAuto
set_option linter.unusedSimpArgs false
set_option linter.unusedVariables false
namespace Go.Proofs.Ythpdjiikbhjhdaa
open Go.RowKit Go.Sort M

/-- A call: the place, and on or off. -/
def act8 (a : Int × Bool) : List Value := [.int .i64 a.1, .bool a.2]
/-- The cells of a list of bools. -/
def bcs (C : List Bool) : List Value := C.map fun b => .bool b
theorem bcs_len (C : List Bool) : (bcs C).length = C.length := by simp [bcs]
theorem bcs_at (C : List Bool) (k : Nat) (h : k < C.length) : (bcs C)[k]? = some (.bool C[k]) := by simp [bcs, h]
theorem bcs_set (C : List Bool) (k : Nat) (v : Bool) : (bcs C).set k (.bool v) = bcs (C.set k v) := by simp [bcs, List.map_set]
theorem bcs_zero (n : Nat) : bcs (List.replicate n false) = (madeCells #[.bool false] n).toList := by
  rw [toList_madeCells_one]
  simp [bcs]
theorem infoB : (Try.prog.info? 4).map (fun i => (i.zero, i.size, i.bytes)) = some (some (.bool false), 1, 1) := by kernel_rfl
theorem getB_at {C : List Bool} {k : Nat} (h : k < C.length) : getB C (k : Int) = C[k] := by
  unfold getB
  rw [if_pos (by omega), Int.toNat_natCast, List.getD_eq_getElem?_getD, List.getElem?_eq_getElem h]
  rfl
theorem setB_in {C : List Bool} {k : Nat} (v : Bool) (h : k < C.length) : setB C (k : Int) v = C.set k v := by
  unfold setB
  rw [if_pos ⟨by omega, by omega⟩, Int.toNat_natCast]
theorem setB_out {C : List Bool} {k : Int} (v : Bool) (h : ¬ (0 ≤ k ∧ k < C.length)) : setB C k v = C := by
  unfold setB
  rw [if_neg h]
/-- What the walk carries from call to call: the bits C of b, another row of bits o, and the law's own row E. -/
structure PlaysB (w wr : World) (g h go ho gc : Nat) (N : Nat) (C E : List Bool) : Prop where
  lenC : C.length = N
  lenE : E.length = N
  b : Bts wr w.heap.size g h C
  o : ∃ D, Bts wr w.heap.size go ho D
  c : wr.ownsRow w.heap.size 4 1 (.slice (some ⟨gc, 0, none⟩) N N) N (bcs E)
  below : Below w.heap.size w wr
  far1 : go ≠ h ∧ ho ≠ h ∧ gc ≠ h
  far2 : g ≠ ho ∧ h ≠ ho ∧ gc ≠ ho
  far3 : g ≠ gc ∧ h ≠ gc ∧ go ≠ gc ∧ ho ≠ gc
section
variable {w wr wx : World} {g h go ho gc N : Nat} {C E : List Bool}
theorem PlaysB.turnO (P : PlaysB w wr g h go ho gc N C E) {D : List Bool} (hD : Bts wx w.heap.size go ho D) (hg : wr.grownBy wx (some ho)) : PlaysB w wx g h go ho gc N C E := by
  obtain ⟨D0, h0⟩ := P.o
  obtain ⟨f1, f2, f3⟩ := P.far2
  exact ⟨P.lenC, P.lenE, P.b.kept hg (by simpa using f1) (by simpa using f2), ⟨D, hD⟩, P.c.kept hg (.inr (by simpa [Value.ownBlock] using f3)), below_write P.below P.below.size hg h0.low2.1, P.far1, P.far2, P.far3⟩
theorem PlaysB.turnB (P : PlaysB w wr g h go ho gc N C E) {D : List Bool} (hD : Bts wx w.heap.size g h D) (hg : wr.grownBy wx (some h)) (hl : D.length = C.length) : PlaysB w wx g h go ho gc N D E := by
  obtain ⟨D0, h0⟩ := P.o
  obtain ⟨f1, f2, f3⟩ := P.far1
  exact ⟨hl.trans P.lenC, P.lenE, hD, ⟨D0, h0.kept hg (by simpa using f1) (by simpa using f2)⟩, P.c.kept hg (.inr (by simpa [Value.ownBlock] using f3)), below_write P.below P.below.size hg P.b.low2.1, P.far1, P.far2, P.far3⟩
theorem PlaysB.store (P : PlaysB w wr g h go ho gc N C E) (m : Nat) (v : Bool) : PlaysB w (wr.setCell ⟨gc, m, none⟩ (.bool v)) g h go ho gc N C (E.set m v) := by
  obtain ⟨D0, h0⟩ := P.o
  obtain ⟨f1, f2, f3, f4⟩ := P.far3
  have hs := P.c.stored m (.bool v)
  rw [bcs_set E m v] at hs
  exact ⟨P.lenC, by simpa using P.lenE, P.b.kept hs.2 (by simpa using f1) (by simpa using f2), ⟨D0, h0.kept hs.2 (by simpa using f3) (by simpa using f4)⟩, hs.1, below_write P.below P.below.size hs.2 (P.c.lt gc rfl).1, P.far1, P.far2, P.far3⟩
theorem PlaysB.quiet (P : PlaysB w wr g h go ho gc N C E) (hb : Below wr.heap.size wr wx) : PlaysB w wx g h go ho gc N C E := by
  obtain ⟨D0, h0⟩ := P.o
  exact ⟨P.lenC, P.lenE, P.b.below hb, ⟨D0, h0.below hb⟩, own_below P.c hb, P.below.trans (hb.mono P.below.size), P.far1, P.far2, P.far3⟩
end
set_option maxRecDepth 100000 in
set_option maxHeartbeats 4000000 in
theorem mirrorPlays_walk (n : Int) (p : Option Addr) (cap : Nat) (L : List (Int × Bool)) (hn : (Lit.int .i64 n).wf = true) (hL : ∀ a ∈ L, (Lit.int .i64 a.1).wf = true) (hm : L.length ≤ maxLen) (w : World) (HR : RowA 2 act8 w p L) :
    Calls Try.prog 3 #[.int .i64 n, .slice p L.length cap] w fun e w' => e = .returned (.bool true) ∧ Below w.heap.size w w' := by
  have HA := Lib.hid alive8_any
  obtain ⟨hn0, hn1⟩ := bounds_i64 hn
  have HRR := Lib.hid HR
  have HLL := Lib.hid hL
  clear HR hL hn
  unfold maxLen at hm
  by_cases n0 : n ≤ 300
  · by_cases l0 : L.length ≤ 300
    · obtain ⟨N, hN⟩ : ∃ N : Nat, N = n.toNat := ⟨_, rfl⟩
      have hN2 : N ≤ 300 := by omega
      have hmk := make_row (P := Try.prog) (t := 26) Try.underlying26 infoB N (by omega) (by unfold maxLen; omega)
      have HN := Lib.hid hN
      clear hN
      go_enter Try.func3, Try.ntmps3
      go_wp2_with fail
      refine (HA.out _).mono ?_
      rintro e0 w0 ⟨rfl, hb0⟩
      have hw0 : Below w.heap.size w w0 := by
        refine Below.trans ?_ (hb0.mono ?_)
        · go_grown
        · go_size
      have hz0 := hw0.size
      go_wp2_with fail
      refine (bnew_any n hn1 hn0 _).mono ?_
      rintro e w1 ⟨v, rfl, ⟨g, h, rfl, H1⟩, hb1⟩
      go_wp2_with fail
      refine (bnew_any 70 (by decide) (by decide) _).mono ?_
      rintro e w2 ⟨v, rfl, ⟨go, ho, rfl, H2⟩, hb2⟩
      have hw1 := hw0.trans (hb1.mono hz0)
      have hz1 := hw1.size
      have hw2 := hw1.trans (hb2.mono hz1)
      have hz2 := hw2.size
      have HP : PlaysB w (w2.alloc (.cells (madeCells #[.bool false] N) 4)) g h go ho w2.heap.size N (List.replicate N false) (List.replicate N false) := by
        rw [← HN.out, Nat.min_eq_left (by omega)] at H1
        have a1 := H1.low
        have a2 := H1.lt
        have a3 := H1.low2
        have b1 := H2.low
        have b2 := H2.lt
        have b3 := H2.low2
        have z1 := hb1.size
        have z2 := hb2.size
        refine ⟨by simp, by simp, ((H1.le hz0).below hb2).kept (World.grownBy_alloc _ _ none) (by simp) (by simp), ⟨_, (H2.le hz1).kept (World.grownBy_alloc _ _ none) (by simp) (by simp)⟩, ?_, by go_grown, ⟨by omega, by omega, by omega⟩, ⟨by omega, by omega, by omega⟩, ⟨by omega, by omega, by omega, by omega⟩⟩
        rw [bcs_zero]
        exact World.ownsRow_lit _ _ N hz2 (by unfold maxLen; omega) (by simp [madeCells])
      clear H1 H2 hw1 hz1 hw2 hz2 hb1 hb2
      go_upto_if 35 with fail
      go_cut [0] (fun s0 wx => s0 = .int .i64 (N : Int) ∧ wx = w2)
      case first =>
        by_cases nn : n < 0
        · go_wp2_with fail
          go_meet
          exact ⟨congrArg (Value.int .i64) (by have := HN.out; omega), rfl⟩
        · go_wp2_with fail
          go_meet
          exact ⟨congrArg (Value.int .i64) (by have := HN.out; omega), rfl⟩
      case rest =>
        obtain ⟨rfl, rfl⟩ := hcut
        obtain ⟨gc, hgc⟩ : ∃ gc, gc = wc.heap.size := ⟨_, rfl⟩
        rw [← hgc] at HP
        have HGC := Lib.hid hgc
        clear hgc
        go_wp2
        rw [← HGC.out]
        go_loopw [9] (fun i9 wr => ∃ (i : Nat) (C : List Bool), i ≤ L.length ∧ i9 = .int .i64 i ∧ PlaysB w wr g h go ho gc N C C) (fun i9 _ => L.length - (intOf i9).toNat)
        case atStart => exact ⟨0, _, Nat.zero_le _, rfl, HP⟩
        case round =>
          clear HP
          obtain ⟨i, C, hi, rfl, HP⟩ := hrel
          by_cases hlt : i < L.length
          · have hz := HP.below.size
            obtain ⟨gl, ol, hp, hgl, hl⟩ := HRR.out.at hlt
            have hwf := HLL.out _ (List.getElem_mem hlt)
            have hl0 := hl 0 _ rfl
            have hl1 := hl 1 _ rfl
            clear hl
            subst hp
            generalize L[i] = a at hwf hl0 hl1
            obtain ⟨k, on⟩ := a
            obtain ⟨k0, k1⟩ := bounds_i64 hwf
            have kB0 : ∀ (wy : World), Below w.heap.size w wy → wy.cell? ⟨gl, ol + i * 2, none⟩ = some (.int .i64 k) := fun _ hb => (hb.cell (p := ⟨gl, ol + i * 2, none⟩) hgl).trans hl0
            have kB1 : ∀ (wy : World), Below w.heap.size w wy → wy.cell? ⟨gl, ol + i * 2 + 1, none⟩ = some (.bool on) := fun _ hb => (hb.cell (p := ⟨gl, ol + i * 2 + 1, none⟩) hgl).trans hl1
            have KB0 := Lib.hid kB0
            have KB1 := Lib.hid kB1
            clear kB0 kB1 hwf hl0 hl1
            obtain ⟨D0, hD0⟩ := HP.o
            have hgc := (HP.c.lt gc rfl).1
            have hne : gl ≠ gc := by omega
            go_wp2_with fail
            refine (bset_any _ _ _ _ _ _ _ hD0).mono ?_
            rintro e wa ⟨rfl, HoA, hgA⟩
            replace HP := HP.turnO HoA hgA
            clear HoA hgA hD0 hz hgc
            have z0 := KB0.out wa HP.below
            have z1 := KB1.out wa HP.below
            have hza : gl < wa.heap.size := Nat.lt_of_lt_of_le hgl HP.below.size
            have hlc := HP.lenC
            have hln := HP.lenE
            have hwr := HP.below
            have hz := hwr.size
            by_cases hin : 0 ≤ k ∧ k < N
            · obtain ⟨hin0, hin1⟩ := hin
              obtain ⟨m, rfl⟩ := Int.eq_ofNat_of_zero_le hin0
              have hm2 : m < C.length := by omega
              have hM : (m : Int) < (N : Int) := hin1
              have U1 := Lib.hid (setB_in on hm2)
              go_wp2_with fail
              have kg := cell_grow
              refine region_tail 11 (by kernel_rfl) (by kernel_rfl) ?_
              simp only [List.take_succ_cons, List.take_zero, List.drop_succ_cons, List.drop_zero]
              repeat (any_goals (first | go_big_quiet_step (fail) | quiet_step (fail)))
              refine wpQuiet_nil ?_
              clear kg
              intro w2 hb2
              obtain ⟨hc2, hf2⟩ := bcell hb2
              have hw2 : Below w.heap.size w w2 := by
                refine Below.trans ?_ (hb2.mono ?_)
                · go_grown
                · first | omega | go_size
              replace HP := HP.quiet hb2
              clear hb2 hw2
              go_wp2_with fail
              refine (bset_any _ _ _ _ _ _ _ HP.b).mono ?_
              rintro e wb ⟨rfl, HbB, hgB⟩
              rw [U1.out] at HbB
              replace HP := HP.turnB HbB hgB (List.length_set ..)
              clear HbB hgB
              have z0 := KB0.out wb HP.below
              have z1 := KB1.out wb HP.below
              have f0 := HP.c.frozenAt m
              have q0 : wb.cell? ⟨gc, m, none⟩ = some (.bool C[m]) := (HP.c.cellAt m (by omega)).trans (bcs_at C m hm2)
              have hzb := (HP.c.lt gc rfl).2
              have HS := HP.store m on
              clear HP
              go_wp2_with fail
              go_region
              go_wp2
              go_roundw
              case rel => exact ⟨i + 1, _, by omega, by go_num, HS.quiet (by go_grown)⟩
              case measure => simp [intOf]; omega
            · have hout : ¬ (0 ≤ k ∧ k < C.length) := by rw [hlc]; exact hin
              by_cases hk0 : 0 ≤ k
              · have hkN : ¬ k < (N : Int) := fun h => hin ⟨hk0, h⟩
                have U1 := Lib.hid (setB_out on hout)
                go_wp2_with fail
                have kg := cell_grow
                refine region_tail 11 (by kernel_rfl) (by kernel_rfl) ?_
                simp only [List.take_succ_cons, List.take_zero, List.drop_succ_cons, List.drop_zero]
                repeat (any_goals (first | go_big_quiet_step (fail) | quiet_step (fail)))
                refine wpQuiet_nil ?_
                clear kg
                intro w2 hb2
                obtain ⟨hc2, hf2⟩ := bcell hb2
                have hw2 : Below w.heap.size w w2 := by
                  refine Below.trans ?_ (hb2.mono ?_)
                  · go_grown
                  · first | omega | go_size
                replace HP := HP.quiet hb2
                clear hb2 hw2
                go_wp2_with fail
                refine (bset_any _ _ _ _ _ _ _ HP.b).mono ?_
                rintro e wb ⟨rfl, HbB, hgB⟩
                rw [U1.out] at HbB
                replace HP := HP.turnB HbB hgB rfl
                clear HbB hgB
                have z0 := KB0.out wb HP.below
                have z1 := KB1.out wb HP.below
                go_wp2
                go_roundw
                case rel => exact ⟨i + 1, _, by omega, by go_num, HP⟩
                case measure => simp [intOf]; omega
              · skip
                have U1 := Lib.hid (setB_out on hout)
                go_wp2_with fail
                have kg := cell_grow
                refine region_tail 11 (by kernel_rfl) (by kernel_rfl) ?_
                simp only [List.take_succ_cons, List.take_zero, List.drop_succ_cons, List.drop_zero]
                repeat (any_goals (first | go_big_quiet_step (fail) | quiet_step (fail)))
                refine wpQuiet_nil ?_
                clear kg
                intro w2 hb2
                obtain ⟨hc2, hf2⟩ := bcell hb2
                have hw2 : Below w.heap.size w w2 := by
                  refine Below.trans ?_ (hb2.mono ?_)
                  · go_grown
                  · first | omega | go_size
                replace HP := HP.quiet hb2
                clear hb2 hw2
                go_wp2_with fail
                refine (bset_any _ _ _ _ _ _ _ HP.b).mono ?_
                rintro e wb ⟨rfl, HbB, hgB⟩
                rw [U1.out] at HbB
                replace HP := HP.turnB HbB hgB rfl
                clear HbB hgB
                have z0 := KB0.out wb HP.below
                have z1 := KB1.out wb HP.below
                go_wp2
                go_roundw
                case rel => exact ⟨i + 1, _, by omega, by go_num, HP⟩
                case measure => simp [intOf]; omega
          · have nl : ¬ (i : Int) < (L.length : Int) := by omega
            clear hlt hi
            have hlc := HP.lenC
            go_wp2
            go_loopw [10, 11] (fun t10 i11 wr2 => ∃ k : Nat, k ≤ N ∧ i11 = .int .i64 k ∧ t10 = .int .i64 (cntB (C.take k) : Nat) ∧ PlaysB w wr2 g h go ho gc N C C) (fun _ i11 _ => N - (intOf i11).toNat)
            case atStart => exact ⟨0, Nat.zero_le _, rfl, rfl, HP⟩
            case round =>
              clear HP
              obtain ⟨k, hk, rfl, rfl, HP⟩ := hrel
              have hwr := HP.below
              have hz := hwr.size
              have hful := cntB_le (C.take k)
              rw [List.length_take] at hful
              by_cases hlt : k < N
              · have hm2 : k < C.length := by omega
                have d0 : wr.cell? ⟨gc, k, none⟩ = some (.bool C[k]) := (HP.c.cellAt k (by omega)).trans (bcs_at C k hm2)
                have hr := (HP.c.lt gc rfl).2
                have hfs := cntB_snoc C k hm2
                obtain ⟨v, hv⟩ : ∃ v, v = C[k] := ⟨_, rfl⟩
                have hget : ∀ wx, Bts wx w.heap.size g h C → Calls Try.prog 8 #[.pointer (some ⟨g, 0, none⟩), .int .i64 (k : Int)] wx fun e w' => e = .returned (.bool v) ∧ Below wx.heap.size wx w' := by
                  intro wx H
                  have := bget_any w.heap.size g h C k wx H
                  rwa [getB_at hm2, ← hv] at this
                rw [← hv] at d0 hfs
                have HG := Lib.hid hget
                have HFS := Lib.hid hfs
                have HPP := Lib.hid HP
                generalize cntB (C.take k) = f at *
                clear hget hfs hv HP
                cases v
                · go_wp2_with fail
                  have kg := cell_grow
                  refine region_whole (by kernel_rfl) (by kernel_rfl) ?_
                  repeat (any_goals (first | go_big_quiet_step ((exact Calls.regrown_of (HG.out _ (HPP.out.b.below (below_regrown _ _ _))))) | quiet_step ((exact Calls.regrown_of (HG.out _ (HPP.out.b.below (below_regrown _ _ _)))))))
                  refine wpQuiet_nil ?_
                  clear kg
                  intro w1 hb1
                  obtain ⟨hc1, hf1⟩ := bcell hb1
                  have hw1 : Below w.heap.size w w1 := by
                    refine Below.trans ?_ (hb1.mono ?_)
                    · go_grown
                    · first | omega | go_size
                  have HP := HPP.out.quiet hb1
                  go_wp2
                  go_roundw
                  case rel => exact ⟨k + 1, by omega, by go_num, by rw [HFS.out]; go_num, HP⟩
                  case measure => simp [intOf]; omega
                · go_wp2_with fail
                  have kg := cell_grow
                  refine region_whole (by kernel_rfl) (by kernel_rfl) ?_
                  repeat (any_goals (first | go_big_quiet_step ((exact Calls.regrown_of (HG.out _ (HPP.out.b.below (below_regrown _ _ _))))) | quiet_step ((exact Calls.regrown_of (HG.out _ (HPP.out.b.below (below_regrown _ _ _)))))))
                  refine wpQuiet_nil ?_
                  clear kg
                  intro w1 hb1
                  obtain ⟨hc1, hf1⟩ := bcell hb1
                  have hw1 : Below w.heap.size w w1 := by
                    refine Below.trans ?_ (hb1.mono ?_)
                    · go_grown
                    · first | omega | go_size
                  have HP := HPP.out.quiet hb1
                  go_wp2
                  go_roundw
                  case rel => exact ⟨k + 1, by omega, by go_num, by rw [HFS.out]; go_num, HP⟩
                  case measure => simp [intOf]; omega
              · rw [List.take_of_length_le (by omega)]
                go_wp2_with fail
                refine (blen_any _ _ _ _ _ HP.b).mono ?_
                rintro e wb ⟨rfl, hb5⟩
                replace HP := HP.quiet hb5
                rw [HP.lenC]
                clear hb5
                go_wp2_with fail
                refine (bcount_any _ _ _ _ _ HP.b).mono ?_
                rintro e wb2 ⟨rfl, hb5⟩
                replace HP := HP.quiet hb5
                clear hb5
                go_wp2_with fail
                refine (bget_any _ _ _ _ _ _ HP.b).mono ?_
                rintro e wb3 ⟨rfl, hb5⟩
                replace HP := HP.quiet hb5
                rw [getB_no (by omega)]
                clear hb5
                go_wp2_with fail
                refine (bget_any _ _ _ _ _ _ HP.b).mono ?_
                rintro e wb4 ⟨rfl, hb5⟩
                replace HP := HP.quiet hb5
                rw [getB_no (by omega)]
                clear hb5
                go_wp2
                go_ret
                exact ⟨rfl, HP.below⟩
    · have l1 : (300 : Int) < (L.length : Int) := by omega
      go_enter Try.func3, Try.ntmps3
      go_wp2_with fail
      refine (HA.out _).mono ?_
      rintro e0 w0 ⟨rfl, hb0⟩
      have hw0 : Below w.heap.size w w0 := by
        refine Below.trans ?_ (hb0.mono ?_)
        · go_grown
        · go_size
      go_wp2
      all_goals
        go_ret
        exact ⟨rfl, by go_grown⟩
  · skip
    go_enter Try.func3, Try.ntmps3
    go_wp2_with fail
    refine (HA.out _).mono ?_
    rintro e0 w0 ⟨rfl, hb0⟩
    have hw0 : Below w.heap.size w w0 := by
      refine Below.trans ?_ (hb0.mono ?_)
      · go_grown
      · go_size
    go_wp2
    all_goals
      go_ret
      exact ⟨rfl, by go_grown⟩
end Go.Proofs.Ythpdjiikbhjhdaa
