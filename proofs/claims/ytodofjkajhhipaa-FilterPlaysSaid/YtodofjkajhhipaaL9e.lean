/-
  The given laws of chapter 9 as walks: FilterPlays hands back true, for every input. No condition but that the numbers are whole numbers of 64 bits and that the row of calls lies in old memory.
-/
import Derived.Test.YtodofjkajhhipaaL9
import Derived.Test.YtodofjkajhhipaaRFil2
import Derived.Test.YtodofjkajhhipaaRFil2b
import Derived.Test.YtodofjkajhhipaaRFil2c
import Derived.Test.YtodofjkajhhipaaRFil2d
set_option linter.unusedSimpArgs false
set_option linter.unusedVariables false
namespace Go.Proofs.Ytodofjkajhhipaa
open Go.RowKit Go.Sort M

/-- A call: Remove or not, and the key. -/
def act9 (a : Bool × Key) : List Value := .bool a.1 :: key9 a.2
theorem RowA.act {w : World} {p : Option Addr} {T : List (Bool × Key)} (h : RowA 4 act9 w p T) {i : Nat} (hi : i < T.length) : ∃ g o, p = some ⟨g, o, none⟩ ∧ g < w.heap.size ∧
    w.cell? ⟨g, o + i * 4, none⟩ = some (.bool T[i].1) ∧ w.cell? ⟨g, o + i * 4 + 1, none⟩ = some (.int .u64 (T[i].2.1 : Int)) ∧ w.cell? ⟨g, o + i * 4 + 2, none⟩ = some (.int .u64 (T[i].2.2.1 : Int)) ∧ w.cell? ⟨g, o + i * 4 + 3, none⟩ = some (.int .i64 T[i].2.2.2) := by
  obtain ⟨g, o, hp, hg, hc⟩ := h.at hi
  exact ⟨g, o, hp, hg, hc 0 _ rfl, hc 1 _ rfl, hc 2 _ rfl, hc 3 _ rfl⟩
/-- What the walk carries from call to call: both filters hold C; another one holds whatever. -/
structure Plays9 (w0 wr : World) (hi hi2 hi3 f o r g s : Nat) (k : Int) (M : Nat) (C : List Nat) : Prop where
  len : C.length = M
  f : Fil wr w0.heap.size hi f s k C
  o : ∃ D, Fil wr hi hi2 o s 3 D
  r : RFil wr hi2 hi3 r g s k C
  b : Below w0.heap.size w0 wr
  h1 : w0.heap.size ≤ hi
  h2 : hi ≤ hi2
section
variable {w0 wr wx : World} {hi hi2 hi3 f o r g s : Nat} {k : Int} {M : Nat} {C D C' : List Nat}
theorem Plays9.quiet (P : Plays9 w0 wr hi hi2 hi3 f o r g s k M C) (hb : Below wr.heap.size wr wx) : Plays9 w0 wx hi hi2 hi3 f o r g s k M C := by
  obtain ⟨D, hD⟩ := P.o
  exact ⟨P.len, P.f.below hb, ⟨D, hD.below hb⟩, P.r.below hb, P.b.trans (hb.mono P.b.size), P.h1, P.h2⟩
theorem Plays9.turnO (P : Plays9 w0 wr hi hi2 hi3 f o r g s k M C) (hD : Fil wx hi hi2 o s 3 D) (ht : Touch (In hi hi2) wr wx) : Plays9 w0 wx hi hi2 hi3 f o r g s k M C :=
  ⟨P.len, P.f.touched ht (fun j h1 h2 h3 => absurd h3.1 (by omega)), ⟨D, hD⟩, P.r.touched ht (fun j h1 h2 h3 => absurd h3.2 (by omega)), P.b.trans (ht.below P.b.size (fun j hj => Nat.le_trans P.h1 hj.1)), P.h1, P.h2⟩
theorem Plays9.turnF (P : Plays9 w0 wr hi hi2 hi3 f o r g s k M C) {wy : World} (hl : C'.length = C.length) (hF : Fil wx w0.heap.size hi f s k C') (ht : Touch (In w0.heap.size hi) wr wx) (hR : RFil wy hi2 hi3 r g s k C') (hu : Touch (In hi2 hi3) wx wy) : Plays9 w0 wy hi hi2 hi3 f o r g s k M C' := by
  obtain ⟨D, hD⟩ := P.o
  have h2 := P.h2
  have h1 := P.h1
  exact ⟨hl.trans P.len, hF.touched hu (fun j h1 h2 h3 => absurd h3.1 (by omega)), ⟨D, (hD.touched ht (fun j h1 h2 h3 => absurd h3.2 (by omega))).touched hu (fun j h1 h2 h3 => absurd h3.1 (by omega))⟩, hR,
    (P.b.trans (ht.below P.b.size (fun j hj => hj.1))).trans (hu.below (Nat.le_trans P.b.size ht.size) (fun j hj => Nat.le_trans (Nat.le_trans h1 h2) hj.1)), P.h1, P.h2⟩
theorem Plays9.ref (P : Plays9 w0 wr hi hi2 hi3 f o r g s k M C) (ht : Touch (In w0.heap.size hi) wr wx) : RFil wx hi2 hi3 r g s k C := by
  have h2 := P.h2
  exact P.r.touched ht (fun j h1 h2 h3 => absurd h3.2 (by omega))
end
set_option maxRecDepth 100000 in
set_option maxHeartbeats 16000000 in
theorem filterPlays_walk (s : Nat) (k m : Int) (p : Option Addr) (q : Nat) (L : List (Bool × Key)) (h l : Nat) (n : Int) (ws : W64 s) (wk : (Lit.int .i64 k).wf = true) (wm : (Lit.int .i64 m).wf = true) (gL : ∀ a ∈ L, Good9 a.2)
    (hL : L.length ≤ maxLen) (wh : W64 h) (wl : W64 l) (w : World) (R : RowA 4 act9 w p L) :
    Calls Try.prog 3 #[.int .u64 s, .int .i64 k, .int .i64 m, .slice p L.length q, .agg #[.int .u64 h, .int .u64 l, .int .i64 n]] w fun e w' => e = .returned (.bool true) ∧ Below w.heap.size w w' := by
  have HA := Lib.hid alive9_any
  have HN1 := Lib.hid (num_any 1)
  have HN0 := Lib.hid (num_any 0)
  obtain ⟨kk0, kk1⟩ := bounds_i64 wk
  obtain ⟨mm0, mm1⟩ := bounds_i64 wm
  have HL := Lib.hid gL
  have HR := Lib.hid R
  clear gL R wk wm
  unfold maxLen at hL
  by_cases m3 : m ≤ 200
  · have nm3 : ¬ 200 < m := by omega
    by_cases l1 : L.length ≤ 200
    · have nl1 : ¬ (200 : Int) < (L.length : Int) := by omega
      by_cases hbad : ¬ (1 ≤ k ∧ k ≤ 16 ∧ 1 ≤ m ∧ m ≤ 65536)
      · skip
        go_enter Try.func3, Try.ntmps3
        go_wp2_with fail
        refine (HA.out _).mono ?_
        rintro e w0 ⟨rfl, hb0⟩
        have hw0 : Below w.heap.size w w0 := Below.trans (by go_grown) (hb0.mono (by go_size))
        go_wp2_with fail
        refine (fnew_bad s k m hbad _).mono ?_
        rintro e w1 ⟨rfl, hb1⟩
        have hw1 := hw0.trans (hb1.mono hw0.size)
        clear hb1
        go_wp2_with fail
        refine (fnew_any s 3 50 ws (by decide) (by decide) (by decide) (by decide) _).mono ?_
        rintro e w2 ⟨o, rfl, -, hb2⟩
        have hw2 := hw1.trans (hb2.mono hw1.size)
        clear hb2
        go_wp2_with fail
        refine (rnew_bad s k m hbad _).mono ?_
        rintro e w3 ⟨rfl, hb3⟩
        have hw3 := hw2.trans (hb3.mono hw2.size)
        clear hb3
        go_wp2_with fail
        refine (HN1.out _).mono ?_
        rintro e w4 ⟨rfl, hb4⟩
        have hw4 := hw3.trans (hb4.mono hw3.size)
        go_wp2
        go_ret
        exact ⟨rfl, hw4⟩
      · obtain ⟨k2, k3, m2, -⟩ := Classical.not_not.1 hbad
        clear hbad
        obtain ⟨M, rfl⟩ := Int.eq_ofNat_of_zero_le (show 0 ≤ m by omega)
        go_enter Try.func3, Try.ntmps3
        go_wp2_with fail
        refine (HA.out _).mono ?_
        rintro e w0 ⟨rfl, hb0⟩
        have hw0 : Below w.heap.size w w0 := Below.trans (by go_grown) (hb0.mono (by go_size))
        have hz0 := hw0.size
        have b0 : w0.cell? ⟨w.heap.size, 0, none⟩ = some (.int .u64 h) := by
          rw [hb0.cell (by simp <;> omega)]
          first | assumption | (simp [go_sem]; done) | (simp [go_sem, *]; done)
        have b1 : w0.cell? ⟨w.heap.size, 1, none⟩ = some (.int .u64 l) := by
          rw [hb0.cell (by simp <;> omega)]
          first | assumption | (simp [go_sem]; done) | (simp [go_sem, *]; done)
        have b2 : w0.cell? ⟨w.heap.size, 2, none⟩ = some (.int .i64 n) := by
          rw [hb0.cell (by simp <;> omega)]
          first | assumption | (simp [go_sem]; done) | (simp [go_sem, *]; done)
        have hzb : w.heap.size < w0.heap.size := by have := hb0.size; simp at this; omega
        have kb0 := Lib.hid b0
        have kb1 := Lib.hid b1
        have kb2 := Lib.hid b2
        have HRR := Lib.hid (HR.out.below hw0)
        clear b0 b1 b2 hb0
        go_wp2_with fail
        refine (fnew_any s k M ws k2 k3 m2 (by omega) _).mono ?_
        rintro e w1 ⟨f, rfl, H1, hb1⟩
        rw [Int.toNat_natCast] at H1
        have hw1 := hb1
        have hz1 := hb1.size
        clear hb1
        go_wp2_with fail
        refine (fnew_any s 3 50 ws (by decide) (by decide) (by decide) (by decide) _).mono ?_
        rintro e w2 ⟨o, rfl, G2, hb2⟩
        have hw2 := hw1.trans (hb2.mono hz1)
        have hz2 := hb2.size
        have H2 := H1.below hb2
        clear hb2 H1 hw1
        go_wp2_with fail
        refine (rnew_any s k M ws k2 k3 (by omega) (by omega) _).mono ?_
        rintro e w3 ⟨r, g, rfl, R3, hb3⟩
        have hw3 := hw2.trans (hb3.mono hw2.size)
        have H3 := H2.below hb3
        have G3 := G2.below hb3
        clear hb3 H2 G2 hw2
        go_wp2_with fail
        refine (HN0.out _).mono ?_
        rintro e w4 ⟨rfl, hb4⟩
        have hw4 := hw3.trans (hb4.mono hw3.size)
        have HP : Plays9 w0 w4 w1.heap.size w2.heap.size w3.heap.size f o r g s k M (List.replicate M 0) :=
          ⟨by simp, H3.below hb4, ⟨_, G3.below hb4⟩, R3.below hb4, hw4, hz1, hz2⟩
        generalize w1.heap.size = hi at *
        generalize w2.heap.size = hi2 at *
        generalize w3.heap.size = hi3 at *
        clear hb4 H3 G3 R3 hw4 hw3 hz1 hz2
        go_wp2
        go_loopw [18] (fun i18 wr => ∃ (i : Nat) (C : List Nat), i ≤ L.length ∧ i18 = .int .i64 i ∧ Plays9 w0 wr hi hi2 hi3 f o r g s k M C) (fun i18 _ => L.length - (intOf i18).toNat)
        case atStart => exact ⟨0, _, Nat.zero_le _, rfl, HP⟩
        case round =>
          clear HP
          obtain ⟨i, C, hii, rfl, HP⟩ := hrel
          by_cases lL : i < L.length
          · obtain ⟨gl, ol, rfl, hgl, a0, a1, a2, a3⟩ := HRR.out.act lL
            have ga := HL.out _ (List.getElem_mem lL)
            generalize L[i] = x at *
            obtain ⟨rm, xh, xl, xn⟩ := x
            simp only at a0 a1 a2 a3
            obtain ⟨hx1, hx2⟩ := ga
            have ka0 := Lib.hid a0
            have ka1 := Lib.hid a1
            have ka2 := Lib.hid a2
            have ka3 := Lib.hid a3
            have HPP := Lib.hid HP
            obtain ⟨D, hD⟩ := HP.o
            have HD := Lib.hid hD
            clear a0 a1 a2 a3 HP hD
            have a0 := (HPP.out.b.cell (p := ⟨gl, _, none⟩) hgl).trans ka0.out
            have a1 := (HPP.out.b.cell (p := ⟨gl, _, none⟩) hgl).trans ka1.out
            have a2 := (HPP.out.b.cell (p := ⟨gl, _, none⟩) hgl).trans ka2.out
            have a3 := (HPP.out.b.cell (p := ⟨gl, _, none⟩) hgl).trans ka3.out
            have zl := Nat.lt_of_lt_of_le hgl HPP.out.b.size
            go_wp2_with fail
            refine (fadd_any _ _ _ _ _ _ xh xl xn _ HD.out hx1 hx2).mono ?_
            rintro e wa ⟨rfl, HoA, htA⟩
            have HP1 := Lib.hid (HPP.out.turnO HoA htA)
            clear HoA htA HD HPP a0 a1 a2 a3 zl
            cases rm
            · skip
              have a0 := (HP1.out.b.cell (p := ⟨gl, _, none⟩) hgl).trans ka0.out
              have a1 := (HP1.out.b.cell (p := ⟨gl, _, none⟩) hgl).trans ka1.out
              have a2 := (HP1.out.b.cell (p := ⟨gl, _, none⟩) hgl).trans ka2.out
              have a3 := (HP1.out.b.cell (p := ⟨gl, _, none⟩) hgl).trans ka3.out
              have zl := Nat.lt_of_lt_of_le hgl HP1.out.b.size
              go_wp2_with fail
              refine (fadd_any _ _ _ _ _ _ xh xl xn _ HP1.out.f hx1 hx2).mono ?_
              rintro e wf ⟨rfl, HF, htf⟩
              clear a0 a1 a2 a3 zl
              have hR := HP1.out.ref htf
              have hbf := HP1.out.b.trans (htf.below HP1.out.b.size (fun j hj => hj.1))
              have a1 := (hbf.cell (p := ⟨gl, _, none⟩) hgl).trans ka1.out
              have a2 := (hbf.cell (p := ⟨gl, _, none⟩) hgl).trans ka2.out
              have a3 := (hbf.cell (p := ⟨gl, _, none⟩) hgl).trans ka3.out
              have zl := Nat.lt_of_lt_of_le hgl hbf.size
              have HR9 := Lib.hid hR
              have HF9 := Lib.hid HF
              have HTF := Lib.hid htf
              clear hR HF htf
              go_wp2_with fail
              refine (radd_any _ _ _ _ _ _ _ xh xl xn _ HR9.out hx1 hx2).mono ?_
              rintro e wg ⟨rfl, HG, htg⟩
              have HP2 := Lib.hid (HP1.out.turnF (addL_len _ _) HF9.out HTF.out HG htg)
              clear HG htg HR9 HF9 HTF HP1 a1 a2 a3 zl hbf
              generalize addL C (plc s xh xl xn k C.length) = C1 at *
              have a0 := (HP2.out.b.cell (p := ⟨gl, _, none⟩) hgl).trans ka0.out
              have a1 := (HP2.out.b.cell (p := ⟨gl, _, none⟩) hgl).trans ka1.out
              have a2 := (HP2.out.b.cell (p := ⟨gl, _, none⟩) hgl).trans ka2.out
              have a3 := (HP2.out.b.cell (p := ⟨gl, _, none⟩) hgl).trans ka3.out
              have zl := Nat.lt_of_lt_of_le hgl HP2.out.b.size
              have hm1 : 1 ≤ C1.length := by have := HP2.out.len; omega
              have hMf : ∀ wx, Below wg.heap.size wg wx → Calls Try.prog 15 #[.pointer (some ⟨f, 0, none⟩), .agg #[.int .u64 xh, .int .u64 xl, .int .i64 xn]] wx fun e w' => e = .returned (.bool (mayL C1 (plc s xh xl xn k C1.length))) ∧ Below wx.heap.size wx w' :=
                fun wx hb => fmay_any _ _ _ _ _ _ xh xl xn _ (HP2.out.f.below hb) hx1 hx2 hm1
              have hMr : ∀ wx, Below wg.heap.size wg wx → Calls Try.prog 16 #[.pointer (some ⟨r, 0, none⟩), .agg #[.int .u64 xh, .int .u64 xl, .int .i64 xn]] wx fun e w' => e = .returned (.bool (mayL C1 (plc s xh xl xn k C1.length))) ∧ Below wx.heap.size wx w' :=
                fun wx hb => rmay_any _ _ _ _ _ _ _ xh xl xn _ (HP2.out.r.below hb) hx1 hx2
              generalize mayL C1 (plc s xh xl xn k C1.length) = b at *
              have HMf := Lib.hid hMf
              have HMr := Lib.hid hMr
              clear hMf hMr hm1
              cases b
              · skip
                go_wp2_with fail
                have kg := cell_grow
                refine region_whole (by kernel_rfl) (by kernel_rfl) ?_
                repeat (any_goals (first | go_big_quiet_step ((first | exact Calls.regrown_of (HMf.out _ (below_regrown _ _ _)) | exact Calls.regrown_of (HMr.out _ (below_regrown _ _ _)))) | quiet_step ((first | exact Calls.regrown_of (HMf.out _ (below_regrown _ _ _)) | exact Calls.regrown_of (HMr.out _ (below_regrown _ _ _))))))
                refine wpQuiet_nil ?_
                clear kg
                intro w9 hb9
                obtain ⟨hc9, hf9⟩ := bcell hb9
                have HP3 := Lib.hid (HP2.out.quiet hb9)
                clear hb9 hc9 hf9 HP2
                go_wp2
                go_roundw
                case rel => exact ⟨i + 1, _, by omega, by go_num, HP3.out⟩
                case measure => simp [intOf]; omega
              · skip
                go_wp2_with fail
                have kg := cell_grow
                refine region_whole (by kernel_rfl) (by kernel_rfl) ?_
                repeat (any_goals (first | go_big_quiet_step ((first | exact Calls.regrown_of (HMf.out _ (below_regrown _ _ _)) | exact Calls.regrown_of (HMr.out _ (below_regrown _ _ _)))) | quiet_step ((first | exact Calls.regrown_of (HMf.out _ (below_regrown _ _ _)) | exact Calls.regrown_of (HMr.out _ (below_regrown _ _ _))))))
                refine wpQuiet_nil ?_
                clear kg
                intro w9 hb9
                obtain ⟨hc9, hf9⟩ := bcell hb9
                have HP3 := Lib.hid (HP2.out.quiet hb9)
                clear hb9 hc9 hf9 HP2
                go_wp2
                go_roundw
                case rel => exact ⟨i + 1, _, by omega, by go_num, HP3.out⟩
                case measure => simp [intOf]; omega
            · skip
              have a0 := (HP1.out.b.cell (p := ⟨gl, _, none⟩) hgl).trans ka0.out
              have a1 := (HP1.out.b.cell (p := ⟨gl, _, none⟩) hgl).trans ka1.out
              have a2 := (HP1.out.b.cell (p := ⟨gl, _, none⟩) hgl).trans ka2.out
              have a3 := (HP1.out.b.cell (p := ⟨gl, _, none⟩) hgl).trans ka3.out
              have zl := Nat.lt_of_lt_of_le hgl HP1.out.b.size
              go_wp2_with fail
              refine (frem_any _ _ _ _ _ _ xh xl xn _ HP1.out.f hx1 hx2).mono ?_
              rintro e wf ⟨rfl, HF, htf⟩
              clear a0 a1 a2 a3 zl
              have hR := HP1.out.ref htf
              have hbf := HP1.out.b.trans (htf.below HP1.out.b.size (fun j hj => hj.1))
              have a1 := (hbf.cell (p := ⟨gl, _, none⟩) hgl).trans ka1.out
              have a2 := (hbf.cell (p := ⟨gl, _, none⟩) hgl).trans ka2.out
              have a3 := (hbf.cell (p := ⟨gl, _, none⟩) hgl).trans ka3.out
              have zl := Nat.lt_of_lt_of_le hgl hbf.size
              have HR9 := Lib.hid hR
              have HF9 := Lib.hid HF
              have HTF := Lib.hid htf
              clear hR HF htf
              go_wp2_with fail
              refine (rrem_any _ _ _ _ _ _ _ xh xl xn _ HR9.out hx1 hx2).mono ?_
              rintro e wg ⟨rfl, HG, htg⟩
              have HP2 := Lib.hid (HP1.out.turnF (remL_len _ _) HF9.out HTF.out HG htg)
              clear HG htg HR9 HF9 HTF HP1 a1 a2 a3 zl hbf
              generalize remL C (plc s xh xl xn k C.length) = C1 at *
              have a0 := (HP2.out.b.cell (p := ⟨gl, _, none⟩) hgl).trans ka0.out
              have a1 := (HP2.out.b.cell (p := ⟨gl, _, none⟩) hgl).trans ka1.out
              have a2 := (HP2.out.b.cell (p := ⟨gl, _, none⟩) hgl).trans ka2.out
              have a3 := (HP2.out.b.cell (p := ⟨gl, _, none⟩) hgl).trans ka3.out
              have zl := Nat.lt_of_lt_of_le hgl HP2.out.b.size
              have hm1 : 1 ≤ C1.length := by have := HP2.out.len; omega
              have hMf : ∀ wx, Below wg.heap.size wg wx → Calls Try.prog 15 #[.pointer (some ⟨f, 0, none⟩), .agg #[.int .u64 xh, .int .u64 xl, .int .i64 xn]] wx fun e w' => e = .returned (.bool (mayL C1 (plc s xh xl xn k C1.length))) ∧ Below wx.heap.size wx w' :=
                fun wx hb => fmay_any _ _ _ _ _ _ xh xl xn _ (HP2.out.f.below hb) hx1 hx2 hm1
              have hMr : ∀ wx, Below wg.heap.size wg wx → Calls Try.prog 16 #[.pointer (some ⟨r, 0, none⟩), .agg #[.int .u64 xh, .int .u64 xl, .int .i64 xn]] wx fun e w' => e = .returned (.bool (mayL C1 (plc s xh xl xn k C1.length))) ∧ Below wx.heap.size wx w' :=
                fun wx hb => rmay_any _ _ _ _ _ _ _ xh xl xn _ (HP2.out.r.below hb) hx1 hx2
              generalize mayL C1 (plc s xh xl xn k C1.length) = b at *
              have HMf := Lib.hid hMf
              have HMr := Lib.hid hMr
              clear hMf hMr hm1
              cases b
              · skip
                go_wp2_with fail
                have kg := cell_grow
                refine region_whole (by kernel_rfl) (by kernel_rfl) ?_
                repeat (any_goals (first | go_big_quiet_step ((first | exact Calls.regrown_of (HMf.out _ (below_regrown _ _ _)) | exact Calls.regrown_of (HMr.out _ (below_regrown _ _ _)))) | quiet_step ((first | exact Calls.regrown_of (HMf.out _ (below_regrown _ _ _)) | exact Calls.regrown_of (HMr.out _ (below_regrown _ _ _))))))
                refine wpQuiet_nil ?_
                clear kg
                intro w9 hb9
                obtain ⟨hc9, hf9⟩ := bcell hb9
                have HP3 := Lib.hid (HP2.out.quiet hb9)
                clear hb9 hc9 hf9 HP2
                go_wp2
                go_roundw
                case rel => exact ⟨i + 1, _, by omega, by go_num, HP3.out⟩
                case measure => simp [intOf]; omega
              · skip
                go_wp2_with fail
                have kg := cell_grow
                refine region_whole (by kernel_rfl) (by kernel_rfl) ?_
                repeat (any_goals (first | go_big_quiet_step ((first | exact Calls.regrown_of (HMf.out _ (below_regrown _ _ _)) | exact Calls.regrown_of (HMr.out _ (below_regrown _ _ _)))) | quiet_step ((first | exact Calls.regrown_of (HMf.out _ (below_regrown _ _ _)) | exact Calls.regrown_of (HMr.out _ (below_regrown _ _ _))))))
                refine wpQuiet_nil ?_
                clear kg
                intro w9 hb9
                obtain ⟨hc9, hf9⟩ := bcell hb9
                have HP3 := Lib.hid (HP2.out.quiet hb9)
                clear hb9 hc9 hf9 HP2
                go_wp2
                go_roundw
                case rel => exact ⟨i + 1, _, by omega, by go_num, HP3.out⟩
                case measure => simp [intOf]; omega
          · have nL : ¬ (i : Int) < (L.length : Int) := by omega
            clear lL hii
            have HPP := Lib.hid HP
            clear HP
            go_wp2
            go_loopw [19] (fun i19 wr2 => ∃ j : Nat, j ≤ M ∧ i19 = .int .i64 j ∧ Plays9 w0 wr2 hi hi2 hi3 f o r g s k M C) (fun i19 _ => M - (intOf i19).toNat)
            case atStart => exact ⟨0, Nat.zero_le _, rfl, HPP.out⟩
            case round =>
              clear HPP nL
              obtain ⟨j, hj, rfl, HP⟩ := hrel
              by_cases lM : j < M
              · have hjc : j < C.length := by have := HP.len; omega
                have c2 := HP.r.c2
                have hl := HP.r.lt
                have hr := HP.r.lt2
                have q0 : wr.cell? ⟨g, j, none⟩ = some (.int .i64 (C[j] : Nat)) := (HP.r.own.cellAt j (by omega)).trans (iC_at C j hjc)
                have hC1 : ∀ wx, Below wr.heap.size wr wx → Calls Try.prog 17 #[.pointer (some ⟨f, 0, none⟩), .int .i64 (j : Int)] wx fun e w' => e = .returned (.int .i64 ((C[j] : Nat) : Int)) ∧ Below wx.heap.size wx w' := fun wx hb => by
                  have := fcounter_any _ _ f s k C j wx (HP.f.below hb)
                  rwa [getN_at hjc] at this
                have hC2 : ∀ wx, Below wr.heap.size wr wx → Calls Try.prog 18 #[.pointer (some ⟨f, 0, none⟩), .int .i64 (j : Int)] wx fun e w' => e = .returned (.bool (decide (C[j] ≠ 0))) ∧ Below wx.heap.size wx w' := fun wx hb => by
                  have := fon_any _ _ f s k C j wx (HP.f.below hb)
                  rwa [getN_at hjc] at this
                have hcl := HP.len
                generalize C[j] = u at *
                have hb0 : decide (u ≠ 0) = decide (0 < u) := by rw [Bool.eq_iff_iff]; simp; omega
                rw [hb0] at hC2
                have HC1 := Lib.hid hC1
                have HC2 := Lib.hid hC2
                have HPP := Lib.hid HP
                clear hC1 hC2 HP hb0
                by_cases hu : 0 < u
                · rw [decide_eq_true hu] at HC2
                  go_wp2_with fail
                  have kg := cell_grow
                  refine region_whole (by kernel_rfl) (by kernel_rfl) ?_
                  repeat (any_goals (first | go_big_quiet_step ((first | exact Calls.regrown_of (HC1.out _ (below_regrown _ _ _)) | exact Calls.regrown_of (HC2.out _ (below_regrown _ _ _)))) | quiet_step ((first | exact Calls.regrown_of (HC1.out _ (below_regrown _ _ _)) | exact Calls.regrown_of (HC2.out _ (below_regrown _ _ _))))))
                  refine wpQuiet_nil ?_
                  clear kg
                  intro w6 hb6
                  obtain ⟨hc6, hf6⟩ := bcell hb6
                  have HP6 := Lib.hid (HPP.out.quiet hb6)
                  clear hb6 hc6 hf6 c2 q0
                  go_wp2
                  go_roundw
                  case rel => exact ⟨j + 1, by omega, by go_num, HP6.out⟩
                  case measure => simp [intOf]; omega
                · rw [decide_eq_false hu] at HC2
                  go_wp2_with fail
                  have kg := cell_grow
                  refine region_whole (by kernel_rfl) (by kernel_rfl) ?_
                  repeat (any_goals (first | go_big_quiet_step ((first | exact Calls.regrown_of (HC1.out _ (below_regrown _ _ _)) | exact Calls.regrown_of (HC2.out _ (below_regrown _ _ _)))) | quiet_step ((first | exact Calls.regrown_of (HC1.out _ (below_regrown _ _ _)) | exact Calls.regrown_of (HC2.out _ (below_regrown _ _ _))))))
                  refine wpQuiet_nil ?_
                  clear kg
                  intro w6 hb6
                  obtain ⟨hc6, hf6⟩ := bcell hb6
                  have HP6 := Lib.hid (HPP.out.quiet hb6)
                  clear hb6 hc6 hf6 c2 q0
                  go_wp2
                  go_roundw
                  case rel => exact ⟨j + 1, by omega, by go_num, HP6.out⟩
                  case measure => simp [intOf]; omega
              · have nM : ¬ (j : Int) < (M : Int) := by omega
                have hcl := HP.len
                have hm1 : 1 ≤ C.length := by omega
                have k1 : ∀ wx, Below wr.heap.size wr wx → Calls Try.prog 19 #[.pointer (some ⟨f, 0, none⟩)] wx fun e w' => e = .returned (.int .i64 (fullN C : Nat)) ∧ Below wx.heap.size wx w' := fun wx hb => ffull_any _ _ f s k C wx (HP.f.below hb)
                have k2 : ∀ wx, Below wr.heap.size wr wx → Calls Try.prog 20 #[.pointer (some ⟨r, 0, none⟩)] wx fun e w' => e = .returned (.int .i64 (fullN C : Nat)) ∧ Below wx.heap.size wx w' := fun wx hb => rfull_any _ _ r g s k C wx (HP.r.below hb)
                have k3 : ∀ wx, Below wr.heap.size wr wx → Calls Try.prog 21 #[.pointer (some ⟨f, 0, none⟩)] wx fun e w' => e = .returned (.int .i64 (M : Int)) ∧ Below wx.heap.size wx w' := fun wx hb => by
                  have := flen_any _ _ f s k C wx (HP.f.below hb)
                  rwa [hcl] at this
                have k4 : ∀ wx, Below wr.heap.size wr wx → Calls Try.prog 15 #[.pointer (some ⟨f, 0, none⟩), .agg #[.int .u64 h, .int .u64 l, .int .i64 n]] wx fun e w' => e = .returned (.bool (mayL C (plc s h l n k C.length))) ∧ Below wx.heap.size wx w' :=
                  fun wx hb => fmay_any _ _ _ _ _ _ h l n _ (HP.f.below hb) wh wl hm1
                have k5 : ∀ wx, Below wr.heap.size wr wx → Calls Try.prog 16 #[.pointer (some ⟨r, 0, none⟩), .agg #[.int .u64 h, .int .u64 l, .int .i64 n]] wx fun e w' => e = .returned (.bool (mayL C (plc s h l n k C.length))) ∧ Below wx.heap.size wx w' :=
                  fun wx hb => rmay_any _ _ _ _ _ _ _ h l n _ (HP.r.below hb) wh wl
                have k6 : ∀ wx, Below wr.heap.size wr wx → Calls Try.prog 17 #[.pointer (some ⟨f, 0, none⟩), .int .i64 (-1)] wx fun e w' => e = .returned (.int .i64 0) ∧ Below wx.heap.size wx w' := fun wx hb => by
                  have := fcounter_any _ _ f s k C (-1) wx (HP.f.below hb)
                  rw [getN_no (by omega)] at this
                  exact this
                have k7 : ∀ wx, Below wr.heap.size wr wx → Calls Try.prog 17 #[.pointer (some ⟨f, 0, none⟩), .int .i64 (M : Int)] wx fun e w' => e = .returned (.int .i64 0) ∧ Below wx.heap.size wx w' := fun wx hb => by
                  have := fcounter_any _ _ f s k C M wx (HP.f.below hb)
                  rw [getN_no (by omega)] at this
                  exact this
                have k8 : ∀ wx, Below wr.heap.size wr wx → Calls Try.prog 18 #[.pointer (some ⟨f, 0, none⟩), .int .i64 (-1)] wx fun e w' => e = .returned (.bool false) ∧ Below wx.heap.size wx w' := fun wx hb => by
                  have := fon_any _ _ f s k C (-1) wx (HP.f.below hb)
                  rw [getN_no (by omega)] at this
                  exact this
                have k9 : ∀ wx, Below wr.heap.size wr wx → Calls Try.prog 18 #[.pointer (some ⟨f, 0, none⟩), .int .i64 (M : Int)] wx fun e w' => e = .returned (.bool false) ∧ Below wx.heap.size wx w' := fun wx hb => by
                  have := fon_any _ _ f s k C M wx (HP.f.below hb)
                  rw [getN_no (by omega)] at this
                  exact this
                generalize mayL C (plc s h l n k C.length) = b at *
                generalize fullN C = u at *
                have c0 := (HP.b.cell (p := ⟨w.heap.size, 0, none⟩) hzb).trans kb0.out
                have c1 := (HP.b.cell (p := ⟨w.heap.size, 1, none⟩) hzb).trans kb1.out
                have c2 := (HP.b.cell (p := ⟨w.heap.size, 2, none⟩) hzb).trans kb2.out
                have zl := Nat.lt_of_lt_of_le hzb HP.b.size
                have K1 := Lib.hid k1
                have K2 := Lib.hid k2
                have K3 := Lib.hid k3
                have K4 := Lib.hid k4
                have K5 := Lib.hid k5
                have K6 := Lib.hid k6
                have K7 := Lib.hid k7
                have K8 := Lib.hid k8
                have K9 := Lib.hid k9
                replace HP := Lib.hid HP
                clear k1 k2 k3 k4 k5 k6 k7 k8 k9 hcl hm1 lM hj
                cases b
                · skip
                  go_wp2_with fail
                  have kg := cell_grow
                  refine region_whole (by kernel_rfl) (by kernel_rfl) ?_
                  repeat (any_goals (first | go_big_quiet_step ((first | with_reducible exact Calls.regrown_of (K1.out _ (below_regrown _ _ _)) | with_reducible exact Calls.regrown_of (K2.out _ (below_regrown _ _ _)) | with_reducible exact Calls.regrown_of (K3.out _ (below_regrown _ _ _)) | with_reducible exact Calls.regrown_of (K4.out _ (below_regrown _ _ _)) | with_reducible exact Calls.regrown_of (K5.out _ (below_regrown _ _ _)) | with_reducible exact Calls.regrown_of (K6.out _ (below_regrown _ _ _)) | with_reducible exact Calls.regrown_of (K7.out _ (below_regrown _ _ _)) | with_reducible exact Calls.regrown_of (K8.out _ (below_regrown _ _ _)) | with_reducible exact Calls.regrown_of (K9.out _ (below_regrown _ _ _)))) | quiet_step ((first | with_reducible exact Calls.regrown_of (K1.out _ (below_regrown _ _ _)) | with_reducible exact Calls.regrown_of (K2.out _ (below_regrown _ _ _)) | with_reducible exact Calls.regrown_of (K3.out _ (below_regrown _ _ _)) | with_reducible exact Calls.regrown_of (K4.out _ (below_regrown _ _ _)) | with_reducible exact Calls.regrown_of (K5.out _ (below_regrown _ _ _)) | with_reducible exact Calls.regrown_of (K6.out _ (below_regrown _ _ _)) | with_reducible exact Calls.regrown_of (K7.out _ (below_regrown _ _ _)) | with_reducible exact Calls.regrown_of (K8.out _ (below_regrown _ _ _)) | with_reducible exact Calls.regrown_of (K9.out _ (below_regrown _ _ _))))))
                  refine wpQuiet_nil ?_
                  clear kg
                  intro w9 hb9
                  obtain ⟨hc9, hf9⟩ := bcell hb9
                  go_wp2
                  go_ret
                  exact ⟨rfl, hw0.trans ((HP.out.quiet hb9).b.mono hw0.size)⟩
                · skip
                  go_wp2_with fail
                  have kg := cell_grow
                  refine region_whole (by kernel_rfl) (by kernel_rfl) ?_
                  repeat (any_goals (first | go_big_quiet_step ((first | with_reducible exact Calls.regrown_of (K1.out _ (below_regrown _ _ _)) | with_reducible exact Calls.regrown_of (K2.out _ (below_regrown _ _ _)) | with_reducible exact Calls.regrown_of (K3.out _ (below_regrown _ _ _)) | with_reducible exact Calls.regrown_of (K4.out _ (below_regrown _ _ _)) | with_reducible exact Calls.regrown_of (K5.out _ (below_regrown _ _ _)) | with_reducible exact Calls.regrown_of (K6.out _ (below_regrown _ _ _)) | with_reducible exact Calls.regrown_of (K7.out _ (below_regrown _ _ _)) | with_reducible exact Calls.regrown_of (K8.out _ (below_regrown _ _ _)) | with_reducible exact Calls.regrown_of (K9.out _ (below_regrown _ _ _)))) | quiet_step ((first | with_reducible exact Calls.regrown_of (K1.out _ (below_regrown _ _ _)) | with_reducible exact Calls.regrown_of (K2.out _ (below_regrown _ _ _)) | with_reducible exact Calls.regrown_of (K3.out _ (below_regrown _ _ _)) | with_reducible exact Calls.regrown_of (K4.out _ (below_regrown _ _ _)) | with_reducible exact Calls.regrown_of (K5.out _ (below_regrown _ _ _)) | with_reducible exact Calls.regrown_of (K6.out _ (below_regrown _ _ _)) | with_reducible exact Calls.regrown_of (K7.out _ (below_regrown _ _ _)) | with_reducible exact Calls.regrown_of (K8.out _ (below_regrown _ _ _)) | with_reducible exact Calls.regrown_of (K9.out _ (below_regrown _ _ _))))))
                  refine wpQuiet_nil ?_
                  clear kg
                  intro w9 hb9
                  obtain ⟨hc9, hf9⟩ := bcell hb9
                  go_wp2
                  go_ret
                  exact ⟨rfl, hw0.trans ((HP.out.quiet hb9).b.mono hw0.size)⟩
    · have l2 : (200 : Int) < (L.length : Int) := by omega
      go_enter Try.func3, Try.ntmps3
      go_wp2_with fail
      refine (HA.out _).mono ?_
      rintro e w0 ⟨rfl, hb0⟩
      have hw0 : Below w.heap.size w w0 := Below.trans (by go_grown) (hb0.mono (by go_size))
      go_wp2
      all_goals
        go_ret
        exact ⟨rfl, hw0⟩
  · have m4 : 200 < m := by omega
    by_cases m5 : m ≤ 65536
    · skip
      go_enter Try.func3, Try.ntmps3
      go_wp2_with fail
      refine (HA.out _).mono ?_
      rintro e w0 ⟨rfl, hb0⟩
      have hw0 : Below w.heap.size w w0 := Below.trans (by go_grown) (hb0.mono (by go_size))
      go_wp2
      all_goals
        go_ret
        exact ⟨rfl, hw0⟩
    · by_cases l1 : L.length ≤ 200
      · have nl1 : ¬ (200 : Int) < (L.length : Int) := by omega
        have hbad : ¬ (1 ≤ k ∧ k ≤ 16 ∧ 1 ≤ m ∧ m ≤ 65536) := by omega
        go_enter Try.func3, Try.ntmps3
        go_wp2_with fail
        refine (HA.out _).mono ?_
        rintro e w0 ⟨rfl, hb0⟩
        have hw0 : Below w.heap.size w w0 := Below.trans (by go_grown) (hb0.mono (by go_size))
        go_wp2_with fail
        refine (fnew_bad s k m hbad _).mono ?_
        rintro e w1 ⟨rfl, hb1⟩
        have hw1 := hw0.trans (hb1.mono hw0.size)
        clear hb1
        go_wp2_with fail
        refine (fnew_any s 3 50 ws (by decide) (by decide) (by decide) (by decide) _).mono ?_
        rintro e w2 ⟨o, rfl, -, hb2⟩
        have hw2 := hw1.trans (hb2.mono hw1.size)
        clear hb2
        go_wp2_with fail
        refine (rnew_bad s k m hbad _).mono ?_
        rintro e w3 ⟨rfl, hb3⟩
        have hw3 := hw2.trans (hb3.mono hw2.size)
        clear hb3
        go_wp2_with fail
        refine (HN1.out _).mono ?_
        rintro e w4 ⟨rfl, hb4⟩
        have hw4 := hw3.trans (hb4.mono hw3.size)
        go_wp2
        go_ret
        exact ⟨rfl, hw4⟩
      · have l2 : (200 : Int) < (L.length : Int) := by omega
        go_enter Try.func3, Try.ntmps3
        go_wp2_with fail
        refine (HA.out _).mono ?_
        rintro e w0 ⟨rfl, hb0⟩
        have hw0 : Below w.heap.size w w0 := Below.trans (by go_grown) (hb0.mono (by go_size))
        go_wp2
        all_goals
          go_ret
          exact ⟨rfl, hw0⟩
end Go.Proofs.Ytodofjkajhhipaa
