/-
  Which of this program's functions and types the library's sort.Slice is made of. No condition.
-/
import Derived.Test.YtoihkbanmnagkaaGreatSort1
import Derived.Sort.WalkA6
import Derived.Deep.CutBlock
import Derived.Shelf.GgSortFunc.SmallK
import Derived.Shelf.SlSortFuncK.ComposeK
import Derived.Shelf.SlSortFuncK.BreakPatternsK
import Derived.Test.YtoihkbanmnagkaaGreatProg
/-
  sort.partialInsertionSort_func, at a test that may make blocks of its own. No condition but those that stand in each.
-/
set_option linter.unusedSimpArgs false
set_option linter.unusedVariables false
namespace Go.Proofs.YtoihkbanmnagkaaGreat
open Go.RowKit Go.Sort M

section
variable {α : Type} [Inhabited α] {enc : α → List Value} {k : Nat} {w0 : World} {blk off n : Nat} {lt : α → α → Bool} {g : Nat} {lb : Array Value} {sf : Nat} {sb : Array Value}
set_option maxHeartbeats 2000000 in
set_option maxRecDepth 100000 in
theorem partIns_any (hk : ∀ x, (enc x).length = k) (eg : ∀ args w, (callFunc g args).run Tryz.prog w = .ok (.enter g args) w) (hL : LessB g lb enc k lt w0 blk off n) (hS : SwapSwapsK Tryz.prog sf sb enc k blk off n) (hn : n < 4611686018427387904)
    (a b : Nat) (hab : a < b) (hb : b ≤ n) (d : Array α) (W : World) (S : Srt enc k w0 blk off n d W) :
    Calls Tryz.prog 125 #[.agg #[.func (.func g) #[] lb, .func (.func sf) #[] sb], .int .i64 (a : Int), .int .i64 (b : Int)] W fun e w' =>
      e = .returned (.bool (partialInsertionSort lt d a b).2) ∧ Srt enc k w0 blk off n (partialInsertionSort lt d a b).1 w' ∧ Touch (· = blk) W w' := by
  have HL := Lib.hid hL
  have HSW := Lib.hid hS
  clear hL hS
  have HE0 : Hid (partialIns lt a b (5 - 0) (a + 1) d = partialInsertionSort lt d a b) := rfl
  go_enter Tryz.func125, Tryz.ntmps125
  have R := Srd.start (x := .func (.func g) #[] lb) (y := .func (.func sf) #[] sb) S 148
  clear S
  go_wp2_with fail
  go_loopg [7, 8] 5 (fun kx s7 s8 wr => ∃ (i s : Nat) (dk : Array α), s7 = .int .i64 (i : Int) ∧ s8 = .int .i64 (s : Int) ∧ a < i ∧ i ≤ b ∧ s + kx = 5 ∧ Hid (partialIns lt a b (5 - s) i dk = partialInsertionSort lt d a b) ∧ Hid (Srd enc k w0 blk off n (.func (.func g) #[] lb) (.func (.func sf) #[] sb) W dk wr))
  case atStart => exact ⟨a + 1, 0, d, by go_num, rfl, by omega, by omega, rfl, HE0, R⟩
  case round =>
    clear R HE0
    obtain ⟨i, s, dk, rfl, rfl, h1, h2, h3, HE, HR⟩ := hrel
    by_cases hs : s < 5
    · have hsz : (s : Int) < 5 := by omega
      go_upto_block 2 with fail
      go_cut [7] (fun si wx => ∃ i2 : Nat, si = .int .i64 (i2 : Int) ∧ a < i2 ∧ i2 ≤ b ∧ Hid (scanSorted lt dk b i = i2) ∧ Hid (Srd enc k w0 blk off n (.func (.func g) #[] lb) (.func (.func sf) #[] sb) W dk wx))
      case first =>
        go_wp2_with fail
        go_loopg [7] b (fun kx si wx => ∃ j : Nat, si = .int .i64 (j : Int) ∧ a < j ∧ j ≤ b ∧ b - j ≤ kx ∧ Hid (scanSorted lt dk b i = scanSorted lt dk b j) ∧ Hid (Srd enc k w0 blk off n (.func (.func g) #[] lb) (.func (.func sf) #[] sb) W dk wx))
        case atStart => exact ⟨i, rfl, h1, h2, by omega, rfl, HR⟩
        case round =>
          clear HR
          obtain ⟨j, rfl, u1, u2, u3, HU, HR⟩ := hrel
          have c0 := HR.out.box.c0
          have hl := HR.out.box.lt
          by_cases hjb : j < b
          · cases hv : lt dk[j]! dk[j - 1]! with
            | false =>
              go_wp2_with (go_at_fn g; refine (HR.out.srt.less HL.out _ _ j (j - 1) (by omega) (by omega) rfl (by omega)).mono ?_; rw [hv]; rintro e w1 ⟨rfl, hS1, hT1⟩; have R1 := Lib.hid (HR.out.next hS1 hT1); clear hS1 hT1)
              go_roundg (b - (j + 1))
              case measure => omega
              case rel => exact ⟨j + 1, by go_num, by omega, by omega, by omega, Lib.hid (HU.out.trans (scanSorted_go lt dk b j hjb hv)), R1⟩
            | true =>
              go_wp2_with (go_at_fn g; refine (HR.out.srt.less HL.out _ _ j (j - 1) (by omega) (by omega) rfl (by omega)).mono ?_; rw [hv]; rintro e w1 ⟨rfl, hS1, hT1⟩; have R1 := Lib.hid (HR.out.next hS1 hT1); clear hS1 hT1)
              go_meet
              exact ⟨j, rfl, u1, u2, Lib.hid (HU.out.trans (scanSorted_stop lt dk b j (.inr hv))), R1⟩
          · go_wp2_with fail
            go_meet
            exact ⟨j, rfl, u1, u2, Lib.hid (HU.out.trans (scanSorted_stop lt dk b j (.inl hjb))), HR⟩
      case rest =>
        clear HR
        obtain ⟨i2, rfl, u1, u2, HU, HR⟩ := hcut
        rename World => wo
        have c1 := HR.out.box.c1
        have hl := HR.out.box.lt
        by_cases hib : i2 = b
        · have hz : ((i2 : Int) == (b : Int)) = true := by simp; omega
          have E := Lib.hid ((pi_true lt a b s i dk hs (HU.out.trans hib)).symm.trans HE.out)
          clear hib
          go_wp2
          go_ret
          rw [← E.out]
          exact ⟨rfl, HR.out.srt, HR.out.touch⟩
        · have hz : ((i2 : Int) == (b : Int)) = false := by simp; omega
          have HNB := Lib.hid hib
          clear hib
          by_cases h50 : b - a < 50
          · have h50z : (b : Int) - (a : Int) < 50 := by omega
            have E := Lib.hid ((pi_short lt a b s i dk hs (by rw [HU.out]; exact HNB.out) h50).symm.trans HE.out)
            go_wp2
            go_ret
            rw [← E.out]
            exact ⟨rfl, HR.out.srt, HR.out.touch⟩
          · have h50z : ¬ (b : Int) - (a : Int) < 50 := by omega
            have E := Lib.hid ((pi_go lt a b s i i2 dk hs HU.out HNB.out h50).symm.trans HE.out)
            obtain ⟨w2, hrun, hS2, hT2⟩ := HR.out.srt.swap HSW.out hk (i2 : Int) ((i2 : Int) - 1) i2 (i2 - 1) (by have := HNB.out; omega) (by omega) rfl (by omega)
            have R2 := Lib.hid (HR.out.next hS2 hT2)
            clear hS2 hT2 HE HR
            obtain ⟨d1, hd1⟩ : ∃ d1, d1 = swp dk i2 (i2 - 1) := ⟨_, rfl⟩
            rw [← hd1] at E R2
            have HR := R2
            clear R2 hd1 HU
            go_upto_if 47 with fail
            go_cut [9] (fun _ wx => Hid (Srd enc k w0 blk off n (.func (.func g) #[] lb) (.func (.func sf) #[] sb) W (fixDown lt a i2 d1) wx))
            case first =>
              by_cases h2a : 2 ≤ i2 - a
              · have h2z : (2 : Int) ≤ (i2 : Int) - (a : Int) := by omega
                go_wp2_with fail
                go_loopg [9] i2 (fun kx s9 wx => ∃ (j : Nat) (dj : Array α), s9 = .int .i64 (j : Int) ∧ j < i2 ∧ j ≤ kx ∧ Hid (shiftDown lt j dj = fixDown lt a i2 d1) ∧ Hid (Srd enc k w0 blk off n (.func (.func g) #[] lb) (.func (.func sf) #[] sb) W (dj) wx))
                case atStart => exact ⟨i2 - 1, d1, congrArg (Value.int .i64) (by omega), by omega, by omega, Lib.hid (by rw [fixDown, if_pos h2a]), HR⟩
                case round =>
                  clear HR
                  obtain ⟨j, dj, rfl, j1, j2, HJ, HR⟩ := hrel
                  have c0 := HR.out.box.c0
                  have hl := HR.out.box.lt
                  by_cases hj : 1 ≤ j
                  · have hjz : (1 : Int) ≤ (j : Int) := by omega
                    cases hv : lt dj[j]! dj[j - 1]! with
                    | true =>
                      go_wp2_with (go_at_fn g; refine (HR.out.srt.less HL.out _ _ j (j - 1) (by omega) (by omega) rfl (by omega)).mono ?_; rw [hv]; rintro e w1 ⟨rfl, hS1, hT1⟩; have R1 := HR.out.next hS1 hT1; have e1 := R1.box.c1; have el := R1.box.lt; obtain ⟨w3, hrun, hS3, hT3⟩ := R1.srt.swap HSW.out hk (j : Int) ((j : Int) - 1) j (j - 1) (by omega) (by omega) rfl (by omega); have R3 := Lib.hid (R1.next hS3 hT3); clear R1 hS1 hT1 hS3 hT3)
                      go_roundg (j - 1)
                      case measure => omega
                      case rel => exact ⟨j - 1, _, congrArg (Value.int .i64) (by omega), by omega, Nat.le_refl _, Lib.hid ((shiftDown_go lt j dj hj hv).symm.trans HJ.out), R3⟩
                    | false =>
                      go_wp2_with (go_at_fn g; refine (HR.out.srt.less HL.out _ _ j (j - 1) (by omega) (by omega) rfl (by omega)).mono ?_; rw [hv]; rintro e w1 ⟨rfl, hS1, hT1⟩; have R1 := Lib.hid (HR.out.next hS1 hT1); clear hS1 hT1)
                      go_meet
                      have := HJ.out
                      rw [shiftDown_stop lt j dj (.inr hv)] at this
                      rw [← this]
                      exact R1
                  · have hjz : ¬ (1 : Int) ≤ (j : Int) := by omega
                    go_wp2_with fail
                    go_meet
                    have := HJ.out
                    rw [shiftDown_stop lt j dj (.inl (by omega))] at this
                    rw [← this]
                    exact HR
              · have h2z : ¬ (2 : Int) ≤ (i2 : Int) - (a : Int) := by omega
                go_wp2_with fail
                go_meet
                rw [show fixDown lt a i2 d1 = d1 by rw [fixDown, if_neg h2a]]
                exact HR
            case rest =>
              clear HR
              have HR := hcut
              clear hcut
              rename World => wp
              obtain ⟨d2, hd2⟩ : ∃ d2, d2 = fixDown lt a i2 d1 := ⟨_, rfl⟩
              rw [← hd2] at E HR
              clear hd2 hrun c1 hl w2
              obtain ⟨m0, hm0⟩ : ∃ m0, m0 + 1 = gk := ⟨gk - 1, by omega⟩
              by_cases h2a : 2 ≤ b - i2
              · have h2z : (2 : Int) ≤ (b : Int) - (i2 : Int) := by omega
                have hgk : s + 1 + m0 = 5 := by omega
                have hgk2 : m0 < gk := by omega
                obtain ⟨GK, hGK⟩ : ∃ GK, GK = gk := ⟨_, rfl⟩
                go_wp2_with fail
                go_loopg [10] b (fun kx s9 wx => ∃ (j : Nat) (dj : Array α), s9 = .int .i64 (j : Int) ∧ 1 ≤ j ∧ b - j ≤ kx ∧ j ≤ b ∧ Hid (shiftUp lt b j dj = fixUp lt b i2 d2) ∧ Hid (Srd enc k w0 blk off n (.func (.func g) #[] lb) (.func (.func sf) #[] sb) W (dj) wx))
                case atStart => exact ⟨i2 + 1, d2, by go_num, by omega, by omega, by omega, Lib.hid (by rw [fixUp, if_pos h2a]), HR⟩
                case round =>
                  clear HR
                  obtain ⟨j, dj, rfl, j1, j2, j3, HJ, HR⟩ := hrel
                  have c0 := HR.out.box.c0
                  have hl := HR.out.box.lt
                  by_cases hj : j < b
                  · cases hv : lt dj[j]! dj[j - 1]! with
                    | true =>
                      go_wp2_with (go_at_fn g; refine (HR.out.srt.less HL.out _ _ j (j - 1) (by omega) (by omega) rfl (by omega)).mono ?_; rw [hv]; rintro e w1 ⟨rfl, hS1, hT1⟩; have R1 := HR.out.next hS1 hT1; have e1 := R1.box.c1; have el := R1.box.lt; obtain ⟨w3, hrun, hS3, hT3⟩ := R1.srt.swap HSW.out hk (j : Int) ((j : Int) - 1) j (j - 1) (by omega) (by omega) rfl (by omega); have R3 := Lib.hid (R1.next hS3 hT3); clear R1 hS1 hT1 hS3 hT3)
                      go_roundg (b - (j + 1))
                      case measure => omega
                      case rel => exact ⟨j + 1, _, by go_num, by omega, by omega, by omega, Lib.hid ((shiftUp_go lt b j dj hj hv).symm.trans HJ.out), R3⟩
                    | false =>
                      have hd : dj = fixUp lt b i2 d2 := (shiftUp_stop lt b j dj (.inr hv)).symm.trans HJ.out
                      rw [← hd] at E
                      clear hd
                      go_wp2_with (go_at_fn g; refine (HR.out.srt.less HL.out _ _ j (j - 1) (by omega) (by omega) rfl (by omega)).mono ?_; rw [hv]; rintro e w1 ⟨rfl, hS1, hT1⟩; have R1 := Lib.hid (HR.out.next hS1 hT1); clear hS1 hT1)
                      go_roundg m0
                      case measure => omega
                      case rel => exact ⟨i2, s + 1, _, rfl, by go_num, u1, u2, hgk, E, R1⟩
                  · have hd : dj = fixUp lt b i2 d2 := (shiftUp_stop lt b j dj (.inl hj)).symm.trans HJ.out
                    rw [← hd] at E
                    clear hd
                    go_wp2_with fail
                    go_roundg m0
                    case measure => omega
                    case rel => exact ⟨i2, s + 1, _, rfl, by go_num, u1, u2, hgk, E, HR⟩
              · have h2z : ¬ (2 : Int) ≤ (b : Int) - (i2 : Int) := by omega
                rw [show fixUp lt b i2 d2 = d2 by rw [fixUp, if_neg h2a]] at E
                go_wp2_with fail
                go_roundg m0
                case measure => omega
                case rel => exact ⟨i2, s + 1, _, rfl, by go_num, u1, u2, by omega, E, HR⟩
    · have hsz : ¬ (s : Int) < 5 := by omega
      obtain rfl : s = 5 := by omega
      have e := HE.out
      rw [pi_end] at e
      have E := Lib.hid e
      clear e HE
      go_wp2
      go_ret
      rw [← E.out]
      exact ⟨rfl, HR.out.srt, HR.out.touch⟩
end
end Go.Proofs.YtoihkbanmnagkaaGreat
/-
  Which of this program's functions and types the library's sort.Slice is made of. No condition.
-/
set_option linter.unusedSimpArgs false
set_option linter.unusedVariables false
namespace Go.Proofs
open Go.Shelf
def Tryz.laysGg6_ren : Go.Shelf.Ren := ⟨fun | 6 => 68 | 10 => 92 | 11 => 93 | 12 => 94 | 13 => 95 | 14 => 96 | 24 => 118 | 25 => 119 | 26 => 120 | 27 => 121 | 28 => 122 | 29 => 123 | 30 => 124 | 31 => 125 | 32 => 126 | 33 => 127 | 34 => 131 | 35 => 132 | 36 => 133 | 37 => 134 | 38 => 135 | 39 => 137 | n => n, fun | 20 => 20 | 26 => 123 | 35 => 141 | 0 => 0 | 37 => 143 | 3 => 3 | 41 => 100 | 44 => 148 | 49 => 156 | 51 => 22 | 4 => 4 | 54 => 160 | 53 => 159 | 58 => 105 | 5 => 5 | 9 => 9 | 60 => 167 | 64 => 171 | 66 => 174 | 67 => 103 | 17 => 17 | 32 => 138 | 33 => 139 | 82 => 189 | 12 => 12 | 75 => 182 | 76 => 183 | 77 => 184 | 78 => 185 | 79 => 186 | 80 => 187 | n => n, fun | n => n⟩
theorem Tryz.laysGg6 : Go.Proofs.LaysGg.n6 Tryz.prog Tryz.laysGg6_ren := {
  mixed := by kernel_rfl
  f6 := Tryz.func68.trans (congrArg some (by kernel_rfl))
  f10 := Tryz.func92.trans (congrArg some (by kernel_rfl))
  f11 := Tryz.func93.trans (congrArg some (by kernel_rfl))
  f12 := Tryz.func94.trans (congrArg some (by kernel_rfl))
  f13 := Tryz.func95.trans (congrArg some (by kernel_rfl))
  f14 := Tryz.func96.trans (congrArg some (by kernel_rfl))
  f24 := Tryz.func118.trans (congrArg some (by kernel_rfl))
  f25 := Tryz.func119.trans (congrArg some (by kernel_rfl))
  f26 := Tryz.func120.trans (congrArg some (by kernel_rfl))
  f27 := Tryz.func121.trans (congrArg some (by kernel_rfl))
  f28 := Tryz.func122.trans (congrArg some (by kernel_rfl))
  f29 := Tryz.func123.trans (congrArg some (by kernel_rfl))
  f30 := Tryz.func124.trans (congrArg some (by kernel_rfl))
  f31 := Tryz.func125.trans (congrArg some (by kernel_rfl))
  f32 := Tryz.func126.trans (congrArg some (by kernel_rfl))
  f33 := Tryz.func127.trans (congrArg some (by kernel_rfl))
  f34 := Tryz.func131.trans (congrArg some (by kernel_rfl))
  f35 := Tryz.func132.trans (congrArg some (by kernel_rfl))
  f36 := Tryz.func133.trans (congrArg some (by kernel_rfl))
  f37 := Tryz.func134.trans (congrArg some (by kernel_rfl))
  f38 := Tryz.func135.trans (congrArg some (by kernel_rfl))
  f39 := Tryz.func137.trans (congrArg some (by kernel_rfl))
  t0 := Tryz.underlying0
  a0 := Tryz.isAgg0
  z0 := Tryz.sizeOf0
  v0 := Tryz.zeroValue0
  i0 := by kernel_rfl
  t3 := Tryz.underlying3
  a3 := Tryz.isAgg3
  z3 := Tryz.sizeOf3
  v3 := Tryz.zeroValue3
  i3 := by kernel_rfl
  t4 := Tryz.underlying4
  a4 := Tryz.isAgg4
  z4 := Tryz.sizeOf4
  v4 := Tryz.zeroValue4
  i4 := by kernel_rfl
  t5 := Tryz.underlying5
  a5 := Tryz.isAgg5
  z5 := Tryz.sizeOf5
  v5 := Tryz.zeroValue5
  i5 := by kernel_rfl
  t9 := Tryz.underlying9
  a9 := Tryz.isAgg9
  z9 := Tryz.sizeOf9
  v9 := Tryz.zeroValue9
  i9 := by kernel_rfl
  t12 := Tryz.underlying12
  a12 := Tryz.isAgg12
  z12 := Tryz.sizeOf12
  v12 := Tryz.zeroValue12
  i12 := by kernel_rfl
  t17 := Tryz.underlying17
  a17 := Tryz.isAgg17
  z17 := Tryz.sizeOf17
  v17 := Tryz.zeroValue17
  i17 := by kernel_rfl
  t20 := Tryz.underlying20
  a20 := Tryz.isAgg20
  z20 := Tryz.sizeOf20
  v20 := Tryz.zeroValue20
  i20 := by kernel_rfl
  t26 := Tryz.underlying123
  a26 := Tryz.isAgg123
  z26 := Tryz.sizeOf123
  v26 := Tryz.zeroValue123
  i26 := by kernel_rfl
  t32 := Tryz.underlying138
  a32 := Tryz.isAgg138
  z32 := Tryz.sizeOf138
  v32 := Tryz.zeroValue138
  i32 := by kernel_rfl
  t33 := Tryz.underlying139
  a33 := Tryz.isAgg139
  z33 := Tryz.sizeOf139
  v33 := Tryz.zeroValue139
  i33 := by kernel_rfl
  t35 := Tryz.underlying141
  a35 := Tryz.isAgg141
  z35 := Tryz.sizeOf141
  v35 := Tryz.zeroValue141
  i35 := by kernel_rfl
  t37 := Tryz.underlying143
  a37 := Tryz.isAgg143
  z37 := Tryz.sizeOf143
  v37 := Tryz.zeroValue143
  i37 := by kernel_rfl
  t41 := Tryz.underlying100
  a41 := Tryz.isAgg100
  z41 := Tryz.sizeOf100
  v41 := Tryz.zeroValue100
  i41 := by kernel_rfl
  t44 := Tryz.underlying148
  a44 := Tryz.isAgg148
  z44 := Tryz.sizeOf148
  v44 := Tryz.zeroValue148
  i44 := by kernel_rfl
  t49 := Tryz.underlying156
  a49 := Tryz.isAgg156
  z49 := Tryz.sizeOf156
  v49 := Tryz.zeroValue156
  i49 := by kernel_rfl
  t51 := Tryz.underlying22
  a51 := Tryz.isAgg22
  z51 := Tryz.sizeOf22
  v51 := Tryz.zeroValue22
  i51 := by kernel_rfl
  t53 := Tryz.underlying159
  a53 := Tryz.isAgg159
  z53 := Tryz.sizeOf159
  v53 := Tryz.zeroValue159
  i53 := by kernel_rfl
  t54 := Tryz.underlying160
  a54 := Tryz.isAgg160
  z54 := Tryz.sizeOf160
  v54 := Tryz.zeroValue160
  i54 := by kernel_rfl
  t58 := Tryz.underlying105
  a58 := Tryz.isAgg105
  z58 := Tryz.sizeOf105
  v58 := Tryz.zeroValue105
  i58 := by kernel_rfl
  t60 := Tryz.underlying167
  a60 := Tryz.isAgg167
  z60 := Tryz.sizeOf167
  v60 := Tryz.zeroValue167
  i60 := by kernel_rfl
  t64 := Tryz.underlying171
  a64 := Tryz.isAgg171
  z64 := Tryz.sizeOf171
  v64 := Tryz.zeroValue171
  i64 := by kernel_rfl
  t66 := Tryz.underlying174
  a66 := Tryz.isAgg174
  z66 := Tryz.sizeOf174
  v66 := Tryz.zeroValue174
  i66 := by kernel_rfl
  t67 := Tryz.underlying103
  a67 := Tryz.isAgg103
  z67 := Tryz.sizeOf103
  v67 := Tryz.zeroValue103
  i67 := by kernel_rfl
  t75 := Tryz.underlying182
  a75 := Tryz.isAgg182
  z75 := Tryz.sizeOf182
  v75 := Tryz.zeroValue182
  i75 := by kernel_rfl
  t76 := Tryz.underlying183
  a76 := Tryz.isAgg183
  z76 := Tryz.sizeOf183
  v76 := Tryz.zeroValue183
  i76 := by kernel_rfl
  t77 := Tryz.underlying184
  a77 := Tryz.isAgg184
  z77 := Tryz.sizeOf184
  v77 := Tryz.zeroValue184
  i77 := by kernel_rfl
  t78 := Tryz.underlying185
  a78 := Tryz.isAgg185
  z78 := Tryz.sizeOf185
  v78 := Tryz.zeroValue185
  i78 := by kernel_rfl
  t79 := Tryz.underlying186
  a79 := Tryz.isAgg186
  z79 := Tryz.sizeOf186
  v79 := Tryz.zeroValue186
  i79 := by kernel_rfl
  t80 := Tryz.underlying187
  a80 := Tryz.isAgg187
  z80 := Tryz.sizeOf187
  v80 := Tryz.zeroValue187
  i80 := by kernel_rfl
  t82 := Tryz.underlying189
  a82 := Tryz.isAgg189
  z82 := Tryz.sizeOf189
  v82 := Tryz.zeroValue189
  i82 := by kernel_rfl }
end Go.Proofs
