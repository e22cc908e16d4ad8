/-
  Which of this program's functions and types the library's sort.Slice is made of. No condition.
-/
import Derived.Test.YtlglppfkpieabaaSort1
import Derived.Sort.WalkA6
import Derived.Deep.CutBlock
import Derived.Shelf.GgSortFunc.SmallK
import Derived.Shelf.SlSortFuncK.ComposeK
import Derived.Shelf.SlSortFuncK.BreakPatternsK
import Derived.Test.YtlglppfkpieabaaProg
/-
  sort.partialInsertionSort_func, at a test that may make blocks of its own. No condition but those that stand in each.
-/
set_option linter.unusedSimpArgs false
set_option linter.unusedVariables false
namespace Go.Proofs.Ytlglppfkpieabaa
open Go.RowKit Go.Sort M

section
variable {α : Type} [Inhabited α] {enc : α → List Value} {k : Nat} {w0 : World} {blk off n : Nat} {lt : α → α → Bool} {g : Nat} {lb : Array Value} {sf : Nat} {sb : Array Value}
set_option maxHeartbeats 2000000 in
set_option maxRecDepth 100000 in
theorem partIns_any (hk : ∀ x, (enc x).length = k) (eg : ∀ args w, (callFunc g args).run Try.prog w = .ok (.enter g args) w) (hL : LessB g lb enc k lt w0 blk off n) (hS : SwapSwapsK Try.prog sf sb enc k blk off n) (hn : n < 4611686018427387904)
    (a b : Nat) (hab : a < b) (hb : b ≤ n) (d : Array α) (W : World) (S : Srt enc k w0 blk off n d W) :
    Calls Try.prog 92 #[.agg #[.func (.func g) #[] lb, .func (.func sf) #[] sb], .int .i64 (a : Int), .int .i64 (b : Int)] W fun e w' =>
      e = .returned (.bool (partialInsertionSort lt d a b).2) ∧ Srt enc k w0 blk off n (partialInsertionSort lt d a b).1 w' ∧ Touch (· = blk) W w' := by
  have HL := Lib.hid hL
  have HSW := Lib.hid hS
  clear hL hS
  have HE0 : Hid (partialIns lt a b (5 - 0) (a + 1) d = partialInsertionSort lt d a b) := rfl
  go_enter Try.func92, Try.ntmps92
  have R := Srd.start (x := .func (.func g) #[] lb) (y := .func (.func sf) #[] sb) S 112
  clear S
  go_wp2_with fail
  go_loopg [7, 8] 5 (fun kx s7 s8 wr => ∃ (i s : Nat) (dk : Array α), s7 = .int .i64 (i : Int) ∧ s8 = .int .i64 (s : Int) ∧ a < i ∧ i ≤ b ∧ s + kx = 5 ∧ Hid (partialIns lt a b (5 - s) i dk = partialInsertionSort lt d a b) ∧ Hid (Srd enc k w0 blk off n (.func (.func g) #[] lb) (.func (.func sf) #[] sb) W dk wr))
  case atStart => exact ⟨a + 1, 0, d, by go_num, rfl, by omega, by omega, rfl, HE0, R⟩
  case round =>
    clear R HE0
    obtain ⟨i, s, dk, rfl, rfl, h1, h2, h3, HE, HR⟩ := hrel
    by_cases hs : s < 5
    · have hsz : (s : Int) < 5 := by omega
      go_upto_block 2 with fail
      go_cut [7] (fun si wx => ∃ i2 : Nat, si = .int .i64 (i2 : Int) ∧ a < i2 ∧ i2 ≤ b ∧ Hid (scanSorted lt dk b i = i2) ∧ Hid (Srd enc k w0 blk off n (.func (.func g) #[] lb) (.func (.func sf) #[] sb) W dk wx))
      case first =>
        go_wp2_with fail
        go_loopg [7] b (fun kx si wx => ∃ j : Nat, si = .int .i64 (j : Int) ∧ a < j ∧ j ≤ b ∧ b - j ≤ kx ∧ Hid (scanSorted lt dk b i = scanSorted lt dk b j) ∧ Hid (Srd enc k w0 blk off n (.func (.func g) #[] lb) (.func (.func sf) #[] sb) W dk wx))
        case atStart => exact ⟨i, rfl, h1, h2, by omega, rfl, HR⟩
        case round =>
          clear HR
          obtain ⟨j, rfl, u1, u2, u3, HU, HR⟩ := hrel
          have c0 := HR.out.box.c0
          have hl := HR.out.box.lt
          by_cases hjb : j < b
          · cases hv : lt dk[j]! dk[j - 1]! with
            | false =>
              go_wp2_with (go_at_fn g; refine (HR.out.srt.less HL.out _ _ j (j - 1) (by omega) (by omega) rfl (by omega)).mono ?_; rw [hv]; rintro e w1 ⟨rfl, hS1, hT1⟩; have R1 := Lib.hid (HR.out.next hS1 hT1); clear hS1 hT1)
              go_roundg (b - (j + 1))
              case measure => omega
              case rel => exact ⟨j + 1, by go_num, by omega, by omega, by omega, Lib.hid (HU.out.trans (scanSorted_go lt dk b j hjb hv)), R1⟩
            | true =>
              go_wp2_with (go_at_fn g; refine (HR.out.srt.less HL.out _ _ j (j - 1) (by omega) (by omega) rfl (by omega)).mono ?_; rw [hv]; rintro e w1 ⟨rfl, hS1, hT1⟩; have R1 := Lib.hid (HR.out.next hS1 hT1); clear hS1 hT1)
              go_meet
              exact ⟨j, rfl, u1, u2, Lib.hid (HU.out.trans (scanSorted_stop lt dk b j (.inr hv))), R1⟩
          · go_wp2_with fail
            go_meet
            exact ⟨j, rfl, u1, u2, Lib.hid (HU.out.trans (scanSorted_stop lt dk b j (.inl hjb))), HR⟩
      case rest =>
        clear HR
        obtain ⟨i2, rfl, u1, u2, HU, HR⟩ := hcut
        rename World => wo
        have c1 := HR.out.box.c1
        have hl := HR.out.box.lt
        by_cases hib : i2 = b
        · have hz : ((i2 : Int) == (b : Int)) = true := by simp; omega
          have E := Lib.hid ((pi_true lt a b s i dk hs (HU.out.trans hib)).symm.trans HE.out)
          clear hib
          go_wp2
          go_ret
          rw [← E.out]
          exact ⟨rfl, HR.out.srt, HR.out.touch⟩
        · have hz : ((i2 : Int) == (b : Int)) = false := by simp; omega
          have HNB := Lib.hid hib
          clear hib
          by_cases h50 : b - a < 50
          · have h50z : (b : Int) - (a : Int) < 50 := by omega
            have E := Lib.hid ((pi_short lt a b s i dk hs (by rw [HU.out]; exact HNB.out) h50).symm.trans HE.out)
            go_wp2
            go_ret
            rw [← E.out]
            exact ⟨rfl, HR.out.srt, HR.out.touch⟩
          · have h50z : ¬ (b : Int) - (a : Int) < 50 := by omega
            have E := Lib.hid ((pi_go lt a b s i i2 dk hs HU.out HNB.out h50).symm.trans HE.out)
            obtain ⟨w2, hrun, hS2, hT2⟩ := HR.out.srt.swap HSW.out hk (i2 : Int) ((i2 : Int) - 1) i2 (i2 - 1) (by have := HNB.out; omega) (by omega) rfl (by omega)
            have R2 := Lib.hid (HR.out.next hS2 hT2)
            clear hS2 hT2 HE HR
            obtain ⟨d1, hd1⟩ : ∃ d1, d1 = swp dk i2 (i2 - 1) := ⟨_, rfl⟩
            rw [← hd1] at E R2
            have HR := R2
            clear R2 hd1 HU
            go_upto_if 47 with fail
            go_cut [9] (fun _ wx => Hid (Srd enc k w0 blk off n (.func (.func g) #[] lb) (.func (.func sf) #[] sb) W (fixDown lt a i2 d1) wx))
            case first =>
              by_cases h2a : 2 ≤ i2 - a
              · have h2z : (2 : Int) ≤ (i2 : Int) - (a : Int) := by omega
                go_wp2_with fail
                go_loopg [9] i2 (fun kx s9 wx => ∃ (j : Nat) (dj : Array α), s9 = .int .i64 (j : Int) ∧ j < i2 ∧ j ≤ kx ∧ Hid (shiftDown lt j dj = fixDown lt a i2 d1) ∧ Hid (Srd enc k w0 blk off n (.func (.func g) #[] lb) (.func (.func sf) #[] sb) W (dj) wx))
                case atStart => exact ⟨i2 - 1, d1, congrArg (Value.int .i64) (by omega), by omega, by omega, Lib.hid (by rw [fixDown, if_pos h2a]), HR⟩
                case round =>
                  clear HR
                  obtain ⟨j, dj, rfl, j1, j2, HJ, HR⟩ := hrel
                  have c0 := HR.out.box.c0
                  have hl := HR.out.box.lt
                  by_cases hj : 1 ≤ j
                  · have hjz : (1 : Int) ≤ (j : Int) := by omega
                    cases hv : lt dj[j]! dj[j - 1]! with
                    | true =>
                      go_wp2_with (go_at_fn g; refine (HR.out.srt.less HL.out _ _ j (j - 1) (by omega) (by omega) rfl (by omega)).mono ?_; rw [hv]; rintro e w1 ⟨rfl, hS1, hT1⟩; have R1 := HR.out.next hS1 hT1; have e1 := R1.box.c1; have el := R1.box.lt; obtain ⟨w3, hrun, hS3, hT3⟩ := R1.srt.swap HSW.out hk (j : Int) ((j : Int) - 1) j (j - 1) (by omega) (by omega) rfl (by omega); have R3 := Lib.hid (R1.next hS3 hT3); clear R1 hS1 hT1 hS3 hT3)
                      go_roundg (j - 1)
                      case measure => omega
                      case rel => exact ⟨j - 1, _, congrArg (Value.int .i64) (by omega), by omega, Nat.le_refl _, Lib.hid ((shiftDown_go lt j dj hj hv).symm.trans HJ.out), R3⟩
                    | false =>
                      go_wp2_with (go_at_fn g; refine (HR.out.srt.less HL.out _ _ j (j - 1) (by omega) (by omega) rfl (by omega)).mono ?_; rw [hv]; rintro e w1 ⟨rfl, hS1, hT1⟩; have R1 := Lib.hid (HR.out.next hS1 hT1); clear hS1 hT1)
                      go_meet
                      have := HJ.out
                      rw [shiftDown_stop lt j dj (.inr hv)] at this
                      rw [← this]
                      exact R1
                  · have hjz : ¬ (1 : Int) ≤ (j : Int) := by omega
                    go_wp2_with fail
                    go_meet
                    have := HJ.out
                    rw [shiftDown_stop lt j dj (.inl (by omega))] at this
                    rw [← this]
                    exact HR
              · have h2z : ¬ (2 : Int) ≤ (i2 : Int) - (a : Int) := by omega
                go_wp2_with fail
                go_meet
                rw [show fixDown lt a i2 d1 = d1 by rw [fixDown, if_neg h2a]]
                exact HR
            case rest =>
              clear HR
              have HR := hcut
              clear hcut
              rename World => wp
              obtain ⟨d2, hd2⟩ : ∃ d2, d2 = fixDown lt a i2 d1 := ⟨_, rfl⟩
              rw [← hd2] at E HR
              clear hd2 hrun c1 hl w2
              obtain ⟨m0, hm0⟩ : ∃ m0, m0 + 1 = gk := ⟨gk - 1, by omega⟩
              by_cases h2a : 2 ≤ b - i2
              · have h2z : (2 : Int) ≤ (b : Int) - (i2 : Int) := by omega
                have hgk : s + 1 + m0 = 5 := by omega
                have hgk2 : m0 < gk := by omega
                obtain ⟨GK, hGK⟩ : ∃ GK, GK = gk := ⟨_, rfl⟩
                go_wp2_with fail
                go_loopg [10] b (fun kx s9 wx => ∃ (j : Nat) (dj : Array α), s9 = .int .i64 (j : Int) ∧ 1 ≤ j ∧ b - j ≤ kx ∧ j ≤ b ∧ Hid (shiftUp lt b j dj = fixUp lt b i2 d2) ∧ Hid (Srd enc k w0 blk off n (.func (.func g) #[] lb) (.func (.func sf) #[] sb) W (dj) wx))
                case atStart => exact ⟨i2 + 1, d2, by go_num, by omega, by omega, by omega, Lib.hid (by rw [fixUp, if_pos h2a]), HR⟩
                case round =>
                  clear HR
                  obtain ⟨j, dj, rfl, j1, j2, j3, HJ, HR⟩ := hrel
                  have c0 := HR.out.box.c0
                  have hl := HR.out.box.lt
                  by_cases hj : j < b
                  · cases hv : lt dj[j]! dj[j - 1]! with
                    | true =>
                      go_wp2_with (go_at_fn g; refine (HR.out.srt.less HL.out _ _ j (j - 1) (by omega) (by omega) rfl (by omega)).mono ?_; rw [hv]; rintro e w1 ⟨rfl, hS1, hT1⟩; have R1 := HR.out.next hS1 hT1; have e1 := R1.box.c1; have el := R1.box.lt; obtain ⟨w3, hrun, hS3, hT3⟩ := R1.srt.swap HSW.out hk (j : Int) ((j : Int) - 1) j (j - 1) (by omega) (by omega) rfl (by omega); have R3 := Lib.hid (R1.next hS3 hT3); clear R1 hS1 hT1 hS3 hT3)
                      go_roundg (b - (j + 1))
                      case measure => omega
                      case rel => exact ⟨j + 1, _, by go_num, by omega, by omega, by omega, Lib.hid ((shiftUp_go lt b j dj hj hv).symm.trans HJ.out), R3⟩
                    | false =>
                      have hd : dj = fixUp lt b i2 d2 := (shiftUp_stop lt b j dj (.inr hv)).symm.trans HJ.out
                      rw [← hd] at E
                      clear hd
                      go_wp2_with (go_at_fn g; refine (HR.out.srt.less HL.out _ _ j (j - 1) (by omega) (by omega) rfl (by omega)).mono ?_; rw [hv]; rintro e w1 ⟨rfl, hS1, hT1⟩; have R1 := Lib.hid (HR.out.next hS1 hT1); clear hS1 hT1)
                      go_roundg m0
                      case measure => omega
                      case rel => exact ⟨i2, s + 1, _, rfl, by go_num, u1, u2, hgk, E, R1⟩
                  · have hd : dj = fixUp lt b i2 d2 := (shiftUp_stop lt b j dj (.inl hj)).symm.trans HJ.out
                    rw [← hd] at E
                    clear hd
                    go_wp2_with fail
                    go_roundg m0
                    case measure => omega
                    case rel => exact ⟨i2, s + 1, _, rfl, by go_num, u1, u2, hgk, E, HR⟩
              · have h2z : ¬ (2 : Int) ≤ (b : Int) - (i2 : Int) := by omega
                rw [show fixUp lt b i2 d2 = d2 by rw [fixUp, if_neg h2a]] at E
                go_wp2_with fail
                go_roundg m0
                case measure => omega
                case rel => exact ⟨i2, s + 1, _, rfl, by go_num, u1, u2, by omega, E, HR⟩
    · have hsz : ¬ (s : Int) < 5 := by omega
      obtain rfl : s = 5 := by omega
      have e := HE.out
      rw [pi_end] at e
      have E := Lib.hid e
      clear e HE
      go_wp2
      go_ret
      rw [← E.out]
      exact ⟨rfl, HR.out.srt, HR.out.touch⟩
end
end Go.Proofs.Ytlglppfkpieabaa
/-
  Which of this program's functions and types the library's sort.Slice is made of. No condition.
-/
set_option linter.unusedSimpArgs false
set_option linter.unusedVariables false
namespace Go.Proofs
open Go.Shelf
def Try.laysGg6_ren : Go.Shelf.Ren := ⟨fun | 6 => 46 | 10 => 68 | 11 => 69 | 12 => 70 | 13 => 71 | 14 => 72 | 24 => 85 | 25 => 86 | 26 => 87 | 27 => 88 | 28 => 89 | 29 => 90 | 30 => 91 | 31 => 92 | 32 => 93 | 33 => 94 | 34 => 97 | 35 => 98 | 36 => 99 | 37 => 100 | 38 => 101 | 39 => 102 | n => n, fun | 20 => 20 | 26 => 91 | 35 => 105 | 0 => 0 | 37 => 107 | 3 => 3 | 41 => 58 | 44 => 112 | 49 => 117 | 51 => 22 | 4 => 4 | 54 => 121 | 53 => 120 | 58 => 84 | 5 => 5 | 9 => 9 | 60 => 129 | 64 => 133 | 66 => 135 | 67 => 67 | 17 => 17 | 32 => 102 | 33 => 103 | 82 => 150 | 12 => 12 | 75 => 143 | 76 => 144 | 77 => 145 | 78 => 146 | 79 => 147 | 80 => 148 | n => n, fun | n => n⟩
theorem Try.laysGg6 : Go.Proofs.LaysGg.n6 Try.prog Try.laysGg6_ren := {
  mixed := by kernel_rfl
  f6 := Try.func46.trans (congrArg some (by kernel_rfl))
  f10 := Try.func68.trans (congrArg some (by kernel_rfl))
  f11 := Try.func69.trans (congrArg some (by kernel_rfl))
  f12 := Try.func70.trans (congrArg some (by kernel_rfl))
  f13 := Try.func71.trans (congrArg some (by kernel_rfl))
  f14 := Try.func72.trans (congrArg some (by kernel_rfl))
  f24 := Try.func85.trans (congrArg some (by kernel_rfl))
  f25 := Try.func86.trans (congrArg some (by kernel_rfl))
  f26 := Try.func87.trans (congrArg some (by kernel_rfl))
  f27 := Try.func88.trans (congrArg some (by kernel_rfl))
  f28 := Try.func89.trans (congrArg some (by kernel_rfl))
  f29 := Try.func90.trans (congrArg some (by kernel_rfl))
  f30 := Try.func91.trans (congrArg some (by kernel_rfl))
  f31 := Try.func92.trans (congrArg some (by kernel_rfl))
  f32 := Try.func93.trans (congrArg some (by kernel_rfl))
  f33 := Try.func94.trans (congrArg some (by kernel_rfl))
  f34 := Try.func97.trans (congrArg some (by kernel_rfl))
  f35 := Try.func98.trans (congrArg some (by kernel_rfl))
  f36 := Try.func99.trans (congrArg some (by kernel_rfl))
  f37 := Try.func100.trans (congrArg some (by kernel_rfl))
  f38 := Try.func101.trans (congrArg some (by kernel_rfl))
  f39 := Try.func102.trans (congrArg some (by kernel_rfl))
  t0 := Try.underlying0
  a0 := Try.isAgg0
  z0 := Try.sizeOf0
  v0 := Try.zeroValue0
  i0 := by kernel_rfl
  t3 := Try.underlying3
  a3 := Try.isAgg3
  z3 := Try.sizeOf3
  v3 := Try.zeroValue3
  i3 := by kernel_rfl
  t4 := Try.underlying4
  a4 := Try.isAgg4
  z4 := Try.sizeOf4
  v4 := Try.zeroValue4
  i4 := by kernel_rfl
  t5 := Try.underlying5
  a5 := Try.isAgg5
  z5 := Try.sizeOf5
  v5 := Try.zeroValue5
  i5 := by kernel_rfl
  t9 := Try.underlying9
  a9 := Try.isAgg9
  z9 := Try.sizeOf9
  v9 := Try.zeroValue9
  i9 := by kernel_rfl
  t12 := Try.underlying12
  a12 := Try.isAgg12
  z12 := Try.sizeOf12
  v12 := Try.zeroValue12
  i12 := by kernel_rfl
  t17 := Try.underlying17
  a17 := Try.isAgg17
  z17 := Try.sizeOf17
  v17 := Try.zeroValue17
  i17 := by kernel_rfl
  t20 := Try.underlying20
  a20 := Try.isAgg20
  z20 := Try.sizeOf20
  v20 := Try.zeroValue20
  i20 := by kernel_rfl
  t26 := Try.underlying91
  a26 := Try.isAgg91
  z26 := Try.sizeOf91
  v26 := Try.zeroValue91
  i26 := by kernel_rfl
  t32 := Try.underlying102
  a32 := Try.isAgg102
  z32 := Try.sizeOf102
  v32 := Try.zeroValue102
  i32 := by kernel_rfl
  t33 := Try.underlying103
  a33 := Try.isAgg103
  z33 := Try.sizeOf103
  v33 := Try.zeroValue103
  i33 := by kernel_rfl
  t35 := Try.underlying105
  a35 := Try.isAgg105
  z35 := Try.sizeOf105
  v35 := Try.zeroValue105
  i35 := by kernel_rfl
  t37 := Try.underlying107
  a37 := Try.isAgg107
  z37 := Try.sizeOf107
  v37 := Try.zeroValue107
  i37 := by kernel_rfl
  t41 := Try.underlying58
  a41 := Try.isAgg58
  z41 := Try.sizeOf58
  v41 := Try.zeroValue58
  i41 := by kernel_rfl
  t44 := Try.underlying112
  a44 := Try.isAgg112
  z44 := Try.sizeOf112
  v44 := Try.zeroValue112
  i44 := by kernel_rfl
  t49 := Try.underlying117
  a49 := Try.isAgg117
  z49 := Try.sizeOf117
  v49 := Try.zeroValue117
  i49 := by kernel_rfl
  t51 := Try.underlying22
  a51 := Try.isAgg22
  z51 := Try.sizeOf22
  v51 := Try.zeroValue22
  i51 := by kernel_rfl
  t53 := Try.underlying120
  a53 := Try.isAgg120
  z53 := Try.sizeOf120
  v53 := Try.zeroValue120
  i53 := by kernel_rfl
  t54 := Try.underlying121
  a54 := Try.isAgg121
  z54 := Try.sizeOf121
  v54 := Try.zeroValue121
  i54 := by kernel_rfl
  t58 := Try.underlying84
  a58 := Try.isAgg84
  z58 := Try.sizeOf84
  v58 := Try.zeroValue84
  i58 := by kernel_rfl
  t60 := Try.underlying129
  a60 := Try.isAgg129
  z60 := Try.sizeOf129
  v60 := Try.zeroValue129
  i60 := by kernel_rfl
  t64 := Try.underlying133
  a64 := Try.isAgg133
  z64 := Try.sizeOf133
  v64 := Try.zeroValue133
  i64 := by kernel_rfl
  t66 := Try.underlying135
  a66 := Try.isAgg135
  z66 := Try.sizeOf135
  v66 := Try.zeroValue135
  i66 := by kernel_rfl
  t67 := Try.underlying67
  a67 := Try.isAgg67
  z67 := Try.sizeOf67
  v67 := Try.zeroValue67
  i67 := by kernel_rfl
  t75 := Try.underlying143
  a75 := Try.isAgg143
  z75 := Try.sizeOf143
  v75 := Try.zeroValue143
  i75 := by kernel_rfl
  t76 := Try.underlying144
  a76 := Try.isAgg144
  z76 := Try.sizeOf144
  v76 := Try.zeroValue144
  i76 := by kernel_rfl
  t77 := Try.underlying145
  a77 := Try.isAgg145
  z77 := Try.sizeOf145
  v77 := Try.zeroValue145
  i77 := by kernel_rfl
  t78 := Try.underlying146
  a78 := Try.isAgg146
  z78 := Try.sizeOf146
  v78 := Try.zeroValue146
  i78 := by kernel_rfl
  t79 := Try.underlying147
  a79 := Try.isAgg147
  z79 := Try.sizeOf147
  v79 := Try.zeroValue147
  i79 := by kernel_rfl
  t80 := Try.underlying148
  a80 := Try.isAgg148
  z80 := Try.sizeOf148
  v80 := Try.zeroValue148
  i80 := by kernel_rfl
  t82 := Try.underlying150
  a82 := Try.isAgg150
  z82 := Try.sizeOf150
  v82 := Try.zeroValue150
  i82 := by kernel_rfl }
end Go.Proofs
