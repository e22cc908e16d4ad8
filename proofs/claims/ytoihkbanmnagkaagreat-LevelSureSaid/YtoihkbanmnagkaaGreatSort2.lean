/-
  sort.siftDown_func and heapSort_func, at a test that may make blocks of its own. No condition but those that stand in each.
-/
import Derived.Test.YtoihkbanmnagkaaGreatSort
/-
  sort.insertionSort_func, at a test that may make blocks of its own. No condition but those that stand in each.
-/
set_option linter.unusedSimpArgs false
set_option linter.unusedVariables false
namespace Go.Proofs.YtoihkbanmnagkaaGreat
open Go.RowKit Go.Sort M

section
variable {α : Type} [Inhabited α] {enc : α → List Value} {k : Nat} {w0 : World} {blk off n : Nat} {lt : α → α → Bool} {g : Nat} {lb : Array Value} {sf : Nat} {sb : Array Value}
set_option maxHeartbeats 1000000 in
set_option maxRecDepth 100000 in
theorem ins_any (hk : ∀ x, (enc x).length = k) (eg : ∀ args w, (callFunc g args).run Tryz.prog w = .ok (.enter g args) w) (hL : LessB g lb enc k lt w0 blk off n) (hS : SwapSwapsK Tryz.prog sf sb enc k blk off n) (hn : n < 4611686018427387904)
    (a b : Nat) (ha2 : a ≤ n) (hb : b ≤ n) (d : Array α) (W : World) (S : Srt enc k w0 blk off n d W) :
    Calls Tryz.prog 120 #[.agg #[.func (.func g) #[] lb, .func (.func sf) #[] sb], .int .i64 (a : Int), .int .i64 (b : Int)] W fun e w' =>
      e = .returned (.tuple #[]) ∧ Srt enc k w0 blk off n (insertionSort lt d a b) w' ∧ Touch (· = blk) W w' := by
  have HL := Lib.hid hL
  have HSW := Lib.hid hS
  clear hL hS
  have e0 : insOuter lt a b (a + 1) d = insertionSort lt d a b := rfl
  by_cases hab : b ≤ a
  · rw [← e0, insOuter_stop lt a b (a + 1) d (by omega)]
    have hno : ¬ ((a : Int) + 1 < (b : Int)) := by omega
    go_enter Tryz.func120, Tryz.ntmps120
    go_wp2_with fail
    have R := Srd.start (x := .func (.func g) #[] lb) (y := .func (.func sf) #[] sb) S 148
    refine wp_loop_rounds 1 ?_
    rw [rounds_succ]
    go_wp2
    go_end0
    exact ⟨rfl, R.srt, R.touch⟩
  · have ha : a < b := by omega
    go_enter Tryz.func120, Tryz.ntmps120
    go_wp2_with fail
    have R := Srd.start (x := .func (.func g) #[] lb) (y := .func (.func sf) #[] sb) S 148
    clear S
    go_loopg [6] (b - a) (fun kx s6 wr => ∃ (i : Nat) (dk : Array α), s6 = .int .i64 (i : Int) ∧ a < i ∧ i ≤ b ∧ b - i ≤ kx ∧ Hid (insOuter lt a b i dk = insOuter lt a b (a + 1) d) ∧ Hid (Srd enc k w0 blk off n (.func (.func g) #[] lb) (.func (.func sf) #[] sb) W dk wr))
    case atStart => exact ⟨a + 1, d, by go_num, by omega, by omega, by omega, rfl, R⟩
    case round =>
      clear R
      obtain ⟨i, dk, rfl, h1, h2, h3, HE, HR⟩ := hrel
      by_cases hi : i < b
      · go_wp2
        rename World => wo
        go_loopg [7] i (fun kx s7 wr => ∃ (j : Nat) (dj : Array α), s7 = .int .i64 (j : Int) ∧ a ≤ j ∧ j ≤ i ∧ j ≤ kx ∧ Hid (insInner lt a j dj = insInner lt a i dk) ∧ Hid (Srd enc k w0 blk off n (.func (.func g) #[] lb) (.func (.func sf) #[] sb) W dj wr))
        case atStart => exact ⟨i, dk, rfl, by omega, by omega, by omega, rfl, HR⟩
        case round =>
          clear HR
          obtain ⟨j, dj, rfl, j1, j2, j3, HI, HR⟩ := hrel
          have c0 := HR.out.box.c0
          have c1 := HR.out.box.c1
          have hl := HR.out.box.lt
          by_cases hj : a < j
          · have hl1 := HR.out.srt.less HL.out (j : Int) ((j : Int) - 1) j (j - 1) (by omega) (by omega) rfl (by omega)
            cases hv : lt dj[j]! dj[j - 1]! with
            | true =>
              rw [hv] at hl1
              go_wp2_with (go_at_fn g; refine hl1.mono ?_; rintro e w1 ⟨rfl, hS1, hT1⟩; have R1 := HR.out.next hS1 hT1; have d1 := R1.box.c1; have hl1 := R1.box.lt; obtain ⟨w2, hrun, hS2, hT2⟩ := R1.srt.swap HSW.out hk (j : Int) ((j : Int) - 1) j (j - 1) (by omega) (by omega) rfl (by omega); have R2 := Lib.hid (R1.next hS2 hT2); clear R1 hS1 hT1 hS2 hT2)
              go_roundg (j - 1)
              case measure => omega
              case rel => exact ⟨j - 1, _, by go_num, by omega, by omega, by omega, Lib.hid ((insInner_go lt a j dj hj hv).symm.trans HI.out), R2⟩
            | false =>
              rw [hv] at hl1
              go_wp2_with (go_at_fn g; refine hl1.mono ?_; rintro e w1 ⟨rfl, hS1, hT1⟩; have R1 := Lib.hid (HR.out.next hS1 hT1); clear hS1 hT1)
              go_roundg (b - (i + 1))
              case measure => omega
              case rel =>
                have := HI.out
                rw [insInner_stop lt a j dj (.inr hv)] at this
                exact ⟨i + 1, dj, by go_num, by omega, by omega, by omega, Lib.hid (by rw [this, ← insOuter_go lt a b i dk hi]; exact HE.out), R1⟩
          · go_wp2
            go_roundg (b - (i + 1))
            case measure => omega
            case rel =>
              have := HI.out
              rw [insInner_stop lt a j dj (.inl (by omega))] at this
              exact ⟨i + 1, dj, by go_num, by omega, by omega, by omega, Lib.hid (by rw [this, ← insOuter_go lt a b i dk hi]; exact HE.out), HR⟩
      · go_wp2
        go_end0
        have := HE.out
        rw [insOuter_stop lt a b i dk hi, e0] at this
        subst this
        exact ⟨rfl, HR.out.srt, HR.out.touch⟩
end
end Go.Proofs.YtoihkbanmnagkaaGreat
/-
  sort.siftDown_func and heapSort_func, at a test that may make blocks of its own. No condition but those that stand in each.
-/
set_option linter.unusedSimpArgs false
set_option linter.unusedVariables false
namespace Go.Proofs.YtoihkbanmnagkaaGreat
open Go.RowKit Go.Sort M

section
variable {α : Type} [Inhabited α] {enc : α → List Value} {k : Nat} {w0 : World} {blk off n : Nat} {lt : α → α → Bool} {g : Nat} {lb : Array Value} {sf : Nat} {sb : Array Value}
set_option maxHeartbeats 1000000 in
set_option maxRecDepth 100000 in
theorem sift_any (hk : ∀ x, (enc x).length = k) (eg : ∀ args w, (callFunc g args).run Tryz.prog w = .ok (.enter g args) w) (hL : LessB g lb enc k lt w0 blk off n) (hS : SwapSwapsK Tryz.prog sf sb enc k blk off n) (hn : n < 4611686018427387904)
    (lo hi first : Nat) (hlo : lo ≤ hi) (hb : first + hi ≤ n) (d : Array α) (W : World) (S : Srt enc k w0 blk off n d W) :
    Calls Tryz.prog 131 #[.agg #[.func (.func g) #[] lb, .func (.func sf) #[] sb], .int .i64 (lo : Int), .int .i64 (hi : Int), .int .i64 (first : Int)] W fun e w' =>
      e = .returned (.tuple #[]) ∧ Srt enc k w0 blk off n (siftDown lt hi first lo d) w' ∧ Touch (· = blk) W w' := by
  have HL := Lib.hid hL
  have HSW := Lib.hid hS
  clear hL hS
  go_enter Tryz.func131, Tryz.ntmps131
  go_wp2_with fail
  have R := Srd.start (x := .func (.func g) #[] lb) (y := .func (.func sf) #[] sb) S 148
  clear S
  go_loopg [8] (hi - lo) (fun kx s8 wr => ∃ (root : Nat) (dk : Array α), s8 = .int .i64 (root : Int) ∧ root ≤ hi ∧ hi - root ≤ kx ∧ Hid (siftDown lt hi first root dk = siftDown lt hi first lo d) ∧ Hid (Srd enc k w0 blk off n (.func (.func g) #[] lb) (.func (.func sf) #[] sb) W dk wr))
  case atStart => exact ⟨lo, d, rfl, hlo, Nat.le_refl _, rfl, R⟩
  case round =>
    clear R
    obtain ⟨root, dk, rfl, h1, h2, HE, HR⟩ := hrel
    have c0 := HR.out.box.c0
    have c1 := HR.out.box.c1
    have hl := HR.out.box.lt
    by_cases hc : hi ≤ 2 * root + 1
    · have hcz : (hi : Int) ≤ 2 * (root : Int) + 1 := by omega
      go_wp2
      go_end0
      have := HE.out
      rw [sd_end lt dk hc] at this
      subst this
      exact ⟨rfl, HR.out.srt, HR.out.touch⟩
    · have hcz : ¬ ((hi : Int) ≤ 2 * (root : Int) + 1) := by omega
      by_cases h1 : 2 * root + 2 < hi
      · have h1z : 2 * (root : Int) + 1 + 1 < (hi : Int) := by omega
        cases hL1 : lt dk[first + (2 * root + 1)]! dk[first + (2 * root + 2)]! with
        | true =>
          cases hv : lt dk[first + root]! dk[first + (2 * root + 2)]! with
          | true =>
            have HG := Lib.hid (show siftDown lt hi first root dk = _ from sd_right_go lt dk h1 hL1 hv)
            go_wp2_with (first | (go_at_fn g; refine (HR.out.srt.less HL.out _ _ (first + (2 * root + 1)) (first + (2 * root + 2)) (by omega) (by omega) (by omega) (by omega)).mono ?_; rw [hL1]; rintro e w1 ⟨rfl, hS1, hT1⟩; have R1 := HR.out.next hS1 hT1; have d0 := R1.box.c0; have dl := R1.box.lt; clear HR c0 c1 hl; have HR := Lib.hid R1; clear R1 hS1 hT1) | (go_at_fn g; refine (HR.out.srt.less HL.out _ _ (first + root) (first + (2 * root + 2)) (by omega) (by omega) (by omega) (by omega)).mono ?_; rw [hv]; rintro e w2 ⟨rfl, hS2, hT2⟩; have R2 := HR.out.next hS2 hT2; have e1 := R2.box.c1; have el := R2.box.lt; obtain ⟨w3, hrun, hS3, hT3⟩ := R2.srt.swap HSW.out hk ((first : Int) + (root : Int)) ((first : Int) + (2 * (root : Int) + 1 + 1)) (first + root) (first + (2 * root + 2)) (by omega) (by omega) (by omega) (by omega); have R3 := Lib.hid (R2.next hS3 hT3); clear R2 hS2 hT2 hS3 hT3))
            go_roundg (hi - (2 * root + 2))
            case measure => omega
            case rel => exact ⟨2 * root + 2, _, congrArg (Value.int .i64) (show 2 * (root : Int) + 1 + 1 = ((2 * root + 2 : Nat) : Int) by omega), by omega, Nat.le_refl _, Lib.hid (HG.out.symm.trans HE.out), R3⟩
          | false =>
            have HG := Lib.hid (show siftDown lt hi first root dk = _ from sd_right_stop lt dk h1 hL1 hv)
            go_wp2_with (first | (go_at_fn g; refine (HR.out.srt.less HL.out _ _ (first + (2 * root + 1)) (first + (2 * root + 2)) (by omega) (by omega) (by omega) (by omega)).mono ?_; rw [hL1]; rintro e w1 ⟨rfl, hS1, hT1⟩; have R1 := HR.out.next hS1 hT1; have d0 := R1.box.c0; have dl := R1.box.lt; clear HR c0 c1 hl; have HR := Lib.hid R1; clear R1 hS1 hT1) | (go_at_fn g; refine (HR.out.srt.less HL.out _ _ (first + root) (first + (2 * root + 2)) (by omega) (by omega) (by omega) (by omega)).mono ?_; rw [hv]; rintro e w2 ⟨rfl, hS2, hT2⟩; have R2 := Lib.hid (HR.out.next hS2 hT2); clear hS2 hT2))
            (try simp only [Exit.inBlock, Exit.then]); refine bodyPost_ret (results_none rfl _ _ _) rfl ?_
            have := HG.out.symm.trans HE.out
            subst this
            exact ⟨rfl, R2.out.srt, R2.out.touch⟩
        | false =>
          cases hv : lt dk[first + root]! dk[first + (2 * root + 1)]! with
          | true =>
            have HG := Lib.hid (show siftDown lt hi first root dk = _ from sd_left_go lt dk (by omega) (fun _ => hL1) hv)
            go_wp2_with (first | (go_at_fn g; refine (HR.out.srt.less HL.out _ _ (first + (2 * root + 1)) (first + (2 * root + 2)) (by omega) (by omega) (by omega) (by omega)).mono ?_; rw [hL1]; rintro e w1 ⟨rfl, hS1, hT1⟩; have R1 := HR.out.next hS1 hT1; have d0 := R1.box.c0; have dl := R1.box.lt; clear HR c0 c1 hl; have HR := Lib.hid R1; clear R1 hS1 hT1) | (go_at_fn g; refine (HR.out.srt.less HL.out _ _ (first + root) (first + (2 * root + 1)) (by omega) (by omega) (by omega) (by omega)).mono ?_; rw [hv]; rintro e w2 ⟨rfl, hS2, hT2⟩; have R2 := HR.out.next hS2 hT2; have e1 := R2.box.c1; have el := R2.box.lt; obtain ⟨w3, hrun, hS3, hT3⟩ := R2.srt.swap HSW.out hk ((first : Int) + (root : Int)) ((first : Int) + (2 * (root : Int) + 1)) (first + root) (first + (2 * root + 1)) (by omega) (by omega) (by omega) (by omega); have R3 := Lib.hid (R2.next hS3 hT3); clear R2 hS2 hT2 hS3 hT3))
            go_roundg (hi - (2 * root + 1))
            case measure => omega
            case rel => exact ⟨2 * root + 1, _, by go_num, by omega, Nat.le_refl _, Lib.hid (HG.out.symm.trans HE.out), R3⟩
          | false =>
            have HG := Lib.hid (show siftDown lt hi first root dk = _ from sd_left_stop lt dk (by omega) (fun _ => hL1) hv)
            go_wp2_with (first | (go_at_fn g; refine (HR.out.srt.less HL.out _ _ (first + (2 * root + 1)) (first + (2 * root + 2)) (by omega) (by omega) (by omega) (by omega)).mono ?_; rw [hL1]; rintro e w1 ⟨rfl, hS1, hT1⟩; have R1 := HR.out.next hS1 hT1; have d0 := R1.box.c0; have dl := R1.box.lt; clear HR c0 c1 hl; have HR := Lib.hid R1; clear R1 hS1 hT1) | (go_at_fn g; refine (HR.out.srt.less HL.out _ _ (first + root) (first + (2 * root + 1)) (by omega) (by omega) (by omega) (by omega)).mono ?_; rw [hv]; rintro e w2 ⟨rfl, hS2, hT2⟩; have R2 := Lib.hid (HR.out.next hS2 hT2); clear hS2 hT2))
            (try simp only [Exit.inBlock, Exit.then]); refine bodyPost_ret (results_none rfl _ _ _) rfl ?_
            have := HG.out.symm.trans HE.out
            subst this
            exact ⟨rfl, R2.out.srt, R2.out.touch⟩
      · have h1z : ¬ (2 * (root : Int) + 1 + 1 < (hi : Int)) := by omega
        cases hv : lt dk[first + root]! dk[first + (2 * root + 1)]! with
        | true =>
          have HG := Lib.hid (show siftDown lt hi first root dk = _ from sd_left_go lt dk (by omega) (fun h => absurd h h1) hv)
          go_wp2_with ((go_at_fn g; refine (HR.out.srt.less HL.out _ _ (first + root) (first + (2 * root + 1)) (by omega) (by omega) (by omega) (by omega)).mono ?_; rw [hv]; rintro e w2 ⟨rfl, hS2, hT2⟩; have R2 := HR.out.next hS2 hT2; have e1 := R2.box.c1; have el := R2.box.lt; obtain ⟨w3, hrun, hS3, hT3⟩ := R2.srt.swap HSW.out hk ((first : Int) + (root : Int)) ((first : Int) + (2 * (root : Int) + 1)) (first + root) (first + (2 * root + 1)) (by omega) (by omega) (by omega) (by omega); have R3 := Lib.hid (R2.next hS3 hT3); clear R2 hS2 hT2 hS3 hT3))
          go_roundg (hi - (2 * root + 1))
          case measure => omega
          case rel => exact ⟨2 * root + 1, _, by go_num, by omega, Nat.le_refl _, Lib.hid (HG.out.symm.trans HE.out), R3⟩
        | false =>
          have HG := Lib.hid (show siftDown lt hi first root dk = _ from sd_left_stop lt dk (by omega) (fun h => absurd h h1) hv)
          go_wp2_with ((go_at_fn g; refine (HR.out.srt.less HL.out _ _ (first + root) (first + (2 * root + 1)) (by omega) (by omega) (by omega) (by omega)).mono ?_; rw [hv]; rintro e w2 ⟨rfl, hS2, hT2⟩; have R2 := Lib.hid (HR.out.next hS2 hT2); clear hS2 hT2))
          (try simp only [Exit.inBlock, Exit.then]); refine bodyPost_ret (results_none rfl _ _ _) rfl ?_
          have := HG.out.symm.trans HE.out
          subst this
          exact ⟨rfl, R2.out.srt, R2.out.touch⟩
set_option maxHeartbeats 1000000 in
set_option maxRecDepth 100000 in
theorem heap_any (hk : ∀ x, (enc x).length = k) (eg : ∀ args w, (callFunc g args).run Tryz.prog w = .ok (.enter g args) w) (hL : LessB g lb enc k lt w0 blk off n) (hS : SwapSwapsK Tryz.prog sf sb enc k blk off n) (hn : n < 4611686018427387904)
    (a b : Nat) (hab : a ≤ b) (hb : b ≤ n) (d : Array α) (W : World) (S : Srt enc k w0 blk off n d W) :
    Calls Tryz.prog 121 #[.agg #[.func (.func g) #[] lb, .func (.func sf) #[] sb], .int .i64 (a : Int), .int .i64 (b : Int)] W fun e w' =>
      e = .returned (.tuple #[]) ∧ Srt enc k w0 blk off n (heapSort lt d a b) w' ∧ Touch (· = blk) W w' := by
  have HSIFT := Lib.hid (fun lo hi first hlo hb d W S => sift_any (lo := lo) (hi := hi) (first := first) hk eg hL hS hn hlo hb (d := d) (W := W) S)
  have HSW := Lib.hid hS
  have hst := half_start hab
  clear hL hS
  have HST := Lib.hid hst
  have ecast : ((b - a : Nat) : Int) = (b : Int) - (a : Int) := by omega
  have HEC := Lib.hid ecast
  clear hst ecast
  go_enter Tryz.func121, Tryz.ntmps121
  go_wp2_with fail
  have R := Srd.start (x := .func (.func g) #[] lb) (y := .func (.func sf) #[] sb) S 148
  clear S
  go_loopg [9] ((b - a - 1) / 2 + 1) (fun kx s9 wr => s9 = .int .i64 ((kx : Int) - 1) ∧ kx ≤ (b - a - 1) / 2 + 1 ∧ ∃ (dk : Array α), Hid (heapBuild lt (b - a) a kx dk = heapBuild lt (b - a) a ((b - a - 1) / 2 + 1) d) ∧ Hid (Srd enc k w0 blk off n (.func (.func g) #[] lb) (.func (.func sf) #[] sb) W dk wr))
  case atStart => exact ⟨congrArg (Value.int .i64) HST.out, Nat.le_refl _, d, rfl, R⟩
  case round =>
    clear R
    obtain ⟨rfl, h1, dk, HE, HR⟩ := hrel
    have c0 := HR.out.box.c0
    have c1 := HR.out.box.c1
    have hl := HR.out.box.lt
    cases gk with
    | zero =>
      go_wp2_with fail
      rename World => wo
      go_loopg [10] (b - a) (fun kx s10 wr => s10 = .int .i64 ((kx : Int) - 1) ∧ kx ≤ b - a ∧ ∃ (dj : Array α), Hid (heapPop lt a kx dj = heapPop lt a (b - a) dk) ∧ Hid (Srd enc k w0 blk off n (.func (.func g) #[] lb) (.func (.func sf) #[] sb) W dj wr))
      case atStart => exact ⟨congrArg (Value.int .i64) (by have := HEC.out; omega), Nat.le_refl _, dk, rfl, HR⟩
      case round =>
        clear HR c0 c1 hl
        obtain ⟨rfl, h2, dj, HE2, HR⟩ := hrel
        have c0 := HR.out.box.c0
        have c1 := HR.out.box.c1
        have hl := HR.out.box.lt
        cases gk with
        | zero =>
          go_wp2
          go_end0
          have e : dj = heapSort lt d a b := by
            rw [heapSort, ← HE.out]
            exact HE2.out
          subst e
          exact ⟨rfl, HR.out.srt, HR.out.touch⟩
        | succ kx =>
          obtain ⟨w3, hrun, hS3, hT3⟩ := HR.out.srt.swap HSW.out hk (a : Int) ((a : Int) + (kx : Int)) a (a + kx) (by omega) (by omega) (by omega) (by omega)
          have R3 := HR.out.next hS3 hT3
          have d0 := R3.box.c0
          have d1 := R3.box.c1
          have dl := R3.box.lt
          have HR3 := Lib.hid R3
          clear R3 hS3 hT3
          go_wp2_with fail
          refine (HSIFT.out 0 kx a (by omega) (by omega) _ _ HR3.out.srt).mono ?_
          rintro e w4 ⟨rfl, hS4, hT4⟩
          have R4 := Lib.hid (HR3.out.next hS4 hT4)
          clear hS4 hT4
          go_wp2_with fail
          go_roundg kx
          case measure => omega
          case rel => exact ⟨rfl, by omega, _, HE2, R4⟩
    | succ kx =>
      go_wp2_with fail
      have hcall := HSIFT.out kx (b - a) a (by omega) (by omega) _ _ HR.out.srt
      rw [HEC.out] at hcall
      refine hcall.mono ?_
      clear hcall
      rintro e w4 ⟨rfl, hS4, hT4⟩
      have R4 := Lib.hid (HR.out.next hS4 hT4)
      clear hS4 hT4
      go_wp2_with fail
      go_roundg kx
      case measure => omega
      case rel => exact ⟨rfl, by omega, _, HE, R4⟩
end
end Go.Proofs.YtoihkbanmnagkaaGreat
