/-
  sort.insertionSort_func, at a test that may make blocks of its own. No condition but those that stand in each.
-/
import Derived.Test.YtcfioplbbbaeoaaM18c
import Derived.Test.YtcfioplbbbaeoaaM18b
import Derived.Deep.DeepCutAuto
import Derived.Test.YtcfioplbbbaeoaaW5
import Derived.Test.YtcfioplbbbaeoaaW11
import Derived.Shelf.GgSortFunc.SmallK
import Derived.Shelf.SlSortFuncK.RowK2
import Derived.Sort.WalkB2
import Derived.Sort.WalkB3
import Derived.Deep.LoopGhost
/-
  cover.between and cover.Hop: whether a route is of a level's lengths; the hop of a key. No condition but that the routes lie in memory, and their words are words.
-/
set_option linter.unusedSimpArgs false
set_option linter.unusedVariables false
namespace Go.Proofs.Ytcfioplbbbaeoaa
open Go Go.RowKit Go.Sort M

theorem between_any (kh kl : Nat) (kn v low high : Int) :
    Gives Try.prog 19 #[.agg #[.int .u64 (kh : Int), .int .u64 (kl : Int), .int .i64 kn, .int .i64 v], .int .i64 low, .int .i64 high] (.bool (decide (low < kn) && decide (kn ≤ high))) := by
  intro w
  by_cases h1 : low < kn
  · by_cases h2 : kn ≤ high
    · rw [decide_eq_true h1, decide_eq_true h2]
      go_enter Try.func19, Try.ntmps19
      go_wp2
      go_ret
      exact ⟨rfl, by go_grown⟩
    · rw [decide_eq_true h1, decide_eq_false h2]
      go_enter Try.func19, Try.ntmps19
      go_wp2
      go_ret
      exact ⟨rfl, by go_grown⟩
  · rw [decide_eq_false h1, Bool.false_and]
    go_enter Try.func19, Try.ntmps19
    go_wp2
    go_ret
    exact ⟨rfl, by go_grown⟩
theorem hop_step (N : List Rt) (c : Rt → Bool) (i : Nat) (h : i < N.length) : hopF c (N.take (i + 1)) = hopStep c (hopF c (N.take i)) N[i] := by
  rw [List.take_succ_eq_append_getElem h, hopF_snoc]
end Go.Proofs.Ytcfioplbbbaeoaa
/-
  A row of elements of k cells that is sorted by a test which may make blocks of its own: what is carried from call to call. No condition but those that stand in each.
-/
set_option linter.unusedSimpArgs false
set_option linter.unusedVariables false
namespace Go.Proofs.Ytcfioplbbbaeoaa
open Go.RowKit Go.Sort M

section
variable {α : Type} [Inhabited α] {enc : α → List Value} {k : Nat} {w0 W W' : World} {blk off n : Nat} {d d' : Array α} {lt : α → α → Bool} {g : Nat} {lb : Array Value} {sf : Nat} {sb : Array Value}
theorem holdsK_below (h : HoldsK enc k W blk off d) (hl : blk < W.heap.size) (hb : RowKit.Below W.heap.size W W') : HoldsK enc k W' blk off d := by
  intro j hj
  obtain ⟨h1, h2⟩ := h j hj
  exact ⟨(hb.cell (p := ⟨blk, off + j, none⟩) hl).trans h1, (hb.frozen (p := ⟨blk, off + j, none⟩) hl).trans h2⟩
/-- The row at block blk holds d; of what was there in w0 nothing else has turned. -/
structure Srt (enc : α → List Value) (k : Nat) (w0 : World) (blk off n : Nat) (d : Array α) (W : World) : Prop where
  size : d.size = n
  holds : HoldsK enc k W blk off d
  touch : Touch (· = blk) w0 W
  lt : blk < w0.heap.size
theorem Srt.lt2 (S : Srt enc k w0 blk off n d W) : blk < W.heap.size := Nat.lt_of_lt_of_le S.lt S.touch.size
theorem Srt.below (S : Srt enc k w0 blk off n d W) (hb : RowKit.Below W.heap.size W W') : Srt enc k w0 blk off n d W' := ⟨S.size, holdsK_below S.holds S.lt2 hb, S.touch.trans (.quiet hb), S.lt⟩
theorem Srt.start (h : HoldsK enc k W blk off d) (hl : blk < W.heap.size) (hn : d.size = n) : Srt enc k W blk off n d W := ⟨hn, h, Touch.refl _ _, hl⟩
/-- Another world ahead of it may be taken for the first one. -/
theorem Srt.since (S : Srt enc k w0 blk off n d W) (T : Srt enc k W blk off n d' W') : Srt enc k w0 blk off n d' W' := ⟨T.size, T.holds, S.touch.trans T.touch, S.lt⟩
/-- What is asked of the test. -/
def LessB (g : Nat) (lb : Array Value) (enc : α → List Value) (k : Nat) (lt : α → α → Bool) (w0 : World) (blk off n : Nat) : Prop :=
  ∀ (W : World) (d : Array α), Srt enc k w0 blk off n d W → ∀ i j : Nat, i < n → j < n → Calls Try.prog g (#[.int .i64 (i : Int), .int .i64 (j : Int)] ++ lb) W fun e w' => e = .returned (.bool (lt d[i]! d[j]!)) ∧ RowKit.Below W.heap.size W w'
theorem Srt.less (S : Srt enc k w0 blk off n d W) (hL : LessB g lb enc k lt w0 blk off n) (x y : Int) (i j : Nat) (hi : i < n) (hj : j < n) (hx : (i : Int) = x) (hy : (j : Int) = y) :
    Calls Try.prog g (#[.int .i64 x, .int .i64 y] ++ lb) W fun e w' => e = .returned (.bool (lt d[i]! d[j]!)) ∧ Srt enc k w0 blk off n d w' ∧ Touch (· = blk) W w' := by
  subst hx hy
  exact (hL W d S i j hi hj).mono fun _ _ ⟨he, hb⟩ => ⟨he, S.below hb, .quiet hb⟩
theorem putRowK_touch (W : World) (d : Array α) : Touch (· = blk) W (putRowK enc k W blk off d) := by
  refine ⟨rfl, rfl, rfl, Nat.le_of_eq (size_putRowK enc k W blk off d).symm, fun j hj hn => ?_⟩
  show (W.heap.modify blk _)[j]? = W.heap[j]?
  rw [Array.getElem?_modify, if_neg (fun e => hn e.symm)]
theorem Srt.swap (S : Srt enc k w0 blk off n d W) (hS : SwapSwapsK Try.prog sf sb enc k blk off n) (hk : ∀ x, (enc x).length = k) (x y : Int) (i j : Nat) (hi : i < n) (hj : j < n) (hx : (i : Int) = x) (hy : (j : Int) = y) :
    ∃ w', (callFunc sf (#[.int .i64 x, .int .i64 y] ++ sb)).run Try.prog W = .ok (.value (.tuple #[])) w' ∧ Srt enc k w0 blk off n (swp d i j) w' ∧ Touch (· = blk) W w' := by
  subst hx hy
  have hs := S.size
  have h := hS W d S.holds S.size i j hi hj
  have e := putRowK_swp enc k hk W blk off d i j (by omega) (by omega)
  rw [putRowK_self enc k W blk off d S.holds] at e
  rw [e] at h
  exact ⟨_, h, ⟨by rw [size_swp]; exact S.size, holdsK_putRowK enc k W blk off d _ S.holds (size_swp _ _ _), S.touch.trans (putRowK_touch W _), S.lt⟩, putRowK_touch W _⟩
/-- A box of two cells in a block of its own. -/
structure Bxd (x y : Value) (B blk : Nat) (W : World) : Prop where
  c0 : W.cell? ⟨B, 0, none⟩ = some x
  c1 : W.cell? ⟨B, 1, none⟩ = some y
  lt : B < W.heap.size
  ne : B ≠ blk
theorem Bxd.touch {x y : Value} {B : Nat} (h : Bxd x y B blk W) (t : Touch (· = blk) W W') : Bxd x y B blk W' := ⟨t.cell h.c0 h.ne, t.cell h.c1 h.ne, Nat.lt_of_lt_of_le h.lt t.size, h.ne⟩
/-- What is carried in a function of the sort: its own box at block W.heap.size, the row, and that nothing else turned. -/
structure Srd (enc : α → List Value) (k : Nat) (w0 : World) (blk off n : Nat) (x y : Value) (W : World) (d : Array α) (wr : World) : Prop where
  srt : Srt enc k w0 blk off n d wr
  touch : Touch (· = blk) W wr
  box : Bxd x y W.heap.size blk wr
theorem Srd.start {x y : Value} (S : Srt enc k w0 blk off n d W) (t : TypeId) : Srd enc k w0 blk off n x y W d (W.alloc (.cells #[x, y] t)) := by
  have hb : RowKit.Below W.heap.size W (W.alloc (.cells #[x, y] t)) := by go_grown
  have hl := S.lt2
  exact ⟨S.below hb, .quiet hb, ⟨by simp, by simp, by simp, by omega⟩⟩
theorem Srd.next {x y : Value} {wr : World} (R : Srd enc k w0 blk off n x y W d wr) (S : Srt enc k w0 blk off n d' W') (t : Touch (· = blk) wr W') : Srd enc k w0 blk off n x y W d' W' := ⟨S, R.touch.trans t, R.box.touch t⟩
end
end Go.Proofs.Ytcfioplbbbaeoaa
/-
  sort.insertionSort_func, at a test that may make blocks of its own. No condition but those that stand in each.
-/
set_option linter.unusedSimpArgs false
set_option linter.unusedVariables false
namespace Go.Proofs.Ytcfioplbbbaeoaa
open Go.RowKit Go.Sort M

section
variable {α : Type} [Inhabited α] {enc : α → List Value} {k : Nat} {w0 : World} {blk off n : Nat} {lt : α → α → Bool} {g : Nat} {lb : Array Value} {sf : Nat} {sb : Array Value}
set_option maxHeartbeats 1000000 in
set_option maxRecDepth 100000 in
theorem ins_any (hk : ∀ x, (enc x).length = k) (eg : ∀ args w, (callFunc g args).run Try.prog w = .ok (.enter g args) w) (hL : LessB g lb enc k lt w0 blk off n) (hS : SwapSwapsK Try.prog sf sb enc k blk off n) (hn : n < 4611686018427387904)
    (a b : Nat) (ha2 : a ≤ n) (hb : b ≤ n) (d : Array α) (W : World) (S : Srt enc k w0 blk off n d W) :
    Calls Try.prog 49 #[.agg #[.func (.func g) #[] lb, .func (.func sf) #[] sb], .int .i64 (a : Int), .int .i64 (b : Int)] W fun e w' =>
      e = .returned (.tuple #[]) ∧ Srt enc k w0 blk off n (insertionSort lt d a b) w' ∧ Touch (· = blk) W w' := by
  have HL := Lib.hid hL
  have HSW := Lib.hid hS
  clear hL hS
  have e0 : insOuter lt a b (a + 1) d = insertionSort lt d a b := rfl
  by_cases hab : b ≤ a
  · rw [← e0, insOuter_stop lt a b (a + 1) d (by omega)]
    have hno : ¬ ((a : Int) + 1 < (b : Int)) := by omega
    go_enter Try.func49, Try.ntmps49
    go_wp2_with fail
    have R := Srd.start (x := .func (.func g) #[] lb) (y := .func (.func sf) #[] sb) S 76
    refine wp_loop_rounds 1 ?_
    rw [rounds_succ]
    go_wp2
    go_end0
    exact ⟨rfl, R.srt, R.touch⟩
  · have ha : a < b := by omega
    go_enter Try.func49, Try.ntmps49
    go_wp2_with fail
    have R := Srd.start (x := .func (.func g) #[] lb) (y := .func (.func sf) #[] sb) S 76
    clear S
    go_loopg [6] (b - a) (fun kx s6 wr => ∃ (i : Nat) (dk : Array α), s6 = .int .i64 (i : Int) ∧ a < i ∧ i ≤ b ∧ b - i ≤ kx ∧ Hid (insOuter lt a b i dk = insOuter lt a b (a + 1) d) ∧ Hid (Srd enc k w0 blk off n (.func (.func g) #[] lb) (.func (.func sf) #[] sb) W dk wr))
    case atStart => exact ⟨a + 1, d, by go_num, by omega, by omega, by omega, rfl, R⟩
    case round =>
      clear R
      obtain ⟨i, dk, rfl, h1, h2, h3, HE, HR⟩ := hrel
      by_cases hi : i < b
      · go_wp2
        rename World => wo
        go_loopg [7] i (fun kx s7 wr => ∃ (j : Nat) (dj : Array α), s7 = .int .i64 (j : Int) ∧ a ≤ j ∧ j ≤ i ∧ j ≤ kx ∧ Hid (insInner lt a j dj = insInner lt a i dk) ∧ Hid (Srd enc k w0 blk off n (.func (.func g) #[] lb) (.func (.func sf) #[] sb) W dj wr))
        case atStart => exact ⟨i, dk, rfl, by omega, by omega, by omega, rfl, HR⟩
        case round =>
          clear HR
          obtain ⟨j, dj, rfl, j1, j2, j3, HI, HR⟩ := hrel
          have c0 := HR.out.box.c0
          have c1 := HR.out.box.c1
          have hl := HR.out.box.lt
          by_cases hj : a < j
          · have hl1 := HR.out.srt.less HL.out (j : Int) ((j : Int) - 1) j (j - 1) (by omega) (by omega) rfl (by omega)
            cases hv : lt dj[j]! dj[j - 1]! with
            | true =>
              rw [hv] at hl1
              go_wp2_with (go_at_fn g; refine hl1.mono ?_; rintro e w1 ⟨rfl, hS1, hT1⟩; have R1 := HR.out.next hS1 hT1; have d1 := R1.box.c1; have hl1 := R1.box.lt; obtain ⟨w2, hrun, hS2, hT2⟩ := R1.srt.swap HSW.out hk (j : Int) ((j : Int) - 1) j (j - 1) (by omega) (by omega) rfl (by omega); have R2 := Lib.hid (R1.next hS2 hT2); clear R1 hS1 hT1 hS2 hT2)
              go_roundg (j - 1)
              case measure => omega
              case rel => exact ⟨j - 1, _, by go_num, by omega, by omega, by omega, Lib.hid ((insInner_go lt a j dj hj hv).symm.trans HI.out), R2⟩
            | false =>
              rw [hv] at hl1
              go_wp2_with (go_at_fn g; refine hl1.mono ?_; rintro e w1 ⟨rfl, hS1, hT1⟩; have R1 := Lib.hid (HR.out.next hS1 hT1); clear hS1 hT1)
              go_roundg (b - (i + 1))
              case measure => omega
              case rel =>
                have := HI.out
                rw [insInner_stop lt a j dj (.inr hv)] at this
                exact ⟨i + 1, dj, by go_num, by omega, by omega, by omega, Lib.hid (by rw [this, ← insOuter_go lt a b i dk hi]; exact HE.out), R1⟩
          · go_wp2
            go_roundg (b - (i + 1))
            case measure => omega
            case rel =>
              have := HI.out
              rw [insInner_stop lt a j dj (.inl (by omega))] at this
              exact ⟨i + 1, dj, by go_num, by omega, by omega, by omega, Lib.hid (by rw [this, ← insOuter_go lt a b i dk hi]; exact HE.out), HR⟩
      · go_wp2
        go_end0
        have := HE.out
        rw [insOuter_stop lt a b i dk hi, e0] at this
        subst this
        exact ⟨rfl, HR.out.srt, HR.out.touch⟩
end
end Go.Proofs.Ytcfioplbbbaeoaa
