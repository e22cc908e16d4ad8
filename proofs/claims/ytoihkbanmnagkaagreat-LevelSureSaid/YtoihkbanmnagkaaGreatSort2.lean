/-
  sort.siftDown_func and heapSort_func, at a test that may make blocks of its own. No condition but those that stand in each.
-/
import Derived.Test.YtoihkbanmnagkaaGreatM12b
import Derived.Test.YtoihkbanmnagkaaGreatM5
import Derived.Test.YtoihkbanmnagkaaGreatOwn
import Derived.Shelf.GgSortFunc.SmallK
import Derived.Shelf.SlSortFuncK.RowK2
import Derived.Sort.WalkB2
import Derived.Sort.WalkB3
import Derived.Deep.LoopGhost
import Derived.Deep.DeepCutAuto
/-
  What May of a counting filter says. No condition but those that stand in each.
-/
set_option linter.unusedSimpArgs false
set_option linter.unusedVariables false
namespace Go.Proofs.YtoihkbanmnagkaaGreat
open Go.RowKit Go.Sort M

set_option maxHeartbeats 2000000 in
theorem fmay_any (lo hi f s : Nat) (k : Int) (C : List Nat) (h l : Nat) (n : Int) (w : World) (H : Fil w lo hi f s k C) (wh : W64 h) (wl : W64 l) (hm : 1 ≤ C.length) :
    Calls Tryz.prog 36 #[.pointer (some ⟨f, 0, none⟩), .agg #[.int .u64 h, .int .u64 l, .int .i64 n]] w fun e w' => e = .returned (.bool (mayL C (plc s h l n k C.length))) ∧ Below w.heap.size w w' := by
  have hP : ∀ wx, Fil wx lo hi f s k C → Calls Tryz.prog 61 #[.pointer (some ⟨f, 0, none⟩), .agg #[.int .u64 h, .int .u64 l, .int .i64 n]] wx fun e w' => ∃ p c, e = .returned (.slice p (plc s h l n k C.length).length c) ∧
      w'.ownsRow wx.heap.size 3 1 (.slice p (plc s h l n k C.length).length c) (plc s h l n k C.length).length (ics (plc s h l n k C.length)) ∧ Below wx.heap.size wx w' := fun wx H => fplaces_any lo hi f s k C h l n wx H wh wl
  have hL16 := plc_len s h l n k C.length
  have HLN : Hid (∀ wx, Fil wx lo hi f s k C → Calls Tryz.prog 60 #[.pointer (some ⟨f, 0, none⟩)] wx fun e w' => e = .returned (.int .i64 (C.length : Int)) ∧ Below wx.heap.size wx w') := Lib.hid (fun wx H => flen_any lo hi f s k C wx H)
  generalize plc s h l n k C.length = L at *
  have HP := Lib.hid hP
  have HC := Lib.hid H
  clear hP H
  go_enter Tryz.func36, Tryz.ntmps36
  go_wp2_with fail
  refine (HLN.out _ (HC.out.below (by go_grown))).mono ?_
  rintro e w0 ⟨rfl, hb0⟩
  have hw0 : Below w.heap.size w w0 := Below.trans (by go_grown) (hb0.mono (by go_size))
  have hz0 := hw0.size
  have b0 : w0.cell? ⟨w.heap.size, 0, none⟩ = some (.int .u64 h) := by
    rw [hb0.cell (by simp <;> omega)]
    first | assumption | (simp [go_sem]; done) | (simp [go_sem, *]; done)
  have b1 : w0.cell? ⟨w.heap.size, 1, none⟩ = some (.int .u64 l) := by
    rw [hb0.cell (by simp <;> omega)]
    first | assumption | (simp [go_sem]; done) | (simp [go_sem, *]; done)
  have b2 : w0.cell? ⟨w.heap.size, 2, none⟩ = some (.int .i64 n) := by
    rw [hb0.cell (by simp <;> omega)]
    first | assumption | (simp [go_sem]; done) | (simp [go_sem, *]; done)
  have hzb : w.heap.size < w0.heap.size := by have := hb0.size; simp at this; omega
  go_wp2_with fail
  refine (HP.out _ (HC.out.below (by go_grown))).mono ?_
  rintro e w1 ⟨p, c, rfl, hown, hb1⟩
  have hw1 : Below w.heap.size w w1 := hw0.trans (hb1.mono hz0)
  have hown2 := own_le (B' := w.heap.size) hown hz0
  obtain ⟨g1, h1, g2, h2, H⟩ := HC.out.below hw1
  clear hown hb1 HP hb0 hw0 hz0 HLN
  have c3 := H.c3
  have hl := H.lt
  have hz1 := hw1.size
  have HB := Lib.hid H.bs
  have HRW := Lib.hid (IRow.of_own hown2)
  clear H hown2
  go_wp2
  go_loopw [14] (fun i14 wr => ∃ i : Nat, i ≤ L.length ∧ i14 = .int .i64 i ∧ Hid (∀ j (hj : j < L.length), j < i → getN C L[j] ≠ 0) ∧ Below w1.heap.size w1 wr) (fun i14 _ => L.length - (intOf i14).toNat)
  case atStart => exact ⟨0, Nat.zero_le _, rfl, Lib.hid (fun j _ h => absurd h (by omega)), Below.refl _ _⟩
  case round =>
    obtain ⟨i, hi2, rfl, hall, hb⟩ := hrel
    have hz := hb.size
    have hc3 := (hb.cell (p := ⟨f, 3, none⟩) hl).trans c3
    by_cases hlt : i < L.length
    · obtain ⟨gr, orr, rfl, hgr, d0⟩ := (HRW.out.below hb).at hlt
      generalize hx : L[i] = x at *
      by_cases hg : getN C x = 0
      · have hno := mayL_no hlt (by rw [hx]; exact hg)
        have HNO := Lib.hid hno
        have HGE : Hid (getB (onsC C) x = false) := Lib.hid (by rw [getB_ons]; simp [hg])
        clear hx hg hno
        go_wp2_with fail
        refine (bget_any _ _ _ _ x _ (HB.out.below hb)).mono ?_
        rintro e w2 ⟨rfl, hb2⟩
        rw [HGE.out]
        go_wp2
        go_ret
        exact ⟨ret_bool HNO.out.symm, hw1.trans ((hb.trans (hb2.mono hz)).mono hz1)⟩
      · have HGE : Hid (getB (onsC C) x = true) := Lib.hid (by rw [getB_ons]; simp [hg])
        have HN2 : Hid (∀ j (hj : j < L.length), j < i + 1 → getN C L[j] ≠ 0) := by
          intro j hj hji
          by_cases e : j = i
          · subst e
            rw [hx]
            exact hg
          · exact hall.out j hj (by omega)
        clear hx hg hall
        go_wp2_with fail
        refine (bget_any _ _ _ _ x _ (HB.out.below hb)).mono ?_
        rintro e w2 ⟨rfl, hb2⟩
        rw [HGE.out]
        have hbb := hb.trans (hb2.mono hz)
        go_wp2
        go_roundw
        case rel => exact ⟨i + 1, by omega, by go_num, HN2, hbb⟩
        case measure => simp [intOf]; omega
    · go_wp2
      go_ret
      exact ⟨ret_bool (mayL_yes (fun j hj => hall.out j hj (by omega))).symm, hw1.trans (hb.mono hz1)⟩
end Go.Proofs.YtoihkbanmnagkaaGreat
/-
  What New of a counting filter makes. No condition but those that stand in each.
-/
set_option linter.unusedSimpArgs false
set_option linter.unusedVariables false
namespace Go.Proofs.YtoihkbanmnagkaaGreat
open Go.RowKit Go.Sort M

set_option maxHeartbeats 2000000 in
theorem fnew_bad (s : Nat) (k m : Int) (h : ¬ (1 ≤ k ∧ k ≤ 16 ∧ 1 ≤ m ∧ m ≤ 65536)) (w : World) :
    Calls Tryz.prog 22 #[.int .u64 s, .int .i64 k, .int .i64 m] w fun e w' => e = .returned (.tuple #[.pointer none, .int .i64 1]) ∧ Below w.heap.size w w' := by
  by_cases k0 : k < 1
  · go_enter Tryz.func22, Tryz.ntmps22
    go_wp2
    go_ret2
    exact ⟨rfl, by go_grown⟩
  · by_cases k1 : 16 < k
    · go_enter Tryz.func22, Tryz.ntmps22
      go_wp2
      go_ret2
      exact ⟨rfl, by go_grown⟩
    · by_cases m0 : m < 1
      · go_enter Tryz.func22, Tryz.ntmps22
        go_wp2
        go_ret2
        exact ⟨rfl, by go_grown⟩
      · have m1 : 65536 < m := by omega
        clear h
        go_enter Tryz.func22, Tryz.ntmps22
        go_wp2
        go_ret2
        exact ⟨rfl, by go_grown⟩
set_option maxHeartbeats 2000000 in
theorem fnew_any (s : Nat) (k m : Int) (ws : W64 s) (k0 : 1 ≤ k) (k1 : k ≤ 16) (m0 : 1 ≤ m) (m1 : m ≤ 65536) (w : World) :
    Calls Tryz.prog 22 #[.int .u64 s, .int .i64 k, .int .i64 m] w fun e w' => ∃ f, e = .returned (.tuple #[.pointer (some ⟨f, 0, none⟩), .int .i64 0]) ∧ Fil w' w.heap.size w'.heap.size f s k (List.replicate m.toNat 0) ∧ Below w.heap.size w w' := by
  have hm : min m.toNat 65536 = m.toNat := by omega
  have HM := Lib.hid hm
  clear hm
  go_enter Tryz.func22, Tryz.ntmps22
  go_wp2_with fail
  refine (new_any m (by omega) (by omega) _).mono ?_
  rintro e w1 ⟨v, rfl, ⟨g1, h1, rfl, N1⟩, hb1⟩
  have hw1 : Below w.heap.size w w1 := Below.trans (by go_grown) (hb1.mono (by go_size))
  have hz1 := hw1.size
  have N1' := N1.le (B' := w.heap.size) (by go_size)
  rw [HM.out] at N1'
  clear N1 hb1
  go_wp2_with fail
  refine (bnew_any m (by omega) (by omega) _).mono ?_
  rintro e w2 ⟨v, rfl, ⟨g2, h2, rfl, N2⟩, hb2⟩
  have hw2 : Below w.heap.size w w2 := hw1.trans (hb2.mono hz1)
  have hz2 := hb2.size
  rw [HM.out] at N2
  have HN1 := Lib.hid N1'
  have HN2 := Lib.hid N2
  have HB2 := Lib.hid hb2
  clear N1' N2 hb2
  go_wp2
  go_ret2
  have a1 := HN1.out.lt
  have a2 := HN1.out.low2
  have b1 := HN2.out.low
  have b2 := HN2.out.lt
  have b3 := HN2.out.low2
  refine ⟨w2.heap.size, rfl, ⟨g1, h1, g2, h2, ?_⟩, by go_grown⟩
  refine ⟨by simp [go_sem], by simp [go_sem], by simp [go_sem], by simp [go_sem], (HN1.out.below HB2.out).kept (World.grownBy_alloc _ _ none) (by simp) (by simp), ?_, by simp [onsC], by simp, ⟨by omega, by simp⟩, ⟨by simp; omega, by simp; omega⟩, ⟨by simp; omega, by simp; omega⟩, ⟨by omega, by omega, by omega⟩, ⟨by omega, by omega, by omega⟩, ws⟩
  rw [onsC_zero]
  exact (HN2.out.le hz1).kept (World.grownBy_alloc _ _ none) (by simp) (by simp)
end Go.Proofs.YtoihkbanmnagkaaGreat
/-
  A row of elements of k cells that is sorted by a test which may make blocks of its own: what is carried from call to call. No condition but those that stand in each.
-/
set_option linter.unusedSimpArgs false
set_option linter.unusedVariables false
namespace Go.Proofs.YtoihkbanmnagkaaGreat
open Go.RowKit Go.Sort M

section
variable {α : Type} [Inhabited α] {enc : α → List Value} {k : Nat} {w0 W W' : World} {blk off n : Nat} {d d' : Array α} {lt : α → α → Bool} {g : Nat} {lb : Array Value} {sf : Nat} {sb : Array Value}
theorem holdsK_below (h : HoldsK enc k W blk off d) (hl : blk < W.heap.size) (hb : RowKit.Below W.heap.size W W') : HoldsK enc k W' blk off d := by
  intro j hj
  obtain ⟨h1, h2⟩ := h j hj
  exact ⟨(hb.cell (p := ⟨blk, off + j, none⟩) hl).trans h1, (hb.frozen (p := ⟨blk, off + j, none⟩) hl).trans h2⟩
/-- The row at block blk holds d; of what was there in w0 nothing else has turned. -/
structure Srt (enc : α → List Value) (k : Nat) (w0 : World) (blk off n : Nat) (d : Array α) (W : World) : Prop where
  size : d.size = n
  holds : HoldsK enc k W blk off d
  touch : Touch (· = blk) w0 W
  lt : blk < w0.heap.size
theorem Srt.lt2 (S : Srt enc k w0 blk off n d W) : blk < W.heap.size := Nat.lt_of_lt_of_le S.lt S.touch.size
theorem Srt.below (S : Srt enc k w0 blk off n d W) (hb : RowKit.Below W.heap.size W W') : Srt enc k w0 blk off n d W' := ⟨S.size, holdsK_below S.holds S.lt2 hb, S.touch.trans (.quiet hb), S.lt⟩
theorem Srt.start (h : HoldsK enc k W blk off d) (hl : blk < W.heap.size) (hn : d.size = n) : Srt enc k W blk off n d W := ⟨hn, h, Touch.refl _ _, hl⟩
/-- Another world ahead of it may be taken for the first one. -/
theorem Srt.since (S : Srt enc k w0 blk off n d W) (T : Srt enc k W blk off n d' W') : Srt enc k w0 blk off n d' W' := ⟨T.size, T.holds, S.touch.trans T.touch, S.lt⟩
/-- What is asked of the test. -/
def LessB (g : Nat) (lb : Array Value) (enc : α → List Value) (k : Nat) (lt : α → α → Bool) (w0 : World) (blk off n : Nat) : Prop :=
  ∀ (W : World) (d : Array α), Srt enc k w0 blk off n d W → ∀ i j : Nat, i < n → j < n → Calls Tryz.prog g (#[.int .i64 (i : Int), .int .i64 (j : Int)] ++ lb) W fun e w' => e = .returned (.bool (lt d[i]! d[j]!)) ∧ RowKit.Below W.heap.size W w'
theorem Srt.less (S : Srt enc k w0 blk off n d W) (hL : LessB g lb enc k lt w0 blk off n) (x y : Int) (i j : Nat) (hi : i < n) (hj : j < n) (hx : (i : Int) = x) (hy : (j : Int) = y) :
    Calls Tryz.prog g (#[.int .i64 x, .int .i64 y] ++ lb) W fun e w' => e = .returned (.bool (lt d[i]! d[j]!)) ∧ Srt enc k w0 blk off n d w' ∧ Touch (· = blk) W w' := by
  subst hx hy
  exact (hL W d S i j hi hj).mono fun _ _ ⟨he, hb⟩ => ⟨he, S.below hb, .quiet hb⟩
theorem putRowK_touch (W : World) (d : Array α) : Touch (· = blk) W (putRowK enc k W blk off d) := by
  refine ⟨rfl, rfl, rfl, Nat.le_of_eq (size_putRowK enc k W blk off d).symm, fun j hj hn => ?_⟩
  show (W.heap.modify blk _)[j]? = W.heap[j]?
  rw [Array.getElem?_modify, if_neg (fun e => hn e.symm)]
theorem Srt.swap (S : Srt enc k w0 blk off n d W) (hS : SwapSwapsK Tryz.prog sf sb enc k blk off n) (hk : ∀ x, (enc x).length = k) (x y : Int) (i j : Nat) (hi : i < n) (hj : j < n) (hx : (i : Int) = x) (hy : (j : Int) = y) :
    ∃ w', (callFunc sf (#[.int .i64 x, .int .i64 y] ++ sb)).run Tryz.prog W = .ok (.value (.tuple #[])) w' ∧ Srt enc k w0 blk off n (swp d i j) w' ∧ Touch (· = blk) W w' := by
  subst hx hy
  have hs := S.size
  have h := hS W d S.holds S.size i j hi hj
  have e := putRowK_swp enc k hk W blk off d i j (by omega) (by omega)
  rw [putRowK_self enc k W blk off d S.holds] at e
  rw [e] at h
  exact ⟨_, h, ⟨by rw [size_swp]; exact S.size, holdsK_putRowK enc k W blk off d _ S.holds (size_swp _ _ _), S.touch.trans (putRowK_touch W _), S.lt⟩, putRowK_touch W _⟩
/-- A box of two cells in a block of its own. -/
structure Bxd (x y : Value) (B blk : Nat) (W : World) : Prop where
  c0 : W.cell? ⟨B, 0, none⟩ = some x
  c1 : W.cell? ⟨B, 1, none⟩ = some y
  lt : B < W.heap.size
  ne : B ≠ blk
theorem Bxd.touch {x y : Value} {B : Nat} (h : Bxd x y B blk W) (t : Touch (· = blk) W W') : Bxd x y B blk W' := ⟨t.cell h.c0 h.ne, t.cell h.c1 h.ne, Nat.lt_of_lt_of_le h.lt t.size, h.ne⟩
/-- What is carried in a function of the sort: its own box at block W.heap.size, the row, and that nothing else turned. -/
structure Srd (enc : α → List Value) (k : Nat) (w0 : World) (blk off n : Nat) (x y : Value) (W : World) (d : Array α) (wr : World) : Prop where
  srt : Srt enc k w0 blk off n d wr
  touch : Touch (· = blk) W wr
  box : Bxd x y W.heap.size blk wr
theorem Srd.start {x y : Value} (S : Srt enc k w0 blk off n d W) (t : TypeId) : Srd enc k w0 blk off n x y W d (W.alloc (.cells #[x, y] t)) := by
  have hb : RowKit.Below W.heap.size W (W.alloc (.cells #[x, y] t)) := by go_grown
  have hl := S.lt2
  exact ⟨S.below hb, .quiet hb, ⟨by simp, by simp, by simp, by omega⟩⟩
theorem Srd.next {x y : Value} {wr : World} (R : Srd enc k w0 blk off n x y W d wr) (S : Srt enc k w0 blk off n d' W') (t : Touch (· = blk) wr W') : Srd enc k w0 blk off n x y W d' W' := ⟨S, R.touch.trans t, R.box.touch t⟩
end
end Go.Proofs.YtoihkbanmnagkaaGreat
/-
  sort.insertionSort_func, at a test that may make blocks of its own. No condition but those that stand in each.
-/
set_option linter.unusedSimpArgs false
set_option linter.unusedVariables false
namespace Go.Proofs.YtoihkbanmnagkaaGreat
open Go.RowKit Go.Sort M

section
variable {α : Type} [Inhabited α] {enc : α → List Value} {k : Nat} {w0 : World} {blk off n : Nat} {lt : α → α → Bool} {g : Nat} {lb : Array Value} {sf : Nat} {sb : Array Value}
set_option maxHeartbeats 1000000 in
set_option maxRecDepth 100000 in
theorem ins_any (hk : ∀ x, (enc x).length = k) (eg : ∀ args w, (callFunc g args).run Tryz.prog w = .ok (.enter g args) w) (hL : LessB g lb enc k lt w0 blk off n) (hS : SwapSwapsK Tryz.prog sf sb enc k blk off n) (hn : n < 4611686018427387904)
    (a b : Nat) (ha2 : a ≤ n) (hb : b ≤ n) (d : Array α) (W : World) (S : Srt enc k w0 blk off n d W) :
    Calls Tryz.prog 120 #[.agg #[.func (.func g) #[] lb, .func (.func sf) #[] sb], .int .i64 (a : Int), .int .i64 (b : Int)] W fun e w' =>
      e = .returned (.tuple #[]) ∧ Srt enc k w0 blk off n (insertionSort lt d a b) w' ∧ Touch (· = blk) W w' := by
  have HL := Lib.hid hL
  have HSW := Lib.hid hS
  clear hL hS
  have e0 : insOuter lt a b (a + 1) d = insertionSort lt d a b := rfl
  by_cases hab : b ≤ a
  · rw [← e0, insOuter_stop lt a b (a + 1) d (by omega)]
    have hno : ¬ ((a : Int) + 1 < (b : Int)) := by omega
    go_enter Tryz.func120, Tryz.ntmps120
    go_wp2_with fail
    have R := Srd.start (x := .func (.func g) #[] lb) (y := .func (.func sf) #[] sb) S 148
    refine wp_loop_rounds 1 ?_
    rw [rounds_succ]
    go_wp2
    go_end0
    exact ⟨rfl, R.srt, R.touch⟩
  · have ha : a < b := by omega
    go_enter Tryz.func120, Tryz.ntmps120
    go_wp2_with fail
    have R := Srd.start (x := .func (.func g) #[] lb) (y := .func (.func sf) #[] sb) S 148
    clear S
    go_loopg [6] (b - a) (fun kx s6 wr => ∃ (i : Nat) (dk : Array α), s6 = .int .i64 (i : Int) ∧ a < i ∧ i ≤ b ∧ b - i ≤ kx ∧ Hid (insOuter lt a b i dk = insOuter lt a b (a + 1) d) ∧ Hid (Srd enc k w0 blk off n (.func (.func g) #[] lb) (.func (.func sf) #[] sb) W dk wr))
    case atStart => exact ⟨a + 1, d, by go_num, by omega, by omega, by omega, rfl, R⟩
    case round =>
      clear R
      obtain ⟨i, dk, rfl, h1, h2, h3, HE, HR⟩ := hrel
      by_cases hi : i < b
      · go_wp2
        rename World => wo
        go_loopg [7] i (fun kx s7 wr => ∃ (j : Nat) (dj : Array α), s7 = .int .i64 (j : Int) ∧ a ≤ j ∧ j ≤ i ∧ j ≤ kx ∧ Hid (insInner lt a j dj = insInner lt a i dk) ∧ Hid (Srd enc k w0 blk off n (.func (.func g) #[] lb) (.func (.func sf) #[] sb) W dj wr))
        case atStart => exact ⟨i, dk, rfl, by omega, by omega, by omega, rfl, HR⟩
        case round =>
          clear HR
          obtain ⟨j, dj, rfl, j1, j2, j3, HI, HR⟩ := hrel
          have c0 := HR.out.box.c0
          have c1 := HR.out.box.c1
          have hl := HR.out.box.lt
          by_cases hj : a < j
          · have hl1 := HR.out.srt.less HL.out (j : Int) ((j : Int) - 1) j (j - 1) (by omega) (by omega) rfl (by omega)
            cases hv : lt dj[j]! dj[j - 1]! with
            | true =>
              rw [hv] at hl1
              go_wp2_with (go_at_fn g; refine hl1.mono ?_; rintro e w1 ⟨rfl, hS1, hT1⟩; have R1 := HR.out.next hS1 hT1; have d1 := R1.box.c1; have hl1 := R1.box.lt; obtain ⟨w2, hrun, hS2, hT2⟩ := R1.srt.swap HSW.out hk (j : Int) ((j : Int) - 1) j (j - 1) (by omega) (by omega) rfl (by omega); have R2 := Lib.hid (R1.next hS2 hT2); clear R1 hS1 hT1 hS2 hT2)
              go_roundg (j - 1)
              case measure => omega
              case rel => exact ⟨j - 1, _, by go_num, by omega, by omega, by omega, Lib.hid ((insInner_go lt a j dj hj hv).symm.trans HI.out), R2⟩
            | false =>
              rw [hv] at hl1
              go_wp2_with (go_at_fn g; refine hl1.mono ?_; rintro e w1 ⟨rfl, hS1, hT1⟩; have R1 := Lib.hid (HR.out.next hS1 hT1); clear hS1 hT1)
              go_roundg (b - (i + 1))
              case measure => omega
              case rel =>
                have := HI.out
                rw [insInner_stop lt a j dj (.inr hv)] at this
                exact ⟨i + 1, dj, by go_num, by omega, by omega, by omega, Lib.hid (by rw [this, ← insOuter_go lt a b i dk hi]; exact HE.out), R1⟩
          · go_wp2
            go_roundg (b - (i + 1))
            case measure => omega
            case rel =>
              have := HI.out
              rw [insInner_stop lt a j dj (.inl (by omega))] at this
              exact ⟨i + 1, dj, by go_num, by omega, by omega, by omega, Lib.hid (by rw [this, ← insOuter_go lt a b i dk hi]; exact HE.out), HR⟩
      · go_wp2
        go_end0
        have := HE.out
        rw [insOuter_stop lt a b i dk hi, e0] at this
        subst this
        exact ⟨rfl, HR.out.srt, HR.out.touch⟩
end
end Go.Proofs.YtoihkbanmnagkaaGreat
/-
  sort.siftDown_func and heapSort_func, at a test that may make blocks of its own. No condition but those that stand in each.
-/
set_option linter.unusedSimpArgs false
set_option linter.unusedVariables false
namespace Go.Proofs.YtoihkbanmnagkaaGreat
open Go.RowKit Go.Sort M

section
variable {α : Type} [Inhabited α] {enc : α → List Value} {k : Nat} {w0 : World} {blk off n : Nat} {lt : α → α → Bool} {g : Nat} {lb : Array Value} {sf : Nat} {sb : Array Value}
set_option maxHeartbeats 1000000 in
set_option maxRecDepth 100000 in
theorem sift_any (hk : ∀ x, (enc x).length = k) (eg : ∀ args w, (callFunc g args).run Tryz.prog w = .ok (.enter g args) w) (hL : LessB g lb enc k lt w0 blk off n) (hS : SwapSwapsK Tryz.prog sf sb enc k blk off n) (hn : n < 4611686018427387904)
    (lo hi first : Nat) (hlo : lo ≤ hi) (hb : first + hi ≤ n) (d : Array α) (W : World) (S : Srt enc k w0 blk off n d W) :
    Calls Tryz.prog 131 #[.agg #[.func (.func g) #[] lb, .func (.func sf) #[] sb], .int .i64 (lo : Int), .int .i64 (hi : Int), .int .i64 (first : Int)] W fun e w' =>
      e = .returned (.tuple #[]) ∧ Srt enc k w0 blk off n (siftDown lt hi first lo d) w' ∧ Touch (· = blk) W w' := by
  have HL := Lib.hid hL
  have HSW := Lib.hid hS
  clear hL hS
  go_enter Tryz.func131, Tryz.ntmps131
  go_wp2_with fail
  have R := Srd.start (x := .func (.func g) #[] lb) (y := .func (.func sf) #[] sb) S 148
  clear S
  go_loopg [8] (hi - lo) (fun kx s8 wr => ∃ (root : Nat) (dk : Array α), s8 = .int .i64 (root : Int) ∧ root ≤ hi ∧ hi - root ≤ kx ∧ Hid (siftDown lt hi first root dk = siftDown lt hi first lo d) ∧ Hid (Srd enc k w0 blk off n (.func (.func g) #[] lb) (.func (.func sf) #[] sb) W dk wr))
  case atStart => exact ⟨lo, d, rfl, hlo, Nat.le_refl _, rfl, R⟩
  case round =>
    clear R
    obtain ⟨root, dk, rfl, h1, h2, HE, HR⟩ := hrel
    have c0 := HR.out.box.c0
    have c1 := HR.out.box.c1
    have hl := HR.out.box.lt
    by_cases hc : hi ≤ 2 * root + 1
    · have hcz : (hi : Int) ≤ 2 * (root : Int) + 1 := by omega
      go_wp2
      go_end0
      have := HE.out
      rw [sd_end lt dk hc] at this
      subst this
      exact ⟨rfl, HR.out.srt, HR.out.touch⟩
    · have hcz : ¬ ((hi : Int) ≤ 2 * (root : Int) + 1) := by omega
      by_cases h1 : 2 * root + 2 < hi
      · have h1z : 2 * (root : Int) + 1 + 1 < (hi : Int) := by omega
        cases hL1 : lt dk[first + (2 * root + 1)]! dk[first + (2 * root + 2)]! with
        | true =>
          cases hv : lt dk[first + root]! dk[first + (2 * root + 2)]! with
          | true =>
            have HG := Lib.hid (show siftDown lt hi first root dk = _ from sd_right_go lt dk h1 hL1 hv)
            go_wp2_with (first | (go_at_fn g; refine (HR.out.srt.less HL.out _ _ (first + (2 * root + 1)) (first + (2 * root + 2)) (by omega) (by omega) (by omega) (by omega)).mono ?_; rw [hL1]; rintro e w1 ⟨rfl, hS1, hT1⟩; have R1 := HR.out.next hS1 hT1; have d0 := R1.box.c0; have dl := R1.box.lt; clear HR c0 c1 hl; have HR := Lib.hid R1; clear R1 hS1 hT1) | (go_at_fn g; refine (HR.out.srt.less HL.out _ _ (first + root) (first + (2 * root + 2)) (by omega) (by omega) (by omega) (by omega)).mono ?_; rw [hv]; rintro e w2 ⟨rfl, hS2, hT2⟩; have R2 := HR.out.next hS2 hT2; have e1 := R2.box.c1; have el := R2.box.lt; obtain ⟨w3, hrun, hS3, hT3⟩ := R2.srt.swap HSW.out hk ((first : Int) + (root : Int)) ((first : Int) + (2 * (root : Int) + 1 + 1)) (first + root) (first + (2 * root + 2)) (by omega) (by omega) (by omega) (by omega); have R3 := Lib.hid (R2.next hS3 hT3); clear R2 hS2 hT2 hS3 hT3))
            go_roundg (hi - (2 * root + 2))
            case measure => omega
            case rel => exact ⟨2 * root + 2, _, congrArg (Value.int .i64) (show 2 * (root : Int) + 1 + 1 = ((2 * root + 2 : Nat) : Int) by omega), by omega, Nat.le_refl _, Lib.hid (HG.out.symm.trans HE.out), R3⟩
          | false =>
            have HG := Lib.hid (show siftDown lt hi first root dk = _ from sd_right_stop lt dk h1 hL1 hv)
            go_wp2_with (first | (go_at_fn g; refine (HR.out.srt.less HL.out _ _ (first + (2 * root + 1)) (first + (2 * root + 2)) (by omega) (by omega) (by omega) (by omega)).mono ?_; rw [hL1]; rintro e w1 ⟨rfl, hS1, hT1⟩; have R1 := HR.out.next hS1 hT1; have d0 := R1.box.c0; have dl := R1.box.lt; clear HR c0 c1 hl; have HR := Lib.hid R1; clear R1 hS1 hT1) | (go_at_fn g; refine (HR.out.srt.less HL.out _ _ (first + root) (first + (2 * root + 2)) (by omega) (by omega) (by omega) (by omega)).mono ?_; rw [hv]; rintro e w2 ⟨rfl, hS2, hT2⟩; have R2 := Lib.hid (HR.out.next hS2 hT2); clear hS2 hT2))
            (try simp only [Exit.inBlock, Exit.then]); refine bodyPost_ret (results_none rfl _ _ _) rfl ?_
            have := HG.out.symm.trans HE.out
            subst this
            exact ⟨rfl, R2.out.srt, R2.out.touch⟩
        | false =>
          cases hv : lt dk[first + root]! dk[first + (2 * root + 1)]! with
          | true =>
            have HG := Lib.hid (show siftDown lt hi first root dk = _ from sd_left_go lt dk (by omega) (fun _ => hL1) hv)
            go_wp2_with (first | (go_at_fn g; refine (HR.out.srt.less HL.out _ _ (first + (2 * root + 1)) (first + (2 * root + 2)) (by omega) (by omega) (by omega) (by omega)).mono ?_; rw [hL1]; rintro e w1 ⟨rfl, hS1, hT1⟩; have R1 := HR.out.next hS1 hT1; have d0 := R1.box.c0; have dl := R1.box.lt; clear HR c0 c1 hl; have HR := Lib.hid R1; clear R1 hS1 hT1) | (go_at_fn g; refine (HR.out.srt.less HL.out _ _ (first + root) (first + (2 * root + 1)) (by omega) (by omega) (by omega) (by omega)).mono ?_; rw [hv]; rintro e w2 ⟨rfl, hS2, hT2⟩; have R2 := HR.out.next hS2 hT2; have e1 := R2.box.c1; have el := R2.box.lt; obtain ⟨w3, hrun, hS3, hT3⟩ := R2.srt.swap HSW.out hk ((first : Int) + (root : Int)) ((first : Int) + (2 * (root : Int) + 1)) (first + root) (first + (2 * root + 1)) (by omega) (by omega) (by omega) (by omega); have R3 := Lib.hid (R2.next hS3 hT3); clear R2 hS2 hT2 hS3 hT3))
            go_roundg (hi - (2 * root + 1))
            case measure => omega
            case rel => exact ⟨2 * root + 1, _, by go_num, by omega, Nat.le_refl _, Lib.hid (HG.out.symm.trans HE.out), R3⟩
          | false =>
            have HG := Lib.hid (show siftDown lt hi first root dk = _ from sd_left_stop lt dk (by omega) (fun _ => hL1) hv)
            go_wp2_with (first | (go_at_fn g; refine (HR.out.srt.less HL.out _ _ (first + (2 * root + 1)) (first + (2 * root + 2)) (by omega) (by omega) (by omega) (by omega)).mono ?_; rw [hL1]; rintro e w1 ⟨rfl, hS1, hT1⟩; have R1 := HR.out.next hS1 hT1; have d0 := R1.box.c0; have dl := R1.box.lt; clear HR c0 c1 hl; have HR := Lib.hid R1; clear R1 hS1 hT1) | (go_at_fn g; refine (HR.out.srt.less HL.out _ _ (first + root) (first + (2 * root + 1)) (by omega) (by omega) (by omega) (by omega)).mono ?_; rw [hv]; rintro e w2 ⟨rfl, hS2, hT2⟩; have R2 := Lib.hid (HR.out.next hS2 hT2); clear hS2 hT2))
            (try simp only [Exit.inBlock, Exit.then]); refine bodyPost_ret (results_none rfl _ _ _) rfl ?_
            have := HG.out.symm.trans HE.out
            subst this
            exact ⟨rfl, R2.out.srt, R2.out.touch⟩
      · have h1z : ¬ (2 * (root : Int) + 1 + 1 < (hi : Int)) := by omega
        cases hv : lt dk[first + root]! dk[first + (2 * root + 1)]! with
        | true =>
          have HG := Lib.hid (show siftDown lt hi first root dk = _ from sd_left_go lt dk (by omega) (fun h => absurd h h1) hv)
          go_wp2_with ((go_at_fn g; refine (HR.out.srt.less HL.out _ _ (first + root) (first + (2 * root + 1)) (by omega) (by omega) (by omega) (by omega)).mono ?_; rw [hv]; rintro e w2 ⟨rfl, hS2, hT2⟩; have R2 := HR.out.next hS2 hT2; have e1 := R2.box.c1; have el := R2.box.lt; obtain ⟨w3, hrun, hS3, hT3⟩ := R2.srt.swap HSW.out hk ((first : Int) + (root : Int)) ((first : Int) + (2 * (root : Int) + 1)) (first + root) (first + (2 * root + 1)) (by omega) (by omega) (by omega) (by omega); have R3 := Lib.hid (R2.next hS3 hT3); clear R2 hS2 hT2 hS3 hT3))
          go_roundg (hi - (2 * root + 1))
          case measure => omega
          case rel => exact ⟨2 * root + 1, _, by go_num, by omega, Nat.le_refl _, Lib.hid (HG.out.symm.trans HE.out), R3⟩
        | false =>
          have HG := Lib.hid (show siftDown lt hi first root dk = _ from sd_left_stop lt dk (by omega) (fun h => absurd h h1) hv)
          go_wp2_with ((go_at_fn g; refine (HR.out.srt.less HL.out _ _ (first + root) (first + (2 * root + 1)) (by omega) (by omega) (by omega) (by omega)).mono ?_; rw [hv]; rintro e w2 ⟨rfl, hS2, hT2⟩; have R2 := Lib.hid (HR.out.next hS2 hT2); clear hS2 hT2))
          (try simp only [Exit.inBlock, Exit.then]); refine bodyPost_ret (results_none rfl _ _ _) rfl ?_
          have := HG.out.symm.trans HE.out
          subst this
          exact ⟨rfl, R2.out.srt, R2.out.touch⟩
set_option maxHeartbeats 1000000 in
set_option maxRecDepth 100000 in
theorem heap_any (hk : ∀ x, (enc x).length = k) (eg : ∀ args w, (callFunc g args).run Tryz.prog w = .ok (.enter g args) w) (hL : LessB g lb enc k lt w0 blk off n) (hS : SwapSwapsK Tryz.prog sf sb enc k blk off n) (hn : n < 4611686018427387904)
    (a b : Nat) (hab : a ≤ b) (hb : b ≤ n) (d : Array α) (W : World) (S : Srt enc k w0 blk off n d W) :
    Calls Tryz.prog 121 #[.agg #[.func (.func g) #[] lb, .func (.func sf) #[] sb], .int .i64 (a : Int), .int .i64 (b : Int)] W fun e w' =>
      e = .returned (.tuple #[]) ∧ Srt enc k w0 blk off n (heapSort lt d a b) w' ∧ Touch (· = blk) W w' := by
  have HSIFT := Lib.hid (fun lo hi first hlo hb d W S => sift_any (lo := lo) (hi := hi) (first := first) hk eg hL hS hn hlo hb (d := d) (W := W) S)
  have HSW := Lib.hid hS
  have hst := half_start hab
  clear hL hS
  have HST := Lib.hid hst
  have ecast : ((b - a : Nat) : Int) = (b : Int) - (a : Int) := by omega
  have HEC := Lib.hid ecast
  clear hst ecast
  go_enter Tryz.func121, Tryz.ntmps121
  go_wp2_with fail
  have R := Srd.start (x := .func (.func g) #[] lb) (y := .func (.func sf) #[] sb) S 148
  clear S
  go_loopg [9] ((b - a - 1) / 2 + 1) (fun kx s9 wr => s9 = .int .i64 ((kx : Int) - 1) ∧ kx ≤ (b - a - 1) / 2 + 1 ∧ ∃ (dk : Array α), Hid (heapBuild lt (b - a) a kx dk = heapBuild lt (b - a) a ((b - a - 1) / 2 + 1) d) ∧ Hid (Srd enc k w0 blk off n (.func (.func g) #[] lb) (.func (.func sf) #[] sb) W dk wr))
  case atStart => exact ⟨congrArg (Value.int .i64) HST.out, Nat.le_refl _, d, rfl, R⟩
  case round =>
    clear R
    obtain ⟨rfl, h1, dk, HE, HR⟩ := hrel
    have c0 := HR.out.box.c0
    have c1 := HR.out.box.c1
    have hl := HR.out.box.lt
    cases gk with
    | zero =>
      go_wp2_with fail
      rename World => wo
      go_loopg [10] (b - a) (fun kx s10 wr => s10 = .int .i64 ((kx : Int) - 1) ∧ kx ≤ b - a ∧ ∃ (dj : Array α), Hid (heapPop lt a kx dj = heapPop lt a (b - a) dk) ∧ Hid (Srd enc k w0 blk off n (.func (.func g) #[] lb) (.func (.func sf) #[] sb) W dj wr))
      case atStart => exact ⟨congrArg (Value.int .i64) (by have := HEC.out; omega), Nat.le_refl _, dk, rfl, HR⟩
      case round =>
        clear HR c0 c1 hl
        obtain ⟨rfl, h2, dj, HE2, HR⟩ := hrel
        have c0 := HR.out.box.c0
        have c1 := HR.out.box.c1
        have hl := HR.out.box.lt
        cases gk with
        | zero =>
          go_wp2
          go_end0
          have e : dj = heapSort lt d a b := by
            rw [heapSort, ← HE.out]
            exact HE2.out
          subst e
          exact ⟨rfl, HR.out.srt, HR.out.touch⟩
        | succ kx =>
          obtain ⟨w3, hrun, hS3, hT3⟩ := HR.out.srt.swap HSW.out hk (a : Int) ((a : Int) + (kx : Int)) a (a + kx) (by omega) (by omega) (by omega) (by omega)
          have R3 := HR.out.next hS3 hT3
          have d0 := R3.box.c0
          have d1 := R3.box.c1
          have dl := R3.box.lt
          have HR3 := Lib.hid R3
          clear R3 hS3 hT3
          go_wp2_with fail
          refine (HSIFT.out 0 kx a (by omega) (by omega) _ _ HR3.out.srt).mono ?_
          rintro e w4 ⟨rfl, hS4, hT4⟩
          have R4 := Lib.hid (HR3.out.next hS4 hT4)
          clear hS4 hT4
          go_wp2_with fail
          go_roundg kx
          case measure => omega
          case rel => exact ⟨rfl, by omega, _, HE2, R4⟩
    | succ kx =>
      go_wp2_with fail
      have hcall := HSIFT.out kx (b - a) a (by omega) (by omega) _ _ HR.out.srt
      rw [HEC.out] at hcall
      refine hcall.mono ?_
      clear hcall
      rintro e w4 ⟨rfl, hS4, hT4⟩
      have R4 := Lib.hid (HR.out.next hS4 hT4)
      clear hS4 hT4
      go_wp2_with fail
      go_roundg kx
      case measure => omega
      case rel => exact ⟨rfl, by omega, _, HE, R4⟩
end
end Go.Proofs.YtoihkbanmnagkaaGreat
