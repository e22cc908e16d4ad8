/-
  A row of elements of k cells that is sorted by a test which may make blocks of its own: what is carried from call to call. No condition but those that stand in each.
-/
import Derived.Test.YtcfioplbbbaeoaaLift
import Derived.Test.YtcfioplbbbaeoaaM18c
import Derived.Test.YtcfioplbbbaeoaaM18b
import Derived.Deep.DeepCutAuto
import Derived.Test.YtcfioplbbbaeoaaW5
import Derived.Test.YtcfioplbbbaeoaaW11
import Derived.Shelf.GgSortFunc.SmallK
import Derived.Shelf.SlSortFuncK.RowK2
import Derived.Sort.WalkB2
import Derived.Sort.WalkB3
import Derived.Deep.LoopGhost
/-
  Plain mathematics of the array of short prefixes: what stands at each place, filled row by row from what a level of low -1 holds. No condition but those that stand in each.
-/
set_option linter.unusedSimpArgs false
set_option linter.unusedVariables false
namespace Go.Proofs.Ytcfioplbbbaeoaa
open Go Go.RowKit Go.Sort M

/-- The number of an address's place. -/
def numA (ah m : Nat) : Nat := ah / 2 ^ (64 - m)
theorem numA_lt {ah m : Nat} (h : W64 ah) (hm : m ≤ 64) : numA ah m < 2 ^ m := by
  unfold numA
  rw [Nat.div_lt_iff_lt_mul (Nat.two_pow_pos _), ← Nat.pow_add, show m + (64 - m) = 64 by omega]
  exact h
theorem numA_at {m i : Nat} : numA (i * 2 ^ (64 - m)) m = i := Nat.mul_div_cancel _ (Nat.two_pow_pos _)
theorem numA_w {m i : Nat} (hm : m ≤ 64) (hi : i < 2 ^ m) : W64 (i * 2 ^ (64 - m)) := by
  show i * 2 ^ (64 - m) < 2 ^ 64
  have := Nat.mul_lt_mul_of_pos_right hi (Nat.two_pow_pos (64 - m))
  rwa [← Nat.pow_add, show m + (64 - m) = 64 by omega] at this
theorem cut_num {ah al m : Nat} (hb : W64 al) (hm : m ≤ 8) : cutK ah al m = cutK (numA ah m * 2 ^ (64 - m)) 0 m := by
  unfold cutK
  rw [show m - 64 = 0 by omega, cutW_zero al hb, cutW_zero 0 (by decide)]
  unfold cutW numA
  rw [Nat.mul_div_cancel _ (Nat.two_pow_pos _)]
theorem num_cut (ah m : Nat) : numA (cutW ah m) m = numA ah m := by
  unfold cutW numA
  rw [Nat.mul_div_cancel _ (Nat.two_pow_pos _)]
theorem dir_num {ah al m : Nat} (L : List Rt) (hb : W64 al) (hm : m ≤ 8) : dirK L ah al m = dirK L (numA ah m * 2 ^ (64 - m)) 0 m := by
  unfold dirK
  rw [cut_num hb hm]
/-- An address has a key of the first level just if it has a route there. -/
theorem key_first {N : List Rt} (hg : ∀ r ∈ N, W64 r.k.h ∧ W64 r.k.l) {ah al m : Nat} (ha : W64 ah) (hb : W64 al) (hm : m ≤ 8) : cutK ah al m ∈ keysS N (-1) (m : Int) ↔ ∃ r ∈ N, candB ah al (-1) (m : Int) r = true := by
  unfold keysS
  simp only [List.mem_flatMap, List.mem_filter]
  refine exists_congr fun r => ?_
  constructor
  · rintro ⟨⟨hr, hi⟩, hk⟩
    refine ⟨hr, ?_⟩
    unfold insB at hi
    simp only [Bool.and_eq_true, decide_eq_true_eq] at hi
    have h := ((mem_spr (hg r hr).1 (hg r hr).2 _ _).1 hk).2.2.2.2.2.2.2
    unfold cutK at h
    simp only at h
    rw [has_cut_any r ah al m hi.2] at h
    unfold candB
    simp [hi.1, hi.2, h]
  · rintro ⟨hr, hc⟩
    unfold candB at hc
    simp only [Bool.and_eq_true, decide_eq_true_eq] at hc
    obtain ⟨c1, c2, c3⟩ := hc
    refine ⟨⟨hr, by unfold insB; simp [c1, c2]⟩, (mem_spr (hg r hr).1 (hg r hr).2 _ _).2 ⟨c2, by omega, by omega, rfl, ha.cut _, hb.cut _, ?_, ?_⟩⟩
    · have := right_cut ah al (m : Int) (by omega) (by omega)
      simpa [cutK] using this
    · show hasB _ _ _ (cutW ah m) (cutW al (m - 64)) = true
      rw [has_cut_any r ah al m c2]
      exact c3
theorem dir_some {N : List Rt} (hg : ∀ r ∈ N, W64 r.k.h ∧ W64 r.k.l) {ah al m : Nat} (ha : W64 ah) (hb : W64 al) (hm : m ≤ 8) : (hopK N (-1) (cutK ah al m)).isSome = true ↔ cutK ah al m ∈ keysS N (-1) (m : Int) := by
  rw [key_first hg ha hb hm, ← lng_is]
  unfold hopK
  rw [Option.isSome_map, cand_cut]
/-- What has been laid after the first j rows of M. -/
def PlOk (M : List Rt) (m j : Nat) (xs : List Value) : Prop := xs.length = 2 ^ m * 2 ∧ ∀ i, i < 2 ^ m → ∃ (v : Int) (b : Bool), xs[i * 2]? = some (.int .i64 v) ∧ xs[i * 2 + 1]? = some (.bool b) ∧
  (((∃ r ∈ M.take j, numA r.k.h m = i ∧ r.v = v) ∧ b = true) ∨ ((∀ r ∈ M.take j, numA r.k.h m ≠ i) ∧ v = 0 ∧ b = false))
theorem PlOk.start (M : List Rt) (m : Nat) : PlOk M m 0 (madeCells #[.int .i64 0, .bool false] (2 ^ m * 2)).toList := by
  refine ⟨by simp [madeCells], fun i hi => ⟨0, false, ?_, ?_, .inr ⟨by simp, rfl, rfl⟩⟩⟩
  · have : i * 2 < 2 ^ m * 2 := by omega
    simp [madeCells, this]
  · have : i * 2 + 1 < 2 ^ m * 2 := by omega
    simp [madeCells, this]
theorem PlOk.next {M : List Rt} {m j : Nat} {xs : List Value} (H : PlOk M m j xs) (hj : j < M.length) (hn : numA M[j].k.h m < 2 ^ m) :
    PlOk M m (j + 1) ((xs.set (numA M[j].k.h m * 2) (.int .i64 M[j].v)).set (numA M[j].k.h m * 2 + 1) (.bool true)) := by
  obtain ⟨hl, H⟩ := H
  refine ⟨by simpa using hl, fun i hi => ?_⟩
  have htk := List.take_succ_eq_append_getElem hj
  rw [htk]
  by_cases e : numA M[j].k.h m = i
  · subst e
    refine ⟨M[j].v, true, ?_, ?_, .inl ⟨⟨M[j], List.mem_append_right _ (List.mem_singleton.2 rfl), rfl, rfl⟩, rfl⟩⟩
    · rw [List.getElem?_set_ne (by omega), List.getElem?_set_self (by omega)]
    · rw [List.getElem?_set_self (by simp; omega)]
  · obtain ⟨v, b, h1, h2, h3⟩ := H i hi
    refine ⟨v, b, ?_, ?_, ?_⟩
    · rw [List.getElem?_set_ne (by omega), List.getElem?_set_ne (by omega)]
      exact h1
    · rw [List.getElem?_set_ne (by omega), List.getElem?_set_ne (by omega)]
      exact h2
    · rcases h3 with ⟨⟨r, hr, h4⟩, h5⟩ | ⟨h4, h5⟩
      · exact .inl ⟨⟨r, List.mem_append_left _ hr, h4⟩, h5⟩
      · refine .inr ⟨fun r hr => ?_, h5⟩
        rcases List.mem_append.1 hr with hr | hr
        · exact h4 r hr
        · simp only [List.mem_singleton] at hr
          subst hr
          exact e
/-- Filled whole: each place has what the routes lead to. -/
theorem PlOk.done {L : List Rt} (hg : ∀ x ∈ L, x.k.good) {m : Nat} (hm : m ≤ 8) {xs : List Value} (H : PlOk (setS (sortR L) (-1) (m : Int)) m (setS (sortR L) (-1) (m : Int)).length xs) :
    ∀ i, i < 2 ^ m → xs[i * 2]? = some (.int .i64 (dirV L (i * 2 ^ (64 - m)) 0 m)) ∧ xs[i * 2 + 1]? = some (.bool (dirK L (i * 2 ^ (64 - m)) 0 m).isSome) := by
  intro i hi
  have hgN : ∀ r ∈ sortR L, r.k.good := fun x hx => hg x (sortR_sub hx)
  have ha : W64 (i * 2 ^ (64 - m)) := numA_w (by omega) hi
  have hz : W64 0 := W64.mk (by decide)
  obtain ⟨v, b, h1, h2, h3⟩ := H.2 i hi
  rw [List.take_of_length_le (Nat.le_refl _)] at h3
  have hsome := dir_some hgN ha hz hm
  rcases h3 with ⟨⟨r, hr, h4, h5⟩, rfl⟩ | ⟨h4, rfl, rfl⟩
  · obtain ⟨-, h6, h7⟩ := (mem_setS _ _ _ _).1 hr
    obtain ⟨k1, k2, k3⟩ := key_n (low := -1) (high := (m : Int)) (i := (sortR L).length) hgN (by rw [List.take_of_length_le (Nat.le_refl _)]; exact h6)
    have hk : r.k = cutK (i * 2 ^ (64 - m)) 0 m := by
      rw [← h4, ← cut_num k2.2 hm]
      obtain ⟨-, -, q1, q2⟩ := (rightB_iff _ _ _).1 k3
      rw [Int.toNat_natCast] at q1 q2
      unfold cutK
      rw [q1, q2, ← k1]
    rw [hk] at h6 h7
    refine ⟨?_, ?_⟩
    · rw [h1, ← h5, h7]
      rfl
    · rw [h2]
      unfold dirK
      rw [hsome.2 h6]
  · have hno : dirK L (i * 2 ^ (64 - m)) 0 m = none := by
      unfold dirK
      cases e : hopK (sortR L) (-1) (cutK (i * 2 ^ (64 - m)) 0 m) with
      | none => rfl
      | some x =>
        have h6 := hsome.1 (by rw [e]; rfl)
        refine absurd ?_ (h4 ⟨cutK (i * 2 ^ (64 - m)) 0 m, hopV (sortR L) (-1) (cutK (i * 2 ^ (64 - m)) 0 m)⟩ ((mem_setS _ _ _ _).2 ⟨by omega, h6, rfl⟩))
        show numA (cutW _ m) m = i
        rw [num_cut, numA_at]
    unfold dirV
    rw [hno]
    exact ⟨h1, h2⟩
/-- What lies at the places of an array that is filled with L. -/
structure DirP (w : World) (K : Nat → Prop) (t m : Nat) (L : List Rt) : Prop where
  kt : K t
  lt : t < w.heap.size
  le : m ≤ 8
  bits : w.cell? ⟨t, 0, none⟩ = some (.int .i64 (m : Int))
  f : w.frozen? ⟨t, 1, none⟩ = false
  row : ∃ h, K h ∧ h < w.heap.size ∧ h ≠ t ∧ w.cell? ⟨t, 1, none⟩ = some (.slice (some ⟨h, 0, none⟩) (2 ^ m) (2 ^ m)) ∧
    ∀ i, i < 2 ^ m → w.cell? ⟨h, i * 2, none⟩ = some (.int .i64 (dirV L (i * 2 ^ (64 - m)) 0 m)) ∧ w.cell? ⟨h, i * 2 + 1, none⟩ = some (.bool (dirK L (i * 2 ^ (64 - m)) 0 m).isSome)
theorem DirP.touched {w w' : World} {K S : Nat → Prop} {t m : Nat} {L : List Rt} (H : DirP w K t m L) (ht : Touch S w w') (hn : ∀ g, K g → ¬ S g) : DirP w' K t m L := by
  obtain ⟨h, k1, k2, k3, k4, k5⟩ := H.row
  refine ⟨H.kt, Nat.lt_of_lt_of_le H.lt ht.size, H.le, ht.cell H.bits (hn _ H.kt), ?_, h, k1, Nat.lt_of_lt_of_le k2 ht.size, k3, ht.cell k4 (hn _ H.kt), fun i hi => ⟨ht.cell (k5 i hi).1 (hn _ k1), ht.cell (k5 i hi).2 (hn _ k1)⟩⟩
  rw [World.frozen?_of_block (ht.block t H.lt (hn _ H.kt))]
  exact H.f
end Go.Proofs.Ytcfioplbbbaeoaa
/-
  cover.between and cover.Hop: whether a route is of a level's lengths; the hop of a key. No condition but that the routes lie in memory, and their words are words.
-/
set_option linter.unusedSimpArgs false
set_option linter.unusedVariables false
namespace Go.Proofs.Ytcfioplbbbaeoaa
open Go Go.RowKit Go.Sort M

theorem between_any (kh kl : Nat) (kn v low high : Int) :
    Gives Try.prog 19 #[.agg #[.int .u64 (kh : Int), .int .u64 (kl : Int), .int .i64 kn, .int .i64 v], .int .i64 low, .int .i64 high] (.bool (decide (low < kn) && decide (kn ≤ high))) := by
  intro w
  by_cases h1 : low < kn
  · by_cases h2 : kn ≤ high
    · rw [decide_eq_true h1, decide_eq_true h2]
      go_enter Try.func19, Try.ntmps19
      go_wp2
      go_ret
      exact ⟨rfl, by go_grown⟩
    · rw [decide_eq_true h1, decide_eq_false h2]
      go_enter Try.func19, Try.ntmps19
      go_wp2
      go_ret
      exact ⟨rfl, by go_grown⟩
  · rw [decide_eq_false h1, Bool.false_and]
    go_enter Try.func19, Try.ntmps19
    go_wp2
    go_ret
    exact ⟨rfl, by go_grown⟩
theorem hop_step (N : List Rt) (c : Rt → Bool) (i : Nat) (h : i < N.length) : hopF c (N.take (i + 1)) = hopStep c (hopF c (N.take i)) N[i] := by
  rw [List.take_succ_eq_append_getElem h, hopF_snoc]
end Go.Proofs.Ytcfioplbbbaeoaa
/-
  A row of elements of k cells that is sorted by a test which may make blocks of its own: what is carried from call to call. No condition but those that stand in each.
-/
set_option linter.unusedSimpArgs false
set_option linter.unusedVariables false
namespace Go.Proofs.Ytcfioplbbbaeoaa
open Go.RowKit Go.Sort M

section
variable {α : Type} [Inhabited α] {enc : α → List Value} {k : Nat} {w0 W W' : World} {blk off n : Nat} {d d' : Array α} {lt : α → α → Bool} {g : Nat} {lb : Array Value} {sf : Nat} {sb : Array Value}
theorem holdsK_below (h : HoldsK enc k W blk off d) (hl : blk < W.heap.size) (hb : RowKit.Below W.heap.size W W') : HoldsK enc k W' blk off d := by
  intro j hj
  obtain ⟨h1, h2⟩ := h j hj
  exact ⟨(hb.cell (p := ⟨blk, off + j, none⟩) hl).trans h1, (hb.frozen (p := ⟨blk, off + j, none⟩) hl).trans h2⟩
/-- The row at block blk holds d; of what was there in w0 nothing else has turned. -/
structure Srt (enc : α → List Value) (k : Nat) (w0 : World) (blk off n : Nat) (d : Array α) (W : World) : Prop where
  size : d.size = n
  holds : HoldsK enc k W blk off d
  touch : Touch (· = blk) w0 W
  lt : blk < w0.heap.size
theorem Srt.lt2 (S : Srt enc k w0 blk off n d W) : blk < W.heap.size := Nat.lt_of_lt_of_le S.lt S.touch.size
theorem Srt.below (S : Srt enc k w0 blk off n d W) (hb : RowKit.Below W.heap.size W W') : Srt enc k w0 blk off n d W' := ⟨S.size, holdsK_below S.holds S.lt2 hb, S.touch.trans (.quiet hb), S.lt⟩
theorem Srt.start (h : HoldsK enc k W blk off d) (hl : blk < W.heap.size) (hn : d.size = n) : Srt enc k W blk off n d W := ⟨hn, h, Touch.refl _ _, hl⟩
/-- Another world ahead of it may be taken for the first one. -/
theorem Srt.since (S : Srt enc k w0 blk off n d W) (T : Srt enc k W blk off n d' W') : Srt enc k w0 blk off n d' W' := ⟨T.size, T.holds, S.touch.trans T.touch, S.lt⟩
/-- What is asked of the test. -/
def LessB (g : Nat) (lb : Array Value) (enc : α → List Value) (k : Nat) (lt : α → α → Bool) (w0 : World) (blk off n : Nat) : Prop :=
  ∀ (W : World) (d : Array α), Srt enc k w0 blk off n d W → ∀ i j : Nat, i < n → j < n → Calls Try.prog g (#[.int .i64 (i : Int), .int .i64 (j : Int)] ++ lb) W fun e w' => e = .returned (.bool (lt d[i]! d[j]!)) ∧ RowKit.Below W.heap.size W w'
theorem Srt.less (S : Srt enc k w0 blk off n d W) (hL : LessB g lb enc k lt w0 blk off n) (x y : Int) (i j : Nat) (hi : i < n) (hj : j < n) (hx : (i : Int) = x) (hy : (j : Int) = y) :
    Calls Try.prog g (#[.int .i64 x, .int .i64 y] ++ lb) W fun e w' => e = .returned (.bool (lt d[i]! d[j]!)) ∧ Srt enc k w0 blk off n d w' ∧ Touch (· = blk) W w' := by
  subst hx hy
  exact (hL W d S i j hi hj).mono fun _ _ ⟨he, hb⟩ => ⟨he, S.below hb, .quiet hb⟩
theorem putRowK_touch (W : World) (d : Array α) : Touch (· = blk) W (putRowK enc k W blk off d) := by
  refine ⟨rfl, rfl, rfl, Nat.le_of_eq (size_putRowK enc k W blk off d).symm, fun j hj hn => ?_⟩
  show (W.heap.modify blk _)[j]? = W.heap[j]?
  rw [Array.getElem?_modify, if_neg (fun e => hn e.symm)]
theorem Srt.swap (S : Srt enc k w0 blk off n d W) (hS : SwapSwapsK Try.prog sf sb enc k blk off n) (hk : ∀ x, (enc x).length = k) (x y : Int) (i j : Nat) (hi : i < n) (hj : j < n) (hx : (i : Int) = x) (hy : (j : Int) = y) :
    ∃ w', (callFunc sf (#[.int .i64 x, .int .i64 y] ++ sb)).run Try.prog W = .ok (.value (.tuple #[])) w' ∧ Srt enc k w0 blk off n (swp d i j) w' ∧ Touch (· = blk) W w' := by
  subst hx hy
  have hs := S.size
  have h := hS W d S.holds S.size i j hi hj
  have e := putRowK_swp enc k hk W blk off d i j (by omega) (by omega)
  rw [putRowK_self enc k W blk off d S.holds] at e
  rw [e] at h
  exact ⟨_, h, ⟨by rw [size_swp]; exact S.size, holdsK_putRowK enc k W blk off d _ S.holds (size_swp _ _ _), S.touch.trans (putRowK_touch W _), S.lt⟩, putRowK_touch W _⟩
/-- A box of two cells in a block of its own. -/
structure Bxd (x y : Value) (B blk : Nat) (W : World) : Prop where
  c0 : W.cell? ⟨B, 0, none⟩ = some x
  c1 : W.cell? ⟨B, 1, none⟩ = some y
  lt : B < W.heap.size
  ne : B ≠ blk
theorem Bxd.touch {x y : Value} {B : Nat} (h : Bxd x y B blk W) (t : Touch (· = blk) W W') : Bxd x y B blk W' := ⟨t.cell h.c0 h.ne, t.cell h.c1 h.ne, Nat.lt_of_lt_of_le h.lt t.size, h.ne⟩
/-- What is carried in a function of the sort: its own box at block W.heap.size, the row, and that nothing else turned. -/
structure Srd (enc : α → List Value) (k : Nat) (w0 : World) (blk off n : Nat) (x y : Value) (W : World) (d : Array α) (wr : World) : Prop where
  srt : Srt enc k w0 blk off n d wr
  touch : Touch (· = blk) W wr
  box : Bxd x y W.heap.size blk wr
theorem Srd.start {x y : Value} (S : Srt enc k w0 blk off n d W) (t : TypeId) : Srd enc k w0 blk off n x y W d (W.alloc (.cells #[x, y] t)) := by
  have hb : RowKit.Below W.heap.size W (W.alloc (.cells #[x, y] t)) := by go_grown
  have hl := S.lt2
  exact ⟨S.below hb, .quiet hb, ⟨by simp, by simp, by simp, by omega⟩⟩
theorem Srd.next {x y : Value} {wr : World} (R : Srd enc k w0 blk off n x y W d wr) (S : Srt enc k w0 blk off n d' W') (t : Touch (· = blk) wr W') : Srd enc k w0 blk off n x y W d' W' := ⟨S, R.touch.trans t, R.box.touch t⟩
end
end Go.Proofs.Ytcfioplbbbaeoaa
