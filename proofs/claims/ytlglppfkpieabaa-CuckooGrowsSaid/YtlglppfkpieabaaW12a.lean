/-
  What the small calls of a table hand back: none, two, other, Len, Size. No condition but that its cells lie in memory, that it has from one to 65536 buckets, and that words are words of 64 bits.
-/
import Derived.Test.YtlglppfkpieabaaCT
import Derived.Test.YtlglppfkpieabaaW6b
set_option linter.unusedSimpArgs false
set_option linter.unusedVariables false
namespace Go.Proofs.Ytlglppfkpieabaa
open Go.RowKit Go.Sort M

/-- What a walk asks of a table's numbers. -/
structure Num (T : Tab) : Prop where
  lo : 1 ≤ T.B.length
  hi : T.B.length ≤ 65536
  word : W64 T.s
theorem Inv.num {T : Tab} (H : Inv T) : Num T := ⟨H.lo, H.hi, H.word⟩
theorem Num.x1_lt {T : Tab} (H : Num T) (k : Ky) : T.x1 k < T.B.length := b1_lt H.lo
theorem Num.x2_lt {T : Tab} (H : Num T) (k : Ky) : T.x2 k < T.B.length := b2_lt H.lo
theorem Num.set {T : Tab} (H : Num T) (i : Nat) (C : List Pl) : Num (T.set i C) := ⟨by rw [set_len]; exact H.lo, by rw [set_len]; exact H.hi, H.word⟩
set_option maxRecDepth 100000 in
set_option maxHeartbeats 1000000 in
theorem none_any (t g : Nat) (v : Value) (T : Tab) (m : Int) (w : World) (H : CT w t g v T m) (h : Num T) :
    Calls Try.prog 27 #[.pointer (some ⟨t, 0, none⟩)] w fun e w' => e = .returned (.bool false) ∧ Below w.heap.size w w' := by
  have c1 := H.tb.c1
  have hl := H.tb.tlt
  have h1 := h.lo
  generalize T.B.length = n at *
  have hn : ((n : Int) == 0) = false := by simp; omega
  clear H h
  go_enter Try.func27, Try.ntmps27
  go_wp2
  go_ret
  exact ⟨rfl, by go_grown⟩
set_option maxRecDepth 100000 in
set_option maxHeartbeats 1000000 in
theorem two_any (t g : Nat) (v : Value) (T : Tab) (m : Int) (k : Ky) (w : World) (H : CT w t g v T m) (h : Num T) (hk : k.good) :
    Calls Try.prog 28 #[.pointer (some ⟨t, 0, none⟩), kyV k] w fun e w' => e = .returned (.tuple #[.int .i64 (T.x1 k : Int), .int .i64 (T.x2 k : Int)]) ∧ Below w.heap.size w w' := by
  have c0 := H.tb.c0
  have c1 := H.tb.c1
  have hl := H.tb.tlt
  have hB := buck_any T.s k.h k.l k.n (T.B.length : Int) h.word hk.1 hk.2 (by have := h.hi; omega)
  rw [b1_int h.lo, b2_int h.lo] at hB
  change Gives _ _ _ (.tuple #[.int .i64 (T.x1 k : Int), .int .i64 (T.x2 k : Int)]) at hB
  have HB := Lib.hid hB
  generalize T.x1 k = x1 at *
  generalize T.x2 k = x2 at *
  clear H h hB
  unfold kyV
  go_enter Try.func28, Try.ntmps28
  go_wp2_with fail
  have kg := cell_grow
  refine region_whole (by kernel_rfl) (by kernel_rfl) ?_
  repeat (any_goals (first | go_big_quiet_step ((exact HB.out.at _ _ _)) | quiet_step ((exact HB.out.at _ _ _))))
  refine wpQuiet_nil ?_
  clear kg
  intro w1 hb1
  obtain ⟨hc1, hf1⟩ := bcell hb1
  have hw1 : Below w.heap.size w w1 := by
    refine Below.trans ?_ (hb1.mono ?_)
    · go_grown
    · first | omega | go_size
  go_wp2
  go_ret2
  exact ⟨rfl, hw1⟩
set_option maxRecDepth 100000 in
set_option maxHeartbeats 1000000 in
theorem other_any (t g : Nat) (v : Value) (T : Tab) (m : Int) (k : Ky) (b : Nat) (w : World) (H : CT w t g v T m) (h : Num T) (hk : k.good) :
    Calls Try.prog 60 #[.pointer (some ⟨t, 0, none⟩), kyV k, .int .i64 (b : Int)] w fun e w' => e = .returned (.int .i64 (T.other k b : Int)) ∧ Below w.heap.size w w' := by
  have HT := Lib.hid (fun w H => two_any t g v T m k w H h hk)
  have HH := Lib.hid H
  have HE : Hid (T.other k b = if b = T.x1 k then T.x2 k else T.x1 k) := rfl
  generalize T.x1 k = x1 at *
  generalize T.x2 k = x2 at *
  generalize T.other k b = o at *
  clear H h
  unfold kyV at *
  by_cases hb : b = x1
  · subst hb
    have hE := HE.out
    rw [if_pos rfl] at hE
    subst hE
    clear HE
    go_enter Try.func60, Try.ntmps60
    go_wp2_with fail
    refine (HT.out _ (HH.out.below (by go_grown))).mono ?_
    rintro e w1 ⟨rfl, hb1⟩
    have hw1 : Below w.heap.size w w1 := Below.trans (by go_grown) (hb1.mono (by go_size))
    clear hb1
    go_wp2
    go_ret
    exact ⟨rfl, hw1⟩
  · have hE := HE.out
    rw [if_neg hb] at hE
    subst hE
    have hbi : ((b : Int) == (o : Int)) = false := by simp; omega
    clear HE hb
    go_enter Try.func60, Try.ntmps60
    go_wp2_with fail
    refine (HT.out _ (HH.out.below (by go_grown))).mono ?_
    rintro e w1 ⟨rfl, hb1⟩
    have hw1 : Below w.heap.size w w1 := Below.trans (by go_grown) (hb1.mono (by go_size))
    clear hb1
    go_wp2
    go_ret
    exact ⟨rfl, hw1⟩
set_option maxRecDepth 100000 in
set_option maxHeartbeats 1000000 in
theorem len12_any (t g : Nat) (v : Value) (T : Tab) (m : Int) (w : World) (H : CT w t g v T m) :
    Calls Try.prog 20 #[.pointer (some ⟨t, 0, none⟩)] w fun e w' => e = .returned (.int .i64 m) ∧ Below w.heap.size w w' := by
  have c3 := H.c3
  have hl := H.tb.tlt
  clear H
  go_enter Try.func20, Try.ntmps20
  go_wp2
  go_ret
  exact ⟨rfl, by go_grown⟩
set_option maxRecDepth 100000 in
set_option maxHeartbeats 1000000 in
theorem size12_any (t g : Nat) (v : Value) (T : Tab) (m : Int) (w : World) (H : CT w t g v T m) :
    Calls Try.prog 15 #[.pointer (some ⟨t, 0, none⟩)] w fun e w' => e = .returned (.tuple #[.int .u64 (T.s : Int), .int .i64 (T.B.length : Int), .int .i64 (T.st.length : Int)]) ∧ Below w.heap.size w w' := by
  have c0 := H.tb.c0
  have c1 := H.tb.c1
  obtain ⟨p, c, rfl⟩ := own_slice H.tb.own
  have c2 := H.tb.c2
  have hl := H.tb.tlt
  clear H
  go_enter Try.func15, Try.ntmps15
  go_wp2_with fail
  have kg := cell_grow
  refine region_whole (by kernel_rfl) (by kernel_rfl) ?_
  repeat (any_goals (first | go_big_quiet_step (fail) | quiet_step (fail)))
  refine wpQuiet_nil ?_
  clear kg
  intro w1 hb1
  obtain ⟨hc1, hf1⟩ := bcell hb1
  have hw1 : Below w.heap.size w w1 := by
    refine Below.trans ?_ (hb1.mono ?_)
    · go_grown
    · first | omega | go_size
  go_wp2
  go_ret3
  exact ⟨rfl, hw1⟩
end Go.Proofs.Ytlglppfkpieabaa
