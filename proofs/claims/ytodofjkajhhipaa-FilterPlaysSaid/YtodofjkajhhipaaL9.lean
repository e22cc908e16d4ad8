/-
  The given laws of chapter 9 as walks: the example; keys as cells; what a filter holds behind a row of keys. No condition.
-/
import Derived.Test.YtodofjkajhhipaaFil2
import Derived.Test.YtodofjkajhhipaaFil2b
import Derived.Test.YtodofjkajhhipaaFil2c
import Derived.Test.YtodofjkajhhipaaFil2d
import Derived.Test.YtodofjkajhhipaaSlice
set_option linter.unusedSimpArgs false
set_option linter.unusedVariables false
namespace Go.Proofs.Ytodofjkajhhipaa
open Go.RowKit Go.Sort M

/-- A key: the two words of its address, and its length. -/
abbrev Key := Nat × Nat × Int
def key9 (a : Key) : List Value := [.int .u64 (a.1 : Int), .int .u64 (a.2.1 : Int), .int .i64 a.2.2]
def Good9 (a : Key) : Prop := W64 a.1 ∧ W64 a.2.1
/-- A key's places; those of a row of keys, in their order. -/
def plk (s : Nat) (k : Int) (m : Nat) (a : Key) : List Int := plc s a.1 a.2.1 a.2.2 k m
def flat (s : Nat) (k : Int) (m : Nat) (T : List Key) : List Int := T.flatMap (plk s k m)
theorem flat_nil (s : Nat) (k : Int) (m : Nat) : flat s k m [] = [] := rfl
theorem flat_snoc (s : Nat) (k : Int) (m : Nat) (T : List Key) (i : Nat) (h : i < T.length) : flat s k m (T.take (i + 1)) = flat s k m (T.take i) ++ plk s k m T[i] := by
  unfold flat
  rw [List.take_succ_eq_append_getElem h, List.flatMap_append]
  simp
theorem flat_all (s : Nat) (k : Int) (m : Nat) (T : List Key) (i : Nat) (h : T.length ≤ i) : flat s k m (T.take i) = flat s k m T := by rw [List.take_of_length_le h]
theorem flat_rev (s : Nat) (k : Int) (m : Nat) (T : List Key) (x : Int) : (flat s k m T.reverse).count x = (flat s k m T).count x := by
  unfold flat
  rw [List.count_flatMap, List.count_flatMap]
  exact List.Perm.sum_nat ((List.reverse_perm T).map _)
theorem flat_mem (s : Nat) (k : Int) (m : Nat) (T : List Key) (i : Nat) (h : i < T.length) (x : Int) (hx : x ∈ plk s k m T[i]) : x ∈ flat s k m T := List.mem_flatMap.2 ⟨T[i], List.getElem_mem h, hx⟩
theorem plk_in (s : Nat) (k : Int) (m : Nat) (a : Key) (i : Nat) (h : i < (plk s k m a).length) : 0 ≤ (plk s k m a)[i] ∧ (plk s k m a)[i] < (m : Int) := plc_in s a.1 a.2.1 a.2.2 k m i h
theorem remL_append (C : List Nat) (A B : List Int) : remL (remL C A) B = remL C (A ++ B) := by
  unfold remL
  rw [List.foldl_append]
/-- Key number i of a row of keys that came in. -/
theorem RowA.key {w : World} {p : Option Addr} {T : List Key} (h : RowA 3 key9 w p T) {i : Nat} (hi : i < T.length) : ∃ g o, p = some ⟨g, o, none⟩ ∧ g < w.heap.size ∧
    w.cell? ⟨g, o + i * 3, none⟩ = some (.int .u64 (T[i].1 : Int)) ∧ w.cell? ⟨g, o + i * 3 + 1, none⟩ = some (.int .u64 (T[i].2.1 : Int)) ∧ w.cell? ⟨g, o + i * 3 + 2, none⟩ = some (.int .i64 T[i].2.2) := by
  obtain ⟨g, o, hp, hg, hc⟩ := h.at hi
  exact ⟨g, o, hp, hg, hc 0 _ rfl, hc 1 _ rfl, hc 2 _ rfl⟩
/-- Add and Remove of a key, in the counters' own terms. -/
theorem tadd_any (lo hi f s : Nat) (k : Int) (m : Nat) (A : List Int) (h l : Nat) (n : Int) (w : World) (H : Fil w lo hi f s k (tally m A)) (ga : Good9 (h, l, n)) :
    Calls Try.prog 11 #[.pointer (some ⟨f, 0, none⟩), .agg #[.int .u64 h, .int .u64 l, .int .i64 n]] w fun e w' => e = .returned (.tuple #[]) ∧
      Fil w' lo hi f s k (tally m (A ++ plk s k m (h, l, n))) ∧ Touch (In lo hi) w w' := by
  have := fadd_any lo hi f s k (tally m A) h l n w H ga.1 ga.2
  rw [tally_len, addL_tally] at this
  exact this
theorem trem_any (lo hi f s : Nat) (k : Int) (C : List Nat) (m : Nat) (hC : C.length = m) (T : List Int) (h l : Nat) (n : Int) (w : World) (H : Fil w lo hi f s k (remL C T)) (ga : Good9 (h, l, n)) :
    Calls Try.prog 12 #[.pointer (some ⟨f, 0, none⟩), .agg #[.int .u64 h, .int .u64 l, .int .i64 n]] w fun e w' => e = .returned (.tuple #[]) ∧
      Fil w' lo hi f s k (remL C (T ++ plk s k m (h, l, n))) ∧ Touch (In lo hi) w w' := by
  have := frem_any lo hi f s k (remL C T) h l n w H ga.1 ga.2
  rw [remL_len, hC, remL_append] at this
  exact this
theorem tmay_any (lo hi f s : Nat) (k : Int) (C : List Nat) (m : Nat) (hC : C.length = m) (hm : 1 ≤ m) (h l : Nat) (n : Int) (w : World) (H : Fil w lo hi f s k C) (ga : Good9 (h, l, n)) :
    Calls Try.prog 15 #[.pointer (some ⟨f, 0, none⟩), .agg #[.int .u64 h, .int .u64 l, .int .i64 n]] w fun e w' => e = .returned (.bool (mayL C (plk s k m (h, l, n)))) ∧ Below w.heap.size w w' := by
  have := fmay_any lo hi f s k C h l n w H ga.1 ga.2 (by omega)
  rw [hC] at this
  exact this
theorem num_any (e : Int) : Gives Try.prog 10 #[.int .i64 e] (.int .i64 e) := by
  intro w
  go_enter Try.func10, Try.ntmps10
  go_wp2
  go_ret
  exact ⟨rfl, by go_grown⟩
theorem plc_two : (plc 1 0 0 3 2 9).length = 2 := by decide +kernel
theorem may_none (m : Nat) (L : List Int) (h : 0 < L.length) : mayL (List.replicate m 0) L = false := by
  refine mayL_no h ?_
  unfold getN
  split
  · rw [List.getD_eq_getElem?_getD, List.getElem?_replicate]
    split <;> rfl
  · rfl
theorem may_added (m : Nat) (L : List Int) (h : ∀ k (hk : k < L.length), 0 ≤ L[k] ∧ L[k] < (m : Int)) : mayL (addL (List.replicate m 0) L) L = true := by
  rw [tally_nil, addL_tally, List.nil_append]
  have := kept_may m L [] L h (fun k hk => List.getElem_mem hk)
  rwa [List.append_nil] at this
set_option maxHeartbeats 2000000 in
theorem alive9_any : Gives Try.prog 7 #[] (.bool true) := by
  intro w
  have HN1 := Lib.hid (num_any 1)
  have HN0 := Lib.hid (num_any 0)
  have hL := plc_two
  have hin := plc_in 1 0 0 3 2 9
  go_enter Try.func7, Try.ntmps7
  go_wp2_with fail
  refine (fnew_bad 1 0 9 (by decide) _).mono ?_
  rintro e w1 ⟨rfl, hw1⟩
  go_wp2_with fail
  refine (fnew_any 1 2 9 (W64.mk (by decide)) (by decide) (by decide) (by decide) (by decide) _).mono ?_
  rintro e w2 ⟨f, rfl, H2, hb2⟩
  have hw2 := hw1.trans (hb2.mono hw1.size)
  rw [show (9 : Int).toNat = 9 from rfl] at H2
  have hlo := hw1.size
  clear hb2 hw1
  go_wp2_with fail
  refine (HN1.out _).mono ?_
  rintro e w3 ⟨rfl, hb3⟩
  have hw3 := hw2.trans (hb3.mono hw2.size)
  have H3 := H2.below hb3
  clear hb3 H2 hw2
  go_wp2_with fail
  refine (HN0.out _).mono ?_
  rintro e w4 ⟨rfl, hb4⟩
  have hw4 := hw3.trans (hb4.mono hw3.size)
  have H4 := H3.below hb4
  clear hb4 H3 hw3
  go_wp2_with fail
  refine (fmay_any _ _ f 1 2 _ 0 0 3 _ H4 (W64.mk (by decide)) (W64.mk (by decide)) (by decide)).mono ?_
  rintro e w5 ⟨rfl, hb5⟩
  rw [List.length_replicate, may_none 9 _ (by rw [hL]; decide)]
  have H5 := H4.below hb5
  have hw5 := hw4.trans (hb5.mono hw4.size)
  clear hb5 H4 hw4
  go_wp2_with fail
  refine (fadd_any _ _ f 1 2 _ 0 0 3 _ H5 (W64.mk (by decide)) (W64.mk (by decide))).mono ?_
  rintro e w6 ⟨rfl, H6, ht6⟩
  rw [List.length_replicate] at H6
  have hw6 := hw5.trans (ht6.below hw5.size (fun k hk => Nat.le_trans hlo hk.1))
  clear ht6 H5 hw5
  go_wp2_with fail
  refine (fmay_any _ _ f 1 2 _ 0 0 3 _ H6 (W64.mk (by decide)) (W64.mk (by decide)) (by rw [addL_len]; decide)).mono ?_
  rintro e w7 ⟨rfl, hb7⟩
  rw [addL_len, List.length_replicate, may_added 9 _ hin]
  have H7 := H6.below hb7
  have hw7 := hw6.trans (hb7.mono hw6.size)
  clear hb7 H6 hw6
  go_wp2_with fail
  refine (flen_any _ _ f 1 2 _ _ H7).mono ?_
  rintro e w8 ⟨rfl, hb8⟩
  rw [addL_len, List.length_replicate]
  have hw8 := hw7.trans (hb8.mono hw7.size)
  go_wp2
  go_ret
  exact ⟨rfl, hw8⟩
end Go.Proofs.Ytodofjkajhhipaa
