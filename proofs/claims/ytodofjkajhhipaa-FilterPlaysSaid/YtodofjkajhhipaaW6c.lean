/-
  What the reference's row of places hands back: a new row of numbers. No condition but that the words are words of 64 bits, and that the count of places is a whole number of 64 bits.
-/
import Derived.Test.YtodofjkajhhipaaW6
set_option linter.unusedSimpArgs false
set_option linter.unusedVariables false
namespace Go.Proofs.Ytodofjkajhhipaa
open Go.RowKit Go.Sort M

/-- Number i of a hash's places, of m. -/
def placeI (h : Nat) (m : Int) (i : Nat) : Int := redI ((h + i * (mixN h ||| 1)) % 18446744073709551616) m
def placesK (h : Nat) (m : Int) (k : Nat) : List Int := (List.range k).map (placeI h m)
theorem placesK_len (h : Nat) (m : Int) (k : Nat) : (placesK h m k).length = k := by simp [placesK]
theorem placesK_succ (h : Nat) (m : Int) (k : Nat) : placesK h m (k + 1) = placesK h m k ++ [placeI h m k] := by simp [placesK, List.range_succ]
theorem placeI_nonneg (h : Nat) (m : Int) (i : Nat) : 0 ≤ placeI h m i := redI_nonneg _ _
theorem placeI_lt (h : Nat) (m : Int) (i : Nat) (hm : 1 ≤ m) : placeI h m i < m := redI_lt (W64.mk (Nat.mod_lt _ (by decide))) hm
/-- The places of a hash: k (at most 16) of m. -/
def placesI (h : Nat) (k m : Int) : List Int := if m < 1 then [] else placesK h m (min k.toNat 16)
theorem placesI_none {h : Nat} {k m : Int} (hm : m < 1) : placesI h k m = [] := if_pos hm
theorem placesI_few {h : Nat} {k m : Int} (hk : k < 1) : placesI h k m = [] := by
  unfold placesI
  split
  · rfl
  · rw [show k.toNat = 0 by omega]; rfl
theorem placesI_some {h : Nat} {k m : Int} (hm : ¬ m < 1) : placesI h k m = placesK h m (min k.toNat 16) := if_neg hm
theorem or_one (x : Nat) (h : W64 x) : bits BinOp.or IntKind.u64 (x : Int) 1 = ((x ||| 1 : Nat) : Int) := bits_or_u64_nat x 1 h.lt (by omega)
theorem or_one_w (x : Nat) (h : W64 x) : W64 (x ||| 1) := Nat.or_lt_two_pow h (by decide)
theorem mix_at (h : Nat) (w : W64 h) : Gives Try.prog 34 #[.int .u64 (h : Int)] (.int .u64 (mixN h : Nat)) := by
  have := rmix_any (h : Int)
  rwa [mixZ_nat h w] at this
theorem cap16_any (k : Int) (w : World) : Calls Try.prog 35 #[.int .i64 k, .int .i64 0, .int .i64 16] w fun e w' => e = .returned (.int .i64 (min k.toNat 16 : Nat)) ∧ w = w' := by
  by_cases h1 : k < 0
  · go_enter Try.func35, Try.ntmps35
    go_wp2
    go_ret
    exact ⟨ret_num (by omega), rfl⟩
  · by_cases h2 : 16 < k
    · go_enter Try.func35, Try.ntmps35
      go_wp2
      go_ret
      exact ⟨ret_num (by omega), rfl⟩
    · go_enter Try.func35, Try.ntmps35
      go_wp2
      go_ret
      exact ⟨ret_num (by omega), rfl⟩
theorem place_word (h g j : Nat) (hh : W64 h) (hg : W64 g) : IntKind.u64.wrap ((h : Int) + IntKind.u64.wrap ((j : Int) * (g : Int))) = (((h + j * g) % 18446744073709551616 : Nat) : Int) := by
  rw [mulC, IntKind.wrap_u64, IntKind.wrap_u64]
  omega

set_option maxHeartbeats 1000000 in
theorem rplaces_any (s h l : Nat) (n k m : Int) (hs : W64 s) (hh : W64 h) (hl : W64 l) (hm : m ≤ 9223372036854775807) :
    GivesInts 22 #[.int .u64 s, .agg #[.int .u64 h, .int .u64 l, .int .i64 n], .int .i64 k, .int .i64 m] (placesI (hashN s h l (wordZ n)) k m) := by
  intro w
  by_cases h1 : m < 1
  · rw [placesI_none h1]
    go_enter Try.func22, Try.ntmps22
    go_wp2
    go_ret
    exact ⟨none, 0, rfl, World.ownsRow_nil _ _ _ _, by go_grown⟩
  · rw [placesI_some h1]
    have HH := Lib.hid (rhash_any s h l n hs hh hl)
    have hw : W64 (hashN s h l (wordZ n)) := mixN_w _
    generalize hashN s h l (wordZ n) = v at HH hw ⊢
    have HM := Lib.hid (mix_at v hw)
    have HO := Lib.hid (or_one (mixN v) (mixN_w _))
    have HG := Lib.hid (or_one_w (mixN v) (mixN_w _))
    have HC := Lib.hid (cap16_any k)
    obtain ⟨c, hc⟩ : ∃ c, c = min k.toNat 16 := ⟨_, rfl⟩
    have hc16 : c ≤ 16 := by omega
    rw [← hc] at HC ⊢
    clear hc
    obtain ⟨i0, hi0, iz0, iz1, iz2⟩ := info_parts infoI
    go_enter Try.func22, Try.ntmps22
    go_wp2_with fail
    refine (HH.out _).mono ?_
    rintro e0 w0 ⟨rfl, hb0⟩
    have hw0 : Below w.heap.size w w0 := by
      refine Below.trans ?_ (hb0.mono ?_)
      · go_grown
      · go_size
    go_wp2_with fail
    refine (HM.out _).mono ?_
    rintro e w1 ⟨rfl, hb1⟩
    have hw1 := hw0.trans (hb1.mono hw0.size)
    clear hb0 hb1 hw0
    go_wp2_with (first | rw [HO.out] | fail)
    go_loopw [11, 12] (fun o i wr => ∃ (j : Nat), j ≤ c ∧ i = .int .i64 j ∧ wr.ownsRow w.heap.size 3 1 o j (ics (placesK v m j)) ∧ Below w.heap.size w wr) (fun _ i _ => c - (intOf i).toNat)
    case atStart => exact ⟨0, Nat.zero_le _, rfl, World.ownsRow_nil _ _ _ _, hw1⟩
    case round =>
      clear hw1
      obtain ⟨j, hj, rfl, hown, hw1⟩ := hrel
      have hz1 := hw1.size
      by_cases hlt : j < c
      · have hr := rred_any ((v + j * (mixN v ||| 1)) % 18446744073709551616) m (W64.mk (Nat.mod_lt _ (by decide))) hm
        rw [← place_word v (mixN v ||| 1) j hw HG.out] at hr
        have HR : Hid (Gives Try.prog 36 _ (.int .i64 (placeI v m j))) := Lib.hid hr
        clear hr
        go_wp2_with (go_at_call 35; refine (HC.out _).mono ?_; rintro e w' ⟨rfl, rfl⟩)
        refine (HR.out _).mono ?_
        rintro e w2 ⟨rfl, hb2⟩
        have hown2 := own_below hown hb2
        have hw2 := hw1.trans (hb2.mono hz1)
        have hz2 := hw2.size
        clear hown hb2 hw1 hz1
        go_wp2_with (at_builtin; go_loud (refine wpList_append_own _ rfl (.tmp 27) (.tmp 36) 42 rfl w.heap.size 3 i0 _ 1 8 Try.underlying42 hi0 iz0 iz1 iz2 rfl (by decide) _ _ _ rfl (hown2.alloc _) ⟨w2.heap.size, 0, none⟩ 1 1 [.int .i64 (placeI v m j)] rfl rfl (one_new (by simp [go_sem])) (by simp [Value.oneCell']) (by unfold maxLen; omega) (by omega) (by simp; omega) ?_))
        intro v3 w3 hown3 hg3 _
        have hown4 : w3.ownsRow w.heap.size 3 1 v3 (j + 1) (ics (placesK v m (j + 1))) := by rw [placesK_succ, ics_append]; exact hown3
        have hw3 : Below w.heap.size w w3 := (hw2.alloc hw2.size _).grown hg3 (by have := hw2.size; simp; omega) (fun j hj => (hown2.lt j hj).1)
        clear hown3 hg3 hown2 hw2
        go_wp2
        go_roundw
        case rel => exact ⟨j + 1, by omega, by go_num, hown4, hw3⟩
        case measure => simp [intOf]; omega
      · obtain rfl : j = c := by omega
        go_wp2_with (go_at_call 35; refine (HC.out _).mono ?_; rintro e w' ⟨rfl, rfl⟩)
        go_ret
        obtain ⟨p, q, rfl⟩ := own_slice hown
        refine ⟨p, q, ?_, ?_, hw1⟩
        · rw [placesK_len]; rfl
        · rw [placesK_len]; exact hown
end Go.Proofs.Ytodofjkajhhipaa
