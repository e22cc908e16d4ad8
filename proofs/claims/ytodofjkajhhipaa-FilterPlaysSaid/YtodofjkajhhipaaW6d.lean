/-
  What pick.Places hands back: a new row of numbers. No condition but that the words are words of 64 bits, and that the count of places is a whole number of 64 bits.
-/
import Derived.Test.YtodofjkajhhipaaW6b
import Derived.Test.YtodofjkajhhipaaW6c
import Derived.Test.YtodofjkajhhipaaRow
set_option linter.unusedSimpArgs false
set_option linter.unusedVariables false
namespace Go.Proofs.Ytodofjkajhhipaa
open Go.RowKit Go.Sort M

theorem pmix_at (h : Nat) (w : W64 h) : Gives Try.prog 44 #[.int .u64 (h : Int)] (.int .u64 (mixN h : Nat)) := by
  have := mix_any (h : Int)
  rwa [mixZ_nat h w] at this
theorem place_next (h g j : Nat) : IntKind.u64.wrap ((((h + j * g) % 18446744073709551616 : Nat) : Int) + (g : Int)) = (((h + (j + 1) * g) % 18446744073709551616 : Nat) : Int) := by
  rw [IntKind.wrap_u64, Nat.add_mul]
  omega
set_option maxHeartbeats 1000000 in
theorem places_any (s h l : Nat) (n k m : Int) (hs : W64 s) (hh : W64 h) (hl : W64 l) (hm : m ≤ 9223372036854775807) :
    GivesInts 37 #[.int .u64 s, .agg #[.int .u64 h, .int .u64 l, .int .i64 n], .int .i64 k, .int .i64 m] (placesI (hashN s h l (wordZ n)) k m) := by
  intro w
  by_cases h0 : k < 1
  · rw [placesI_few h0]
    go_enter Try.func37, Try.ntmps37
    go_wp2
    go_ret
    exact ⟨none, 0, rfl, World.ownsRow_nil _ _ _ _, by go_grown⟩
  · by_cases h1 : m < 1
    · rw [placesI_none h1]
      go_enter Try.func37, Try.ntmps37
      go_wp2
      go_ret
      exact ⟨none, 0, rfl, World.ownsRow_nil _ _ _ _, by go_grown⟩
    · rw [placesI_some h1]
      have HH := Lib.hid (hash_any s h l n hs hh hl)
      have hw : W64 (hashN s h l (wordZ n)) := mixN_w _
      generalize hashN s h l (wordZ n) = v at HH hw ⊢
      have HM := Lib.hid (pmix_at v hw)
      have HO := Lib.hid (or_one (mixN v) (mixN_w _))
      have HG := Lib.hid (or_one_w (mixN v) (mixN_w _))
      obtain ⟨c, hc⟩ : ∃ c, c = min k.toNat 16 := ⟨_, rfl⟩
      have hc16 : c ≤ 16 := by omega
      have hmk := make_row (P := Try.prog) (t := 42) Try.underlying42 infoI c (by omega) (by unfold maxLen; omega)
      rw [← hc]
      by_cases hk : k ≤ 16
      · have he : (c : Int) = k := by omega
        clear hc
        rw [he] at hmk
        clear he
        go_enter Try.func37, Try.ntmps37
        go_wp2_with fail
        refine (HH.out _).mono ?_
        rintro e0 w0 ⟨rfl, hb0⟩
        have hw0 : Below w.heap.size w w0 := by
          refine Below.trans ?_ (hb0.mono ?_)
          · go_grown
          · go_size
        go_wp2_with fail
        refine (HM.out _).mono ?_
        rintro e w1 ⟨rfl, hb1⟩
        have hw1 := hw0.trans (hb1.mono hw0.size)
        have hz1 := hw1.size
        have hown0 : (w1.alloc (.cells (madeCells #[.int .i64 0] c) 3)).ownsRow w.heap.size 3 1 (.slice (some ⟨w1.heap.size, 0, none⟩) c c) c (madeCells #[.int .i64 0] c).toList :=
          World.ownsRow_lit _ _ c (by omega) (by unfold maxLen; omega) (by simp [madeCells])
        clear hb0 hb1 hw0
        go_wp2_with (first | rw [HO.out] | fail)
        go_loopw [9, 30] (fun at_ i wr => ∃ (j : Nat) (xs : List Value), j ≤ c ∧ i = .int .i64 j ∧ at_ = .int .u64 ((v + j * (mixN v ||| 1)) % 18446744073709551616 : Nat) ∧ wr.ownsRow w.heap.size 3 1 (.slice (some ⟨w1.heap.size, 0, none⟩) c c) c xs ∧ Hid (xs.take j = ics (placesK v m j)) ∧ Below w.heap.size w wr) (fun _ i _ => c - (intOf i).toNat)
        case atStart => exact ⟨0, _, Nat.zero_le _, rfl, by rw [Nat.zero_mul, Nat.add_zero, Nat.mod_eq_of_lt hw.lt], hown0, Lib.hid (by simp [ics, placesK]), by go_grown⟩
        case round =>
          clear hown0 hw1
          obtain ⟨j, xs, hj, rfl, rfl, hown, hxs, hw1⟩ := hrel
          have hz1 := hw1.size
          by_cases hlt : j < c
          · have hr := red_any ((v + j * (mixN v ||| 1)) % 18446744073709551616) m (W64.mk (Nat.mod_lt _ (by decide))) hm
            have HR : Hid (Gives Try.prog 45 #[.int .u64 ((v + j * (mixN v ||| 1)) % 18446744073709551616 : Nat), .int .i64 m] (.int .i64 (placeI v m j))) := Lib.hid hr
            have HN := Lib.hid (place_next v (mixN v ||| 1) j)
            clear hr
            generalize (v + j * (mixN v ||| 1)) % 18446744073709551616 = y at HR HN ⊢
            go_wp2_with fail
            refine (HR.out _).mono ?_
            rintro e w2 ⟨rfl, hb2⟩
            have hgz := (hown.lt w1.heap.size rfl).2
            have hgz2 : w1.heap.size < w2.heap.size := Nat.lt_of_lt_of_le hgz hb2.size
            have hown2 := own_below hown hb2
            have hw2 := hw1.trans (hb2.mono hz1)
            have hxl : xs.length = c := by have := hown2.1; omega
            obtain ⟨v0, d0⟩ : ∃ v, w2.cell? ⟨w1.heap.size, j, none⟩ = some v := ⟨_, (hown2.cellAt j (by omega)).trans (List.getElem?_eq_getElem (by omega))⟩
            have f0 := hown2.frozenAt j
            have HXL := Lib.hid hxl
            clear hown hb2 hw1 hz1 hxl
            go_wp2
            go_roundw
            case rel =>
              refine ⟨j + 1, _, by omega, by go_num, by rw [← HN.out], (hown2.stored j (.int .i64 (placeI v m j))).1, Lib.hid ?_, by go_grown⟩
              rw [set1_take _ _ _ (by rw [HXL.out]; exact hlt), hxs.out, placesK_succ, ics_append]
              rfl
            case measure => simp [intOf]; omega
          · obtain rfl : j = c := by omega
            go_wp2
            go_ret
            have hx := hxs.out
            rw [List.take_of_length_le (by rw [hown.1]; omega)] at hx
            subst hx
            refine ⟨some ⟨w1.heap.size, 0, none⟩, j, ?_, ?_, hw1⟩
            · rw [placesK_len]; rfl
            · rw [placesK_len]; exact hown
      · have he : (c : Int) = 16 := by omega
        clear hc
        rw [he] at hmk
        clear he
        go_enter Try.func37, Try.ntmps37
        go_wp2_with fail
        refine (HH.out _).mono ?_
        rintro e0 w0 ⟨rfl, hb0⟩
        have hw0 : Below w.heap.size w w0 := by
          refine Below.trans ?_ (hb0.mono ?_)
          · go_grown
          · go_size
        go_wp2_with fail
        refine (HM.out _).mono ?_
        rintro e w1 ⟨rfl, hb1⟩
        have hw1 := hw0.trans (hb1.mono hw0.size)
        have hz1 := hw1.size
        have hown0 : (w1.alloc (.cells (madeCells #[.int .i64 0] c) 3)).ownsRow w.heap.size 3 1 (.slice (some ⟨w1.heap.size, 0, none⟩) c c) c (madeCells #[.int .i64 0] c).toList :=
          World.ownsRow_lit _ _ c (by omega) (by unfold maxLen; omega) (by simp [madeCells])
        clear hb0 hb1 hw0
        go_wp2_with (first | rw [HO.out] | fail)
        go_loopw [9, 30] (fun at_ i wr => ∃ (j : Nat) (xs : List Value), j ≤ c ∧ i = .int .i64 j ∧ at_ = .int .u64 ((v + j * (mixN v ||| 1)) % 18446744073709551616 : Nat) ∧ wr.ownsRow w.heap.size 3 1 (.slice (some ⟨w1.heap.size, 0, none⟩) c c) c xs ∧ Hid (xs.take j = ics (placesK v m j)) ∧ Below w.heap.size w wr) (fun _ i _ => c - (intOf i).toNat)
        case atStart => exact ⟨0, _, Nat.zero_le _, rfl, by rw [Nat.zero_mul, Nat.add_zero, Nat.mod_eq_of_lt hw.lt], hown0, Lib.hid (by simp [ics, placesK]), by go_grown⟩
        case round =>
          clear hown0 hw1
          obtain ⟨j, xs, hj, rfl, rfl, hown, hxs, hw1⟩ := hrel
          have hz1 := hw1.size
          by_cases hlt : j < c
          · have hr := red_any ((v + j * (mixN v ||| 1)) % 18446744073709551616) m (W64.mk (Nat.mod_lt _ (by decide))) hm
            have HR : Hid (Gives Try.prog 45 #[.int .u64 ((v + j * (mixN v ||| 1)) % 18446744073709551616 : Nat), .int .i64 m] (.int .i64 (placeI v m j))) := Lib.hid hr
            have HN := Lib.hid (place_next v (mixN v ||| 1) j)
            clear hr
            generalize (v + j * (mixN v ||| 1)) % 18446744073709551616 = y at HR HN ⊢
            go_wp2_with fail
            refine (HR.out _).mono ?_
            rintro e w2 ⟨rfl, hb2⟩
            have hgz := (hown.lt w1.heap.size rfl).2
            have hgz2 : w1.heap.size < w2.heap.size := Nat.lt_of_lt_of_le hgz hb2.size
            have hown2 := own_below hown hb2
            have hw2 := hw1.trans (hb2.mono hz1)
            have hxl : xs.length = c := by have := hown2.1; omega
            obtain ⟨v0, d0⟩ : ∃ v, w2.cell? ⟨w1.heap.size, j, none⟩ = some v := ⟨_, (hown2.cellAt j (by omega)).trans (List.getElem?_eq_getElem (by omega))⟩
            have f0 := hown2.frozenAt j
            have HXL := Lib.hid hxl
            clear hown hb2 hw1 hz1 hxl
            go_wp2
            go_roundw
            case rel =>
              refine ⟨j + 1, _, by omega, by go_num, by rw [← HN.out], (hown2.stored j (.int .i64 (placeI v m j))).1, Lib.hid ?_, by go_grown⟩
              rw [set1_take _ _ _ (by rw [HXL.out]; exact hlt), hxs.out, placesK_succ, ics_append]
              rfl
            case measure => simp [intOf]; omega
          · obtain rfl : j = c := by omega
            go_wp2
            go_ret
            have hx := hxs.out
            rw [List.take_of_length_le (by rw [hown.1]; omega)] at hx
            subst hx
            refine ⟨some ⟨w1.heap.size, 0, none⟩, j, ?_, ?_, hw1⟩
            · rw [placesK_len]; rfl
            · rw [placesK_len]; exact hown
end Go.Proofs.Ytodofjkajhhipaa
