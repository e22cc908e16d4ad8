/-
  A counting filter in memory: its struct, its counters, its bits; what its calls hand back, and what is kept of it while other blocks are written. No condition but those that stand in each.
-/
import Derived.Test.YtoihkbanmnagkaaGreatShelf
import Derived.Test.YtoihkbanmnagkaaGreatGrown
/-
  What package pick hands back: the place of a number, the two buckets of a prefix. No condition but that the words are words of 64 bits, and that the count of places is a whole number of 64 bits.
-/
set_option linter.unusedSimpArgs false
set_option linter.unusedVariables false
namespace Go.Proofs.YtoihkbanmnagkaaGreat
open Go.RowKit Go.Sort M

theorem mul64_any (x y : Nat) (hx : W64 x) (hy : W64 y) : Gives Tryz.prog 130 #[.int .u64 x, .int .u64 y] (.tuple #[.int .u64 (redN x y : Nat), .int .u64 (x * y % 18446744073709551616 : Nat)]) :=
  Gives.still fun w => (Tryz.bits_Mul64 x y hx.lt hy.lt w).mono fun e w' ⟨he, hw⟩ => ⟨he, hw.symm⟩

set_option maxHeartbeats 1000000 in
theorem red_any (x : Nat) (m : Int) (hx : W64 x) (hm : m ≤ 9223372036854775807) :
    Gives Tryz.prog 108 #[.int .u64 x, .int .i64 m] (.int .i64 (redI x m)) := by
  intro w
  by_cases h : m < 1
  · rw [redI_none h]
    go_enter Tryz.func108, Tryz.ntmps108
    go_wp2
    go_ret
    exact ⟨rfl, by go_grown⟩
  · obtain ⟨k, rfl⟩ := Int.eq_ofNat_of_zero_le (show 0 ≤ m by omega)
    rw [redI_nat x k (by omega)]
    have hlt := redN_lt x k hx (by omega)
    have HM := Lib.hid (mul64_any x k hx (W64.mk (by omega)))
    have HL := Lib.hid (IntWalk.wrap64_in (redN x k : Nat) (by omega))
    clear hlt
    go_enter Tryz.func108, Tryz.ntmps108
    go_wp2_with fail
    refine (HM.out _).mono ?_
    rintro e0 w0 ⟨rfl, hb0⟩
    have hw0 : Below w.heap.size w w0 := by
      refine Below.trans ?_ (hb0.mono ?_)
      · go_grown
      · go_size
    go_wp2
    go_ret
    exact ⟨ret_num HL.out, hw0⟩
theorem mixx_any (h i : Nat) (hh : W64 h) (hi : W64 i) : Gives Tryz.prog 24 #[.int .u64 (bits BinOp.xor IntKind.u64 (h : Int) (i : Int))] (.int .u64 (mixN (h ^^^ i) : Nat)) := by
  have := mix_any (bits BinOp.xor IntKind.u64 (h : Int) (i : Int))
  rw [xor_word h i hh hi, mixZ_nat _ (Nat.xor_lt_two_pow hh hi)] at this
  rwa [xor_word h i hh hi]
set_option maxHeartbeats 1000000 in
theorem buck_any (s h l : Nat) (n m : Int) (hs : W64 s) (hh : W64 h) (hl : W64 l) (hm : m ≤ 9223372036854775807) :
    Gives Tryz.prog 89 #[.int .u64 s, .agg #[.int .u64 h, .int .u64 l, .int .i64 n], .int .i64 m] (.tuple #[.int .i64 (buckI (hashN s h l (wordZ n)) 1 m), .int .i64 (buckI (hashN s h l (wordZ n)) 2 m)]) := by
  intro w
  have HH := Lib.hid (hash_any s h l n hs hh hl)
  have hw : W64 (hashN s h l (wordZ n)) := mixN_w _
  generalize hashN s h l (wordZ n) = v at HH hw ⊢
  have HM1 := Lib.hid (mixx_any v 1 hw (W64.mk (by omega)))
  have HM2 := Lib.hid (mixx_any v 2 hw (W64.mk (by omega)))
  have HR1 := Lib.hid (red_any (mixN (v ^^^ 1)) m (mixN_w _) hm)
  have HR2 := Lib.hid (red_any (mixN (v ^^^ 2)) m (mixN_w _) hm)
  go_enter Tryz.func89, Tryz.ntmps89
  go_wp2_with fail
  refine (HH.out _).mono ?_
  rintro e0 w0 ⟨rfl, hb0⟩
  have hw0 : Below w.heap.size w w0 := by
    refine Below.trans ?_ (hb0.mono ?_)
    · go_grown
    · go_size
  go_wp2_with fail
  refine (HM1.out _).mono ?_
  rintro e w1 ⟨rfl, hb1⟩
  have hw1 := hw0.trans (hb1.mono hw0.size)
  go_wp2_with fail
  refine (HR1.out _).mono ?_
  rintro e w2 ⟨rfl, hb2⟩
  have hw2 := hw1.trans (hb2.mono hw1.size)
  go_wp2_with fail
  refine (HM2.out _).mono ?_
  rintro e w3 ⟨rfl, hb3⟩
  have hw3 := hw2.trans (hb3.mono hw2.size)
  go_wp2_with fail
  refine (HR2.out _).mono ?_
  rintro e w4 ⟨rfl, hb4⟩
  have hw4 := hw3.trans (hb4.mono hw3.size)
  go_wp2
  go_ret2
  exact ⟨rfl, hw4⟩
end Go.Proofs.YtoihkbanmnagkaaGreat
/-
  What the reference's row of places hands back: a new row of numbers. No condition but that the words are words of 64 bits, and that the count of places is a whole number of 64 bits.
-/
set_option linter.unusedSimpArgs false
set_option linter.unusedVariables false
namespace Go.Proofs.YtoihkbanmnagkaaGreat
open Go.RowKit Go.Sort M

def placeI (h : Nat) (m : Int) (i : Nat) : Int := redI ((h + i * (mixN h ||| 1)) % 18446744073709551616) m
def placesK (h : Nat) (m : Int) (k : Nat) : List Int := (List.range k).map (placeI h m)
theorem placesK_len (h : Nat) (m : Int) (k : Nat) : (placesK h m k).length = k := by simp [placesK]
theorem placesK_succ (h : Nat) (m : Int) (k : Nat) : placesK h m (k + 1) = placesK h m k ++ [placeI h m k] := by simp [placesK, List.range_succ]
theorem placeI_nonneg (h : Nat) (m : Int) (i : Nat) : 0 ≤ placeI h m i := redI_nonneg _ _
theorem placeI_lt (h : Nat) (m : Int) (i : Nat) (hm : 1 ≤ m) : placeI h m i < m := redI_lt (W64.mk (Nat.mod_lt _ (by decide))) hm
def placesI (h : Nat) (k m : Int) : List Int := if m < 1 then [] else placesK h m (min k.toNat 16)
theorem placesI_none {h : Nat} {k m : Int} (hm : m < 1) : placesI h k m = [] := if_pos hm
theorem placesI_few {h : Nat} {k m : Int} (hk : k < 1) : placesI h k m = [] := by
  unfold placesI
  split
  · rfl
  · rw [show k.toNat = 0 by omega]; rfl
theorem placesI_some {h : Nat} {k m : Int} (hm : ¬ m < 1) : placesI h k m = placesK h m (min k.toNat 16) := if_neg hm
theorem or_one (x : Nat) (h : W64 x) : bits BinOp.or IntKind.u64 (x : Int) 1 = ((x ||| 1 : Nat) : Int) := bits_or_u64_nat x 1 h.lt (by omega)
theorem or_one_w (x : Nat) (h : W64 x) : W64 (x ||| 1) := Nat.or_lt_two_pow h (by decide)
end Go.Proofs.YtoihkbanmnagkaaGreat
/-
  What pick.Places hands back: a new row of numbers. No condition but that the words are words of 64 bits, and that the count of places is a whole number of 64 bits.
-/
set_option linter.unusedSimpArgs false
set_option linter.unusedVariables false
namespace Go.Proofs.YtoihkbanmnagkaaGreat
open Go.RowKit Go.Sort M

theorem pmix_at (h : Nat) (w : W64 h) : Gives Tryz.prog 24 #[.int .u64 (h : Int)] (.int .u64 (mixN h : Nat)) := by
  have := mix_any (h : Int)
  rwa [mixZ_nat h w] at this
theorem place_next (h g j : Nat) : IntKind.u64.wrap ((((h + j * g) % 18446744073709551616 : Nat) : Int) + (g : Int)) = (((h + (j + 1) * g) % 18446744073709551616 : Nat) : Int) := by
  rw [IntKind.wrap_u64, Nat.add_mul]
  omega
set_option maxRecDepth 100000 in
set_option maxHeartbeats 1000000 in
theorem places_any (s h l : Nat) (n k m : Int) (hs : W64 s) (hh : W64 h) (hl : W64 l) (hm : m ≤ 9223372036854775807) :
    GivesInts 86 #[.int .u64 s, .agg #[.int .u64 h, .int .u64 l, .int .i64 n], .int .i64 k, .int .i64 m] (placesI (hashN s h l (wordZ n)) k m) := by
  intro w
  by_cases h0 : k < 1
  · rw [placesI_few h0]
    go_enter Tryz.func86, Tryz.ntmps86
    go_wp2
    go_ret
    exact ⟨none, 0, rfl, World.ownsRow_nil _ _ _ _, by go_grown⟩
  · by_cases h1 : m < 1
    · rw [placesI_none h1]
      go_enter Tryz.func86, Tryz.ntmps86
      go_wp2
      go_ret
      exact ⟨none, 0, rfl, World.ownsRow_nil _ _ _ _, by go_grown⟩
    · rw [placesI_some h1]
      have HH := Lib.hid (hash_any s h l n hs hh hl)
      have hw : W64 (hashN s h l (wordZ n)) := mixN_w _
      generalize hashN s h l (wordZ n) = v at HH hw ⊢
      have HM := Lib.hid (pmix_at v hw)
      have HO := Lib.hid (or_one (mixN v) (mixN_w _))
      have HG := Lib.hid (or_one_w (mixN v) (mixN_w _))
      obtain ⟨c, hc⟩ : ∃ c, c = min k.toNat 16 := ⟨_, rfl⟩
      have hc16 : c ≤ 16 := by omega
      have hmk := make_row (P := Tryz.prog) (t := 78) Tryz.underlying78 infoI c (by omega) (by unfold maxLen; omega)
      rw [← hc]
      by_cases hk : k ≤ 16
      · have he : (c : Int) = k := by omega
        have hmn : (c : Int) = min k 16 := by omega
        have hmk2 := hmk
        rw [hmn] at hmk2
        clear hc hmn
        rw [he] at hmk
        clear he
        go_enter Tryz.func86, Tryz.ntmps86
        go_wp2_with fail
        refine (HH.out _).mono ?_
        rintro e0 w0 ⟨rfl, hb0⟩
        have hw0 : Below w.heap.size w w0 := by
          refine Below.trans ?_ (hb0.mono ?_)
          · go_grown
          · go_size
        go_wp2_with fail
        refine (HM.out _).mono ?_
        rintro e w1 ⟨rfl, hb1⟩
        have hw1 := hw0.trans (hb1.mono hw0.size)
        have hz1 := hw1.size
        have hown0 : (w1.alloc (.cells (madeCells #[.int .i64 0] c) 3)).ownsRow w.heap.size 3 1 (.slice (some ⟨w1.heap.size, 0, none⟩) c c) c (madeCells #[.int .i64 0] c).toList :=
          World.ownsRow_lit _ _ c (by omega) (by unfold maxLen; omega) (by simp [madeCells])
        clear hb0 hb1 hw0
        go_wp2_with (first | rw [HO.out] | fail)
        go_loopw [9, 30] (fun at_ i wr => ∃ (j : Nat) (xs : List Value), j ≤ c ∧ i = .int .i64 j ∧ at_ = .int .u64 ((v + j * (mixN v ||| 1)) % 18446744073709551616 : Nat) ∧ wr.ownsRow w.heap.size 3 1 (.slice (some ⟨w1.heap.size, 0, none⟩) c c) c xs ∧ Hid (xs.take j = ics (placesK v m j)) ∧ Below w.heap.size w wr) (fun _ i _ => c - (intOf i).toNat)
        case atStart => exact ⟨0, _, Nat.zero_le _, rfl, by rw [Nat.zero_mul, Nat.add_zero, Nat.mod_eq_of_lt hw.lt], hown0, Lib.hid (by simp [ics, placesK]), by go_grown⟩
        case round =>
          clear hown0 hw1
          obtain ⟨j, xs, hj, rfl, rfl, hown, hxs, hw1⟩ := hrel
          have hz1 := hw1.size
          by_cases hlt : j < c
          · have hr := red_any ((v + j * (mixN v ||| 1)) % 18446744073709551616) m (W64.mk (Nat.mod_lt _ (by decide))) hm
            have HR : Hid (Gives Tryz.prog 108 #[.int .u64 ((v + j * (mixN v ||| 1)) % 18446744073709551616 : Nat), .int .i64 m] (.int .i64 (placeI v m j))) := Lib.hid hr
            have HN := Lib.hid (place_next v (mixN v ||| 1) j)
            clear hr
            generalize (v + j * (mixN v ||| 1)) % 18446744073709551616 = y at HR HN ⊢
            go_wp2_with fail
            refine (HR.out _).mono ?_
            rintro e w2 ⟨rfl, hb2⟩
            have hgz := (hown.lt w1.heap.size rfl).2
            have hgz2 : w1.heap.size < w2.heap.size := Nat.lt_of_lt_of_le hgz hb2.size
            have hown2 := own_below hown hb2
            have hw2 := hw1.trans (hb2.mono hz1)
            have hxl : xs.length = c := by have := hown2.1; omega
            obtain ⟨v0, d0⟩ : ∃ v, w2.cell? ⟨w1.heap.size, j, none⟩ = some v := ⟨_, (hown2.cellAt j (by omega)).trans (List.getElem?_eq_getElem (by omega))⟩
            have f0 := hown2.frozenAt j
            have HXL := Lib.hid hxl
            clear hown hb2 hw1 hz1 hxl
            go_wp2
            go_roundw
            case rel =>
              refine ⟨j + 1, _, by omega, by go_num, by rw [← HN.out], (hown2.stored j (.int .i64 (placeI v m j))).1, Lib.hid ?_, by go_grown⟩
              rw [set1_take _ _ _ (by rw [HXL.out]; exact hlt), hxs.out, placesK_succ, ics_append]
              rfl
            case measure => simp [intOf]; omega
          · obtain rfl : j = c := by omega
            go_wp2
            go_ret
            have hx := hxs.out
            rw [List.take_of_length_le (by rw [hown.1]; omega)] at hx
            subst hx
            refine ⟨some ⟨w1.heap.size, 0, none⟩, j, ?_, ?_, hw1⟩
            · rw [placesK_len]; rfl
            · rw [placesK_len]; exact hown
      · have he : (c : Int) = 16 := by omega
        have hmn : (c : Int) = min k 16 := by omega
        have hmk2 := hmk
        rw [hmn] at hmk2
        clear hc hmn
        rw [he] at hmk
        clear he
        go_enter Tryz.func86, Tryz.ntmps86
        go_wp2_with fail
        refine (HH.out _).mono ?_
        rintro e0 w0 ⟨rfl, hb0⟩
        have hw0 : Below w.heap.size w w0 := by
          refine Below.trans ?_ (hb0.mono ?_)
          · go_grown
          · go_size
        go_wp2_with fail
        refine (HM.out _).mono ?_
        rintro e w1 ⟨rfl, hb1⟩
        have hw1 := hw0.trans (hb1.mono hw0.size)
        have hz1 := hw1.size
        have hown0 : (w1.alloc (.cells (madeCells #[.int .i64 0] c) 3)).ownsRow w.heap.size 3 1 (.slice (some ⟨w1.heap.size, 0, none⟩) c c) c (madeCells #[.int .i64 0] c).toList :=
          World.ownsRow_lit _ _ c (by omega) (by unfold maxLen; omega) (by simp [madeCells])
        clear hb0 hb1 hw0
        go_wp2_with (first | rw [HO.out] | fail)
        go_loopw [9, 30] (fun at_ i wr => ∃ (j : Nat) (xs : List Value), j ≤ c ∧ i = .int .i64 j ∧ at_ = .int .u64 ((v + j * (mixN v ||| 1)) % 18446744073709551616 : Nat) ∧ wr.ownsRow w.heap.size 3 1 (.slice (some ⟨w1.heap.size, 0, none⟩) c c) c xs ∧ Hid (xs.take j = ics (placesK v m j)) ∧ Below w.heap.size w wr) (fun _ i _ => c - (intOf i).toNat)
        case atStart => exact ⟨0, _, Nat.zero_le _, rfl, by rw [Nat.zero_mul, Nat.add_zero, Nat.mod_eq_of_lt hw.lt], hown0, Lib.hid (by simp [ics, placesK]), by go_grown⟩
        case round =>
          clear hown0 hw1
          obtain ⟨j, xs, hj, rfl, rfl, hown, hxs, hw1⟩ := hrel
          have hz1 := hw1.size
          by_cases hlt : j < c
          · have hr := red_any ((v + j * (mixN v ||| 1)) % 18446744073709551616) m (W64.mk (Nat.mod_lt _ (by decide))) hm
            have HR : Hid (Gives Tryz.prog 108 #[.int .u64 ((v + j * (mixN v ||| 1)) % 18446744073709551616 : Nat), .int .i64 m] (.int .i64 (placeI v m j))) := Lib.hid hr
            have HN := Lib.hid (place_next v (mixN v ||| 1) j)
            clear hr
            generalize (v + j * (mixN v ||| 1)) % 18446744073709551616 = y at HR HN ⊢
            go_wp2_with fail
            refine (HR.out _).mono ?_
            rintro e w2 ⟨rfl, hb2⟩
            have hgz := (hown.lt w1.heap.size rfl).2
            have hgz2 : w1.heap.size < w2.heap.size := Nat.lt_of_lt_of_le hgz hb2.size
            have hown2 := own_below hown hb2
            have hw2 := hw1.trans (hb2.mono hz1)
            have hxl : xs.length = c := by have := hown2.1; omega
            obtain ⟨v0, d0⟩ : ∃ v, w2.cell? ⟨w1.heap.size, j, none⟩ = some v := ⟨_, (hown2.cellAt j (by omega)).trans (List.getElem?_eq_getElem (by omega))⟩
            have f0 := hown2.frozenAt j
            have HXL := Lib.hid hxl
            clear hown hb2 hw1 hz1 hxl
            go_wp2
            go_roundw
            case rel =>
              refine ⟨j + 1, _, by omega, by go_num, by rw [← HN.out], (hown2.stored j (.int .i64 (placeI v m j))).1, Lib.hid ?_, by go_grown⟩
              rw [set1_take _ _ _ (by rw [HXL.out]; exact hlt), hxs.out, placesK_succ, ics_append]
              rfl
            case measure => simp [intOf]; omega
          · obtain rfl : j = c := by omega
            go_wp2
            go_ret
            have hx := hxs.out
            rw [List.take_of_length_le (by rw [hown.1]; omega)] at hx
            subst hx
            refine ⟨some ⟨w1.heap.size, 0, none⟩, j, ?_, ?_, hw1⟩
            · rw [placesK_len]; rfl
            · rw [placesK_len]; exact hown
end Go.Proofs.YtoihkbanmnagkaaGreat
/-
  A counting filter in memory: its struct, its counters, its bits; what its calls hand back, and what is kept of it while other blocks are written. No condition but those that stand in each.
-/
set_option linter.unusedSimpArgs false
set_option linter.unusedVariables false
namespace Go.Proofs.YtoihkbanmnagkaaGreat
open Go.RowKit Go.Sort M

structure FilB (w : World) (lo hi f g1 h1 g2 h2 s : Nat) (k : Int) (C : List Nat) (D : List Bool) : Prop where
  c0 : w.cell? ⟨f, 0, none⟩ = some (.int .u64 (s : Int))
  c1 : w.cell? ⟨f, 1, none⟩ = some (.int .i64 k)
  c2 : w.cell? ⟨f, 2, none⟩ = some (.pointer (some ⟨g1, 0, none⟩))
  c3 : w.cell? ⟨f, 3, none⟩ = some (.pointer (some ⟨g2, 0, none⟩))
  cs : Nib w lo g1 h1 C
  bs : Bts w lo g2 h2 D
  len : D.length = C.length
  top : hi ≤ w.heap.size
  fin : lo ≤ f ∧ f < hi
  in1 : g1 < hi ∧ h1 < hi
  in2 : g2 < hi ∧ h2 < hi
  ap1 : f ≠ h1 ∧ g2 ≠ h1 ∧ h2 ≠ h1
  ap2 : f ≠ h2 ∧ g1 ≠ h2 ∧ h1 ≠ h2
  ws : W64 s
def Fil (w : World) (lo hi f s : Nat) (k : Int) (C : List Nat) : Prop := ∃ g1 h1 g2 h2, FilB w lo hi f g1 h1 g2 h2 s k C (onsC C)
section
variable {w w' : World} {lo hi f g1 h1 g2 h2 s : Nat} {k : Int} {C : List Nat} {D : List Bool} {S : Nat → Prop}
theorem FilB.touched (H : FilB w lo hi f g1 h1 g2 h2 s k C D) (ht : Touch S w w') (hn : ∀ j, lo ≤ j → j < hi → ¬ S j) : FilB w' lo hi f g1 h1 g2 h2 s k C D :=
  ⟨ht.cell H.c0 (hn _ H.fin.1 H.fin.2), ht.cell H.c1 (hn _ H.fin.1 H.fin.2), ht.cell H.c2 (hn _ H.fin.1 H.fin.2), ht.cell H.c3 (hn _ H.fin.1 H.fin.2),
    H.cs.touched ht (hn _ H.cs.low H.in1.1) (hn _ H.cs.low2.1 H.in1.2), H.bs.touched ht (hn _ H.bs.low H.in2.1) (hn _ H.bs.low2.1 H.in2.2), H.len, Nat.le_trans H.top ht.size, H.fin, H.in1, H.in2, H.ap1, H.ap2, H.ws⟩
theorem Fil.touched (H : Fil w lo hi f s k C) (ht : Touch S w w') (hn : ∀ j, lo ≤ j → j < hi → ¬ S j) : Fil w' lo hi f s k C := by
  obtain ⟨g1, h1, g2, h2, H⟩ := H
  exact ⟨g1, h1, g2, h2, H.touched ht hn⟩
theorem FilB.below (H : FilB w lo hi f g1 h1 g2 h2 s k C D) (hb : Below w.heap.size w w') : FilB w' lo hi f g1 h1 g2 h2 s k C D := H.touched (S := fun _ => False) (Touch.quiet hb) (fun _ _ _ h => h)
theorem Fil.below (H : Fil w lo hi f s k C) (hb : Below w.heap.size w w') : Fil w' lo hi f s k C := H.touched (S := fun _ => False) (Touch.quiet hb) (fun _ _ _ h => h)
theorem FilB.lt (H : FilB w lo hi f g1 h1 g2 h2 s k C D) : f < w.heap.size := Nat.lt_of_lt_of_le H.fin.2 H.top
theorem FilB.turnC (H : FilB w lo hi f g1 h1 g2 h2 s k C D) {C' : List Nat} (hC : Nib w' lo g1 h1 C') (hl : C'.length = C.length) (hg : w.grownBy w' (some h1)) : FilB w' lo hi f g1 h1 g2 h2 s k C' D ∧ Touch (In lo hi) w w' := by
  obtain ⟨a1, a2, a3⟩ := H.ap1
  exact ⟨⟨hg.cell H.c0 (by simpa using a1), hg.cell H.c1 (by simpa using a1), hg.cell H.c2 (by simpa using a1), hg.cell H.c3 (by simpa using a1), hC, H.bs.kept hg (by simpa using a2) (by simpa using a3), H.len.trans hl.symm, Nat.le_trans H.top hg.size, H.fin, H.in1, H.in2, H.ap1, H.ap2, H.ws⟩,
    Touch.of_grown hg (fun j e => by cases e; exact ⟨H.cs.low2.1, H.in1.2⟩)⟩
theorem FilB.turnD (H : FilB w lo hi f g1 h1 g2 h2 s k C D) {D' : List Bool} (hD : Bts w' lo g2 h2 D') (hl : D'.length = D.length) (hg : w.grownBy w' (some h2)) : FilB w' lo hi f g1 h1 g2 h2 s k C D' ∧ Touch (In lo hi) w w' := by
  obtain ⟨a1, a2, a3⟩ := H.ap2
  exact ⟨⟨hg.cell H.c0 (by simpa using a1), hg.cell H.c1 (by simpa using a1), hg.cell H.c2 (by simpa using a1), hg.cell H.c3 (by simpa using a1), H.cs.kept hg (by simpa using a2) (by simpa using a3), hD, hl.trans H.len, Nat.le_trans H.top hg.size, H.fin, H.in1, H.in2, H.ap1, H.ap2, H.ws⟩,
    Touch.of_grown hg (fun j e => by cases e; exact ⟨H.bs.low2.1, H.in2.2⟩)⟩
end
theorem flen_any (lo hi f s : Nat) (k : Int) (C : List Nat) (w : World) (H : Fil w lo hi f s k C) :
    Calls Tryz.prog 60 #[.pointer (some ⟨f, 0, none⟩)] w fun e w' => e = .returned (.int .i64 (C.length : Int)) ∧ Below w.heap.size w w' := by
  obtain ⟨g1, h1, g2, h2, H⟩ := H
  have c3 := H.c3
  have HL := Lib.hid (blen_any lo g2 h2 (onsC C) w H.bs)
  rw [onsC_len] at HL
  have hl := H.lt
  clear H
  go_enter Tryz.func60, Tryz.ntmps60
  go_wp2_with fail
  refine HL.out.mono ?_
  rintro e w0 ⟨rfl, hw0⟩
  go_wp2
  go_ret
  exact ⟨rfl, hw0⟩
def plc (s h l : Nat) (n k : Int) (m : Nat) : List Int := placesI (hashN s h l (wordZ n)) k m
theorem plc_len (s h l : Nat) (n k : Int) (m : Nat) : (plc s h l n k m).length ≤ 16 := by
  unfold plc placesI
  split
  · simp
  · rw [placesK_len]
    omega
theorem plc_in (s h l : Nat) (n k : Int) (m : Nat) (i : Nat) (hi : i < (plc s h l n k m).length) : 0 ≤ (plc s h l n k m)[i] ∧ (plc s h l n k m)[i] < (m : Int) := by
  have hx := List.getElem_mem hi
  generalize (plc s h l n k m)[i] = x at hx
  unfold plc placesI at hx
  split at hx
  · simp at hx
  · unfold placesK at hx
    rw [List.mem_map] at hx
    obtain ⟨j, -, rfl⟩ := hx
    exact ⟨placeI_nonneg _ _ _, placeI_lt _ _ _ (by omega)⟩
set_option maxHeartbeats 1000000 in
theorem fplaces_any (lo hi f s : Nat) (k : Int) (C : List Nat) (h l : Nat) (n : Int) (w : World) (H : Fil w lo hi f s k C) (wh : W64 h) (wl : W64 l) :
    Calls Tryz.prog 61 #[.pointer (some ⟨f, 0, none⟩), .agg #[.int .u64 h, .int .u64 l, .int .i64 n]] w fun e w' => ∃ p c, e = .returned (.slice p (plc s h l n k C.length).length c) ∧
      w'.ownsRow w.heap.size 3 1 (.slice p (plc s h l n k C.length).length c) (plc s h l n k C.length).length (ics (plc s h l n k C.length)) ∧ Below w.heap.size w w' := by
  have hlen : C.length ≤ 65536 := by
    obtain ⟨g1, h1, g2, h2, H⟩ := H
    exact H.cs.len
  have HL : Hid (∀ w, Fil w lo hi f s k C → Calls Tryz.prog 60 #[.pointer (some ⟨f, 0, none⟩)] w fun e w' => e = .returned (.int .i64 (C.length : Int)) ∧ Below w.heap.size w w') := Lib.hid (fun w H => flen_any lo hi f s k C w H)
  have HC := Lib.hid H
  obtain ⟨g1, h1, g2, h2, H⟩ := H
  have c0 := H.c0
  have c1 := H.c1
  have hl := H.lt
  have hP := places_any s h l n k C.length H.ws wh wl (by omega)
  change GivesInts _ _ (plc s h l n k C.length) at hP
  generalize plc s h l n k C.length = L at *
  have HP := Lib.hid hP
  clear H hP hlen
  go_enter Tryz.func61, Tryz.ntmps61
  go_wp2_with fail
  have kg := cell_grow
  refine region_tail 11 (by kernel_rfl) (by kernel_rfl) ?_
  simp only [List.take_succ_cons, List.take_zero, List.drop_succ_cons, List.drop_zero]
  repeat (any_goals (first | go_big_quiet_step ((exact Calls.regrown_of (HL.out _ (HC.out.below (Below.trans (b := w.alloc _) (by go_grown) ((below_regrown _ _ _).mono (by simp))))))) | quiet_step ((exact Calls.regrown_of (HL.out _ (HC.out.below (Below.trans (b := w.alloc _) (by go_grown) ((below_regrown _ _ _).mono (by simp)))))))))
  refine wpQuiet_nil ?_
  clear kg
  intro w1 hb1
  obtain ⟨hc1, hf1⟩ := bcell hb1
  have hw1 : Below w.heap.size w w1 := by
    refine Below.trans ?_ (hb1.mono ?_)
    · go_grown
    · first | omega | go_size
  go_wp2_with fail
  refine (HP.out _).mono ?_
  rintro e w2 ⟨p, c, rfl, hown, hb2⟩
  have hw2 := hw1.trans (hb2.mono hw1.size)
  have hown2 := own_le hown hw1.size
  clear hown hb2 hw1 hb1
  go_wp2
  go_ret
  exact ⟨p, c, rfl, hown2, hw2⟩
end Go.Proofs.YtoihkbanmnagkaaGreat
