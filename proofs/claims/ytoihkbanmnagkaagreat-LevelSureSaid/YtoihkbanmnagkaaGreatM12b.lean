/-
  Plain mathematics of tables of buckets: what a place more, or less, makes of all that a table has. No condition but those that stand in each.
-/
import Derived.Test.YtoihkbanmnagkaaGreatW6c
import Derived.Test.YtoihkbanmnagkaaGreatRow
import Derived.Test.YtoihkbanmnagkaaGreatM5
import Derived.Test.YtoihkbanmnagkaaGreatOwn
/-
  What pick.Places hands back: a new row of numbers. No condition but that the words are words of 64 bits, and that the count of places is a whole number of 64 bits.
-/
set_option linter.unusedSimpArgs false
set_option linter.unusedVariables false
namespace Go.Proofs.YtoihkbanmnagkaaGreat
open Go.RowKit Go.Sort M

theorem pmix_at (h : Nat) (w : W64 h) : Gives Tryz.prog 24 #[.int .u64 (h : Int)] (.int .u64 (mixN h : Nat)) := by
  have := mix_any (h : Int)
  rwa [mixZ_nat h w] at this
theorem place_next (h g j : Nat) : IntKind.u64.wrap ((((h + j * g) % 18446744073709551616 : Nat) : Int) + (g : Int)) = (((h + (j + 1) * g) % 18446744073709551616 : Nat) : Int) := by
  rw [IntKind.wrap_u64, Nat.add_mul]
  omega
set_option maxRecDepth 100000 in
set_option maxHeartbeats 1000000 in
theorem places_any (s h l : Nat) (n k m : Int) (hs : W64 s) (hh : W64 h) (hl : W64 l) (hm : m ≤ 9223372036854775807) :
    GivesInts 86 #[.int .u64 s, .agg #[.int .u64 h, .int .u64 l, .int .i64 n], .int .i64 k, .int .i64 m] (placesI (hashN s h l (wordZ n)) k m) := by
  intro w
  by_cases h0 : k < 1
  · rw [placesI_few h0]
    go_enter Tryz.func86, Tryz.ntmps86
    go_wp2
    go_ret
    exact ⟨none, 0, rfl, World.ownsRow_nil _ _ _ _, by go_grown⟩
  · by_cases h1 : m < 1
    · rw [placesI_none h1]
      go_enter Tryz.func86, Tryz.ntmps86
      go_wp2
      go_ret
      exact ⟨none, 0, rfl, World.ownsRow_nil _ _ _ _, by go_grown⟩
    · rw [placesI_some h1]
      have HH := Lib.hid (hash_any s h l n hs hh hl)
      have hw : W64 (hashN s h l (wordZ n)) := mixN_w _
      generalize hashN s h l (wordZ n) = v at HH hw ⊢
      have HM := Lib.hid (pmix_at v hw)
      have HO := Lib.hid (or_one (mixN v) (mixN_w _))
      have HG := Lib.hid (or_one_w (mixN v) (mixN_w _))
      obtain ⟨c, hc⟩ : ∃ c, c = min k.toNat 16 := ⟨_, rfl⟩
      have hc16 : c ≤ 16 := by omega
      have hmk := make_row (P := Tryz.prog) (t := 78) Tryz.underlying78 infoI c (by omega) (by unfold maxLen; omega)
      rw [← hc]
      by_cases hk : k ≤ 16
      · have he : (c : Int) = k := by omega
        have hmn : (c : Int) = min k 16 := by omega
        have hmk2 := hmk
        rw [hmn] at hmk2
        clear hc hmn
        rw [he] at hmk
        clear he
        go_enter Tryz.func86, Tryz.ntmps86
        go_wp2_with fail
        refine (HH.out _).mono ?_
        rintro e0 w0 ⟨rfl, hb0⟩
        have hw0 : Below w.heap.size w w0 := by
          refine Below.trans ?_ (hb0.mono ?_)
          · go_grown
          · go_size
        go_wp2_with fail
        refine (HM.out _).mono ?_
        rintro e w1 ⟨rfl, hb1⟩
        have hw1 := hw0.trans (hb1.mono hw0.size)
        have hz1 := hw1.size
        have hown0 : (w1.alloc (.cells (madeCells #[.int .i64 0] c) 3)).ownsRow w.heap.size 3 1 (.slice (some ⟨w1.heap.size, 0, none⟩) c c) c (madeCells #[.int .i64 0] c).toList :=
          World.ownsRow_lit _ _ c (by omega) (by unfold maxLen; omega) (by simp [madeCells])
        clear hb0 hb1 hw0
        go_wp2_with (first | rw [HO.out] | fail)
        go_loopw [9, 30] (fun at_ i wr => ∃ (j : Nat) (xs : List Value), j ≤ c ∧ i = .int .i64 j ∧ at_ = .int .u64 ((v + j * (mixN v ||| 1)) % 18446744073709551616 : Nat) ∧ wr.ownsRow w.heap.size 3 1 (.slice (some ⟨w1.heap.size, 0, none⟩) c c) c xs ∧ Hid (xs.take j = ics (placesK v m j)) ∧ Below w.heap.size w wr) (fun _ i _ => c - (intOf i).toNat)
        case atStart => exact ⟨0, _, Nat.zero_le _, rfl, by rw [Nat.zero_mul, Nat.add_zero, Nat.mod_eq_of_lt hw.lt], hown0, Lib.hid (by simp [ics, placesK]), by go_grown⟩
        case round =>
          clear hown0 hw1
          obtain ⟨j, xs, hj, rfl, rfl, hown, hxs, hw1⟩ := hrel
          have hz1 := hw1.size
          by_cases hlt : j < c
          · have hr := red_any ((v + j * (mixN v ||| 1)) % 18446744073709551616) m (W64.mk (Nat.mod_lt _ (by decide))) hm
            have HR : Hid (Gives Tryz.prog 108 #[.int .u64 ((v + j * (mixN v ||| 1)) % 18446744073709551616 : Nat), .int .i64 m] (.int .i64 (placeI v m j))) := Lib.hid hr
            have HN := Lib.hid (place_next v (mixN v ||| 1) j)
            clear hr
            generalize (v + j * (mixN v ||| 1)) % 18446744073709551616 = y at HR HN ⊢
            go_wp2_with fail
            refine (HR.out _).mono ?_
            rintro e w2 ⟨rfl, hb2⟩
            have hgz := (hown.lt w1.heap.size rfl).2
            have hgz2 : w1.heap.size < w2.heap.size := Nat.lt_of_lt_of_le hgz hb2.size
            have hown2 := own_below hown hb2
            have hw2 := hw1.trans (hb2.mono hz1)
            have hxl : xs.length = c := by have := hown2.1; omega
            obtain ⟨v0, d0⟩ : ∃ v, w2.cell? ⟨w1.heap.size, j, none⟩ = some v := ⟨_, (hown2.cellAt j (by omega)).trans (List.getElem?_eq_getElem (by omega))⟩
            have f0 := hown2.frozenAt j
            have HXL := Lib.hid hxl
            clear hown hb2 hw1 hz1 hxl
            go_wp2
            go_roundw
            case rel =>
              refine ⟨j + 1, _, by omega, by go_num, by rw [← HN.out], (hown2.stored j (.int .i64 (placeI v m j))).1, Lib.hid ?_, by go_grown⟩
              rw [set1_take _ _ _ (by rw [HXL.out]; exact hlt), hxs.out, placesK_succ, ics_append]
              rfl
            case measure => simp [intOf]; omega
          · obtain rfl : j = c := by omega
            go_wp2
            go_ret
            have hx := hxs.out
            rw [List.take_of_length_le (by rw [hown.1]; omega)] at hx
            subst hx
            refine ⟨some ⟨w1.heap.size, 0, none⟩, j, ?_, ?_, hw1⟩
            · rw [placesK_len]; rfl
            · rw [placesK_len]; exact hown
      · have he : (c : Int) = 16 := by omega
        have hmn : (c : Int) = min k 16 := by omega
        have hmk2 := hmk
        rw [hmn] at hmk2
        clear hc hmn
        rw [he] at hmk
        clear he
        go_enter Tryz.func86, Tryz.ntmps86
        go_wp2_with fail
        refine (HH.out _).mono ?_
        rintro e0 w0 ⟨rfl, hb0⟩
        have hw0 : Below w.heap.size w w0 := by
          refine Below.trans ?_ (hb0.mono ?_)
          · go_grown
          · go_size
        go_wp2_with fail
        refine (HM.out _).mono ?_
        rintro e w1 ⟨rfl, hb1⟩
        have hw1 := hw0.trans (hb1.mono hw0.size)
        have hz1 := hw1.size
        have hown0 : (w1.alloc (.cells (madeCells #[.int .i64 0] c) 3)).ownsRow w.heap.size 3 1 (.slice (some ⟨w1.heap.size, 0, none⟩) c c) c (madeCells #[.int .i64 0] c).toList :=
          World.ownsRow_lit _ _ c (by omega) (by unfold maxLen; omega) (by simp [madeCells])
        clear hb0 hb1 hw0
        go_wp2_with (first | rw [HO.out] | fail)
        go_loopw [9, 30] (fun at_ i wr => ∃ (j : Nat) (xs : List Value), j ≤ c ∧ i = .int .i64 j ∧ at_ = .int .u64 ((v + j * (mixN v ||| 1)) % 18446744073709551616 : Nat) ∧ wr.ownsRow w.heap.size 3 1 (.slice (some ⟨w1.heap.size, 0, none⟩) c c) c xs ∧ Hid (xs.take j = ics (placesK v m j)) ∧ Below w.heap.size w wr) (fun _ i _ => c - (intOf i).toNat)
        case atStart => exact ⟨0, _, Nat.zero_le _, rfl, by rw [Nat.zero_mul, Nat.add_zero, Nat.mod_eq_of_lt hw.lt], hown0, Lib.hid (by simp [ics, placesK]), by go_grown⟩
        case round =>
          clear hown0 hw1
          obtain ⟨j, xs, hj, rfl, rfl, hown, hxs, hw1⟩ := hrel
          have hz1 := hw1.size
          by_cases hlt : j < c
          · have hr := red_any ((v + j * (mixN v ||| 1)) % 18446744073709551616) m (W64.mk (Nat.mod_lt _ (by decide))) hm
            have HR : Hid (Gives Tryz.prog 108 #[.int .u64 ((v + j * (mixN v ||| 1)) % 18446744073709551616 : Nat), .int .i64 m] (.int .i64 (placeI v m j))) := Lib.hid hr
            have HN := Lib.hid (place_next v (mixN v ||| 1) j)
            clear hr
            generalize (v + j * (mixN v ||| 1)) % 18446744073709551616 = y at HR HN ⊢
            go_wp2_with fail
            refine (HR.out _).mono ?_
            rintro e w2 ⟨rfl, hb2⟩
            have hgz := (hown.lt w1.heap.size rfl).2
            have hgz2 : w1.heap.size < w2.heap.size := Nat.lt_of_lt_of_le hgz hb2.size
            have hown2 := own_below hown hb2
            have hw2 := hw1.trans (hb2.mono hz1)
            have hxl : xs.length = c := by have := hown2.1; omega
            obtain ⟨v0, d0⟩ : ∃ v, w2.cell? ⟨w1.heap.size, j, none⟩ = some v := ⟨_, (hown2.cellAt j (by omega)).trans (List.getElem?_eq_getElem (by omega))⟩
            have f0 := hown2.frozenAt j
            have HXL := Lib.hid hxl
            clear hown hb2 hw1 hz1 hxl
            go_wp2
            go_roundw
            case rel =>
              refine ⟨j + 1, _, by omega, by go_num, by rw [← HN.out], (hown2.stored j (.int .i64 (placeI v m j))).1, Lib.hid ?_, by go_grown⟩
              rw [set1_take _ _ _ (by rw [HXL.out]; exact hlt), hxs.out, placesK_succ, ics_append]
              rfl
            case measure => simp [intOf]; omega
          · obtain rfl : j = c := by omega
            go_wp2
            go_ret
            have hx := hxs.out
            rw [List.take_of_length_le (by rw [hown.1]; omega)] at hx
            subst hx
            refine ⟨some ⟨w1.heap.size, 0, none⟩, j, ?_, ?_, hw1⟩
            · rw [placesK_len]; rfl
            · rw [placesK_len]; exact hown
end Go.Proofs.YtoihkbanmnagkaaGreat
/-
  A counting filter in memory: its struct, its counters, its bits; what its calls hand back, and what is kept of it while other blocks are written. No condition but those that stand in each.
-/
set_option linter.unusedSimpArgs false
set_option linter.unusedVariables false
namespace Go.Proofs.YtoihkbanmnagkaaGreat
open Go.RowKit Go.Sort M

/-- A filter at block f: counters C (struct at g1, words at h1), bits D (g2, h2), all from lo on and below hi. -/
structure FilB (w : World) (lo hi f g1 h1 g2 h2 s : Nat) (k : Int) (C : List Nat) (D : List Bool) : Prop where
  c0 : w.cell? ⟨f, 0, none⟩ = some (.int .u64 (s : Int))
  c1 : w.cell? ⟨f, 1, none⟩ = some (.int .i64 k)
  c2 : w.cell? ⟨f, 2, none⟩ = some (.pointer (some ⟨g1, 0, none⟩))
  c3 : w.cell? ⟨f, 3, none⟩ = some (.pointer (some ⟨g2, 0, none⟩))
  cs : Nib w lo g1 h1 C
  bs : Bts w lo g2 h2 D
  len : D.length = C.length
  top : hi ≤ w.heap.size
  fin : lo ≤ f ∧ f < hi
  in1 : g1 < hi ∧ h1 < hi
  in2 : g2 < hi ∧ h2 < hi
  ap1 : f ≠ h1 ∧ g2 ≠ h1 ∧ h2 ≠ h1
  ap2 : f ≠ h2 ∧ g1 ≠ h2 ∧ h1 ≠ h2
  ws : W64 s
/-- A filter whose bits tell which counters are not 0. -/
def Fil (w : World) (lo hi f s : Nat) (k : Int) (C : List Nat) : Prop := ∃ g1 h1 g2 h2, FilB w lo hi f g1 h1 g2 h2 s k C (onsC C)
section
variable {w w' : World} {lo hi f g1 h1 g2 h2 s : Nat} {k : Int} {C : List Nat} {D : List Bool} {S : Nat → Prop}
theorem FilB.touched (H : FilB w lo hi f g1 h1 g2 h2 s k C D) (ht : Touch S w w') (hn : ∀ j, lo ≤ j → j < hi → ¬ S j) : FilB w' lo hi f g1 h1 g2 h2 s k C D :=
  ⟨ht.cell H.c0 (hn _ H.fin.1 H.fin.2), ht.cell H.c1 (hn _ H.fin.1 H.fin.2), ht.cell H.c2 (hn _ H.fin.1 H.fin.2), ht.cell H.c3 (hn _ H.fin.1 H.fin.2),
    H.cs.touched ht (hn _ H.cs.low H.in1.1) (hn _ H.cs.low2.1 H.in1.2), H.bs.touched ht (hn _ H.bs.low H.in2.1) (hn _ H.bs.low2.1 H.in2.2), H.len, Nat.le_trans H.top ht.size, H.fin, H.in1, H.in2, H.ap1, H.ap2, H.ws⟩
theorem Fil.touched (H : Fil w lo hi f s k C) (ht : Touch S w w') (hn : ∀ j, lo ≤ j → j < hi → ¬ S j) : Fil w' lo hi f s k C := by
  obtain ⟨g1, h1, g2, h2, H⟩ := H
  exact ⟨g1, h1, g2, h2, H.touched ht hn⟩
theorem FilB.below (H : FilB w lo hi f g1 h1 g2 h2 s k C D) (hb : Below w.heap.size w w') : FilB w' lo hi f g1 h1 g2 h2 s k C D := H.touched (S := fun _ => False) (Touch.quiet hb) (fun _ _ _ h => h)
theorem Fil.below (H : Fil w lo hi f s k C) (hb : Below w.heap.size w w') : Fil w' lo hi f s k C := H.touched (S := fun _ => False) (Touch.quiet hb) (fun _ _ _ h => h)
theorem FilB.lt (H : FilB w lo hi f g1 h1 g2 h2 s k C D) : f < w.heap.size := Nat.lt_of_lt_of_le H.fin.2 H.top
theorem FilB.turnC (H : FilB w lo hi f g1 h1 g2 h2 s k C D) {C' : List Nat} (hC : Nib w' lo g1 h1 C') (hl : C'.length = C.length) (hg : w.grownBy w' (some h1)) : FilB w' lo hi f g1 h1 g2 h2 s k C' D ∧ Touch (In lo hi) w w' := by
  obtain ⟨a1, a2, a3⟩ := H.ap1
  exact ⟨⟨hg.cell H.c0 (by simpa using a1), hg.cell H.c1 (by simpa using a1), hg.cell H.c2 (by simpa using a1), hg.cell H.c3 (by simpa using a1), hC, H.bs.kept hg (by simpa using a2) (by simpa using a3), H.len.trans hl.symm, Nat.le_trans H.top hg.size, H.fin, H.in1, H.in2, H.ap1, H.ap2, H.ws⟩,
    Touch.of_grown hg (fun j e => by cases e; exact ⟨H.cs.low2.1, H.in1.2⟩)⟩
theorem FilB.turnD (H : FilB w lo hi f g1 h1 g2 h2 s k C D) {D' : List Bool} (hD : Bts w' lo g2 h2 D') (hl : D'.length = D.length) (hg : w.grownBy w' (some h2)) : FilB w' lo hi f g1 h1 g2 h2 s k C D' ∧ Touch (In lo hi) w w' := by
  obtain ⟨a1, a2, a3⟩ := H.ap2
  exact ⟨⟨hg.cell H.c0 (by simpa using a1), hg.cell H.c1 (by simpa using a1), hg.cell H.c2 (by simpa using a1), hg.cell H.c3 (by simpa using a1), H.cs.kept hg (by simpa using a2) (by simpa using a3), hD, hl.trans H.len, Nat.le_trans H.top hg.size, H.fin, H.in1, H.in2, H.ap1, H.ap2, H.ws⟩,
    Touch.of_grown hg (fun j e => by cases e; exact ⟨H.bs.low2.1, H.in2.2⟩)⟩
end
theorem flen_any (lo hi f s : Nat) (k : Int) (C : List Nat) (w : World) (H : Fil w lo hi f s k C) :
    Calls Tryz.prog 60 #[.pointer (some ⟨f, 0, none⟩)] w fun e w' => e = .returned (.int .i64 (C.length : Int)) ∧ Below w.heap.size w w' := by
  obtain ⟨g1, h1, g2, h2, H⟩ := H
  have c3 := H.c3
  have HL := Lib.hid (blen_any lo g2 h2 (onsC C) w H.bs)
  rw [onsC_len] at HL
  have hl := H.lt
  clear H
  go_enter Tryz.func60, Tryz.ntmps60
  go_wp2_with fail
  refine HL.out.mono ?_
  rintro e w0 ⟨rfl, hw0⟩
  go_wp2
  go_ret
  exact ⟨rfl, hw0⟩
/-- A key's places in a filter. -/
def plc (s h l : Nat) (n k : Int) (m : Nat) : List Int := placesI (hashN s h l (wordZ n)) k m
theorem plc_len (s h l : Nat) (n k : Int) (m : Nat) : (plc s h l n k m).length ≤ 16 := by
  unfold plc placesI
  split
  · simp
  · rw [placesK_len]
    omega
theorem plc_in (s h l : Nat) (n k : Int) (m : Nat) (i : Nat) (hi : i < (plc s h l n k m).length) : 0 ≤ (plc s h l n k m)[i] ∧ (plc s h l n k m)[i] < (m : Int) := by
  have hx := List.getElem_mem hi
  generalize (plc s h l n k m)[i] = x at hx
  unfold plc placesI at hx
  split at hx
  · simp at hx
  · unfold placesK at hx
    rw [List.mem_map] at hx
    obtain ⟨j, -, rfl⟩ := hx
    exact ⟨placeI_nonneg _ _ _, placeI_lt _ _ _ (by omega)⟩
set_option maxHeartbeats 1000000 in
theorem fplaces_any (lo hi f s : Nat) (k : Int) (C : List Nat) (h l : Nat) (n : Int) (w : World) (H : Fil w lo hi f s k C) (wh : W64 h) (wl : W64 l) :
    Calls Tryz.prog 61 #[.pointer (some ⟨f, 0, none⟩), .agg #[.int .u64 h, .int .u64 l, .int .i64 n]] w fun e w' => ∃ p c, e = .returned (.slice p (plc s h l n k C.length).length c) ∧
      w'.ownsRow w.heap.size 3 1 (.slice p (plc s h l n k C.length).length c) (plc s h l n k C.length).length (ics (plc s h l n k C.length)) ∧ Below w.heap.size w w' := by
  have hlen : C.length ≤ 65536 := by
    obtain ⟨g1, h1, g2, h2, H⟩ := H
    exact H.cs.len
  have HL : Hid (∀ w, Fil w lo hi f s k C → Calls Tryz.prog 60 #[.pointer (some ⟨f, 0, none⟩)] w fun e w' => e = .returned (.int .i64 (C.length : Int)) ∧ Below w.heap.size w w') := Lib.hid (fun w H => flen_any lo hi f s k C w H)
  have HC := Lib.hid H
  obtain ⟨g1, h1, g2, h2, H⟩ := H
  have c0 := H.c0
  have c1 := H.c1
  have hl := H.lt
  have hP := places_any s h l n k C.length H.ws wh wl (by omega)
  change GivesInts _ _ (plc s h l n k C.length) at hP
  generalize plc s h l n k C.length = L at *
  have HP := Lib.hid hP
  clear H hP hlen
  go_enter Tryz.func61, Tryz.ntmps61
  go_wp2_with fail
  have kg := cell_grow
  refine region_tail 11 (by kernel_rfl) (by kernel_rfl) ?_
  simp only [List.take_succ_cons, List.take_zero, List.drop_succ_cons, List.drop_zero]
  repeat (any_goals (first | go_big_quiet_step ((exact Calls.regrown_of (HL.out _ (HC.out.below (Below.trans (b := w.alloc _) (by go_grown) ((below_regrown _ _ _).mono (by simp))))))) | quiet_step ((exact Calls.regrown_of (HL.out _ (HC.out.below (Below.trans (b := w.alloc _) (by go_grown) ((below_regrown _ _ _).mono (by simp)))))))))
  refine wpQuiet_nil ?_
  clear kg
  intro w1 hb1
  obtain ⟨hc1, hf1⟩ := bcell hb1
  have hw1 : Below w.heap.size w w1 := by
    refine Below.trans ?_ (hb1.mono ?_)
    · go_grown
    · first | omega | go_size
  go_wp2_with fail
  refine (HP.out _).mono ?_
  rintro e w2 ⟨p, c, rfl, hown, hb2⟩
  have hw2 := hw1.trans (hb2.mono hw1.size)
  have hown2 := own_le hown hw1.size
  clear hown hb2 hw1 hb1
  go_wp2
  go_ret
  exact ⟨p, c, rfl, hown2, hw2⟩
end Go.Proofs.YtoihkbanmnagkaaGreat
/-
  Plain mathematics of buckets: a key, a key with its value, four places; what is put, taken, swapped, found, listed. No condition but those that stand in each.
-/
set_option linter.unusedSimpArgs false
set_option linter.unusedVariables false
namespace Go.Proofs.YtoihkbanmnagkaaGreat
open M

/-- A key: the two words of its address, and its length. -/
structure Ky where
  h : Nat
  l : Nat
  n : Int
deriving DecidableEq
/-- The words of a key are words of 64 bits. -/
def Ky.good (k : Ky) : Prop := W64 k.h ∧ W64 k.l
/-- A key and its value. -/
structure Rt where
  k : Ky
  v : Int
deriving DecidableEq
/-- A place: empty, or a key with its value. -/
abbrev Pl := Option Rt
def hasK (k : Ky) (x : Pl) : Bool :=
  match x with
  | some r => decide (r.k = k)
  | none => false
/-- The first place of a kind, or -1. -/
def idxI (p : Pl → Bool) (C : List Pl) : Int :=
  match C.findIdx? p with
  | some i => (i : Int)
  | none => -1
def putC (C : List Pl) (k : Ky) (v : Int) : Option (List Pl) :=
  match C.findIdx? (hasK k) with
  | some i => some (C.set i (some ⟨k, v⟩))
  | none =>
    match C.findIdx? Option.isNone with
    | some i => some (C.set i (some ⟨k, v⟩))
    | none => none
def takeC (C : List Pl) (k : Ky) : Option (List Pl) :=
  match C.findIdx? (hasK k) with
  | some i => some (C.set i none)
  | none => none
def getC (C : List Pl) (k : Ky) : Option Int :=
  match C.findIdx? (hasK k) with
  | some i => (C.getD i none).map Rt.v
  | none => none
def swapC (C : List Pl) (i : Int) (k : Ky) (v : Int) : Option (Rt × List Pl) :=
  if 0 ≤ i then
    match C.getD i.toNat none with
    | some r => some (r, C.set i.toNat (some ⟨k, v⟩))
    | none => none
  else none
def allC (C : List Pl) : List Rt := C.filterMap id
def xh (x : Pl) : Nat := match x with | some r => r.k.h | none => 0
def xl (x : Pl) : Nat := match x with | some r => r.k.l | none => 0
def xn (x : Pl) : Int := match x with | some r => r.k.n | none => 0
def xv (x : Pl) : Int := match x with | some r => r.v | none => 0
theorem hasK_eq (k : Ky) (x : Pl) : hasK k x = (x.isSome && decide (xh x = k.h ∧ xl x = k.l ∧ xn x = k.n)) := by
  cases x with
  | none => rfl
  | some r =>
    obtain ⟨⟨a, b, c⟩, v⟩ := r
    obtain ⟨d, e, f⟩ := k
    rw [Bool.eq_iff_iff]
    simp [hasK, xh, xl, xn]
    exact decide_eq_true_iff.symm
theorem idx_hit {p : Pl → Bool} {C : List Pl} {i : Nat} (hi : i < C.length) (h : p C[i] = true) (hb : ∀ j (hj : j < C.length), j < i → p C[j] = false) : C.findIdx? p = some i := by
  rw [List.findIdx?_eq_some_iff_getElem]
  exact ⟨hi, h, fun j hj => by simp [hb j (by omega) hj]⟩
theorem idx_miss {p : Pl → Bool} {C : List Pl} (hb : ∀ j (hj : j < C.length), p C[j] = false) : C.findIdx? p = none := by
  rw [List.findIdx?_eq_none_iff]
  intro x hx
  obtain ⟨j, hj, rfl⟩ := List.getElem_of_mem hx
  exact hb j hj
theorem idxI_hit {p : Pl → Bool} {C : List Pl} {i : Nat} (hi : i < C.length) (h : p C[i] = true) (hb : ∀ j (hj : j < C.length), j < i → p C[j] = false) : idxI p C = i := by
  unfold idxI
  rw [idx_hit hi h hb]
theorem idxI_miss {p : Pl → Bool} {C : List Pl} (hb : ∀ j (hj : j < C.length), p C[j] = false) : idxI p C = -1 := by
  unfold idxI
  rw [idx_miss hb]
/-- Either there is a first one, or none. -/
theorem idx_cases (p : Pl → Bool) (C : List Pl) : (∃ i, ∃ hi : i < C.length, C.findIdx? p = some i ∧ idxI p C = i ∧ p C[i] = true) ∨ (C.findIdx? p = none ∧ idxI p C = -1) := by
  cases h : C.findIdx? p with
  | none => exact .inr ⟨rfl, by unfold idxI; rw [h]⟩
  | some i =>
    have := List.findIdx?_eq_some_iff_getElem.1 h
    exact .inl ⟨i, this.1, rfl, by unfold idxI; rw [h], this.2.1⟩
theorem allC_len (C : List Pl) : (allC C).length ≤ C.length := List.length_filterMap_le _ _
/-- The places before number i, listed: one more. -/
theorem allC_snoc (C : List Pl) (i : Nat) (h : i < C.length) : allC (C.take (i + 1)) = allC (C.take i) ++ (C[i]).toList := by
  unfold allC
  rw [List.take_succ_eq_append_getElem h, List.filterMap_append]
  cases C[i] <;> rfl
theorem getC_hit {C : List Pl} {k : Ky} {i : Nat} (hi : i < C.length) (h : C.findIdx? (hasK k) = some i) (hk : hasK k C[i] = true) : getC C k = some (xv C[i]) := by
  unfold getC
  rw [h]
  simp only [List.getD_eq_getElem?_getD, List.getElem?_eq_getElem hi, Option.getD_some]
  cases e : C[i] with
  | none => rw [e] at hk; cases hk
  | some r => rfl
theorem getC_miss {C : List Pl} {k : Ky} (h : C.findIdx? (hasK k) = none) : getC C k = none := by
  unfold getC
  rw [h]
end Go.Proofs.YtoihkbanmnagkaaGreat
/-
  Plain mathematics of tables of buckets: where a key lies, what is put, deleted, found, listed; what a table has, whatever was put. No condition but those that stand in each.
-/
set_option linter.unusedSimpArgs false
set_option linter.unusedVariables false
namespace Go.Proofs.YtoihkbanmnagkaaGreat
open M

def b1 (s : Nat) (k : Ky) (n : Nat) : Nat := (buckI (hashN s k.h k.l (wordZ k.n)) 1 n).toNat
def b2 (s : Nat) (k : Ky) (n : Nat) : Nat := (buckI (hashN s k.h k.l (wordZ k.n)) 2 n).toNat
theorem buck_nat (h i n : Nat) (hn : 1 ≤ n) : ∃ j : Nat, buckI h i n = (j : Int) ∧ j < n := by
  have h0 := redI_nonneg (mixN (h ^^^ i)) (n : Int)
  have h1 := redI_lt (x := mixN (h ^^^ i)) (m := (n : Int)) (mixN_w _) (by omega)
  exact ⟨(buckI h i n).toNat, by unfold buckI; omega, by unfold buckI; omega⟩
theorem b1_lt {s n : Nat} {k : Ky} (hn : 1 ≤ n) : b1 s k n < n := by
  obtain ⟨j, h, hl⟩ := buck_nat (hashN s k.h k.l (wordZ k.n)) 1 n hn
  unfold b1
  rw [h]
  simpa using hl
theorem b2_lt {s n : Nat} {k : Ky} (hn : 1 ≤ n) : b2 s k n < n := by
  obtain ⟨j, h, hl⟩ := buck_nat (hashN s k.h k.l (wordZ k.n)) 2 n hn
  unfold b2
  rw [h]
  simpa using hl
theorem b1_int {s n : Nat} {k : Ky} (hn : 1 ≤ n) : buckI (hashN s k.h k.l (wordZ k.n)) 1 n = (b1 s k n : Int) := by
  obtain ⟨j, h, hl⟩ := buck_nat (hashN s k.h k.l (wordZ k.n)) 1 n hn
  unfold b1
  rw [h]
  simp
theorem b2_int {s n : Nat} {k : Ky} (hn : 1 ≤ n) : buckI (hashN s k.h k.l (wordZ k.n)) 2 n = (b2 s k n : Int) := by
  obtain ⟨j, h, hl⟩ := buck_nat (hashN s k.h k.l (wordZ k.n)) 2 n hn
  unfold b2
  rw [h]
  simp
/-- A table: its seed, its buckets, its stash. -/
structure Tab where
  s : Nat
  B : List (List Pl)
  st : List Rt
def Tab.x1 (T : Tab) (k : Ky) : Nat := b1 T.s k T.B.length
def Tab.x2 (T : Tab) (k : Ky) : Nat := b2 T.s k T.B.length
def Tab.other (T : Tab) (k : Ky) (b : Nat) : Nat := if b = T.x1 k then T.x2 k else T.x1 k
def Tab.bk (T : Tab) (i : Nat) : List Pl := T.B.getD i []
def Tab.set (T : Tab) (i : Nat) (C : List Pl) : Tab := { T with B := T.B.set i C }
def lessK (a b : Ky) : Bool := lessB a.h a.l a.n b.h b.l b.n
/-- A route comes into a row, in its place; of one key it is instead of the other one. -/
def intoS : List Rt → Rt → List Rt
  | [], r => [r]
  | a :: l, r => if lessK a.k r.k then a :: intoS l r else if a.k = r.k then r :: l else r :: a :: l
def outS (l : List Rt) (k : Ky) : List Rt := l.filter fun r => decide (r.k ≠ k)
def findS (l : List Rt) (k : Ky) : Option Nat := l.findIdx? fun r => decide (r.k = k)
def contT (T : Tab) : List Rt := T.B.flatMap allC ++ T.st
/-- What a swap brings out, and the table behind it. -/
def kOut (T : Tab) (b i : Nat) (r : Rt) : Rt := ((swapC (T.bk b) ((i % 4 : Nat) : Int) r.k r.v).map Prod.fst).getD ⟨⟨0, 0, 0⟩, 0⟩
def kTab (T : Tab) (b i : Nat) (r : Rt) : Tab := T.set b (((swapC (T.bk b) ((i % 4 : Nat) : Int) r.k r.v).map Prod.snd).getD (T.bk b))
def kNew (T : Tab) (b i : Nat) (r : Rt) : Nat := (kTab T b i r).other (kOut T b i r).k b
/-- So many kicks from number i on, from bucket b on: the table behind them, and who is left. -/
def kicks : Nat → Nat → Tab → Nat → Rt → Tab × Option Rt
  | 0, _, T, _, r => (T, some r)
  | f + 1, i, T, b, r =>
    match putC ((kTab T b i r).bk (kNew T b i r)) (kOut T b i r).k (kOut T b i r).v with
    | some C => ((kTab T b i r).set (kNew T b i r) C, none)
    | none => kicks f (i + 1) (kTab T b i r) (kNew T b i r) (kOut T b i r)
/-- A put, but for the stash's new one: the table behind it, and who is left. -/
def putIn (T : Tab) (r : Rt) : Tab × Option Rt :=
  if (getC (T.bk (T.x1 r.k)) r.k).isSome then (T.set (T.x1 r.k) ((putC (T.bk (T.x1 r.k)) r.k r.v).getD (T.bk (T.x1 r.k))), none)
  else if (getC (T.bk (T.x2 r.k)) r.k).isSome then (T.set (T.x2 r.k) ((putC (T.bk (T.x2 r.k)) r.k r.v).getD (T.bk (T.x2 r.k))), none)
  else if (findS T.st r.k).isSome then ({ T with st := intoS T.st r }, none)
  else
    match putC (T.bk (T.x1 r.k)) r.k r.v with
    | some C => (T.set (T.x1 r.k) C, none)
    | none =>
      match putC (T.bk (T.x2 r.k)) r.k r.v with
      | some C => (T.set (T.x2 r.k) C, none)
      | none => kicks 16 0 T (T.x2 r.k) r
/-- .. the table, with who is left in the stash; is there anyone? -/
def stay (T : Tab) (r : Rt) : Tab × Bool :=
  match (putIn T r).2 with
  | none => ((putIn T r).1, false)
  | some q => ({ (putIn T r).1 with st := intoS (putIn T r).1.st q }, true)
def emptyT (s n : Nat) : Tab := ⟨s, List.replicate n [none, none, none, none], []⟩
def grows (p : Tab × Bool) : Bool := p.2 && (decide (8 < p.1.st.length) && decide (p.1.B.length < 65536))
def grown (T : Tab) : Tab := emptyT (mixN T.s) (min (2 * T.B.length) 65536)
def putF : Nat → Tab → Rt → Tab
  | 0, T, r => (stay T r).1
  | d + 1, T, r => if grows (stay T r) then (contT (stay T r).1).foldl (putF d) (grown (stay T r).1) else (stay T r).1
def getT (T : Tab) (k : Ky) : Option Int :=
  match getC (T.bk (T.x1 k)) k with
  | some v => some v
  | none =>
    match getC (T.bk (T.x2 k)) k with
    | some v => some v
    | none => (T.st.find? fun r => decide (r.k = k)).map Rt.v
def readT (T : Tab) (k : Ky) : List Int := if (getC (T.bk (T.x1 k)) k).isSome then [(T.x1 k : Int)] else [(T.x1 k : Int), (T.x2 k : Int)]
def delT (T : Tab) (k : Ky) : Tab × Bool :=
  match takeC (T.bk (T.x1 k)) k with
  | some C => (T.set (T.x1 k) C, true)
  | none =>
    match takeC (T.bk (T.x2 k)) k with
    | some C => (T.set (T.x2 k) C, true)
    | none => ({ T with st := outS T.st k }, decide ((outS T.st k).length < T.st.length))
def sortR (l : List Rt) : List Rt := l.foldl intoS []
def allT (T : Tab) : List Rt := sortR (contT T)
end Go.Proofs.YtoihkbanmnagkaaGreat
/-
  Plain mathematics of tables of buckets: what a place more, or less, makes of all that a table has. No condition but those that stand in each.
-/
set_option linter.unusedSimpArgs false
set_option linter.unusedVariables false
namespace Go.Proofs.YtoihkbanmnagkaaGreat
open M

def keysR (L : List Rt) : List Ky := L.map Rt.k
theorem keysR_perm {L M : List Rt} (h : L.Perm M) : (keysR L).Perm (keysR M) := h.map _
theorem allC_cons (x : Pl) (C : List Pl) : allC (x :: C) = x.toList ++ allC C := by
  cases x <;> rfl
theorem set_perm : ∀ (C : List Pl) (i : Nat) (hi : i < C.length) (x : Pl), (C[i].toList ++ allC (C.set i x)).Perm (x.toList ++ allC C)
  | y :: C, 0, _, x => by
    show (y.toList ++ allC (x :: C)).Perm (x.toList ++ allC (y :: C))
    rw [allC_cons, allC_cons]
    exact List.perm_append_comm_assoc _ _ _
  | y :: C, i + 1, hi, x => by
    have ih := set_perm C i (by simpa using hi) x
    show ((C[i]'(by simpa using hi)).toList ++ allC (y :: C.set i x)).Perm (x.toList ++ allC (y :: C))
    rw [allC_cons, allC_cons, List.perm_iff_count]
    intro a
    have := ih.count_eq a
    simp only [List.count_append] at *
    omega
theorem setB_perm : ∀ (B : List (List Pl)) (i : Nat) (hi : i < B.length) (C : List Pl), (allC B[i] ++ (B.set i C).flatMap allC).Perm (allC C ++ B.flatMap allC)
  | D :: B, 0, _, C => by
    show (allC D ++ (C :: B).flatMap allC).Perm (allC C ++ (D :: B).flatMap allC)
    rw [List.flatMap_cons, List.flatMap_cons]
    exact List.perm_append_comm_assoc _ _ _
  | D :: B, i + 1, hi, C => by
    have ih := setB_perm B i (by simpa using hi) C
    show (allC (B[i]'(by simpa using hi)) ++ (D :: B.set i C).flatMap allC).Perm (allC C ++ (D :: B).flatMap allC)
    rw [List.flatMap_cons, List.flatMap_cons, List.perm_iff_count]
    intro a
    have := ih.count_eq a
    simp only [List.count_append] at *
    omega
theorem bk_at (T : Tab) (i : Nat) (hi : i < T.B.length) : T.bk i = T.B[i] := by
  unfold Tab.bk
  rw [List.getD_eq_getElem?_getD, List.getElem?_eq_getElem hi]
  rfl
theorem cont_set (T : Tab) (i : Nat) (hi : i < T.B.length) (j : Nat) (hj : j < (T.bk i).length) (x : Pl) : ((T.bk i)[j].toList ++ contT (T.set i ((T.bk i).set j x))).Perm (x.toList ++ contT T) := by
  have h1 := setB_perm T.B i hi ((T.bk i).set j x)
  have h2 := set_perm (T.bk i) j hj x
  rw [← bk_at T i hi] at h1
  rw [List.perm_iff_count]
  intro a
  have e1 := h1.count_eq a
  have e2 := h2.count_eq a
  unfold contT Tab.set
  simp only [List.count_append] at *
  omega
theorem split_key : ∀ {L : List Rt} {r : Rt}, (keysR L).Nodup → r ∈ L → L.Perm (r :: outS L r.k)
  | a :: L, r, hn, hm => by
    unfold keysR at hn
    rw [List.map_cons, List.nodup_cons] at hn
    have hin : ∀ q ∈ L, q.k ≠ a.k := fun q hq e => hn.1 (e ▸ List.mem_map_of_mem hq)
    rw [List.mem_cons] at hm
    rcases hm with rfl | hm
    · have : outS (r :: L) r.k = L := by
        unfold outS
        rw [List.filter_cons_of_neg (by simp), List.filter_eq_self.2 (fun q hq => by simpa using hin q hq)]
      rw [this]
    · have ne : a.k ≠ r.k := fun e => hin r hm e.symm
      have : outS (a :: L) r.k = a :: outS L r.k := by
        unfold outS
        rw [List.filter_cons_of_pos (by simpa using ne)]
      rw [this]
      exact ((split_key hn.2 hm).cons a).trans (List.Perm.swap _ _ _)
theorem outS_perm {L M : List Rt} (h : L.Perm M) (k : Ky) : (outS L k).Perm (outS M k) := h.filter _
theorem outS_self {L : List Rt} {k : Ky} (h : k ∉ keysR L) : outS L k = L := by
  unfold outS
  refine List.filter_eq_self.2 fun q hq => ?_
  simp only [decide_eq_true_eq]
  intro e
  exact h (List.mem_map.2 ⟨q, hq, e⟩)
theorem mem_outS {L : List Rt} {k : Ky} {q : Rt} : q ∈ outS L k ↔ q ∈ L ∧ q.k ≠ k := by simp [outS]
theorem mem_keys {L : List Rt} {q : Rt} (h : q ∈ L) : q.k ∈ keysR L := List.mem_map_of_mem h
/-! ### The order of keys -/
theorem lessK_irr (a : Ky) : lessK a a = false := lessB_self _ _ _
theorem lessK_trans {a b c : Ky} (h : lessK a b = true) (g : lessK b c = true) : lessK a c = true := lessB_trans _ _ _ _ _ _ _ _ _ h g
theorem lessK_total {a b : Ky} (h : a ≠ b) : lessK b a = !lessK a b := lessB_total _ _ _ _ _ _ (fun ⟨e1, e2, e3⟩ => h (by cases a; cases b; simp_all))
def Sorted (L : List Rt) : Prop := L.Pairwise fun a b => lessK a.k b.k = true
theorem Sorted.nodup {L : List Rt} (h : Sorted L) : (keysR L).Nodup := by
  unfold keysR List.Nodup
  rw [List.pairwise_map]
  refine List.Pairwise.imp (fun {a b} hab e => ?_) h
  rw [e, lessK_irr] at hab
  cases hab
theorem intoS_perm : ∀ {L : List Rt} (r : Rt), Sorted L → (intoS L r).Perm (r :: outS L r.k)
  | [], r, _ => by simp [intoS, outS]
  | a :: L, r, h => by
    have h1 := List.pairwise_cons.1 h
    unfold intoS
    split
    · rename_i hl
      have ne : a.k ≠ r.k := fun e => by rw [e, lessK_irr] at hl; cases hl
      have : outS (a :: L) r.k = a :: outS L r.k := by
        unfold outS
        rw [List.filter_cons_of_pos (by simpa using ne)]
      rw [this]
      exact ((intoS_perm r h1.2).cons a).trans (List.Perm.swap _ _ _)
    · rename_i hl
      split
      · rename_i he
        have : outS (a :: L) r.k = L := by
          unfold outS
          rw [List.filter_cons_of_neg (by simp [he])]
          refine List.filter_eq_self.2 fun q hq => ?_
          simp only [decide_eq_true_eq]
          intro e
          have := h1.1 q hq
          rw [e, he, lessK_irr] at this
          cases this
        rw [this]
      · rename_i he
        rw [outS_self]
        intro hm
        unfold keysR at hm
        rw [List.mem_map] at hm
        obtain ⟨q, hq, e⟩ := hm
        rw [List.mem_cons] at hq
        rcases hq with rfl | hq
        · exact he e
        · have := h1.1 q hq
          rw [e] at this
          exact hl this
theorem intoS_mem {L : List Rt} {r q : Rt} (h : Sorted L) (hq : q ∈ intoS L r) : q = r ∨ q ∈ L := by
  have := (intoS_perm r h).mem_iff.1 hq
  rw [List.mem_cons] at this
  exact this.imp id (fun h => (mem_outS.1 h).1)
theorem intoS_sorted : ∀ {L : List Rt} (r : Rt), Sorted L → Sorted (intoS L r)
  | [], r, _ => by simp [intoS, Sorted]
  | a :: L, r, h => by
    have h1 := List.pairwise_cons.1 h
    unfold intoS
    split
    · rename_i hl
      refine List.pairwise_cons.2 ⟨fun q hq => ?_, intoS_sorted r h1.2⟩
      rcases intoS_mem h1.2 hq with rfl | hq
      · exact hl
      · exact h1.1 q hq
    · rename_i hl
      split
      · rename_i he
        exact List.pairwise_cons.2 ⟨fun q hq => by rw [← he]; exact h1.1 q hq, h1.2⟩
      · rename_i he
        have hr : lessK r.k a.k = true := by
          rw [lessK_total he]
          simpa using hl
        refine List.pairwise_cons.2 ⟨fun q hq => ?_, h⟩
        rw [List.mem_cons] at hq
        rcases hq with rfl | hq
        · exact hr
        · exact lessK_trans hr (h1.1 q hq)
theorem outS_sorted {L : List Rt} (k : Ky) (h : Sorted L) : Sorted (outS L k) := List.Pairwise.filter _ h
/-- Two rows in order that have the same are one. -/
theorem sorted_eq : ∀ {L M : List Rt}, Sorted L → Sorted M → L.Perm M → L = M
  | [], M, _, _, h => by rw [List.nil_perm.1 h]
  | a :: L, [], _, _, h => absurd h.length_eq (by simp)
  | a :: L, b :: M, hL, hM, h => by
    have hl := List.pairwise_cons.1 hL
    have hm := List.pairwise_cons.1 hM
    have e : a = b := by
      have h1 : a ∈ b :: M := h.mem_iff.1 (by simp)
      have h2 : b ∈ a :: L := h.mem_iff.2 (by simp)
      rw [List.mem_cons] at h1 h2
      rcases h1 with rfl | h1
      · rfl
      · rcases h2 with e | h2
        · exact e.symm
        · have := lessK_trans (hl.1 b h2) (hm.1 a h1)
          rw [lessK_irr] at this
          cases this
    subst e
    rw [sorted_eq hl.2 hm.2 ((List.perm_cons a).1 h)]
theorem sortR_fold : ∀ (l M : List Rt), Sorted M → (keysR (l ++ M)).Nodup → Sorted (l.foldl intoS M) ∧ (l.foldl intoS M).Perm (l ++ M)
  | [], M, h, _ => ⟨h, List.Perm.refl _⟩
  | a :: l, M, h, hn => by
    have hp := intoS_perm a h
    have hk : a.k ∉ keysR (l ++ M) := by
      unfold keysR at *
      rw [List.cons_append, List.map_cons, List.nodup_cons] at hn
      exact hn.1
    have hkM : a.k ∉ keysR M := fun hm => hk (by unfold keysR at *; rw [List.map_append]; exact List.mem_append_right _ hm)
    rw [outS_self hkM] at hp
    have hpp : (l ++ intoS M a).Perm (a :: l ++ M) := (hp.append_left l).trans List.perm_middle
    have ih := sortR_fold l (intoS M a) (intoS_sorted a h) ((keysR_perm hpp).nodup_iff.2 hn)
    exact ⟨ih.1, ih.2.trans hpp⟩
theorem sortR_ok (l : List Rt) (h : (keysR l).Nodup) : Sorted (sortR l) ∧ (sortR l).Perm l := by
  have := sortR_fold l [] List.Pairwise.nil (by rwa [List.append_nil])
  rwa [List.append_nil] at this
end Go.Proofs.YtoihkbanmnagkaaGreat
