/-
  A counting filter in memory: its struct, its counters, its bits; what its calls hand back, and what is kept of it while other blocks are written. No condition but those that stand in each.
-/
import Derived.Test.YtodofjkajhhipaaTouch
import Derived.Test.YtodofjkajhhipaaM9
import Derived.Test.YtodofjkajhhipaaW6d
set_option linter.unusedSimpArgs false
set_option linter.unusedVariables false
namespace Go.Proofs.Ytodofjkajhhipaa
open Go.RowKit Go.Sort M

/-- A filter at block f: counters C (struct at g1, words at h1), bits D (g2, h2), all from lo on and below hi. -/
structure FilB (w : World) (lo hi f g1 h1 g2 h2 s : Nat) (k : Int) (C : List Nat) (D : List Bool) : Prop where
  c0 : w.cell? ⟨f, 0, none⟩ = some (.int .u64 (s : Int))
  c1 : w.cell? ⟨f, 1, none⟩ = some (.int .i64 k)
  c2 : w.cell? ⟨f, 2, none⟩ = some (.pointer (some ⟨g1, 0, none⟩))
  c3 : w.cell? ⟨f, 3, none⟩ = some (.pointer (some ⟨g2, 0, none⟩))
  cs : Nib w lo g1 h1 C
  bs : Bts w lo g2 h2 D
  len : D.length = C.length
  top : hi ≤ w.heap.size
  fin : lo ≤ f ∧ f < hi
  in1 : g1 < hi ∧ h1 < hi
  in2 : g2 < hi ∧ h2 < hi
  ap1 : f ≠ h1 ∧ g2 ≠ h1 ∧ h2 ≠ h1
  ap2 : f ≠ h2 ∧ g1 ≠ h2 ∧ h1 ≠ h2
  ws : W64 s
/-- A filter whose bits tell which counters are not 0. -/
def Fil (w : World) (lo hi f s : Nat) (k : Int) (C : List Nat) : Prop := ∃ g1 h1 g2 h2, FilB w lo hi f g1 h1 g2 h2 s k C (onsC C)
section
variable {w w' : World} {lo hi f g1 h1 g2 h2 s : Nat} {k : Int} {C : List Nat} {D : List Bool} {S : Nat → Prop}
theorem FilB.touched (H : FilB w lo hi f g1 h1 g2 h2 s k C D) (ht : Touch S w w') (hn : ∀ j, lo ≤ j → j < hi → ¬ S j) : FilB w' lo hi f g1 h1 g2 h2 s k C D :=
  ⟨ht.cell H.c0 (hn _ H.fin.1 H.fin.2), ht.cell H.c1 (hn _ H.fin.1 H.fin.2), ht.cell H.c2 (hn _ H.fin.1 H.fin.2), ht.cell H.c3 (hn _ H.fin.1 H.fin.2),
    H.cs.touched ht (hn _ H.cs.low H.in1.1) (hn _ H.cs.low2.1 H.in1.2), H.bs.touched ht (hn _ H.bs.low H.in2.1) (hn _ H.bs.low2.1 H.in2.2), H.len, Nat.le_trans H.top ht.size, H.fin, H.in1, H.in2, H.ap1, H.ap2, H.ws⟩
theorem Fil.touched (H : Fil w lo hi f s k C) (ht : Touch S w w') (hn : ∀ j, lo ≤ j → j < hi → ¬ S j) : Fil w' lo hi f s k C := by
  obtain ⟨g1, h1, g2, h2, H⟩ := H
  exact ⟨g1, h1, g2, h2, H.touched ht hn⟩
theorem FilB.below (H : FilB w lo hi f g1 h1 g2 h2 s k C D) (hb : Below w.heap.size w w') : FilB w' lo hi f g1 h1 g2 h2 s k C D := H.touched (S := fun _ => False) (Touch.quiet hb) (fun _ _ _ h => h)
theorem Fil.below (H : Fil w lo hi f s k C) (hb : Below w.heap.size w w') : Fil w' lo hi f s k C := H.touched (S := fun _ => False) (Touch.quiet hb) (fun _ _ _ h => h)
theorem FilB.lt (H : FilB w lo hi f g1 h1 g2 h2 s k C D) : f < w.heap.size := Nat.lt_of_lt_of_le H.fin.2 H.top
theorem FilB.turnC (H : FilB w lo hi f g1 h1 g2 h2 s k C D) {C' : List Nat} (hC : Nib w' lo g1 h1 C') (hl : C'.length = C.length) (hg : w.grownBy w' (some h1)) : FilB w' lo hi f g1 h1 g2 h2 s k C' D ∧ Touch (In lo hi) w w' := by
  obtain ⟨a1, a2, a3⟩ := H.ap1
  exact ⟨⟨hg.cell H.c0 (by simpa using a1), hg.cell H.c1 (by simpa using a1), hg.cell H.c2 (by simpa using a1), hg.cell H.c3 (by simpa using a1), hC, H.bs.kept hg (by simpa using a2) (by simpa using a3), H.len.trans hl.symm, Nat.le_trans H.top hg.size, H.fin, H.in1, H.in2, H.ap1, H.ap2, H.ws⟩,
    Touch.of_grown hg (fun j e => by cases e; exact ⟨H.cs.low2.1, H.in1.2⟩)⟩
theorem FilB.turnD (H : FilB w lo hi f g1 h1 g2 h2 s k C D) {D' : List Bool} (hD : Bts w' lo g2 h2 D') (hl : D'.length = D.length) (hg : w.grownBy w' (some h2)) : FilB w' lo hi f g1 h1 g2 h2 s k C D' ∧ Touch (In lo hi) w w' := by
  obtain ⟨a1, a2, a3⟩ := H.ap2
  exact ⟨⟨hg.cell H.c0 (by simpa using a1), hg.cell H.c1 (by simpa using a1), hg.cell H.c2 (by simpa using a1), hg.cell H.c3 (by simpa using a1), H.cs.kept hg (by simpa using a2) (by simpa using a3), hD, hl.trans H.len, Nat.le_trans H.top hg.size, H.fin, H.in1, H.in2, H.ap1, H.ap2, H.ws⟩,
    Touch.of_grown hg (fun j e => by cases e; exact ⟨H.bs.low2.1, H.in2.2⟩)⟩
end
theorem flen_any (lo hi f s : Nat) (k : Int) (C : List Nat) (w : World) (H : Fil w lo hi f s k C) :
    Calls Try.prog 21 #[.pointer (some ⟨f, 0, none⟩)] w fun e w' => e = .returned (.int .i64 (C.length : Int)) ∧ Below w.heap.size w w' := by
  obtain ⟨g1, h1, g2, h2, H⟩ := H
  have c3 := H.c3
  have HL := Lib.hid (blen_any lo g2 h2 (onsC C) w H.bs)
  rw [onsC_len] at HL
  have hl := H.lt
  clear H
  go_enter Try.func21, Try.ntmps21
  go_wp2_with fail
  refine HL.out.mono ?_
  rintro e w0 ⟨rfl, hw0⟩
  go_wp2
  go_ret
  exact ⟨rfl, hw0⟩
theorem ffull_any (lo hi f s : Nat) (k : Int) (C : List Nat) (w : World) (H : Fil w lo hi f s k C) :
    Calls Try.prog 19 #[.pointer (some ⟨f, 0, none⟩)] w fun e w' => e = .returned (.int .i64 (fullN C : Nat)) ∧ Below w.heap.size w w' := by
  obtain ⟨g1, h1, g2, h2, H⟩ := H
  have c2 := H.c2
  have HL := Lib.hid (full_any lo g1 h1 C w H.cs)
  have hl := H.lt
  clear H
  go_enter Try.func19, Try.ntmps19
  go_wp2_with fail
  refine HL.out.mono ?_
  rintro e w0 ⟨rfl, hw0⟩
  go_wp2
  go_ret
  exact ⟨rfl, hw0⟩
theorem fcounter_any (lo hi f s : Nat) (k : Int) (C : List Nat) (i : Int) (w : World) (H : Fil w lo hi f s k C) :
    Calls Try.prog 17 #[.pointer (some ⟨f, 0, none⟩), .int .i64 i] w fun e w' => e = .returned (.int .i64 (getN C i : Nat)) ∧ Below w.heap.size w w' := by
  obtain ⟨g1, h1, g2, h2, H⟩ := H
  have c2 := H.c2
  have HL := Lib.hid (get_any lo g1 h1 C i w H.cs)
  have hl := H.lt
  clear H
  go_enter Try.func17, Try.ntmps17
  go_wp2_with fail
  refine HL.out.mono ?_
  rintro e w0 ⟨rfl, hw0⟩
  go_wp2
  go_ret
  exact ⟨rfl, hw0⟩
theorem fon_any (lo hi f s : Nat) (k : Int) (C : List Nat) (i : Int) (w : World) (H : Fil w lo hi f s k C) :
    Calls Try.prog 18 #[.pointer (some ⟨f, 0, none⟩), .int .i64 i] w fun e w' => e = .returned (.bool (decide (getN C i ≠ 0))) ∧ Below w.heap.size w w' := by
  obtain ⟨g1, h1, g2, h2, H⟩ := H
  have c3 := H.c3
  have HL := Lib.hid (bget_any lo g2 h2 (onsC C) i w H.bs)
  rw [getB_ons] at HL
  have hl := H.lt
  clear H
  go_enter Try.func18, Try.ntmps18
  go_wp2_with fail
  refine HL.out.mono ?_
  rintro e w0 ⟨rfl, hw0⟩
  go_wp2
  go_ret
  exact ⟨ret_bool (by simp), hw0⟩
/-- A key's places in a filter. -/
def plc (s h l : Nat) (n k : Int) (m : Nat) : List Int := placesI (hashN s h l (wordZ n)) k m
theorem plc_len (s h l : Nat) (n k : Int) (m : Nat) : (plc s h l n k m).length ≤ 16 := by
  unfold plc placesI
  split
  · simp
  · rw [placesK_len]
    omega
theorem plc_in (s h l : Nat) (n k : Int) (m : Nat) (i : Nat) (hi : i < (plc s h l n k m).length) : 0 ≤ (plc s h l n k m)[i] ∧ (plc s h l n k m)[i] < (m : Int) := by
  have hx := List.getElem_mem hi
  generalize (plc s h l n k m)[i] = x at hx
  unfold plc placesI at hx
  split at hx
  · simp at hx
  · unfold placesK at hx
    rw [List.mem_map] at hx
    obtain ⟨j, -, rfl⟩ := hx
    exact ⟨placeI_nonneg _ _ _, placeI_lt _ _ _ (by omega)⟩
set_option maxHeartbeats 1000000 in
theorem fplaces_any (lo hi f s : Nat) (k : Int) (C : List Nat) (h l : Nat) (n : Int) (w : World) (H : Fil w lo hi f s k C) (wh : W64 h) (wl : W64 l) :
    Calls Try.prog 25 #[.pointer (some ⟨f, 0, none⟩), .agg #[.int .u64 h, .int .u64 l, .int .i64 n]] w fun e w' => ∃ p c, e = .returned (.slice p (plc s h l n k C.length).length c) ∧
      w'.ownsRow w.heap.size 3 1 (.slice p (plc s h l n k C.length).length c) (plc s h l n k C.length).length (ics (plc s h l n k C.length)) ∧ Below w.heap.size w w' := by
  have hlen : C.length ≤ 65536 := by
    obtain ⟨g1, h1, g2, h2, H⟩ := H
    exact H.cs.len
  have HL : Hid (∀ w, Fil w lo hi f s k C → Calls Try.prog 21 #[.pointer (some ⟨f, 0, none⟩)] w fun e w' => e = .returned (.int .i64 (C.length : Int)) ∧ Below w.heap.size w w') := Lib.hid (fun w H => flen_any lo hi f s k C w H)
  have HC := Lib.hid H
  obtain ⟨g1, h1, g2, h2, H⟩ := H
  have c0 := H.c0
  have c1 := H.c1
  have hl := H.lt
  have hP := places_any s h l n k C.length H.ws wh wl (by omega)
  change GivesInts _ _ (plc s h l n k C.length) at hP
  generalize plc s h l n k C.length = L at *
  have HP := Lib.hid hP
  clear H hP hlen
  go_enter Try.func25, Try.ntmps25
  go_wp2_with fail
  have kg := cell_grow
  refine region_tail 11 (by kernel_rfl) (by kernel_rfl) ?_
  simp only [List.take_succ_cons, List.take_zero, List.drop_succ_cons, List.drop_zero]
  repeat (any_goals (first | go_big_quiet_step ((exact Calls.regrown_of (HL.out _ (HC.out.below (Below.trans (b := w.alloc _) (by go_grown) ((below_regrown _ _ _).mono (by simp))))))) | quiet_step ((exact Calls.regrown_of (HL.out _ (HC.out.below (Below.trans (b := w.alloc _) (by go_grown) ((below_regrown _ _ _).mono (by simp)))))))))
  refine wpQuiet_nil ?_
  clear kg
  intro w1 hb1
  obtain ⟨hc1, hf1⟩ := bcell hb1
  have hw1 : Below w.heap.size w w1 := by
    refine Below.trans ?_ (hb1.mono ?_)
    · go_grown
    · first | omega | go_size
  go_wp2_with fail
  refine (HP.out _).mono ?_
  rintro e w2 ⟨p, c, rfl, hown, hb2⟩
  have hw2 := hw1.trans (hb2.mono hw1.size)
  have hown2 := own_le hown hw1.size
  clear hown hb2 hw1 hb1
  go_wp2
  go_ret
  exact ⟨p, c, rfl, hown2, hw2⟩
end Go.Proofs.Ytodofjkajhhipaa
