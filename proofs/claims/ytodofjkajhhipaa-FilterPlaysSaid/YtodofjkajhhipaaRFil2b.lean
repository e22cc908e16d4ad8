/-
  What Remove of the reference's filter does. No condition but those that stand in each.
-/
import Derived.Test.YtodofjkajhhipaaRFil
set_option linter.unusedSimpArgs false
set_option linter.unusedVariables false
namespace Go.Proofs.Ytodofjkajhhipaa
open Go.RowKit Go.Sort M

set_option maxHeartbeats 2000000 in
theorem rrem_any (lo hi f g s : Nat) (k : Int) (C : List Nat) (h l : Nat) (n : Int) (w : World) (H : RFil w lo hi f g s k C) (wh : W64 h) (wl : W64 l) :
    Calls Try.prog 13 #[.pointer (some ⟨f, 0, none⟩), .agg #[.int .u64 h, .int .u64 l, .int .i64 n]] w fun e w' => e = .returned (.tuple #[]) ∧
      RFil w' lo hi f g s k (remL C (plc s h l n k C.length)) ∧ Touch (In lo hi) w w' := by
  have HC := Lib.hid H
  have hP := rplaces_any s h l n k C.length H.ws wh wl (by have := H.len; omega)
  change GivesInts _ _ (plc s h l n k C.length) at hP
  have hL16 := plc_len s h l n k C.length
  have hin := plc_in s h l n k C.length
  have c0 := H.c0
  have c1 := H.c1
  have c2 := H.c2
  have hl := H.lt
  have hlen := H.len
  generalize plc s h l n k C.length = L at *
  have HP := Lib.hid hP
  have HIN := Lib.hid hin
  clear H hP hin
  go_enter Try.func13, Try.ntmps13
  go_wp2_with fail
  have kg := cell_grow
  refine region_tail 14 (by kernel_rfl) (by kernel_rfl) ?_
  simp only [List.take_succ_cons, List.take_zero, List.drop_succ_cons, List.drop_zero]
  repeat (any_goals (first | go_big_quiet_step (fail) | quiet_step (fail)))
  refine wpQuiet_nil ?_
  clear kg
  intro w0 hb0
  obtain ⟨hc0, hf0⟩ := bcell hb0
  have hw0 : Below w.heap.size w w0 := by
    refine Below.trans ?_ (hb0.mono ?_)
    · go_grown
    · first | omega | go_size
  go_wp2_with fail
  refine (HP.out _).mono ?_
  rintro e w1 ⟨p, c, rfl, hown, hb1⟩
  have hw1 := hw0.trans (hb1.mono hw0.size)
  have hown2 := own_le (B' := w.heap.size) hown hw0.size
  have H1 := HC.out.below hw1
  have htop := HC.out.top
  clear hown hb1 hb0 hw0 HP HC c0 c1 c2 hl
  go_wp2
  go_loopw [5] (fun i5 wr => ∃ i : Nat, i ≤ L.length ∧ i5 = .int .i64 i ∧ RFil wr lo hi f g s k (remL C (L.take i)) ∧ wr.ownsRow w.heap.size 3 1 (.slice p L.length c) L.length (ics L) ∧ Touch (In lo hi) w wr) (fun i5 _ => L.length - (intOf i5).toNat)
  case atStart => exact ⟨0, Nat.zero_le _, rfl, H1, hown2, Touch.quiet hw1⟩
  case round =>
    clear H1 hown2 hw1
    obtain ⟨i, hi2, rfl, H, hown, ht⟩ := hrel
    have hz := ht.size
    have hAL : (remL C (L.take i)).length = C.length := remL_len _ _
    by_cases hlt : i < L.length
    · skip
      obtain ⟨gr, orr, rfl, hgr, d0⟩ := (IRow.of_own hown).at hlt
      have hsn := remL_snoc C L i hlt
      have hlow := (hown.lt gr rfl).1
      obtain ⟨hx0, hx1⟩ := HIN.out i hlt
      generalize hx : L[i] = x at *
      generalize hA : remL C (L.take i) = A at *
      obtain ⟨j, rfl⟩ := Int.eq_ofNat_of_zero_le hx0
      have hja : j < A.length := by rw [hAL]; omega
      have c2 := H.c2
      have hl := H.lt
      have hr := H.lt2
      have q0 : wr.cell? ⟨g, j, none⟩ = some (.int .i64 (A[j] : Nat)) := (H.own.cellAt j (by omega)).trans (iC_at A j hja)
      have f0 := H.own.frozenAt j
      have hsm := H.small _ (List.getElem_mem hja)
      have HH := Lib.hid H
      have HO := Lib.hid hown
      have HSN := Lib.hid hsn
      clear hx hA hsn H hown
      by_cases h0 : A[j] = 0
      · have hfu := (down_stays hja (.inr h0)).2
        rw [h0] at q0
        have HFU := Lib.hid hfu
        clear hfu h0 hsm
        go_wp2_with fail
        have kg := cell_grow
        refine region_whole (by kernel_rfl) (by kernel_rfl) ?_
        repeat (any_goals (first | go_big_quiet_step (fail) | quiet_step (fail)))
        refine wpQuiet_nil ?_
        clear kg
        intro w2 hb2
        obtain ⟨hc2, hf2⟩ := bcell hb2
        go_wp2
        go_roundw
        case rel => exact ⟨i + 1, by omega, by go_num, by rw [HSN.out, HFU.out]; exact HH.out.below hb2, own_below HO.out hb2, ht.trans (Touch.quiet hb2)⟩
        case measure => simp [intOf]; omega
      by_cases h15 : A[j] = 15
      · have hfu := (down_stays hja (.inl h15)).2
        generalize A[j] = v at *
        have HFU := Lib.hid hfu
        have v0 : (0 : Int) < (v : Int) := by omega
        have v15 : ¬ (v : Int) < 15 := by omega
        have n15 : ¬ v < 15 := by omega
        have n0 : 0 < v := by omega
        clear hfu h15 hsm h0
        go_wp2_with fail
        have kg := cell_grow
        refine region_whole (by kernel_rfl) (by kernel_rfl) ?_
        repeat (any_goals (first | go_big_quiet_step (fail) | quiet_step (fail)))
        refine wpQuiet_nil ?_
        clear kg
        intro w2 hb2
        obtain ⟨hc2, hf2⟩ := bcell hb2
        go_wp2
        go_roundw
        case rel => exact ⟨i + 1, by omega, by go_num, by rw [HSN.out, HFU.out]; exact HH.out.below hb2, own_below HO.out hb2, ht.trans (Touch.quiet hb2)⟩
        case measure => simp [intOf]; omega
      · have hmo := (down_less hja h15 h0).2
        generalize A[j] = v at *
        have HMO := Lib.hid hmo
        have v0 : (0 : Int) < (v : Int) := by omega
        have v15 : (v : Int) < 15 := by omega
        have n15 : v < 15 := by omega
        have n0 : 0 < v := by omega
        have HV1 : Hid (v - 1 ≤ 15) := Lib.hid (by omega)
        have HV2 : Hid ((v : Int) - 1 = ((v - 1 : Nat) : Int)) := Lib.hid (by omega)
        have s0 : wrap64 ((v : Int) - 1) = (v : Int) - 1 := IntWalk.wrap64_in _ (by omega)
        clear hmo h15 h0
        go_wp2_with fail
        have kg := cell_grow
        refine region_whole (by kernel_rfl) (by kernel_rfl) ?_
        repeat (any_goals (first | go_big_quiet_step (fail) | quiet_step (fail)))
        refine wpQuiet_nil ?_
        clear kg
        intro w2 hb2
        obtain ⟨hc2, hf2⟩ := bcell hb2
        have d2 := (hc2 gr (orr + i) hgr).trans d0
        have c22 := (hc2 f 2 hl).trans c2
        have q2 := (hc2 g j hr).trans q0
        have f2 := (hf2 g j hr).trans f0
        have z2 := hb2.size
        have hl2 : f < w2.heap.size := by omega
        have hr2 : g < w2.heap.size := by omega
        have hgr2 : gr < w2.heap.size := by omega
        obtain ⟨HS, hts⟩ := (HH.out.below hb2).store j (v - 1) HV1.out ((v : Int) - 1) HV2.out
        have HO3 := Touch.own (own_below HO.out hb2) hts (fun j e hj => by cases e; exact absurd (show gr < hi from hj.2) (by omega))
        have ht3 := (ht.trans (Touch.quiet hb2)).trans hts
        rw [← HMO.out, ← HSN.out] at HS
        have HHS := Lib.hid HS
        have HHO := Lib.hid HO3
        have HHT := Lib.hid ht3
        clear HS HO3 ht3 hts d0 c2 q0 f0 hc2 hf2 hb2 HH HO ht hl hr hgr
        go_wp2_with fail
        go_region
        go_wp2
        go_roundw
        case rel => exact ⟨i + 1, by omega, by go_num, HHS.out.below (by go_grown), own_below HHO.out (by go_grown), HHT.out.trans (Touch.quiet (by go_grown))⟩
        case measure => simp [intOf]; omega
    · go_wp2
      go_end0
      rw [List.take_of_length_le (by omega)] at H
      exact ⟨rfl, H, ht⟩
end Go.Proofs.Ytodofjkajhhipaa
