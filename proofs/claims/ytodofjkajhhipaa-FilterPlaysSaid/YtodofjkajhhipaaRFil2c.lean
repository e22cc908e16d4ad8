/-
  What May of the reference's filter says. No condition but those that stand in each.
-/
import Derived.Test.YtodofjkajhhipaaRFil
set_option linter.unusedSimpArgs false
set_option linter.unusedVariables false
namespace Go.Proofs.Ytodofjkajhhipaa
open Go.RowKit Go.Sort M

set_option maxHeartbeats 2000000 in
theorem rmay_any (lo hi f g s : Nat) (k : Int) (C : List Nat) (h l : Nat) (n : Int) (w : World) (H : RFil w lo hi f g s k C) (wh : W64 h) (wl : W64 l) :
    Calls Try.prog 16 #[.pointer (some ⟨f, 0, none⟩), .agg #[.int .u64 h, .int .u64 l, .int .i64 n]] w fun e w' => e = .returned (.bool (mayL C (plc s h l n k C.length))) ∧ Below w.heap.size w w' := by
  have HC := Lib.hid H
  have hP := rplaces_any s h l n k C.length H.ws wh wl (by have := H.len; omega)
  change GivesInts _ _ (plc s h l n k C.length) at hP
  have hL16 := plc_len s h l n k C.length
  have hin := plc_in s h l n k C.length
  have c0 := H.c0
  have c1 := H.c1
  have c2 := H.c2
  have hl := H.lt
  have hlen := H.len
  generalize plc s h l n k C.length = L at *
  have HP := Lib.hid hP
  have HIN := Lib.hid hin
  clear H hP hin
  go_enter Try.func16, Try.ntmps16
  go_wp2_with fail
  have kg := cell_grow
  refine region_tail 14 (by kernel_rfl) (by kernel_rfl) ?_
  simp only [List.take_succ_cons, List.take_zero, List.drop_succ_cons, List.drop_zero]
  repeat (any_goals (first | go_big_quiet_step (fail) | quiet_step (fail)))
  refine wpQuiet_nil ?_
  clear kg
  intro w0 hb0
  obtain ⟨hc0, hf0⟩ := bcell hb0
  have hw0 : Below w.heap.size w w0 := by
    refine Below.trans ?_ (hb0.mono ?_)
    · go_grown
    · first | omega | go_size
  go_wp2_with fail
  refine (HP.out _).mono ?_
  rintro e w1 ⟨p, c, rfl, hown, hb1⟩
  have hw1 := hw0.trans (hb1.mono hw0.size)
  have hown2 := own_le (B' := w.heap.size) hown hw0.size
  have H1 := HC.out.below hw1
  have htop := HC.out.top
  clear hown hb1 hb0 hw0 HP HC c0 c1 c2 hl
  have HROW := Lib.hid (IRow.of_own hown2)
  have HH := Lib.hid H1
  have hz1 := hw1.size
  clear hown2 H1
  go_wp2
  go_loopw [6] (fun i6 wr => ∃ i : Nat, i ≤ L.length ∧ i6 = .int .i64 i ∧ Hid (∀ j (hj : j < L.length), j < i → getN C L[j] ≠ 0) ∧ Below w1.heap.size w1 wr) (fun i6 _ => L.length - (intOf i6).toNat)
  case atStart => exact ⟨0, Nat.zero_le _, rfl, Lib.hid (fun j _ h => absurd h (by omega)), Below.refl _ _⟩
  case round =>
    obtain ⟨i, hi2, rfl, hall, hb⟩ := hrel
    have hz := hb.size
    by_cases hlt : i < L.length
    · obtain ⟨gr, orr, rfl, hgr, d0⟩ := (HROW.out.below hb).at hlt
      obtain ⟨hx0, hx1⟩ := HIN.out i hlt
      have H := HH.out.below hb
      have hgo : Hid (getN C L[i] = 0 → mayL C L = false) := Lib.hid (fun h0 => mayL_no hlt h0)
      have hgn : Hid (getN C L[i] ≠ 0 → ∀ j (hj : j < L.length), j < i + 1 → getN C L[j] ≠ 0) := Lib.hid (fun h0 j hj hji => by
        by_cases e : j = i
        · subst e
          exact h0
        · exact hall.out j hj (by omega))
      generalize hx : L[i] = x at *
      obtain ⟨j, rfl⟩ := Int.eq_ofNat_of_zero_le hx0
      have hja : j < C.length := by omega
      rw [getN_at hja] at hgo hgn
      have c2 := H.c2
      have hl := H.lt
      have hr := H.lt2
      have q0 : wr.cell? ⟨g, j, none⟩ = some (.int .i64 (C[j] : Nat)) := (H.own.cellAt j (by omega)).trans (iC_at C j hja)
      generalize C[j] = v at *
      clear H hx hall
      by_cases h0 : v = 0
      · subst h0
        have HNO := Lib.hid (hgo.out rfl)
        clear hgo hgn
        go_wp2_with fail
        have kg := cell_grow
        refine region_whole (by kernel_rfl) (by kernel_rfl) ?_
        repeat (any_goals (first | go_big_quiet_step (fail) | quiet_step (fail)))
        refine wpQuiet_nil ?_
        clear kg
        intro w2 hb2
        obtain ⟨hc2, hf2⟩ := bcell hb2
        go_wp2
        go_ret
        exact ⟨ret_bool HNO.out.symm, hw1.trans ((hb.trans (hb2.mono hz)).mono hz1)⟩
      · have HN2 := Lib.hid (hgn.out h0)
        have v0 : ((v : Int) == 0) = false := by simp; omega
        clear hgo hgn h0
        go_wp2_with fail
        have kg := cell_grow
        refine region_whole (by kernel_rfl) (by kernel_rfl) ?_
        repeat (any_goals (first | go_big_quiet_step (fail) | quiet_step (fail)))
        refine wpQuiet_nil ?_
        clear kg
        intro w2 hb2
        obtain ⟨hc2, hf2⟩ := bcell hb2
        have hbb := hb.trans (hb2.mono hz)
        go_wp2
        go_roundw
        case rel => exact ⟨i + 1, by omega, by go_num, HN2, hbb⟩
        case measure => simp [intOf]; omega
    · go_wp2
      go_ret
      exact ⟨ret_bool (mayL_yes (fun j hj => hall.out j hj (by omega))).symm, hw1.trans (hb.mono hz1)⟩
end Go.Proofs.Ytodofjkajhhipaa
