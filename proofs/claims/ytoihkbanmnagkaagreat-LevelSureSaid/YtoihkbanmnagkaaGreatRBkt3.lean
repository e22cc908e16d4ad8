/-
  Put of the reference's bucket: what it hands back, and what it is then. No condition but that its cells lie in memory.
-/
import Derived.Test.YtoihkbanmnagkaaGreatW11e
set_option linter.unusedSimpArgs false
set_option linter.unusedVariables false
namespace Go.Proofs.YtoihkbanmnagkaaGreat
open Go.RowKit Go.Sort M

/-- What the second loop makes of what the first one found. -/
def overI (C : List Pl) (k : Ky) (j : Nat) : Int := if fromI (hasK k) C j < 0 then idxI Option.isNone C else fromI (hasK k) C j
theorem fromI_low (p : Pl → Bool) (C : List Pl) (j : Nat) : fromI p C j < 0 ∨ (j : Int) ≤ fromI p C j := by
  unfold fromI
  cases (C.drop j).findIdx? p with
  | none => left; show (-1 : Int) < 0; omega
  | some i => right; show (j : Int) ≤ ((j + i : Nat) : Int); omega
theorem overI_end {C : List Pl} {k : Ky} {j : Nat} (h : C.length ≤ j) : overI C k j = idxI Option.isNone C := by
  unfold overI
  rw [fromI_end h]
  rfl
theorem overI_hit {C : List Pl} {k : Ky} {j : Nat} (h : j < C.length) (hk : hasK k C[j] = true) : overI C k j = (j : Int) := by
  unfold overI
  rw [fromI_step h, if_pos hk, if_neg (by omega)]
theorem overI_miss {C : List Pl} {k : Ky} {j : Nat} (h : j < C.length) (hk : hasK k C[j] = false) : overI C k j = overI C k (j + 1) := by
  unfold overI
  rw [fromI_step h, hk]
  rfl
theorem put_over (C : List Pl) (k : Ky) (v : Int) : (∃ i, ∃ _ : i < C.length, overI C k 0 = (i : Int) ∧ putC C k v = some (C.set i (some ⟨k, v⟩))) ∨ (overI C k 0 = -1 ∧ putC C k v = none) := by
  have h0 : overI C k 0 = if idxI (hasK k) C < 0 then idxI Option.isNone C else idxI (hasK k) C := by unfold overI; rw [fromI_zero]
  rcases idx_cases (hasK k) C with ⟨i, hi, h1, h2, h3⟩ | ⟨h1, h2⟩
  · rw [h2, if_neg (by omega)] at h0
    exact .inl ⟨i, hi, h0, by unfold putC; rw [h1]⟩
  · rcases idx_cases Option.isNone C with ⟨i, hi, h5, h6, h7⟩ | ⟨h5, h6⟩
    · rw [h2, if_pos (by omega), h6] at h0
      exact .inl ⟨i, hi, h0, by unfold putC; rw [h1]; simp only; rw [h5]⟩
    · rw [h2, if_pos (by omega), h6] at h0
      exact .inr ⟨h0, by unfold putC; rw [h1]; simp only; rw [h5]⟩
set_option maxHeartbeats 2000000 in
set_option maxRecDepth 100000 in
theorem rput11_any (g o : Nat) (C : List Pl) (k : Ky) (v : Int) (w : World) (H : RBk w g o C) :
    Calls Tryz.prog 53 #[.pointer (some ⟨g, o, none⟩), kyV k, .int .i64 v] w fun e w' => e = .returned (.bool (putC C k v).isSome) ∧ RBk w' g o ((putC C k v).getD C) ∧ Turn w w' g o 20 := by
  have HH := Lib.hid H
  have h4 := H.four
  have hg := H.lt
  have HPO := Lib.hid (put_over C k v)
  clear H
  unfold kyV at *
  go_enter Tryz.func53, Tryz.ntmps53
  go_wp2
  go_loopw [7, 8] (fun a i wr => ∃ (c b : Int), -1 ≤ c ∧ c ≤ 3 ∧ i = .int .i64 c ∧ a = .int .i64 b ∧ Hid (b = fromI Option.isNone C (c + 1).toNat) ∧ wr.cell? ⟨w.heap.size, 0, none⟩ = some (.int .u64 (k.h : Int)) ∧ wr.cell? ⟨w.heap.size, 1, none⟩ = some (.int .u64 (k.l : Int)) ∧ wr.cell? ⟨w.heap.size, 2, none⟩ = some (.int .i64 k.n) ∧ w.heap.size < wr.heap.size ∧ Below w.heap.size w wr) (fun _ i _ => (intOf i + 1).toNat)
  case atStart => exact ⟨3, -1, by omega, by omega, rfl, rfl, Lib.hid (by rw [fromI_end (by rw [h4]; decide)]), by simp [go_sem], by simp [go_sem], by simp [go_sem], by simp, by go_grown⟩
  case round =>
    obtain ⟨c, b, hc1, hc2, rfl, rfl, hb7, k0, k1, k2, hz, hb⟩ := hrel
    by_cases hlt : 0 ≤ c
    · obtain ⟨j, rfl⟩ := Int.eq_ofNat_of_zero_le hlt
      have H1 := HH.out.below hb
      have hon := H1.on j (by omega)
      have hl1 := H1.lt
      have hst := fromI_step (p := Option.isNone) (C := C) (j := j) (by omega)
      rw [show j + 1 = ((j : Int) + 1).toNat by omega, ← hb7.out] at hst
      have HS := Lib.hid hst
      clear hst H1 hb7
      generalize (C[j]'(by omega)) = x at hon HS
      by_cases hs : x.isSome = true
      · rw [hs] at hon
        have HS' : Hid (fromI Option.isNone C j = b) := by
          have := HS.out
          show _ = _
          rw [this, show x.isNone = false by cases x <;> simp_all]
          rfl
        clear hs HS
        go_wp2
        go_roundw
        case rel => exact ⟨(j : Int) - 1, b, by omega, by omega, by go_num, rfl, by rw [show ((j : Int) - 1 + 1).toNat = j by omega]; exact Lib.hid HS'.out.symm, k0, k1, k2, hz, hb⟩
        case measure => simp [intOf] <;> omega
      · rw [Bool.not_eq_true] at hs
        rw [hs] at hon
        have HS' : Hid (fromI Option.isNone C j = (j : Int)) := by
          have := HS.out
          show _ = _
          rw [this, show x.isNone = true by cases x <;> simp_all]
          rfl
        clear hs HS
        go_wp2
        go_roundw
        case rel => exact ⟨(j : Int) - 1, (j : Int), by omega, by omega, by go_num, rfl, by rw [show ((j : Int) - 1 + 1).toNat = j by omega]; exact Lib.hid HS'.out.symm, k0, k1, k2, hz, hb⟩
        case measure => simp [intOf] <;> omega
    · have hbE : b = overI C k 4 := by
        rw [overI_end (by rw [h4]; exact Nat.le_refl _), ← fromI_zero, hb7.out]
        congr 1
        omega
      have HBE := Lib.hid hbE
      clear hbE hb7
      rename World => wo
      go_wp2
      go_loopw [7, 9] (fun a i wr => ∃ (c b : Int), -1 ≤ c ∧ c ≤ 3 ∧ i = .int .i64 c ∧ a = .int .i64 b ∧ Hid (b = overI C k (c + 1).toNat) ∧ wr.cell? ⟨w.heap.size, 0, none⟩ = some (.int .u64 (k.h : Int)) ∧ wr.cell? ⟨w.heap.size, 1, none⟩ = some (.int .u64 (k.l : Int)) ∧ wr.cell? ⟨w.heap.size, 2, none⟩ = some (.int .i64 k.n) ∧ w.heap.size < wr.heap.size ∧ Below w.heap.size w wr) (fun _ i _ => (intOf i + 1).toNat)
      case atStart => exact ⟨3, b, by omega, by omega, rfl, rfl, HBE, k0, k1, k2, hz, hb⟩
      case round =>
        clear k0 k1 k2 hz hb HBE hc1 hc2 hlt
        obtain ⟨c, b, hc1, hc2, rfl, rfl, hb7, k0, k1, k2, hz, hb⟩ := hrel
        by_cases hlt : 0 ≤ c
        · obtain ⟨j, rfl⟩ := Int.eq_ofNat_of_zero_le hlt
          have H1 := HH.out.below hb
          have hon := H1.on j (by omega)
          obtain ⟨r0, r1, r2, r3⟩ := H1.rt j (by omega)
          have hK := Lib.hid (hasK_eq k (C[j]'(by omega)))
          have hl1 := H1.lt
          have HHIT := Lib.hid (overI_hit (C := C) (k := k) (j := j) (by omega))
          have hms := overI_miss (C := C) (k := k) (j := j) (by omega)
          rw [show j + 1 = ((j : Int) + 1).toNat by omega, ← hb7.out] at hms
          have HMISS := Lib.hid hms
          clear hms H1 hb7
          generalize hx : (C[j]'(by omega)) = x at hon r0 r1 r2 r3 hK HHIT HMISS
          clear hx
          have hE := eqlK (xh x) (xl x) (xn x) k.h k.l k.n
          have j0 : (0 : Int) ≤ (j : Int) := by omega
          have j4 : (j : Int) < 4 := by omega
          by_cases hs : x.isSome = true
          · rw [hs] at hon
            by_cases he : xh x = k.h ∧ xl x = k.l ∧ xn x = k.n
            · rw [decide_eq_true he] at hE
              have hm : Hid (overI C k j = (j : Int)) := by show _ = _; exact HHIT.out (by rw [hK.out, hs, decide_eq_true he]; rfl)
              clear hs hK he HHIT HMISS
              go_wp2_with fail
              have kg := cell_grow
              refine region_whole (by kernel_rfl) (by kernel_rfl) ?_
              repeat (any_goals (first | go_big_quiet_step (fail) | quiet_step (fail)))
              refine wpQuiet_nil ?_
              clear kg
              intro w1 hb1
              obtain ⟨hc1, hf1⟩ := bcell hb1
              go_wp2
              go_roundw
              case rel => exact ⟨(j : Int) - 1, (j : Int), by omega, by omega, by go_num, rfl, by rw [show ((j : Int) - 1 + 1).toNat = j by omega]; exact Lib.hid hm.out.symm, (hc1 _ _ (by omega)).trans k0, (hc1 _ _ (by omega)).trans k1, (hc1 _ _ (by omega)).trans k2, Nat.lt_of_lt_of_le hz hb1.size, hb.trans (hb1.mono (by omega))⟩
              case measure => simp [intOf] <;> omega
            · rw [decide_eq_false he] at hE
              have hm : Hid (overI C k j = b) := by show _ = _; exact HMISS.out (by rw [hK.out, hs, decide_eq_false he]; rfl)
              clear hs hK he HHIT HMISS
              go_wp2_with fail
              have kg := cell_grow
              refine region_whole (by kernel_rfl) (by kernel_rfl) ?_
              repeat (any_goals (first | go_big_quiet_step (fail) | quiet_step (fail)))
              refine wpQuiet_nil ?_
              clear kg
              intro w1 hb1
              obtain ⟨hc1, hf1⟩ := bcell hb1
              go_wp2
              go_roundw
              case rel => exact ⟨(j : Int) - 1, b, by omega, by omega, by go_num, rfl, by rw [show ((j : Int) - 1 + 1).toNat = j by omega]; exact Lib.hid hm.out.symm, (hc1 _ _ (by omega)).trans k0, (hc1 _ _ (by omega)).trans k1, (hc1 _ _ (by omega)).trans k2, Nat.lt_of_lt_of_le hz hb1.size, hb.trans (hb1.mono (by omega))⟩
              case measure => simp [intOf] <;> omega
          · rw [Bool.not_eq_true] at hs
            rw [hs] at hon
            have hm : Hid (overI C k j = b) := by show _ = _; exact HMISS.out (by rw [hK.out, hs]; rfl)
            clear hs hK hE HHIT HMISS
            go_wp2_with fail
            have kg := cell_grow
            refine region_whole (by kernel_rfl) (by kernel_rfl) ?_
            repeat (any_goals (first | go_big_quiet_step (fail) | quiet_step (fail)))
            refine wpQuiet_nil ?_
            clear kg
            intro w1 hb1
            obtain ⟨hc1, hf1⟩ := bcell hb1
            go_wp2
            go_roundw
            case rel => exact ⟨(j : Int) - 1, b, by omega, by omega, by go_num, rfl, by rw [show ((j : Int) - 1 + 1).toNat = j by omega]; exact Lib.hid hm.out.symm, (hc1 _ _ (by omega)).trans k0, (hc1 _ _ (by omega)).trans k1, (hc1 _ _ (by omega)).trans k2, Nat.lt_of_lt_of_le hz hb1.size, hb.trans (hb1.mono (by omega))⟩
            case measure => simp [intOf] <;> omega
        · have hbF : b = overI C k 0 := by
            rw [hb7.out]
            congr 1
            omega
          clear hb7
          rcases HPO.out with ⟨i, hi, e, hp⟩ | ⟨e, hp⟩
          · rw [e] at hbF
            subst hbF
            have hi4 : i < 4 := by omega
            have HPU := Lib.hid hp
            clear hp e
            have hw1 := hb
            have H1 := HH.out.below hw1
            obtain ⟨d0, d1, d2, d3⟩ := H1.rt i hi
            have d4 := H1.on i hi
            have f0 := H1.free (i * 4) (by omega)
            have f1 := H1.free (i * 4 + 1) (by omega)
            have f2 := H1.free (i * 4 + 2) (by omega)
            have f3 := H1.free (i * 4 + 3) (by omega)
            have f4 := H1.free (16 + i) (by omega)
            have hl := H1.lt
            simp only [← Nat.add_assoc] at f1 f2 f3 f4
            clear H1
            go_wp2_with fail
            go_region
            go_wp2
            go_ret
            rw [HPU.out]
            have hP := HH.out.put_drew hw1 hi (some ⟨k, v⟩)
            exact ⟨rfl, hP.1, hP.2⟩
          · rw [e] at hbF
            subst hbF
            have HPU := Lib.hid hp
            clear hp e
            go_wp2
            go_ret
            rw [HPU.out]
            exact ⟨rfl, HH.out.below hb, Turn.of_below hg hb⟩
end Go.Proofs.YtoihkbanmnagkaaGreat
