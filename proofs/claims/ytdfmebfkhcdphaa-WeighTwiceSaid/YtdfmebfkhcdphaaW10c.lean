/-
  How what is left is divided by weights: divide of package weigh. No condition but those that stand in each.
-/
import Derived.Test.YtdfmebfkhcdphaaW10b
set_option linter.unusedSimpArgs false
set_option linter.unusedVariables false
namespace Go.Proofs.Ytdfmebfkhcdphaa
open Go.RowKit Go.Sort M

/-- The shares as whole numbers. -/
def shF (w : Nat → Nat) (least left n j : Nat) : Int := (share w least left n j : Nat)
theorem q_mul (u left : Nat) (hu : u ≤ 1073741824) (hl : left ≤ 1073741824) : wrap64 ((u : Int) * (left : Int)) = (u : Int) * (left : Int) := by
  have h : u * left ≤ 1152921504606846976 := Nat.mul_le_mul hu hl
  rw [← Int.natCast_mul]
  exact IntWalk.wrap64_in _ (by omega)
theorem q_div (u left a q : Nat) (hu : u ≤ 1073741824) (hl : left ≤ 1073741824) (hq : q = u * left / a) : wrap64 (Int.tdiv ((u : Int) * (left : Int)) (a : Int)) = (q : Int) := by
  have h : u * left ≤ 1152921504606846976 := Nat.mul_le_mul hu hl
  have h2 : u * left / a ≤ u * left := Nat.div_le_self _ _
  rw [← Int.natCast_mul, show Int.tdiv ((u * left : Nat) : Int) (a : Int) = ((u * left / a : Nat) : Int) from rfl, ← hq]
  exact IntWalk.wrap64_in _ (by omega)
set_option maxHeartbeats 2000000 in
theorem divide_any (g h c d B n least left : Nat) (wt : Nat → Nat) (w : World) (hgh : g ≠ h) (hn : n ≤ 200) (hwt : ∀ j, wt j ≤ 1073741824) (hl : least ≤ 65536) (hle : left ≤ 1073741824) (h0 : 0 < sumF wt n)
    (ho : w.ownsRow B 3 1 (.slice (some ⟨g, 0, none⟩) n c) n (ics ((List.range n).map fun _ => (least : Int))))
    (hw : w.ownsRow B 2 1 (.slice (some ⟨h, 0, none⟩) n d) n (ics ((List.range n).map fun j => ((wt j : Nat) : Int)))) :
    Calls Try.prog 15 #[.slice (some ⟨g, 0, none⟩) n c, .int .i64 left, .slice (some ⟨h, 0, none⟩) n d, .int .i64 (sumF wt n : Nat)] w fun e w' => e = .returned (.tuple #[]) ∧
      w'.ownsRow B 3 1 (.slice (some ⟨g, 0, none⟩) n c) n (ics ((List.range n).map (shF wt least left n))) ∧ Below B w w' := by
  have hps := part_sum wt left n h0
  have hple := fun j hj => part_le wt left n j hj h0
  have hsh : ∀ j, shF wt least left n j = ((least + cutP wt left (sumF wt n) j + deal wt (left - sumF (cutP wt left (sumF wt n)) n) j : Nat) : Int) := fun j => by
    unfold shF share over0
    rw [if_neg (by omega)]
  have hpd : ∀ j, cutP wt left (sumF wt n) j = wt j * left / sumF wt n := fun _ => rfl
  obtain ⟨F, hF⟩ : ∃ F, F = shF wt least left n := ⟨_, rfl⟩
  rw [← hF] at hsh ⊢
  generalize sumF wt n = a at *
  generalize hP : cutP wt left a = P at *
  have ha0 : ((a : Int) == 0) = false := by simp; omega
  have HPS := Lib.hid hps
  have HPL := Lib.hid hple
  have HSH := Lib.hid hsh
  have HPD := Lib.hid hpd
  have HWT := Lib.hid hwt
  rw [← mixL_none (fun j => ((least + P j : Nat) : Int))] at ho
  have hBg := (ho.lt g rfl).1
  clear hps hple hsh hpd hwt hP hF
  go_enter Try.func15, Try.ntmps15
  go_wp2_with fail
  go_loopw [8, 17] (fun s8 s17 wr => ∃ k : Nat, k ≤ n ∧ s17 = .int .i64 k ∧ s8 = .int .i64 (left - sumF P k : Nat) ∧
    wr.ownsRow B 3 1 (.slice (some ⟨g, 0, none⟩) n c) n (ics (mixL (fun j => ((least + P j : Nat) : Int)) (fun _ => (least : Int)) k n)) ∧
    wr.ownsRow B 2 1 (.slice (some ⟨h, 0, none⟩) n d) n (ics ((List.range n).map fun j => ((wt j : Nat) : Int))) ∧ Below B w wr) (fun _ s17 _ => n - (intOf s17).toNat)
  case atStart => exact ⟨0, Nat.zero_le _, rfl, rfl, ho, hw, Below.refl _ _⟩
  case round =>
    clear ho hw
    obtain ⟨k, hk, rfl, rfl, ho, hw, hb⟩ := hrel
    have hz := hb.size
    by_cases hlt : k < n
    · have hu := HWT.out k
      have hsum : sumF P (k + 1) = sumF P k + P k := rfl
      have hps1 := HPS.out (k + 1) (by omega)
      have hpl := HPL.out k hlt
      have hpd := HPD.out k
      have hset := mixL_set (fun j => ((least + P j : Nat) : Int)) (fun _ => (least : Int)) k n
      have hwc := range_map_at (fun j => ((wt j : Nat) : Int)) n k hlt
      have hoc := mix_cell (fun j => ((least + P j : Nat) : Int)) (fun _ => (least : Int)) k n k hlt
      rw [if_neg (by omega)] at hoc
      rw [hsum] at hps1
      generalize sumF P k = S at hsum hps1 ⊢
      generalize P k = q at hsum hps1 hpl hpd hset
      generalize wt k = u at hu hpd hwc
      have Q0 := Lib.hid (q_mul u left hu hle)
      have Q1 := Lib.hid (q_div u left a q hu hle hpd)
      clear hpd
      have hsub : S + q ≤ left := by omega
      have HSET := Lib.hid hset
      have HS := Lib.hid hsum
      obtain ⟨c1, e1⟩ : ∃ v, v = ((left - S : Nat) : Int) := ⟨_, rfl⟩
      have c1b : (q : Int) ≤ c1 := by omega
      have c1c : c1 ≤ 1073741824 := by omega
      have HE1 := Lib.hid e1
      rw [← e1]
      have hgl := ho.lt g rfl
      have hhl := hw.lt h rfl
      have hgz := hgl.2
      have hhz := hhl.2
      have d0 : wr.cell? ⟨g, k, none⟩ = some (.int .i64 (least : Nat)) := (ho.cellAt k (by omega)).trans hoc
      have d1 : wr.cell? ⟨h, k, none⟩ = some (.int .i64 (u : Nat)) := (hw.cellAt k (by omega)).trans hwc
      have f0 := ho.frozenAt k
      clear hset hps1 e1 hoc hwc hgl hhl
      go_wp2_with (first | rw [Q0.out] | rw [Q1.out] | fail)
      go_roundw
      case rel =>
        have hst := ho.stored k (.int .i64 (least + q : Nat))
        refine ⟨k + 1, by omega, by go_num, ?_, ?_, ?_, ?_⟩
        · rw [HS.out]
          have := HE1.out
          refine congrArg _ ?_
          omega
        · have := hst.1
          rw [ics_set, HSET.out] at this
          exact this
        · exact hw.kept hst.2 (.inr (by simp [Value.ownBlock]; omega))
        · go_grown
      case measure => simp [intOf]; omega
    · have hkn : k = n := by omega
      have hos : left - sumF P k ≤ left := Nat.sub_le _ _
      have hov0 : left - sumF P k = ov wt (left - sumF P n) 0 := by rw [hkn]; rfl
      have e1 : mixL (fun j => ((least + P j : Nat) : Int)) (fun _ => (least : Int)) k n = mixL F (fun j => ((least + P j : Nat) : Int)) 0 n := by rw [hkn, mixL_full, mixL_none]
      rw [e1] at ho
      have HO0 := Lib.hid hov0
      have hovle : ∀ j, ov wt (left - sumF P n) j ≤ left := fun j => Nat.le_trans (ov_le _ _ _) (Nat.sub_le _ _)
      have hF2 : ∀ j, F j = ((least + P j + deal wt (left - sumF P n) j : Nat) : Int) := HSH.out
      clear e1 hkn hov0
      generalize left - sumF P n = o0 at HO0 hovle hF2
      have HF2 := Lib.hid hF2
      have HOV := Lib.hid hovle
      clear hF2 hovle
      go_wp2_with fail
      go_loopw [8, 40] (fun s8 s40 wr => ∃ i : Nat, i ≤ n ∧ s40 = .int .i64 i ∧ s8 = .int .i64 (ov wt o0 i : Nat) ∧
        wr.ownsRow B 3 1 (.slice (some ⟨g, 0, none⟩) n c) n (ics (mixL F (fun j => ((least + P j : Nat) : Int)) i n)) ∧
        wr.ownsRow B 2 1 (.slice (some ⟨h, 0, none⟩) n d) n (ics ((List.range n).map fun j => ((wt j : Nat) : Int))) ∧ Below B w wr) (fun _ s40 _ => n - (intOf s40).toNat)
      case atStart => exact ⟨0, Nat.zero_le _, rfl, by rw [← HO0.out], ho, hw, hb⟩
      case round =>
        clear ho hw hb hz
        obtain ⟨i, hi, rfl, rfl, ho, hw, hb⟩ := hrel
        have hz := hb.size
        by_cases hlt : i < n
        · have hu := HWT.out i
          have hpl := HPL.out i hlt
          have hoc := mix_cell F (fun j => ((least + P j : Nat) : Int)) i n i hlt
          have hwc := range_map_at (fun j => ((wt j : Nat) : Int)) n i hlt
          have hset := mixL_set F (fun j => ((least + P j : Nat) : Int)) i n
          have hfi := HF2.out i
          have hvl := HOV.out i
          have hdl : deal wt o0 i = if 0 < ov wt o0 i ∧ 0 < wt i then 1 else 0 := rfl
          have hvs : ov wt o0 (i + 1) = if 0 < ov wt o0 i ∧ 0 < wt i then ov wt o0 i - 1 else ov wt o0 i := rfl
          rw [if_neg (by omega)] at hoc
          have hstay : deal wt o0 i = 0 → mixL F (fun j => ((least + P j : Nat) : Int)) i n = mixL F (fun j => ((least + P j : Nat) : Int)) (i + 1) n := fun h => mixL_stay (by rw [hfi, h]; rfl)
          rw [hfi] at hset
          generalize ov wt o0 i = v at hvs hdl hvl ⊢
          generalize deal wt o0 i = dd at hdl hset hstay
          generalize P i = q at hpl hset hoc
          generalize wt i = u at hu hwc hdl hvs
          have hgz := (ho.lt g rfl).2
          have hhz := (hw.lt h rfl).2
          have d0 : wr.cell? ⟨g, i, none⟩ = some (.int .i64 (least + q : Nat)) := (ho.cellAt i (by omega)).trans hoc
          have d1 : wr.cell? ⟨h, i, none⟩ = some (.int .i64 (u : Nat)) := (hw.cellAt i (by omega)).trans hwc
          have f0 := ho.frozenAt i
          obtain ⟨y, hy⟩ : ∃ y, y = least + q := ⟨_, rfl⟩
          rw [← hy] at hset d0
          have hyb : y ≤ 1073807360 := by omega
          clear hoc hwc hfi hy hpl
          by_cases hv : 0 < v
          · by_cases hu0 : 0 < u
            · rw [if_pos ⟨hv, hu0⟩] at hdl hvs
              have HV := Lib.hid hvs
              rw [hdl] at hset
              have HSET := Lib.hid hset
              clear hset hdl hvs
              go_wp2_with fail
              go_roundw
              case rel =>
                have hst := ho.stored i (.int .i64 (y + 1 : Nat))
                refine ⟨i + 1, by omega, by go_num, ?_, ?_, ?_, ?_⟩
                · rw [HV.out]
                  refine congrArg _ ?_
                  omega
                · have := hst.1
                  rw [ics_set, HSET.out] at this
                  exact this
                · exact hw.kept hst.2 (.inr (by simp [Value.ownBlock]; omega))
                · go_grown
              case measure => simp [intOf]; omega
            · rw [if_neg (fun x => hu0 x.2)] at hdl hvs
              have HV := Lib.hid hvs
              have HST := Lib.hid (hstay hdl)
              clear hset hstay hdl hvs
              go_wp2_with fail
              go_roundw
              case rel => exact ⟨i + 1, by omega, by go_num, by rw [HV.out], by rw [← HST.out]; exact ho, hw, hb⟩
              case measure => simp [intOf]; omega
          · rw [if_neg (fun x => hv x.1)] at hdl hvs
            have HV := Lib.hid hvs
            have HST := Lib.hid (hstay hdl)
            clear hset hstay hdl hvs
            go_wp2_with fail
            go_roundw
            case rel => exact ⟨i + 1, by omega, by go_num, by rw [HV.out], by rw [← HST.out]; exact ho, hw, hb⟩
            case measure => simp [intOf]; omega
        · have hin : i = n := by omega
          go_wp2
          go_end0
          rw [hin, mixL_full] at ho
          exact ⟨rfl, ho, hb⟩
end Go.Proofs.Ytdfmebfkhcdphaa
