/-
  TrieNested, proved: for every input the law returns true, and each argument reads as it read before. No condition.
-/
import Derived.Test.YtokjhoiacidofaaL14c
import Derived.Test.YtokjhoiacidofaaSlice
/-
  TrieNested as a walk: it hands back true, for every input. No condition but that the addresses are two words each, and that the rows lie in old memory.
-/
set_option linter.unusedSimpArgs false
set_option linter.unusedVariables false
namespace Go.Proofs.Ytokjhoiacidofaa
open Go.RowKit Go.Sort M

set_option maxRecDepth 100000 in
set_option maxHeartbeats 8000000 in
theorem nested_walk (ah al bh bl : Nat) (a : Option Addr) (c : Nat) (L : List Int) (a' : Option Addr) (c' : Nat) (G : List Bool) (wa : W64 ah) (wb : W64 al) (wc : W64 bh) (wd : W64 bl) (w : World) (hR : IRow w a L) (hG : RowA 1 (fun x => [Value.bool x]) w a' G) (hL : L.length ≤ maxLen) (hG2 : G.length ≤ maxLen) :
    Calls Try.prog 4 #[.agg #[.int .u64 (ah : Int), .int .u64 (al : Int)], .agg #[.int .u64 (bh : Int), .int .u64 (bl : Int)], .slice a L.length c, .slice a' G.length c'] w fun e w' => e = .returned (.bool true) ∧ Below w.heap.size w w' := by
  have HA := Lib.hid alive14_any
  have HR := Lib.hid hR
  have HG := Lib.hid hG
  unfold maxLen at hL hG2
  clear hR hG
  by_cases l0 : (60 : Int) < (L.length : Int)
  · skip
    go_enter Try.func4, Try.ntmps4
    go_wp2_with fail
    generalize hwB : World.alloc (World.alloc w _) _ = wB
    have hB : Below w.heap.size w wB := by rw [← hwB]; go_grown
    have q0 : wB.cell? ⟨w.heap.size, 0, none⟩ = some (.int .u64 (ah : Int)) := by rw [← hwB]; simp [go_sem]
    have q1 : wB.cell? ⟨w.heap.size, 1, none⟩ = some (.int .u64 (al : Int)) := by rw [← hwB]; simp [go_sem]
    have q2 : wB.cell? ⟨w.heap.size + 1, 0, none⟩ = some (.int .u64 (bh : Int)) := by rw [← hwB]; simp [go_sem]
    have q3 : wB.cell? ⟨w.heap.size + 1, 1, none⟩ = some (.int .u64 (bl : Int)) := by rw [← hwB]; simp [go_sem]
    have hzB : w.heap.size + 1 < wB.heap.size := by rw [← hwB]; simp
    clear hwB
    have HQ := Lib.hid (fun (wx : World) (hb : Below wB.heap.size wB wx) => And.intro ((hb.cell (p := ⟨w.heap.size, 0, none⟩) (by show w.heap.size < _; omega)).trans q0) (And.intro ((hb.cell (p := ⟨w.heap.size, 1, none⟩) (by show w.heap.size < _; omega)).trans q1) (And.intro ((hb.cell (p := ⟨w.heap.size + 1, 0, none⟩) hzB).trans q2) (And.intro ((hb.cell (p := ⟨w.heap.size + 1, 1, none⟩) hzB).trans q3) (Nat.lt_of_lt_of_le hzB hb.size)))))
    clear q0 q1 q2 q3
    refine (HA.out _).mono ?_
    rintro e w0 ⟨rfl, hb0⟩
    go_wp2
    go_ret
    exact ⟨rfl, hB.trans (hb0.mono hB.size)⟩
  · by_cases l1 : (G.length : Int) < (L.length : Int)
    · skip
      go_enter Try.func4, Try.ntmps4
      go_wp2_with fail
      generalize hwB : World.alloc (World.alloc w _) _ = wB
      have hB : Below w.heap.size w wB := by rw [← hwB]; go_grown
      have q0 : wB.cell? ⟨w.heap.size, 0, none⟩ = some (.int .u64 (ah : Int)) := by rw [← hwB]; simp [go_sem]
      have q1 : wB.cell? ⟨w.heap.size, 1, none⟩ = some (.int .u64 (al : Int)) := by rw [← hwB]; simp [go_sem]
      have q2 : wB.cell? ⟨w.heap.size + 1, 0, none⟩ = some (.int .u64 (bh : Int)) := by rw [← hwB]; simp [go_sem]
      have q3 : wB.cell? ⟨w.heap.size + 1, 1, none⟩ = some (.int .u64 (bl : Int)) := by rw [← hwB]; simp [go_sem]
      have hzB : w.heap.size + 1 < wB.heap.size := by rw [← hwB]; simp
      clear hwB
      have HQ := Lib.hid (fun (wx : World) (hb : Below wB.heap.size wB wx) => And.intro ((hb.cell (p := ⟨w.heap.size, 0, none⟩) (by show w.heap.size < _; omega)).trans q0) (And.intro ((hb.cell (p := ⟨w.heap.size, 1, none⟩) (by show w.heap.size < _; omega)).trans q1) (And.intro ((hb.cell (p := ⟨w.heap.size + 1, 0, none⟩) hzB).trans q2) (And.intro ((hb.cell (p := ⟨w.heap.size + 1, 1, none⟩) hzB).trans q3) (Nat.lt_of_lt_of_le hzB hb.size)))))
      clear q0 q1 q2 q3
      refine (HA.out _).mono ?_
      rintro e w0 ⟨rfl, hb0⟩
      go_wp2
      go_ret
      exact ⟨rfl, hB.trans (hb0.mono hB.size)⟩
    · have l2 : ¬ G.length < L.length := by omega
      have l3 : decide (G.length < L.length) = false := decide_eq_false l2
      go_enter Try.func4, Try.ntmps4
      go_wp2_with fail
      generalize hwB : World.alloc (World.alloc w _) _ = wB
      have hB : Below w.heap.size w wB := by rw [← hwB]; go_grown
      have q0 : wB.cell? ⟨w.heap.size, 0, none⟩ = some (.int .u64 (ah : Int)) := by rw [← hwB]; simp [go_sem]
      have q1 : wB.cell? ⟨w.heap.size, 1, none⟩ = some (.int .u64 (al : Int)) := by rw [← hwB]; simp [go_sem]
      have q2 : wB.cell? ⟨w.heap.size + 1, 0, none⟩ = some (.int .u64 (bh : Int)) := by rw [← hwB]; simp [go_sem]
      have q3 : wB.cell? ⟨w.heap.size + 1, 1, none⟩ = some (.int .u64 (bl : Int)) := by rw [← hwB]; simp [go_sem]
      have hzB : w.heap.size + 1 < wB.heap.size := by rw [← hwB]; simp
      clear hwB
      have HQ := Lib.hid (fun (wx : World) (hb : Below wB.heap.size wB wx) => And.intro ((hb.cell (p := ⟨w.heap.size, 0, none⟩) (by show w.heap.size < _; omega)).trans q0) (And.intro ((hb.cell (p := ⟨w.heap.size, 1, none⟩) (by show w.heap.size < _; omega)).trans q1) (And.intro ((hb.cell (p := ⟨w.heap.size + 1, 0, none⟩) hzB).trans q2) (And.intro ((hb.cell (p := ⟨w.heap.size + 1, 1, none⟩) hzB).trans q3) (Nat.lt_of_lt_of_le hzB hb.size)))))
      clear q0 q1 q2 q3
      refine (HA.out _).mono ?_
      rintro e w0 ⟨rfl, hb0⟩
      have hmk : ∀ w, (Instr.makeSlice 49 (.int .i64 129) (.int .i64 129)).run Try.prog w = .ok (.slice (some ⟨w.heap.size, 0, none⟩) 129 129) (w.alloc (.cells (madeCells #[.bool false] 129) 4)) := fun w => make_row Try.underlying49 (show (Try.prog.info? 4).map (fun i => (i.zero, i.size, i.bytes)) = some (some (.bool false), 1, 1) by kernel_rfl) 129 (by decide) (by unfold maxLen; decide) w
      go_wp2_with fail
      obtain ⟨t, ht⟩ : ∃ t, t = w0.heap.size := ⟨_, rfl⟩
      obtain ⟨g, hgt⟩ : ∃ g, g = w0.heap.size + 1 := ⟨_, rfl⟩
      have hP0 : NestP wB ((w0.alloc (.cells #[.pointer none, .int .i64 0] 32)).alloc (.cells (madeCells #[.bool false] 129) 4)) t g .nil 0 (List.replicate 129 false) := by
        have hs := hb0.size
        rw [ht, hgt]
        refine ⟨⟨by simp <;> omega, ⟨none, by simp [go_sem], rfl⟩, by simp [go_sem], fun j => by simp [go_sem], by simp, fun k hk => ?_, trivial⟩, ?_, by omega, hs, ?_⟩
        · simp at hk
          exact ⟨by omega, by omega⟩
        · rw [mcs_zero]
          have := World.ownsRow_lit (base := wB.heap.size) (e := 4) (size := 1) (w0.alloc (.cells #[.pointer none, .int .i64 0] 32)) (madeCells #[.bool false] 129) 129 (by simp; omega) (by unfold maxLen; omega) (by simp [madeCells])
          simpa using this
        · exact (hb0.alloc hs _).alloc (by simp; omega) _
      rw [← hgt, ← ht]
      generalize ((w0.alloc (.cells #[.pointer none, .int .i64 0] 32)).alloc (.cells (madeCells #[.bool false] 129) 4)) = w1 at *
      have HP0 := Lib.hid hP0
      have HN0 := Lib.hid (Nest.empty ah al)
      clear ht hgt hP0 hb0 hmk
      go_loopg [12, 13, 14] L.length (fun gk s12 s13 s14 wr => ∃ (i : Nat) (T : Pt) (n : Int) (F : List Bool), gk + i = L.length ∧ s12 = .int .i64 (i : Int) ∧ Hid (NestP wB wr t g T n F) ∧ Hid (Nest ah al T F) ∧ Hid (-(i : Int) ≤ n ∧ n ≤ (i : Int)))
      case atStart => exact ⟨0, .nil, 0, _, by omega, rfl, HP0, HN0, ⟨by omega, by omega⟩⟩
      case round =>
        clear HP0 HN0
        obtain ⟨i, T, n, F, hi, rfl, HP, HN, HB⟩ := hrel
        have hwr := hB.trans (HP.out.below.mono hB.size)
        by_cases hlt : i < L.length
        · obtain ⟨gr, o, rfl, hgr, r0⟩ := HR.out.at hlt
          have r0 := (hwr.cell (p := ⟨gr, o + i, none⟩) hgr).trans r0
          have hgr2 := Nat.lt_of_lt_of_le hgr hwr.size
          have hG' : i < G.length := by omega
          have HMK := Lib.hid (fun (wx : World) (hb : Below wB.heap.size wB wx) => by
            obtain ⟨gm, om, e, hgm, m0⟩ := HG.out.mark hG'
            have hb := hB.trans (hb.mono hB.size)
            exact (⟨gm, om, e, Nat.lt_of_lt_of_le hgm hb.size, (hb.cell (p := ⟨gm, om + i, none⟩) hgm).trans m0⟩ : ∃ gm om, a' = some ⟨gm, om, none⟩ ∧ gm < wx.heap.size ∧ wx.cell? ⟨gm, om + i, none⟩ = some (.bool G[i])))
          generalize L[i] = x at r0
          generalize G[i] = mk at HMK
          have hM := mask14 x
          obtain ⟨y, hy⟩ : ∃ y, y = (x % 1024).toNat := ⟨_, rfl⟩
          have hy2 : y < 1024 := by omega
          rw [← hy] at hM
          obtain ⟨q0, q1, q2, q3, hzq⟩ := HQ.out _ HP.out.below
          have hzq1 : w.heap.size < wr.heap.size := by omega
          clear hy
          go_wp2_with fail
          obtain ⟨m, hm⟩ : ∃ m : Nat, ((y : Int) % 129) = m := ⟨y % 129, by omega⟩
          have hm2 : m < 129 := by omega
          rw [hm]
          have hcut := rcut_any ah al (m : Int) wa wb
          rw [Int.toNat_natCast] at hcut
          refine (hcut _).mono ?_
          rintro e w2 ⟨rfl, hb2⟩
          have HP2 := Lib.hid (HP.out.quiet hb2)
          obtain ⟨gm, om, rfl, hgm, m0⟩ := HMK.out w2 HP2.out.below
          have i1 : (i : Int) < (G.length : Int) := by omega
          have hpre := HB.out
          clear hcut hb2 HP q0 q1 q2 q3 hzq hzq1 r0 hgr2 hM hy2 hm HB
          cases mk with
          | true =>
            go_wp2_with fail
            have HP3 := HP2.out.quiet (wx := w2.alloc (.cells #[.int .u64 (cutW ah m : Nat), .int .u64 (cutW al (m - 64) : Nat), .int .i64 (m : Int)] 27)) (by go_grown)
            refine (tdel_any HP3.tri (cutK ah al m) (cutK_good wa wb) (by omega) (by omega)).mono ?_
            rintro e w4 ⟨rfl, H4, ht4⟩
            have HP4 := HP3.turn H4 ht4
            have HN4 := Lib.hid (HN.out.del wa wb hm2)
            have HB4 : Hid (-((i + 1 : Nat) : Int) ≤ delC14 (cutK ah al m) T n ∧ delC14 (cutK ah al m) T n ≤ ((i + 1 : Nat) : Int)) := by
              show _ ∧ _
              unfold delC14
              split <;> omega
            have HP5 := Lib.hid HP4
            have hFl := HN.out.len
            have z0 : w4.cell? ⟨g, m, none⟩ = some (.bool F[m]) := (HP4.own.cellAt m (by omega)).trans (mcs_at F m (by omega))
            have f0 := HP4.own.frozenAt m
            have hgl := (HP4.own.lt g rfl).2
            obtain ⟨gm', om', e, hgm', m1⟩ := HMK.out w4 HP4.below
            injection e with e
            injection e with e1 e2
            subst e1 e2
            have i2 : (m : Int) < 129 := by omega
            generalize F[m] = fm at z0
            clear HP2 HP3 H4 ht4 HP4 hgm m0 HN hpre
            unfold getN14
            go_wp2_with fail
            go_roundg (gk - 1)
            case measure => omega
            case rel => exact ⟨i + 1, _, _, _, by omega, by go_num, HP5.out.store m _, HN4, HB4⟩
          | false =>
            go_wp2_with fail
            have HP3 := HP2.out.quiet (wx := w2.alloc (.cells #[.int .u64 (cutW ah m : Nat), .int .u64 (cutW al (m - 64) : Nat), .int .i64 (m : Int)] 27)) (by go_grown)
            refine (tput_any HP3.tri (cutK ah al m) (m : Int) (cutK_good wa wb) (by omega) (by omega)).mono ?_
            rintro e w4 ⟨rfl, H4, ht4⟩
            have HP4 := HP3.turn H4 ht4
            have HN4 := Lib.hid (HN.out.put wa wb hm2)
            have HB4 : Hid (-((i + 1 : Nat) : Int) ≤ putC14 (cutK ah al m) T n ∧ putC14 (cutK ah al m) T n ≤ ((i + 1 : Nat) : Int)) := by
              show _ ∧ _
              unfold putC14
              split <;> omega
            have HP5 := Lib.hid HP4
            have hFl := HN.out.len
            have z0 : w4.cell? ⟨g, m, none⟩ = some (.bool F[m]) := (HP4.own.cellAt m (by omega)).trans (mcs_at F m (by omega))
            have f0 := HP4.own.frozenAt m
            have hgl := (HP4.own.lt g rfl).2
            obtain ⟨gm', om', e, hgm', m1⟩ := HMK.out w4 HP4.below
            injection e with e
            injection e with e1 e2
            subst e1 e2
            have i2 : (m : Int) < 129 := by omega
            generalize F[m] = fm at z0
            clear HP2 HP3 H4 ht4 HP4 hgm m0 HN hpre
            unfold getN14
            go_wp2_with fail
            go_roundg (gk - 1)
            case measure => omega
            case rel => exact ⟨i + 1, _, _, _, by omega, by go_num, HP5.out.store m _, HN4, HB4⟩
        · obtain ⟨q0, q1, q2, q3, hzq⟩ := HQ.out _ HP.out.below
          have hzq1 : w.heap.size < wr.heap.size := by omega
          have i1 : ¬ (i : Int) < (L.length : Int) := by omega
          have hC := rcommon_any ah al bh bl wa wb wc wd
          have hcl := commonN_le ah al bh bl
          have hlon := HN.out.longest wa wb wc wd
          obtain ⟨cm, hcm⟩ : ∃ cm, cm = commonN ah al bh bl := ⟨_, rfl⟩
          rw [← hcm] at hC hcl hlon
          have HC := Lib.hid hC
          have HLO := Lib.hid hlon
          have hFl := HN.out.len
          clear hcm hC hlon HB HN
          go_wp2_with fail
          refine (HC.out _).mono ?_
          rintro e w2 ⟨rfl, hb2⟩
          have HP2 := Lib.hid (HP.out.quiet hb2)
          clear hb2 HP q0 q1 q2 q3 hzq hzq1 HC
          go_wp2_with fail
          go_loopg [15, 17] (cm + 1) (fun gk s15 s17 wx => ∃ (j : Nat) (v : Int), gk + j = cm + 1 ∧ s17 = .int .i64 (j : Int) ∧ s15 = .int .i64 v ∧ Hid (topM F j = v) ∧ Hid (NestP wB wx t g T n F))
          case atStart => exact ⟨0, -1, by omega, rfl, rfl, rfl, HP2⟩
          case round =>
            clear HP2
            obtain ⟨j, v, hj, rfl, rfl, HV, HP⟩ := hrel
            by_cases hjc : j ≤ cm
            · have i2 : (j : Int) ≤ (cm : Int) := by omega
              have i3 : (j : Int) < 129 := by omega
              have hjF : j < F.length := by omega
              have z0 : wr.cell? ⟨g, j, none⟩ = some (.bool F[j]) := (HP.out.own.cellAt j (by omega)).trans (mcs_at F j hjF)
              have hgl := (HP.out.own.lt g rfl).2
              have hgd : F.getD j false = F[j] := by rw [List.getD_eq_getElem?_getD, List.getElem?_eq_getElem hjF]; rfl
              cases hfj : F[j] with
              | true =>
                have HV2 : Hid (topM F (j + 1) = (j : Int)) := by
                  show topM F (j + 1) = _
                  unfold topM
                  rw [hgd, hfj, if_pos rfl]
                rw [hfj] at z0
                clear hfj hgd hjF HV
                go_wp2_with fail
                go_roundg (gk - 1)
                case measure => omega
                case rel => exact ⟨j + 1, _, by omega, by go_num, rfl, HV2, HP⟩
              | false =>
                have HV2 : Hid (topM F (j + 1) = v) := by
                  show topM F (j + 1) = _
                  unfold topM
                  rw [hgd, hfj, if_neg (by simp)]
                  exact HV.out
                rw [hfj] at z0
                clear hfj hgd hjF HV
                go_wp2_with fail
                go_roundg (gk - 1)
                case measure => omega
                case rel => exact ⟨j + 1, _, by omega, by go_num, rfl, HV2, HP⟩
            · have i2 : ¬ (j : Int) ≤ (cm : Int) := by omega
              obtain rfl : j = cm + 1 := by omega
              have hwr2 := hB.trans (HP.out.below.mono hB.size)
              obtain ⟨q0, q1, q2, q3, hzq⟩ := HQ.out _ HP.out.below
              rcases HLO.out with ⟨e1, e2⟩ | ⟨N, e1, e2⟩
              · have hL2 := longest_any HP.out.tri bh bl wc wd
                rw [e2] at hL2
                obtain rfl : v = -1 := HV.out.symm.trans e1
                have HLL := Lib.hid hL2
                clear hL2 e1 e2 HLO HV
                unfold rtA zr at HLL
                go_wp2_with fail
                refine HLL.out.mono ?_
                rintro e w3 ⟨rfl, hb3⟩
                have hw3 := hwr2.trans (hb3.mono hwr2.size)
                simp only [Option.getD_none, Option.isSome_none]
                clear hb3 q0 q1 q2 q3 hzq HLL
                go_wp2
                go_ret
                have hs3 := hw3.size
                exact ⟨rfl, by go_grown⟩
              · have hL2 := longest_any HP.out.tri bh bl wc wd
                rw [e2] at hL2
                obtain rfl : v = (N : Int) := HV.out.symm.trans e1
                have HLL := Lib.hid hL2
                clear hL2 e1 e2 HLO HV
                unfold rtA cutK at HLL
                go_wp2_with fail
                refine HLL.out.mono ?_
                rintro e w3 ⟨rfl, hb3⟩
                have hw3 := hwr2.trans (hb3.mono hwr2.size)
                simp only [Option.getD_some, Option.isSome_some]
                clear hb3 q0 q1 q2 q3 hzq HLL
                go_wp2
                go_ret
                have hs3 := hw3.size
                exact ⟨rfl, by go_grown⟩
end Go.Proofs.Ytokjhoiacidofaa
/-
  TrieNested, proved: for every input the law returns true, and each argument reads as it read before. No condition.
-/
set_option linter.unusedSimpArgs false
set_option linter.unusedVariables false
namespace Go.Proofs.Ytokjhoiacidofaa
open Go.ChangeShapes Go.WideShapes Go.ChangeAt Go.RowKit Go.Joins M

namespace lawTrieNested
set_option maxRecDepth 100000 in
theorem lifted (os : Os) (started : os.Started) (H : Type) (enc : TypeId × Value → H) :
    ReturnsInHanded {} Try.checked os 4 .any (Rows.trieNestedSpec.pre6 enc Try.prog Try.f4 Rows.trieNestedRow.domain false) (Rows.trieNestedSpec.post enc Try.prog Try.f4 false true false false) := by
  refine returnsInHanded_of_change (C := Try.checked) (show ownKnob Try.prog.godebug = none by kernel_rfl) started (by kernel_rfl) Try.func4
    (ChangeSpec.witness6 (enc := enc) (C := Try.checked) false ⟨#[], #[.agg #[.int .u64 0, .int .u64 0], .agg #[.int .u64 0, .int .u64 0], .slice none 0 0, .slice none 0 0], []⟩ 8 (by kernel_rfl) (by kernel_rfl) (by kernel_rfl) (by kernel_rfl)) ?_
  intro W base args ds gs before hval0 hW hcnd _
  have hval : ∀ (j : Nat) t v, Try.f4.params[j]? = some t → args[j]? = some v → Value.okWide Try.prog W .any base t v := hval0
  have hW' := hW
  obtain ⟨p, q, hA0, hV, -, -, -⟩ := hW
  have hA : DataW.TrodAll enc Try.prog W 0 (fun _ => true) true Try.f4.params.toList args.toList ds p := hA0
  rw [Try.params4] at hA hval
  obtain ⟨v0, vs0, d0, ds0, p0, q0, hargs, rfl, rfl, t0, r0⟩ := trodAll_cons hA
  obtain ⟨v1, vs1, d1, ds1, p1, q1, rfl, rfl, rfl, t1, r1⟩ := trodAll_cons r0
  obtain ⟨v2, vs2, d2, ds2, p2, q2, rfl, rfl, rfl, t2, r2⟩ := trodAll_cons r1
  obtain ⟨v3, vs3, d3, ds3, p3, q3, rfl, rfl, rfl, t3, r3⟩ := trodAll_cons r2
  obtain ⟨rfl, rfl, rfl⟩ := trodAll_nil r3
  obtain rfl : args = #[v0, v1, v2, v3] := by cases args; simp_all
  obtain ⟨h0, l0, rfl, a0, b0⟩ := open_addr (hval 0 25 v0 rfl rfl) t0
  obtain ⟨h1, l1, rfl, a1, b1⟩ := open_addr (hval 1 25 v1 rfl rfl) t1
  obtain ⟨s2, k2, n2, rfl, a2, b2, w2⟩ := open_ints (hval 2 48 v2 rfl rfl) t2
  obtain ⟨s3, k3, n3, rfl, a3, b3, w3⟩ := open_bools (hval 3 49 v3 rfl rfl) t3
  obtain ⟨rfl, -⟩ := trodVars_none hV
  refine (nested_walk h0 l0 h1 l1 s2 k2 n2 s3 k3 n3 a0 b0 a1 b1 W a2 a3 w2 w3).mono fun e W' ⟨he, hg⟩ => ?_
  subst he
  exact ⟨_, rfl, law_post (by kernel_rfl) (by kernel_rfl) rfl Try.underlying4 rfl hW' rfl hg⟩
theorem holds : Rows.TrieNestedSaid :=
  OpenClaim.holds_of_wide 4 Try.f4 rfl rfl rfl rfl rfl rfl rfl ⟨rfl, rfl, rfl, rfl, rfl⟩ rfl rfl rfl rfl rfl (by kernel_rfl) Try.func4 (by kernel_rfl)
    (of_decide_eq_true (by kernel_rfl)) (by unfold Func.isWrapper; first | (rw [if_pos (by decide +kernel)]; kernel_rfl) | (rw [if_neg (by decide +kernel)]; exact ⟨rfl, rfl⟩))
    (fun os started H enc _ => lifted os started H enc)
#print axioms holds
end lawTrieNested
end Go.Proofs.Ytokjhoiacidofaa
