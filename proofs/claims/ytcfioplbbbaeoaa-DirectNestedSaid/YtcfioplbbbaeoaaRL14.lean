/-
  What the reference's Longest hands back. No condition but that the row lies in memory, is short of 2^20, and that its keys' addresses are words of 64 bits.
-/
import Derived.Test.YtcfioplbbbaeoaaM14
import Derived.Test.YtcfioplbbbaeoaaRef12
import Derived.Test.YtcfioplbbbaeoaaAppR
import Derived.Deep.LoopGhost
set_option linter.unusedSimpArgs false
set_option linter.unusedVariables false
namespace Go.Proofs.Ytcfioplbbbaeoaa
open Go.RowKit Go.Sort M

/-- Where it stands, as a whole number; below 0: nowhere. -/
def oI : Option Nat → Int
  | none => -1
  | some b => b
theorem lng_none_no {L : List Rt} {c : Rt → Bool} {j : Nat} (hj : j < L.length) (h : c L[j] = false) : lngI L c (j + 1) = lngI L c j := by
  rw [lngI, getD_at hj]
  cases lngI L c j with
  | none => simp only [h]; rfl
  | some b => simp only [h]; rw [if_neg (fun x => Bool.noConfusion x.1)]
theorem lng_none_yes {L : List Rt} {c : Rt → Bool} {j : Nat} (hj : j < L.length) (h : c L[j] = true) (e : lngI L c j = none) : lngI L c (j + 1) = some j := by
  rw [lngI, getD_at hj, e]
  simp only [h, if_true]
theorem lng_some {L : List Rt} {c : Rt → Bool} {j b : Nat} (hj : j < L.length) (hb : b < L.length) (h : c L[j] = true) (e : lngI L c j = some b) : lngI L c (j + 1) = if L[b].k.n < L[j].k.n then some j else some b := by
  rw [lngI, getD_at hj, e]
  simp only [h, getD_at hb, true_and]
theorem lng_lt {L : List Rt} {c : Rt → Bool} : ∀ {j b : Nat}, lngI L c j = some b → b < j
  | 0, b, h => by (cases h)
  | j + 1, b, h => by
    rw [lngI] at h
    cases e : lngI L c j with
    | none =>
      rw [e] at h
      simp only at h
      split at h
      · injection h with h; omega
      · cases h
    | some b' =>
      rw [e] at h
      simp only at h
      have := lng_lt e
      split at h
      · injection h with h; omega
      · injection h with h; omega
set_option maxRecDepth 100000 in
set_option maxHeartbeats 8000000 in
theorem rlongest_any (p : Option Addr) (c : Nat) (L : List Rt) (ah al : Nat) (low high : Int) (wa : W64 ah) (wb : W64 al) (w : World) (hR : Row w p (rcs L)) (hg : ∀ x ∈ L, x.k.good) (hl : L.length < 1048576) :
    Calls Try.prog 22 #[.slice p L.length c, .agg #[.int .u64 (ah : Int), .int .u64 (al : Int)], .int .i64 low, .int .i64 high] w fun e w' => e = .returned (.int .i64 (oI (lngI L (candB ah al low high) L.length))) ∧ Below w.heap.size w w' := by
  have HR := Lib.hid hR
  have HG := Lib.hid hg
  obtain ⟨V, hV⟩ : ∃ V, V = oI (lngI L (candB ah al low high) L.length) := ⟨_, rfl⟩
  rw [← hV]
  have HV := Lib.hid hV
  clear hR hg hV
  go_enter Try.func22, Try.ntmps22
  go_wp2
  go_loopg [9, 10, 11] L.length (fun gk s9 s10 s11 wr => ∃ (j : Nat) (v : Int), gk + j = L.length ∧ s10 = .int .i64 (j : Int) ∧ s9 = .int .i64 v ∧ Hid (v = oI (lngI L (candB ah al low high) j)) ∧ wr.cell? ⟨w.heap.size, 0, none⟩ = some (.int .u64 (ah : Int)) ∧ wr.cell? ⟨w.heap.size, 1, none⟩ = some (.int .u64 (al : Int)) ∧ w.heap.size < wr.heap.size ∧ Below w.heap.size w wr)
  case atStart => exact ⟨0, -1, by omega, rfl, rfl, rfl, by simp [go_sem], by simp [go_sem], by simp, by go_grown⟩
  case round =>
    obtain ⟨j, v, hj, rfl, rfl, HW, q0, q1, hzq, hb⟩ := hrel
    by_cases hlt : j < L.length
    · obtain ⟨gr, o, rfl, hgr, r0, r1, r2, r3⟩ := HR.out.rt hlt
      have r0 := (hb.cell (p := ⟨gr, o + j * 4, none⟩) hgr).trans r0
      have r1 := (hb.cell (p := ⟨gr, o + j * 4 + 1, none⟩) hgr).trans r1
      have r2 := (hb.cell (p := ⟨gr, o + j * 4 + 2, none⟩) hgr).trans r2
      have hgr2 := Nat.lt_of_lt_of_le hgr hb.size
      have i1 : (j : Int) < (L.length : Int) := by omega
      have hgk := HG.out _ (List.getElem_mem hlt)
      have hno := fun h => lng_none_no (L := L) (c := candB ah al low high) hlt h
      have hyes := fun h e => lng_none_yes (L := L) (c := candB ah al low high) hlt h e
      have hsome := fun b hb h e => lng_some (L := L) (c := candB ah al low high) (b := b) hlt hb h e
      have hhas := rhas_any L[j].k.h L[j].k.l L[j].k.n ah al hgk.1 hgk.2 wa wb
      have hcd : candB ah al low high L[j] = (decide (low < L[j].k.n) && (decide (L[j].k.n ≤ high) && hasB L[j].k.h L[j].k.l L[j].k.n ah al)) := rfl
      clear r3
      by_cases c1 : low < L[j].k.n
      · by_cases c2 : L[j].k.n ≤ high
        · cases c3 : hasB L[j].k.h L[j].k.l L[j].k.n ah al with
          | false =>
            have HN : Hid (v = oI (lngI L (candB ah al low high) (j + 1))) := by
              show _ = _
              rw [hno (by rw [hcd, c3]; simp), ← HW.out]
            rw [c3] at hhas
            have HHA := Lib.hid hhas
            have d1 : decide (low < L[j].k.n) = true := decide_eq_true c1
            have d2 : decide (L[j].k.n ≤ high) = true := decide_eq_true c2
            clear hno hyes hsome hhas hcd c3 hgk HW
            generalize L[j] = x at *
            go_wp2_with fail
            have kg := cell_grow
            refine region_whole (by kernel_rfl) (by kernel_rfl) ?_
            repeat (any_goals (first | go_big_quiet_step ((exact HHA.out.at _ _ _)) | quiet_step ((exact HHA.out.at _ _ _))))
            refine wpQuiet_nil ?_
            clear kg
            intro w2 hb2
            obtain ⟨hc2, hf2⟩ := bcell hb2
            have hw2 : Below w.heap.size w w2 := by
              refine Below.trans ?_ (hb2.mono ?_)
              · go_grown
              · first | omega | go_size
            have hbx : Below wr.heap.size wr w2 := Below.trans (by go_grown) (hb2.mono (by simp))
            have hw2 := hb.trans (hbx.mono hb.size)
            have q0 := (hbx.cell (p := ⟨w.heap.size, 0, none⟩) hzq).trans q0
            have q1 := (hbx.cell (p := ⟨w.heap.size, 1, none⟩) hzq).trans q1
            have hzq2 := Nat.lt_of_lt_of_le hzq hbx.size
            clear hbx
            clear hc2 hf2 hb2
            go_wp2_with fail
            go_roundg (gk - 1)
            case measure => omega
            case rel => exact ⟨j + 1, _, by omega, by go_num, rfl, HN, q0, q1, hzq2, hw2⟩
          | true =>
            have hct : candB ah al low high L[j] = true := by rw [hcd, c3]; simp [c1, c2]
            rw [c3] at hhas
            have HHA := Lib.hid hhas
            have d1 : decide (low < L[j].k.n) = true := decide_eq_true c1
            have d2 : decide (L[j].k.n ≤ high) = true := decide_eq_true c2
            cases e : lngI L (candB ah al low high) j with
            | none =>
              have hv : v = -1 := by rw [HW.out, e]; rfl
              subst hv
              have HN : Hid ((j : Int) = oI (lngI L (candB ah al low high) (j + 1))) := by
                show _ = _
                rw [hyes hct e]
                rfl
              clear hno hyes hsome hhas hcd c3 hgk HW hct e
              generalize L[j] = x at *
              go_wp2_with fail
              have kg := cell_grow
              refine region_whole (by kernel_rfl) (by kernel_rfl) ?_
              repeat (any_goals (first | go_big_quiet_step ((exact HHA.out.at _ _ _)) | quiet_step ((exact HHA.out.at _ _ _))))
              refine wpQuiet_nil ?_
              clear kg
              intro w2 hb2
              obtain ⟨hc2, hf2⟩ := bcell hb2
              have hw2 : Below w.heap.size w w2 := by
                refine Below.trans ?_ (hb2.mono ?_)
                · go_grown
                · first | omega | go_size
              have hbx : Below wr.heap.size wr w2 := Below.trans (by go_grown) (hb2.mono (by simp))
              have hw2 := hb.trans (hbx.mono hb.size)
              have q0 := (hbx.cell (p := ⟨w.heap.size, 0, none⟩) hzq).trans q0
              have q1 := (hbx.cell (p := ⟨w.heap.size, 1, none⟩) hzq).trans q1
              have hzq2 := Nat.lt_of_lt_of_le hzq hbx.size
              clear hbx
              clear hc2 hf2 hb2
              go_wp2_with fail
              go_roundg (gk - 1)
              case measure => omega
              case rel => exact ⟨j + 1, _, by omega, by go_num, rfl, HN, q0, q1, hzq2, hw2⟩
            | some b =>
              have hbj := lng_lt e
              have hbl : b < L.length := by omega
              have hv : v = (b : Int) := by rw [HW.out, e]; rfl
              subst hv
              have hs2 := hsome b hbl hct e
              obtain ⟨gr', o', e', -, -, -, s2, -⟩ := HR.out.rt hbl
              injection e' with e'
              injection e' with e1 e2
              subst e1 e2
              have s2 := (hb.cell (p := ⟨gr, o + b * 4 + 2, none⟩) hgr).trans s2
              have b1 : ¬ (b : Int) < 0 := by omega
              have b2 : ((b : Nat) : Int) < (L.length : Int) := by omega
              have b3 : (0 : Int) ≤ (b : Int) := by omega
              by_cases c4 : L[b].k.n < L[j].k.n
              · have HN : Hid ((j : Int) = oI (lngI L (candB ah al low high) (j + 1))) := by
                  show _ = _
                  rw [hs2, if_pos c4]
                  rfl
                have d4 : decide (L[b].k.n < L[j].k.n) = true := decide_eq_true c4
                clear hno hyes hsome hhas hcd c3 hgk HW hct e hs2
                generalize L[j] = x at *
                generalize L[b] = z at *
                go_wp2_with fail
                have kg := cell_grow
                refine region_whole (by kernel_rfl) (by kernel_rfl) ?_
                repeat (any_goals (first | go_big_quiet_step ((exact HHA.out.at _ _ _)) | quiet_step ((exact HHA.out.at _ _ _))))
                refine wpQuiet_nil ?_
                clear kg
                intro w2 hb2
                obtain ⟨hc2, hf2⟩ := bcell hb2
                have hw2 : Below w.heap.size w w2 := by
                  refine Below.trans ?_ (hb2.mono ?_)
                  · go_grown
                  · first | omega | go_size
                have hbx : Below wr.heap.size wr w2 := Below.trans (by go_grown) (hb2.mono (by simp))
                have hw2 := hb.trans (hbx.mono hb.size)
                have q0 := (hbx.cell (p := ⟨w.heap.size, 0, none⟩) hzq).trans q0
                have q1 := (hbx.cell (p := ⟨w.heap.size, 1, none⟩) hzq).trans q1
                have hzq2 := Nat.lt_of_lt_of_le hzq hbx.size
                clear hbx
                clear hc2 hf2 hb2
                go_wp2_with fail
                go_roundg (gk - 1)
                case measure => omega
                case rel => exact ⟨j + 1, _, by omega, by go_num, rfl, HN, q0, q1, hzq2, hw2⟩
              · have HN : Hid ((b : Int) = oI (lngI L (candB ah al low high) (j + 1))) := by
                  show _ = _
                  rw [hs2, if_neg c4]
                  rfl
                have d4 : decide (L[b].k.n < L[j].k.n) = false := decide_eq_false c4
                clear hno hyes hsome hhas hcd c3 hgk HW hct e hs2
                generalize L[j] = x at *
                generalize L[b] = z at *
                go_wp2_with fail
                have kg := cell_grow
                refine region_whole (by kernel_rfl) (by kernel_rfl) ?_
                repeat (any_goals (first | go_big_quiet_step ((exact HHA.out.at _ _ _)) | quiet_step ((exact HHA.out.at _ _ _))))
                refine wpQuiet_nil ?_
                clear kg
                intro w2 hb2
                obtain ⟨hc2, hf2⟩ := bcell hb2
                have hw2 : Below w.heap.size w w2 := by
                  refine Below.trans ?_ (hb2.mono ?_)
                  · go_grown
                  · first | omega | go_size
                have hbx : Below wr.heap.size wr w2 := Below.trans (by go_grown) (hb2.mono (by simp))
                have hw2 := hb.trans (hbx.mono hb.size)
                have q0 := (hbx.cell (p := ⟨w.heap.size, 0, none⟩) hzq).trans q0
                have q1 := (hbx.cell (p := ⟨w.heap.size, 1, none⟩) hzq).trans q1
                have hzq2 := Nat.lt_of_lt_of_le hzq hbx.size
                clear hbx
                clear hc2 hf2 hb2
                go_wp2_with fail
                go_roundg (gk - 1)
                case measure => omega
                case rel => exact ⟨j + 1, _, by omega, by go_num, rfl, HN, q0, q1, hzq2, hw2⟩
        · have HN : Hid (v = oI (lngI L (candB ah al low high) (j + 1))) := by
            show _ = _
            rw [hno (by rw [hcd]; simp [c2]), ← HW.out]
          have d1 : decide (low < L[j].k.n) = true := decide_eq_true c1
          have d2 : decide (L[j].k.n ≤ high) = false := decide_eq_false c2
          clear hno hyes hsome hhas hcd hgk HW
          generalize L[j] = x at *
          go_wp2_with fail
          have kg := cell_grow
          refine region_whole (by kernel_rfl) (by kernel_rfl) ?_
          repeat (any_goals (first | go_big_quiet_step (fail) | quiet_step (fail)))
          refine wpQuiet_nil ?_
          clear kg
          intro w2 hb2
          obtain ⟨hc2, hf2⟩ := bcell hb2
          have hw2 : Below w.heap.size w w2 := by
            refine Below.trans ?_ (hb2.mono ?_)
            · go_grown
            · first | omega | go_size
          have hbx : Below wr.heap.size wr w2 := Below.trans (by go_grown) (hb2.mono (by simp))
          have hw2 := hb.trans (hbx.mono hb.size)
          have q0 := (hbx.cell (p := ⟨w.heap.size, 0, none⟩) hzq).trans q0
          have q1 := (hbx.cell (p := ⟨w.heap.size, 1, none⟩) hzq).trans q1
          have hzq2 := Nat.lt_of_lt_of_le hzq hbx.size
          clear hbx
          clear hc2 hf2 hb2
          go_wp2_with fail
          go_roundg (gk - 1)
          case measure => omega
          case rel => exact ⟨j + 1, _, by omega, by go_num, rfl, HN, q0, q1, hzq2, hw2⟩
      · have HN : Hid (v = oI (lngI L (candB ah al low high) (j + 1))) := by
          show _ = _
          rw [hno (by rw [hcd]; simp [c1]), ← HW.out]
        have d1 : decide (low < L[j].k.n) = false := decide_eq_false c1
        clear hno hyes hsome hhas hcd hgk HW
        generalize L[j] = x at *
        go_wp2_with fail
        have kg := cell_grow
        refine region_whole (by kernel_rfl) (by kernel_rfl) ?_
        repeat (any_goals (first | go_big_quiet_step (fail) | quiet_step (fail)))
        refine wpQuiet_nil ?_
        clear kg
        intro w2 hb2
        obtain ⟨hc2, hf2⟩ := bcell hb2
        have hw2 : Below w.heap.size w w2 := by
          refine Below.trans ?_ (hb2.mono ?_)
          · go_grown
          · first | omega | go_size
        have hbx : Below wr.heap.size wr w2 := Below.trans (by go_grown) (hb2.mono (by simp))
        have hw2 := hb.trans (hbx.mono hb.size)
        have q0 := (hbx.cell (p := ⟨w.heap.size, 0, none⟩) hzq).trans q0
        have q1 := (hbx.cell (p := ⟨w.heap.size, 1, none⟩) hzq).trans q1
        have hzq2 := Nat.lt_of_lt_of_le hzq hbx.size
        clear hbx
        clear hc2 hf2 hb2
        go_wp2_with fail
        go_roundg (gk - 1)
        case measure => omega
        case rel => exact ⟨j + 1, _, by omega, by go_num, rfl, HN, q0, q1, hzq2, hw2⟩
    · have i1 : ¬ (j : Int) < (L.length : Int) := by omega
      obtain rfl : j = L.length := by omega
      go_wp2
      go_ret
      exact ⟨by rw [HV.out, ← HW.out]; rfl, hb⟩
end Go.Proofs.Ytcfioplbbbaeoaa
