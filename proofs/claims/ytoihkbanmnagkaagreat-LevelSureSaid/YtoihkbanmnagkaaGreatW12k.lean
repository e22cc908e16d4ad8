/-
  What unstash of a table does: the key goes out of the stash, if it is there. No condition but that the table's cells lie in memory, and that its stash is in order.
-/
import Derived.Test.YtoihkbanmnagkaaGreatSortR
import Derived.Shelf.GgSortFunc.Tiny
import Derived.Test.YtoihkbanmnagkaaGreatW11b
import Derived.Test.YtoihkbanmnagkaaGreatRBkt
import Derived.Test.YtoihkbanmnagkaaGreatAppR
import Derived.Test.YtoihkbanmnagkaaGreatLtR
import Derived.Test.YtoihkbanmnagkaaGreatMade
import Derived.Deep.RegionLaw
import Derived.Lib.SliceRun
import Derived.Laws.CopyRow
/-
  sort.Slice at a slice of routes, at a test that may make blocks of its own. No condition but those that stand in each.
-/
set_option linter.unusedSimpArgs false
set_option linter.unusedVariables false
namespace Go.Proofs.YtoihkbanmnagkaaGreat
open Go.RowKit Go.Sort M

set_option maxHeartbeats 1000000 in
theorem sliceR_any (g : Nat) (lb : Array Value) (lt : Rt → Rt → Bool) (hO : SWO lt) (eg : ∀ args w, (callFunc g args).run Tryz.prog w = .ok (.enter g args) w) (blk c : Nat) (L : List Rt) (h2 : 2 ≤ L.length) (hn : L.length < 4611686018427387904) (w : World)
    (hH : HoldsK rcell 4 w blk 0 L.toArray) (hl : blk < w.heap.size) (hL : LessB g lb rcell 4 lt w blk 0 L.length) :
    Calls Tryz.prog 68 #[.iface 47 (.slice (some ⟨blk, 0, none⟩) L.length c), .func (.func g) #[] lb] w fun e w' => e = .returned (.tuple #[]) ∧
      ∃ M : List Rt, M.Perm L ∧ M.Pairwise (fun a b => lt b a = false) ∧ HoldsK rcell 4 w' blk 0 M.toArray ∧ Touch (· = blk) w w' := by
  refine Any.sort_Slice_of_pdq (P := Tryz.prog) (ρ := Tryz.laysGg6_ren) Tryz.laysGg6 47 58 rtT rtE (by kernel_rfl) (by kernel_rfl) (by kernel_rfl) (by kernel_rfl) 25 (fun _ => by kernel_rfl) (some ⟨blk, 0, none⟩) L.length c hn 117 (by rw [rtK _ h2]; kernel_rfl) (.func g) #[] lb w _ ?_
  have hB : sliceBound Tryz.prog 58 rtE 25 (some ⟨blk, 0, none⟩) L.length c = #[.slice (some ⟨blk, 0, none⟩) L.length c, typeHandle Tryz.prog 58] := by
    unfold sliceBound; rw [if_neg (swapperK_gt _ _ _ h2)]
  rw [hB]
  have hlim : Lib.bitLen L.length < 4611686018427387904 := Nat.lt_of_le_of_lt (Lib.bitLen_le L.length 62 (by omega) (by omega)) (by omega)
  have hsw := swapSwapsK_of_literal (P := Tryz.prog) (α := Rt) false 117 (fun args W => run_callFunc_extern Tryz.func117 (by kernel_rfl) (by kernel_rfl) (by kernel_rfl) (e := Extern.ReflectliteSwapper.swap false) (by kernel_rfl) args W)
    58 rtE (by kernel_rfl) rcell 4 (fun _ => rfl) (by kernel_rfl) (fun _ => by kernel_rfl) rt_one blk 0 L.length c
  have hw1 : RowKit.Below w.heap.size w (sliceWorld Tryz.prog Tryz.laysGg6_ren 47 (some ⟨blk, 0, none⟩) L.length c w) := by unfold sliceWorld; go_grown
  have S := (Srt.start (n := L.length) hH hl (by simp)).below hw1
  refine (pdq_any (enc := rcell) (k := 4) (fun _ => rfl) hO eg hL hsw hn (L.length + 1) 0 L.length (Lib.bitLen L.length) L.toArray _ (by omega) (Nat.zero_le _) (Nat.le_refl _) hlim (.inl rfl) S).mono ?_
  rintro e w' ⟨rfl, hS, hT⟩
  have h := pdq_sorts lt hO L.toArray 0 L.length (Lib.bitLen L.length) true true (Nat.zero_le _) (by simp) (.inl rfl)
  exact ⟨rfl, _, perm_list h.1, sorted_list (by rw [h.1.1]; simp) h.2, hS.holds, hS.touch⟩
theorem sliceR_none (g : Nat) (lb : Array Value) (p : Option Addr) (c n : Nat) (h1 : n ≤ 1) (w : World) :
    Calls Tryz.prog 68 #[.iface 47 (.slice p n c), .func (.func g) #[] lb] w fun e w' => e = .returned (.tuple #[]) ∧ RowKit.Below w.heap.size w w' := by
  have hgrow : ∀ w' os, w' = grow w os → RowKit.Below w.heap.size w w' := by
    rintro w' os rfl
    refine ⟨rfl, rfl, rfl, by rw [size_grow]; omega, fun j hj => ?_⟩
    show (_ ++ os)[j]? = _
    rw [Array.getElem?_append_left hj]
  rcases (show n = 0 ∨ n = 1 by omega) with rfl | rfl
  · refine (Any.sort_Slice_tiny (P := Tryz.prog) (ρ := Tryz.laysGg6_ren) Tryz.laysGg6 47 58 rtT rtE (by kernel_rfl) (by kernel_rfl) (by kernel_rfl) (by kernel_rfl) 25 (fun _ => by kernel_rfl) p 0 c h1 109 (by kernel_rfl) (.func g) #[] lb w).mono ?_
    rintro e w' ⟨rfl, os, h⟩
    exact ⟨rfl, hgrow w' os h⟩
  · refine (Any.sort_Slice_tiny (P := Tryz.prog) (ρ := Tryz.laysGg6_ren) Tryz.laysGg6 47 58 rtT rtE (by kernel_rfl) (by kernel_rfl) (by kernel_rfl) (by kernel_rfl) 25 (fun _ => by kernel_rfl) p 1 c h1 110 (by kernel_rfl) (.func g) #[] lb w).mono ?_
    rintro e w' ⟨rfl, os, h⟩
    exact ⟨rfl, hgrow w' os h⟩
end Go.Proofs.YtoihkbanmnagkaaGreat
/-
  What list of a table hands back: all that it has, bucket by bucket, then the stash. No condition but that the table's cells lie in memory, and that its stash is short of 2^20.
-/
set_option linter.unusedSimpArgs false
set_option linter.unusedVariables false
namespace Go.Proofs.YtoihkbanmnagkaaGreat
open Go.RowKit Go.Sort M

theorem flat_snoc (T : Tab) (j : Nat) (h : j < T.B.length) : (T.B.take (j + 1)).flatMap allC = (T.B.take j).flatMap allC ++ allC (T.bk j) := by
  rw [List.take_succ_eq_append_getElem h, List.flatMap_append, bk_at T j h]
  simp
theorem flat_le (T : Tab) (h4 : ∀ i, i < T.B.length → (T.bk i).length = 4) : ∀ j, j ≤ T.B.length → ((T.B.take j).flatMap allC).length ≤ j * 4
  | 0, _ => by simp
  | j + 1, h => by
    have ih := flat_le T h4 j (by omega)
    have := allC_len (T.bk j)
    rw [h4 j (by omega)] at this
    rw [flat_snoc T j (by omega), List.length_append]
    omega
set_option maxRecDepth 100000 in
set_option maxHeartbeats 4000000 in
theorem list_any (t g : Nat) (v : Value) (T : Tab) (m : Int) (w : World) (H : CT w t g v T m) (h : Num T) (hf : T.st.length < 1048576) :
    Calls Tryz.prog 67 #[.pointer (some ⟨t, 0, none⟩)] w fun e w' => NewRts w w' e (contT T) := by
  have hl := H.tb.tlt
  have c1 := H.tb.c1
  have h4 : ∀ i, i < T.B.length → (T.bk i).length = 4 := fun i hi => (H.tb.bk i hi).four
  have hFL := Lib.hid (flat_le T h4)
  have hhi := h.hi
  have HA := Lib.hid (fun x (hx : x < T.B.length) w (H : CT w t g v T m) => all11_any g (x * 20) (T.bk x) w (H.tb.bk x hx))
  have HH := Lib.hid H
  clear H h h4
  go_enter Tryz.func67, Tryz.ntmps67
  go_wp2
  go_loopw [3, 4, 10] (fun s3 s4 i wr => ∃ (j : Nat) (L : List Rt), j ≤ T.B.length ∧ i = .int .i64 (j : Int) ∧ Hid (L = (T.B.take j).flatMap allC) ∧ L.length ≤ 262144 ∧ Hid (wr.ownsRow w.heap.size 58 4 s3 L.length (rcs L)) ∧ Below w.heap.size w wr) (fun _ _ i _ => T.B.length - (intOf i).toNat)
  case atStart => exact ⟨0, [], by omega, rfl, rfl, by simp, World.ownsRow_nil _ _ _ _, by go_grown⟩
  case round =>
    obtain ⟨j, L, hj, rfl, hL, hLl, hown, hb⟩ := hrel
    by_cases hlt : j < T.B.length
    · have HH1 := Lib.hid (HH.out.below hb)
      have c1 := HH1.out.tb.c1
      have hl1 := HH1.out.tb.tlt
      have i1 : (0 : Int) ≤ (j : Int) := by omega
      have i2 : (j : Int) < (T.B.length : Int) := by omega
      have hz := hb.size
      have hfl := hFL.out (j + 1) (by omega)
      have hsn := flat_snoc T j hlt
      rw [hsn, List.length_append, ← hL.out] at hfl
      have HSN := Lib.hid hsn
      have HAL := Lib.hid hfl
      have HA1 := Lib.hid (HA.out j hlt wr HH1.out)
      clear hsn hfl
      go_wp2_with fail
      refine HA1.out.mono ?_
      rintro e w2 ⟨p, c, rfl, hown2, hb2⟩
      have hownL := Lib.hid (own_below hown.out hb2)
      have hown2 := Lib.hid hown2
      have hw2 := hb.trans (hb2.mono hb.size)
      have hz2 := hw2.size
      have hAl := HAL.out
      obtain ⟨N, hN⟩ : ∃ N, N = L ++ allC (T.bk j) := ⟨_, rfl⟩
      have hl3 : N.length ≤ 262144 := by rw [hN, List.length_append]; omega
      have HN := Lib.hid hN
      clear hb2 hown HA1 hN
      go_wp2_with (at_builtin; go_loud (refine wpList_append_rts rfl (.tmp 13) (.tmp 20) rfl w.heap.size wr.heap.size _ _ L (allC (T.bk j)) N HN.out rfl rfl hownL.out hown2.out (by omega) (by omega) ?_))
      intro v3 w3 hown3 hg3 hat
      have hw3 : Below w.heap.size w w3 := hw2.grown hg3 hz2 (fun k hk => (hownL.out.lt k hk).1)
      have hO3 := Lib.hid hown3
      clear hown3 hg3 hat
      go_wp2
      go_roundw
      case rel => exact ⟨j + 1, N, by omega, by go_num, by show _ = _; rw [HSN.out, HN.out, hL.out], hl3, hO3, hw3⟩
      case measure => simp [intOf]; omega
    · have hjn : j = T.B.length := by omega
      have HH1 := Lib.hid (HH.out.below hb)
      have c2 := HH1.out.tb.c2
      have hl1 := HH1.out.tb.tlt
      have hz := hb.size
      have hE : contT T = L ++ T.st := by
        unfold contT
        rw [hL.out, hjn, List.take_length]
      have HE := Lib.hid hE
      clear hE
      go_wp2_with (at_builtin; go_loud (refine wpList_append_rts rfl (.tmp 23) (.tmp 27) rfl w.heap.size 0 _ _ L T.st (contT T) HE.out rfl rfl hown.out HH1.out.tb.own (by omega) (by omega) ?_))
      intro v3 w3 hown3 hg3 hat
      have hw3 : Below w.heap.size w w3 := hb.grown hg3 hz (fun k hk => (hown.out.lt k hk).1)
      obtain ⟨p3, c3, rfl⟩ := own_slice hown3
      have hO3 := Lib.hid hown3
      clear hown3 hg3 hat
      go_wp2
      go_ret
      exact ⟨p3, c3, rfl, hO3.out, hw3⟩
end Go.Proofs.YtoihkbanmnagkaaGreat
/-
  What All of a table hands back: all that it has, sorted. No condition but that the table's cells lie in memory, that no key is twice in it, and that its stash is short of 2^20.
-/
set_option linter.unusedSimpArgs false
set_option linter.unusedVariables false
namespace Go.Proofs.YtoihkbanmnagkaaGreat
open Go.RowKit Go.Sort M

set_option maxRecDepth 100000 in
set_option maxHeartbeats 1000000 in
theorem allLess_any (bx blk c n : Nat) (hn : n < 1000000000) (w0 : World) (hc : w0.cell? ⟨bx, 0, none⟩ = some (.slice (some ⟨blk, 0, none⟩) n c)) (hne : bx ≠ blk) :
    LessB 69 #[.pointer (some ⟨bx, 0, none⟩)] rcell 4 ltR w0 blk 0 n := by
  intro W d S i j hi hj
  have hb0 : bx < w0.heap.size := World.block_lt_of_cell? w0 _ hc
  have b0 := S.touch.cell hc hne
  have hbl : bx < W.heap.size := Nat.lt_of_lt_of_le hb0 S.touch.size
  have hl := S.lt2
  have hs := S.size
  have x0 := (S.holds.cell (i := i) (c := 0) (by omega) (by decide)).1
  have x1 := (S.holds.cell (i := i) (c := 1) (by omega) (by decide)).1
  have x2 := (S.holds.cell (i := i) (c := 2) (by omega) (by decide)).1
  have y0 := (S.holds.cell (i := j) (c := 0) (by omega) (by decide)).1
  have y1 := (S.holds.cell (i := j) (c := 1) (by omega) (by decide)).1
  have y2 := (S.holds.cell (i := j) (c := 2) (by omega) (by decide)).1
  have HL := less_any d[i]!.k.h d[i]!.k.l d[i]!.k.n d[j]!.k.h d[j]!.k.l d[j]!.k.n
  change Gives _ _ _ (.bool (ltR d[i]! d[j]!)) at HL
  generalize ltR d[i]! d[j]! = ls at *
  change W.cell? _ = some (.int .u64 (d[i]!.k.h : Int)) at x0
  change W.cell? _ = some (.int .u64 (d[i]!.k.l : Int)) at x1
  change W.cell? _ = some (.int .i64 d[i]!.k.n) at x2
  change W.cell? _ = some (.int .u64 (d[j]!.k.h : Int)) at y0
  change W.cell? _ = some (.int .u64 (d[j]!.k.l : Int)) at y1
  change W.cell? _ = some (.int .i64 d[j]!.k.n) at y2
  generalize d[i]!.k = q at *
  generalize d[j]!.k = r at *
  rw [Nat.zero_add] at x0 x1 x2 y0 y1 y2
  rw [Nat.add_zero] at x0 y0
  have HL := Lib.hid HL
  have i1 : (0 : Int) ≤ (i : Int) := by omega
  have i2 : (i : Int) < (n : Int) := by omega
  have j1 : (0 : Int) ≤ (j : Int) := by omega
  have j2 : (j : Int) < (n : Int) := by omega
  clear S hc hb0
  show Calls _ _ #[.int .i64 (i : Int), .int .i64 (j : Int), .pointer (some ⟨bx, 0, none⟩)] _ _
  obtain ⟨w, hw⟩ : ∃ w, w = W := ⟨_, rfl⟩
  subst hw
  go_enter Tryz.func69, Tryz.ntmps69
  go_wp2_with fail
  have kg := cell_grow
  refine region_whole (by kernel_rfl) (by kernel_rfl) ?_
  repeat (any_goals (first | go_big_quiet_step ((exact HL.out.at _ _ _)) | quiet_step ((exact HL.out.at _ _ _))))
  refine wpQuiet_nil ?_
  clear kg
  intro w1 hb1
  obtain ⟨hc1, hf1⟩ := bcell hb1
  have hw1 : Below w.heap.size w w1 := by
    refine Below.trans ?_ (hb1.mono ?_)
    · go_grown
    · first | omega | go_size
  go_wp2
  go_ret
  exact ⟨rfl, hw1⟩
set_option maxRecDepth 100000 in
set_option maxHeartbeats 1000000 in
theorem all12_any (t g : Nat) (v : Value) (T : Tab) (m : Int) (w : World) (H : CT w t g v T m) (h : Num T) (hf : T.st.length < 1048576) (hk : (keysR (contT T)).Nodup) :
    Calls Tryz.prog 39 #[.pointer (some ⟨t, 0, none⟩)] w fun e w' => ∃ p c M, e = .returned (.slice p M.length c) ∧ Row w' p (rcs M) ∧ M.Perm (contT T) ∧ Sorted M ∧ RowKit.Below w.heap.size w w' := by
  have hl := H.tb.tlt
  have HLI := Lib.hid (list_any t g v T m w H h hf)
  have hLn : (contT T).length < 1000000000 := by
    have h1 := flat_le T (fun i hi => (H.tb.bk i hi).four) T.B.length (Nat.le_refl _)
    rw [List.take_length] at h1
    have h2 := h.hi
    unfold contT
    rw [List.length_append]
    omega
  obtain ⟨L, hL⟩ : ∃ L, L = contT T := ⟨_, rfl⟩
  rw [← hL] at HLI hk hLn ⊢
  clear H h hf hL
  have HK := Lib.hid hk
  clear hk
  go_enter Tryz.func39, Tryz.ntmps39
  go_wp2_with fail
  refine HLI.out.mono ?_
  rintro e w1 ⟨p, c, rfl, hown, hb1⟩
  have eg := enters_of Tryz.func69 (by kernel_rfl) rfl
  have hz1 := hb1.size
  have hS : ∀ W, RowKit.Below w1.heap.size w1 W → w1.heap.size < W.heap.size → W.cell? ⟨w1.heap.size, 0, none⟩ = some (.slice p L.length c) →
      Calls Tryz.prog 68 #[.iface 47 (.slice p L.length c), .func (.func 69) #[] #[.pointer (some ⟨w1.heap.size, 0, none⟩)]] W fun e w' => e = .returned (.tuple #[]) ∧ ∃ M : List Rt, M.length = L.length ∧ M.Perm L ∧ Sorted M ∧ Row w' p (rcs M) ∧ RowKit.Below w.heap.size W w' ∧ w'.cell? ⟨w1.heap.size, 0, none⟩ = some (.slice p L.length c) := by
    intro W hW hz hc
    have hownW := own_below hown hW
    by_cases h2 : 2 ≤ L.length
    · rcases hown.2 with ⟨e, h0⟩ | ⟨blk, cap', cur, e, hB, -, -, -, -, -⟩
      · omega
      · injection e with e1 e2 e3
        subst e1
        have hbk : blk < w1.heap.size := (hown.lt blk rfl).2
        refine (sliceR_any _ _ ltR ltR_swo eg blk c L h2 (by omega) W (holds_own hownW) (by omega) (allLess_any w1.heap.size blk c L.length hLn W hc (by omega))).mono ?_
        rintro e w' ⟨rfl, M, m1, m2, m3, m4⟩
        refine ⟨rfl, M, m1.length_eq, m1, sorted_strict ((keysR_perm m1).nodup_iff.2 HK.out) m2, row_holds m3 (by have := m4.size; omega), m4.below (by omega) (fun j hj => by omega), m4.cell hc (by show w1.heap.size ≠ blk; omega)⟩
    · refine (sliceR_none _ _ p c L.length (by omega) W).mono ?_
      rintro e w' ⟨rfl, hb⟩
      have hs : Sorted L := by
        rcases L with _ | ⟨a, _ | ⟨b, L⟩⟩
        · exact List.Pairwise.nil
        · exact List.pairwise_singleton _ _
        · simp at h2
      exact ⟨rfl, L, rfl, List.Perm.refl _, hs, (Row.of_own hownW).below hb, hb.mono (by have := hW.size; omega), (hb.cell (p := ⟨w1.heap.size, 0, none⟩) hz).trans hc⟩
  have HS := Lib.hid hS
  have HOWN := Lib.hid hown
  clear hS hown eg
  go_wp2_with fail
  refine (HS.out _ (by go_grown) (by simp) (by simp [go_sem])).mono ?_
  rintro e w2 ⟨rfl, M, m1, m2, m3, m4, hb2, b0⟩
  have hbl : w1.heap.size < w2.heap.size := World.block_lt_of_cell? w2 _ b0
  have HM := Lib.hid (And.intro m1 (And.intro m2 (And.intro m3 m4)))
  have hw2 : RowKit.Below w.heap.size w w2 := by
    refine RowKit.Below.trans ?_ hb2
    exact hb1.trans (by go_grown)
  clear m1 m2 m3 m4 hb2
  go_wp2
  go_ret
  obtain ⟨m1, m2, m3, m4⟩ := HM.out
  exact ⟨p, c, M, by rw [m1]; rfl, m4, m2, m3, hw2⟩
end Go.Proofs.YtoihkbanmnagkaaGreat
/-
  What slices.Delete of one route makes of a row of the call's own: the row without it. No condition but that the row is short of 2^20.
-/
set_option linter.unusedSimpArgs false
set_option linter.unusedVariables false
namespace Go.Proofs.YtoihkbanmnagkaaGreat
open Go.RowKit Go.Sort M

section
variable {P : Program}
/-- Cells laid into a block that is known whole. -/
theorem setCells_row {w : World} {g o : Nat} {cur : Array Value} {t : TypeId} {vs : List Value} (hg : w.heap[g]? = some (.cells cur t (0, 0))) (hfit : o + vs.length ≤ cur.size) (h1 : ∀ v ∈ vs, v.oneCell' = true) :
    w.setCells g o vs = w.setRow g (splice cur.toList o vs).toArray := by
  have hst := run_storeCells_at Tryz.prog g o t vs 0 cur w hg (by simpa using hfit) h1
  have hc : ∀ j, j < vs.length → (w.cell? ⟨g, o + 0 + j, none⟩).isSome = true := by
    intro j hj
    rw [cell_of_row w g _ cur t (0, 0) hg, Array.getElem?_eq_getElem (by omega)]
    rfl
  have hf : ∀ j, j < vs.length → w.frozen? ⟨g, o + 0 + j, none⟩ = false := fun j _ => frozen_of_row w g _ cur t hg
  have hst2 := run_storeCells_cells (P := Tryz.prog) g o vs 0 w hc hf h1
  rw [hst2] at hst
  injection hst with _ hst
  simp only [Nat.add_zero] at hst
  rw [hst]
  simp [splice]
theorem step_append_rt {ops : Array Oper} {o : Oper} {a : Act} {w : World} {K : Act → World → Prop} {Q : Exit → Act → World → Prop} {E : Prop}
    (hg : o.guard = none) (s x : Operand) (t : TypeId) (hop : o.op = Op.call { callee := Callee.builtin Builtin.append, args := #[s, x], argTypes := #[t, t] })
    (e : TypeId) (i : TypeInfo) (size : Nat) (h1 : P.underlying t = some (.slice e)) (h2 : P.info? e = some i) (h4 : i.size = size)
    (b off n cap : Nat) (hs : a.eval s = .slice (some ⟨b, off, none⟩) n cap) (nm : Nat) (off2 : Nat) (ho2 : off + n * size = off2)
    (ad : Addr) (m c : Nat) (news : List Value) (hx : a.eval x = .slice (some ad) m c) (hnm : n + m = nm) (hn : news.length = m * size) (hc : ∀ j u, news[j]? = some u → w.cell? (ad.add j) = some u) (h1c : ∀ u ∈ news, u.oneCell' = true)
    (hroom : nm ≤ cap) (cur : Array Value) (ty : TypeId) (hb : w.heap[b]? = some (.cells cur ty (0, 0))) (hfit : off2 + news.length ≤ cur.size)
    (hK : ∀ w', Hid (w'.heap[b]? = some (.cells (splice cur.toList off2 news).toArray ty (0, 0))) → w.grownBy w' (some b) → K (a.put o.dst (.slice (some ⟨b, off, none⟩) nm cap)) w') :
    if Region.wanted o (yielded ops a.tmps) = true then Oper.wp P o a w K Q else E := by
  subst hnm ho2
  refine step_append_room hg s x t hop e i size h1 h2 h4 b off n cap hs ad m c news hx hn hc h1c hroom (fun j hj => ?_) ?_
  · constructor
    · rw [cell_of_row w b _ cur ty (0, 0) hb, Array.getElem?_eq_getElem (by omega)]
      rfl
    · exact frozen_of_row w b _ cur ty hb
  · rw [setCells_row hb hfit h1c]
    exact hK _ (show _ = _ from setRow_heap w b cur _ ty _ hb) (grown_setRow w b _)
/-- One element made zero. -/
theorem run_clear_one (w : World) (t e ty : TypeId) (z : Value) (zs : List Value) (ht : P.underlying t = some (.slice e)) (hv : ∀ w, (zeroValue e).run P w = .ok z w) (hz : (Builtin.zeroCells z.cells 1).toList = zs) (h1 : ∀ v ∈ zs, v.oneCell' = true)
    (g o c : Nat) (cur : Array Value) (tg : TypeId) (hg : w.heap[g]? = some (.cells cur tg (0, 0))) (hfit : o + zs.length ≤ cur.size) :
    (Builtin.clear_ #[t] ty #[.slice (some ⟨g, o, none⟩) 1 c]).run P w = .ok (.tuple #[]) (w.setRow g (splice cur.toList o zs).toArray) := by
  have hst := run_storeCells_at P g o tg zs 0 cur w hg (by simpa using hfit) h1
  simp [Builtin.clear_, run_underlying ht, hv, hz, hst, splice]
end
theorem splice_mid {α : Type} (L : List α) (o : Nat) (cs : List α) (ho : o ≤ L.length) : (splice L o cs).take (o + cs.length) = L.take o ++ cs := by
  unfold splice
  rw [← List.append_assoc]
  exact List.take_left' (by rw [List.length_append, List.length_take, Nat.min_eq_left ho])
def rt4 : List Value := [.int .u64 0, .int .u64 0, .int .i64 0, .int .i64 0]
theorem zero_rt (w : World) : (zeroValue 58).run Tryz.prog w = .ok (.agg #[.int .u64 0, .int .u64 0, .int .i64 0, .int .i64 0]) w := by
  obtain ⟨i0, hi0, iz0, -, -⟩ := info_parts infoR
  simp [zeroValue, typeInfo, hi0, iz0]
theorem zero_rt4 : (Builtin.zeroCells (Value.agg #[.int .u64 0, .int .u64 0, .int .i64 0, .int .i64 0]).cells 1).toList = rt4 := by kernel_rfl
set_option maxRecDepth 100000 in
set_option maxHeartbeats 4000000 in
theorem delete_at (g c m i : Nat) (cur : Array Value) (L : List Rt) (w : World) (hn : L.length = m + 1) (hg : w.heap[g]? = some (.cells cur 58 (0, 0))) (hc : m + 1 ≤ c) (hcm : c ≤ maxLen) (hcs : cur.size = c * 4) (htk : cur.toList.take ((m + 1) * 4) = rcs L)
    (hi : i < m + 1) (hL : m < 1048576) :
    Calls Tryz.prog 97 #[.slice (some ⟨g, 0, none⟩) (m + 1) c, .int .i64 (i : Int), .int .i64 ((i : Int) + 1)] w fun e w' => e = .returned (.slice (some ⟨g, 0, none⟩) m c) ∧ w'.ownsRow 0 58 4 (.slice (some ⟨g, 0, none⟩) m c) m (rcs (L.take i ++ L.drop (i + 1))) ∧ w.grownBy w' (some g) := by
  obtain ⟨i0, hi0, iz0, iz1, iz2⟩ := info_parts infoR
  have hdl : (L.drop (i + 1)).length = m + 1 - (i + 1) := by rw [List.length_drop, hn]
  have hd4 : (rcs (L.drop (i + 1))).length = (m - i) * 4 := by rw [rcs_len, hdl]; omega
  have hX := cells_at hg ((i + 1) * 4) (rcs (L.drop (i + 1))) (by
    rw [hd4, ← rcs_drop, ← htk, List.drop_take]
    congr 1
    omega)
  have hone : ∀ u ∈ rcs (L.drop (i + 1)), u.oneCell' = true := rcs_one' _
  have b0 : ¬ ((i : Int) = (i : Int) + 1) := by omega
  have b1 : (0 : Int) ≤ (i : Int) + 1 := by omega
  have b2 : (i : Int) + 1 ≤ (m : Int) + 1 := by omega
  have b3 : (i : Int) ≤ (i : Int) + 1 := by omega
  have b4 : ((i : Int) + 1).toNat = i + 1 := by omega
  have b5 : (i : Int) ≤ (c : Int) := by omega
  have b6 : (m : Int) + 1 ≤ (c : Int) := by omega
  generalize hX2 : rcs (L.drop (i + 1)) = X2 at *
  by_cases hci : c = i + 1
  · have hx0 : X2 = [] := List.length_eq_zero_iff.1 (by rw [hd4]; omega)
    have hX : ∀ j u, X2[j]? = some u → w.cell? ((⟨g, 0, none⟩ : Addr).add j) = some u := fun j u h => by rw [hx0] at h; simp at h
    obtain rfl : i = m := by omega
    subst hci
    clear hx0
    go_enter Tryz.func97, Tryz.ntmps97
    go_wp2
    go_region_law (refine step_append_rt rfl (.tmp 22) (.tmp 25) 47 rfl 58 i0 4 Tryz.underlying47 hi0 iz1 g 0 i (i + 1) (by simp [Act.eval, Act.put]) (i) (i * 4) (by omega) ⟨g, 0, none⟩ (0) (0) X2 (by simp [Act.eval, Act.put]) (by omega) (by first | exact hd4 | (rw [hd4]; omega)) (fun j u h => hX j u h) hone (by omega) cur 58 hg (by omega) ?_; intro w4 hg4 hb4)
    have hsl : (splice cur.toList (i * 4) X2).length = (i + 1) * 4 := by rw [length_splice _ _ _ (by rw [hd4, Array.length_toList, hcs]; omega), Array.length_toList, hcs]
    obtain ⟨cur4, hcur4⟩ : ∃ x, x = splice cur.toList (i * 4) X2 := ⟨_, rfl⟩
    have hg4 : Hid (w4.heap[g]? = some (.cells cur4.toArray 58 (0, 0))) := by show _ = _; rw [hcur4]; exact hg4.out
    rw [← hcur4] at hsl
    have hgw4 : Hid (w.grownBy w4 (some g)) := (⟨hb4.os, hb4.tape, hb4.output, hb4.size, hb4.block⟩ : w.grownBy w4 (some g))
    have HC4 := Lib.hid hcur4.symm
    have HX2 := Lib.hid hX2
    have HTK := Lib.hid htk
    have HD4 := Lib.hid hd4
    have HG4 := Lib.hid hg4
    have hcl : ∀ ty, (Builtin.clear_ #[47] ty #[.slice (some ⟨g, (i) * 4, none⟩) 1 (1)]).run Tryz.prog w4 = .ok (.tuple #[]) (w4.setRow g (splice cur4.toArray.toList ((i) * 4) rt4).toArray) := fun ty => run_clear_one w4 _ _ ty _ rt4 Tryz.underlying47 zero_rt zero_rt4 (by simp [rt4, Value.oneCell']) g ((i) * 4) _ _ _ hg4.out (by simp [rt4, hsl]; omega)
    clear hcur4 hX hg htk hX2 hone hb4 hd4 hdl
    have hw5 := setRow_heap w4 g cur4.toArray (splice cur4 ((i) * 4) rt4).toArray 58 (0, 0) hg4.out
    have hgw5 := World.grownBy.trans hgw4.out (grown_setRow w4 g (splice cur4 ((i) * 4) rt4).toArray)
    have HW5 := Lib.hid hw5
    have HGW5 := Lib.hid hgw5
    have HSL := Lib.hid hsl
    clear hw5 hgw5 hg4
    go_wp2
    go_ret
    refine ⟨rfl, own_made (Nat.zero_le _) HW5.out (by omega) hcm (by rw [List.size_toArray, length_splice _ _ _ (by simp [rt4, HSL.out]; omega), HSL.out]) ?_, HGW5.out⟩
    have h1 := splice_mid cur.toList (i * 4) X2 (by rw [Array.length_toList, hcs]; omega)
    rw [HD4.out, show i * 4 + ((i) - i) * 4 = (i) * 4 by omega, HC4.out] at h1
    have h2 := splice_take cur4 ((i) * 4) ((i) * 4) rt4 (Nat.le_refl _) (by rw [HSL.out]; omega)
    rw [List.toList_toArray, h2, h1, rcs_append, HX2.out]
    congr 1
    have h3 := congrArg (List.take (i * 4)) HTK.out
    rw [List.take_take, Nat.min_eq_left (by omega), rcs_take] at h3
    exact h3
  · skip
    go_enter Tryz.func97, Tryz.ntmps97
    go_wp2
    go_region_law (refine step_append_rt rfl (.tmp 22) (.tmp 25) 47 rfl 58 i0 4 Tryz.underlying47 hi0 iz1 g 0 i (c) (by simp [Act.eval, Act.put]) (m) (i * 4) (by omega) ⟨g, (i + 1) * 4, none⟩ (m - i) (c - (i + 1)) X2 (by simp [Act.eval, Act.put]) (by omega) (by first | exact hd4 | (rw [hd4]; omega)) (fun j u h => hX j u h) hone (by omega) cur 58 hg (by omega) ?_; intro w4 hg4 hb4)
    have hsl : (splice cur.toList (i * 4) X2).length = (c) * 4 := by rw [length_splice _ _ _ (by rw [hd4, Array.length_toList, hcs]; omega), Array.length_toList, hcs]
    obtain ⟨cur4, hcur4⟩ : ∃ x, x = splice cur.toList (i * 4) X2 := ⟨_, rfl⟩
    have hg4 : Hid (w4.heap[g]? = some (.cells cur4.toArray 58 (0, 0))) := by show _ = _; rw [hcur4]; exact hg4.out
    rw [← hcur4] at hsl
    have hgw4 : Hid (w.grownBy w4 (some g)) := (⟨hb4.os, hb4.tape, hb4.output, hb4.size, hb4.block⟩ : w.grownBy w4 (some g))
    have HC4 := Lib.hid hcur4.symm
    have HX2 := Lib.hid hX2
    have HTK := Lib.hid htk
    have HD4 := Lib.hid hd4
    have HG4 := Lib.hid hg4
    have hcl : ∀ ty, (Builtin.clear_ #[47] ty #[.slice (some ⟨g, (m) * 4, none⟩) 1 (c - m)]).run Tryz.prog w4 = .ok (.tuple #[]) (w4.setRow g (splice cur4.toArray.toList ((m) * 4) rt4).toArray) := fun ty => run_clear_one w4 _ _ ty _ rt4 Tryz.underlying47 zero_rt zero_rt4 (by simp [rt4, Value.oneCell']) g ((m) * 4) _ _ _ hg4.out (by simp [rt4, hsl]; omega)
    clear hcur4 hX hg htk hX2 hone hb4 hd4 hdl
    have hw5 := setRow_heap w4 g cur4.toArray (splice cur4 ((m) * 4) rt4).toArray 58 (0, 0) hg4.out
    have hgw5 := World.grownBy.trans hgw4.out (grown_setRow w4 g (splice cur4 ((m) * 4) rt4).toArray)
    have HW5 := Lib.hid hw5
    have HGW5 := Lib.hid hgw5
    have HSL := Lib.hid hsl
    clear hw5 hgw5 hg4
    go_wp2
    go_ret
    refine ⟨rfl, own_made (Nat.zero_le _) HW5.out (by omega) hcm (by rw [List.size_toArray, length_splice _ _ _ (by simp [rt4, HSL.out]; omega), HSL.out]) ?_, HGW5.out⟩
    have h1 := splice_mid cur.toList (i * 4) X2 (by rw [Array.length_toList, hcs]; omega)
    rw [HD4.out, show i * 4 + ((m) - i) * 4 = (m) * 4 by omega, HC4.out] at h1
    have h2 := splice_take cur4 ((m) * 4) ((m) * 4) rt4 (Nat.le_refl _) (by rw [HSL.out]; omega)
    rw [List.toList_toArray, h2, h1, rcs_append, HX2.out]
    congr 1
    have h3 := congrArg (List.take (i * 4)) HTK.out
    rw [List.take_take, Nat.min_eq_left (by omega), rcs_take] at h3
    exact h3
end Go.Proofs.YtoihkbanmnagkaaGreat
/-
  What unstash of a table does: the key goes out of the stash, if it is there. No condition but that the table's cells lie in memory, and that its stash is in order.
-/
set_option linter.unusedSimpArgs false
set_option linter.unusedVariables false
namespace Go.Proofs.YtoihkbanmnagkaaGreat
open Go.RowKit Go.Sort M

set_option maxRecDepth 100000 in
set_option maxHeartbeats 2000000 in
theorem unstash_any (t g : Nat) (v : Value) (T : Tab) (m : Int) (k : Ky) (w : World) (H : CT w t g v T m) (hs : Sorted T.st) (hf : T.st.length < 1048576) :
    Calls Tryz.prog 72 #[.pointer (some ⟨t, 0, none⟩), kyV k] w fun e w' => e = .returned (.bool (findS T.st k).isSome) ∧ CStep w w' t g v { T with st := outS T.st k } m := by
  cases h : findS T.st k with
  | none =>
    rw [outS_none h]
    have HS := Lib.hid (fun w H => stashed_any t g v T m k w H hs hf)
    rw [stI_none h] at HS
    have HH := Lib.hid H
    have hl := H.tb.tlt
    have hge : (-1 : Int) < 0 := by omega
    clear H hs h
    unfold kyV at *
    go_enter Tryz.func72, Tryz.ntmps72
    go_wp2_with fail
    refine (HS.out _ (HH.out.below (by go_grown))).mono ?_
    rintro e w1 ⟨rfl, hb1⟩
    have hw1 : Below w.heap.size w w1 := Below.trans (by go_grown) (hb1.mono (by go_size))
    have HH1 := Lib.hid (HH.out.below hw1)
    clear hb1
    go_wp2
    go_ret
    exact ⟨rfl, CStep.quiet HH.out hw1⟩
  | some i =>
    obtain ⟨-, hi, hik⟩ := (findS_bh T.st k hs).1 i h
    rw [out_present T.st k i hs h, List.eraseIdx_eq_take_drop_succ]
    have HS := Lib.hid (fun w H => stashed_any t g v T m k w H hs hf)
    rw [stI_some h] at HS
    have HH := Lib.hid H
    have hl := H.tb.tlt

    obtain ⟨gr, c, cur, hv, -, hgr, hg, h1, h2, h3, h4⟩ := own_whole H.tb.own (by omega)
    obtain ⟨q, hq⟩ : ∃ q, T.st.length = q + 1 := ⟨T.st.length - 1, by omega⟩
    have htgr : t ≠ gr := by
      have := H.tb.tv
      rw [hv] at this
      intro e
      exact this (by simp [Value.ownBlock, e])
    have hob : v.ownBlock = some gr := by rw [hv]; rfl
    have hge : ¬ (i : Int) < 0 := by omega
    have hwr : IntKind.i64.wrap ((i : Int) + 1) = (i : Int) + 1 := by rw [IntKind.wrap_i64]; omega
    rw [hq] at h1 h4 hv hi hf
    have HD := Lib.hid (fun w1 hg => delete_at gr c q i cur T.st w1 hq hg h1 h2 h3 h4 hi (by omega))
    have HG := Lib.hid hg
    have HV := Lib.hid hv
    have HOB := Lib.hid hob
    have HLEN := Lib.hid (show (T.st.take i ++ T.st.drop (i + 1)).length = q by rw [List.length_append, List.length_take, List.length_drop]; omega)
    clear H hs h hik hg h1 h2 h3 h4 hv hob hq hf hi
    generalize T.st.take i ++ T.st.drop (i + 1) = L at *
    unfold kyV at *
    go_enter Tryz.func72, Tryz.ntmps72
    go_wp2_with fail
    refine (HS.out _ (HH.out.below (by go_grown))).mono ?_
    rintro e w1 ⟨rfl, hb1⟩
    have hw1 : Below w.heap.size w w1 := Below.trans (by go_grown) (hb1.mono (by go_size))
    have HH1 := Lib.hid (HH.out.below hw1)
    clear hb1
    have c2 := HH1.out.tb.c2
    rw [HV.out] at c2
    have f2 := HH1.out.tb.f 2
    have hl1 := HH1.out.tb.tlt
    go_wp2_with fail
    refine (HD.out w1 ((hw1.block gr hgr).trans HG.out)).mono ?_
    rintro e w2 ⟨rfl, hown, hgb⟩
    have hN := HH1.out.newStash (st' := L) (v' := .slice (some ⟨gr, 0, none⟩) q c) (by rw [HOB.out]; exact hgb) (by rw [HLEN.out]; exact hown) (.inl HOB.out.symm)
    have hbl := hgb.block t hl1 (by intro e; injection e with e; exact htgr e)
    have c2 := (World.cell?_of_block (a := ⟨t, 2, none⟩) hbl).trans c2
    have f2 := (World.frozen?_of_block (a := ⟨t, 2, none⟩) hbl).trans f2
    have hl2 := Nat.lt_of_lt_of_le hl1 hgb.size
    have HF := Lib.hid hN
    clear hN hbl hgb hown
    go_wp2
    go_ret
    exact ⟨rfl, CStep.trans (Touch.quiet hw1) (fun _ h _ => h) ⟨_, _, HF.out⟩⟩
end Go.Proofs.YtoihkbanmnagkaaGreat
