/-
  What All of a table hands back: all that it has, sorted. No condition but that the table's cells lie in memory, that no key is twice in it, and that its stash is short of 2^20.
-/
import Derived.Test.YtoihkbanmnagkaaGreatSort
import Derived.Test.YtoihkbanmnagkaaGreatCT
import Derived.Shelf.GgSortFunc.Tiny
import Derived.Test.YtoihkbanmnagkaaGreatSort7
import Derived.Test.YtoihkbanmnagkaaGreatW12b
import Derived.Test.YtoihkbanmnagkaaGreatAppR
import Derived.Test.YtoihkbanmnagkaaGreatM18b
/-
  Routes as elements of four cells, for the library's sorts. No condition but those that stand in each.
-/
set_option linter.unusedSimpArgs false
set_option linter.unusedVariables false
namespace Go.Proofs.YtoihkbanmnagkaaGreat
open Go.RowKit Go.Sort M

instance : Inhabited Rt := ⟨⟨⟨0, 0, 0⟩, 0⟩⟩
noncomputable def rtT : TypeInfo := (Tryz.prog.info? 47).get (by kernel_rfl)
noncomputable def rtE : TypeInfo := (Tryz.prog.info? 58).get (by kernel_rfl)
theorem rtK (n : Nat) (h2 : 2 ≤ n) : Lib.swapperK n rtE 25 = 9 := by
  have a : rtE.hasPointers = false := by kernel_rfl
  have b : rtE.bytes = 32 := by kernel_rfl
  have c : (n == 0) = false := by simp; omega
  have d : (n == 1) = false := by simp; omega
  unfold Lib.swapperK
  rw [c, d, a, b]
  rfl
theorem rt_one : ∀ x : Rt, ∀ v ∈ rcell x, v.oneCell' = true := by
  intro x v hv
  simp only [rcell, List.mem_cons, List.not_mem_nil, or_false] at hv
  rcases hv with rfl | rfl | rfl | rfl <;> rfl
theorem perm_list {α : Type} [Inhabited α] {L : List α} {d : Array α} (h : PermIn 0 L.length L.toArray d) : d.toList.Perm L := by
  obtain ⟨h1, -, h3⟩ := h
  have e1 : d.extract 0 L.length = d := by
    have : L.length = d.size := by rw [h1]; simp
    rw [this]
    simp
  have e2 : L.toArray.extract 0 L.length = L.toArray := by
    have : L.length = L.toArray.size := by simp
    rw [this]
    simp
  rw [e1, e2] at h3
  simpa using h3
theorem sorted_list {α : Type} [Inhabited α] {lt : α → α → Bool} {d : Array α} {n : Nat} (hn : d.size = n) (h : SortedIn lt 0 n d) : d.toList.Pairwise fun a b => lt b a = false := by
  rw [List.pairwise_iff_getElem]
  intro i j hi hj hij
  simp only [Array.length_toList] at hi hj
  have := h i j (Nat.zero_le _) hij (by omega)
  rw [getElem!_pos d j hj, getElem!_pos d i hi] at this
  simpa using this
theorem holds_own {w : World} {B c : Nat} {blk : Nat} {L : List Rt} (h : w.ownsRow B 58 4 (.slice (some ⟨blk, 0, none⟩) L.length c) L.length (rcs L)) : HoldsK rcell 4 w blk 0 L.toArray := by
  intro j hj
  have hj2 : j < L.length * 4 := by simpa using hj
  have e : (rcs L)[j]? = some (flatK rcell 4 L.toArray)[j]! := by
    rw [get_flatK _ _ _ _ (by simpa using hj2)]
    have := rcs_cell L (j / 4) (j % 4) (by omega) (Nat.mod_lt _ (by decide))
    rw [show j / 4 * 4 + j % 4 = j by omega] at this
    rw [this, getElem!_pos L.toArray (j / 4) (by simp; omega)]
    have h4 : j % 4 < (rcell L[j / 4]).length := Nat.mod_lt _ (by decide)
    simp only [List.getElem_toArray]
    rw [List.getElem?_eq_getElem h4, getElem!_pos (rcell L[j / 4]) (j % 4) h4]
  rw [Nat.zero_add]
  exact ⟨(h.cellAt j (by omega)).trans e, h.frozenAt j⟩
theorem row_holds {w : World} {blk : Nat} {L : List Rt} (h : HoldsK rcell 4 w blk 0 L.toArray) (hl : blk < w.heap.size) : Row w (some ⟨blk, 0, none⟩) (rcs L) := by
  refine .inr ⟨blk, 0, rfl, hl, fun j u hu => ?_⟩
  have hj2 : j < L.length * 4 := by rw [← rcs_len]; exact (List.getElem?_eq_some_iff.1 hu).1
  have := (h j (by simpa using hj2)).1
  rw [this]
  rw [get_flatK _ _ _ _ (by simpa using hj2)]
  have e := rcs_cell L (j / 4) (j % 4) (by omega) (Nat.mod_lt _ (by decide))
  rw [show j / 4 * 4 + j % 4 = j by omega, hu] at e
  have h4 : j % 4 < (rcell L[j / 4]).length := Nat.mod_lt _ (by decide)
  rw [getElem!_pos L.toArray (j / 4) (by simp; omega)]
  simp only [List.getElem_toArray]
  rw [List.getElem?_eq_getElem h4] at e
  show some (rcell L[j / 4])[j % 4]! = _
  rw [getElem!_pos (rcell L[j / 4]) (j % 4) h4]
  exact e.symm
end Go.Proofs.YtoihkbanmnagkaaGreat
/-
  sort.Slice at a slice of routes, at a test that may make blocks of its own. No condition but those that stand in each.
-/
set_option linter.unusedSimpArgs false
set_option linter.unusedVariables false
namespace Go.Proofs.YtoihkbanmnagkaaGreat
open Go.RowKit Go.Sort M

set_option maxHeartbeats 1000000 in
theorem sliceR_any (g : Nat) (lb : Array Value) (lt : Rt → Rt → Bool) (hO : SWO lt) (eg : ∀ args w, (callFunc g args).run Tryz.prog w = .ok (.enter g args) w) (blk c : Nat) (L : List Rt) (h2 : 2 ≤ L.length) (hn : L.length < 4611686018427387904) (w : World)
    (hH : HoldsK rcell 4 w blk 0 L.toArray) (hl : blk < w.heap.size) (hL : LessB g lb rcell 4 lt w blk 0 L.length) :
    Calls Tryz.prog 68 #[.iface 47 (.slice (some ⟨blk, 0, none⟩) L.length c), .func (.func g) #[] lb] w fun e w' => e = .returned (.tuple #[]) ∧
      ∃ M : List Rt, M.Perm L ∧ M.Pairwise (fun a b => lt b a = false) ∧ HoldsK rcell 4 w' blk 0 M.toArray ∧ Touch (· = blk) w w' := by
  refine Any.sort_Slice_of_pdq (P := Tryz.prog) (ρ := Tryz.laysGg6_ren) Tryz.laysGg6 47 58 rtT rtE (by kernel_rfl) (by kernel_rfl) (by kernel_rfl) (by kernel_rfl) 25 (fun _ => by kernel_rfl) (some ⟨blk, 0, none⟩) L.length c hn 117 (by rw [rtK _ h2]; kernel_rfl) (.func g) #[] lb w _ ?_
  have hB : sliceBound Tryz.prog 58 rtE 25 (some ⟨blk, 0, none⟩) L.length c = #[.slice (some ⟨blk, 0, none⟩) L.length c, typeHandle Tryz.prog 58] := by
    unfold sliceBound; rw [if_neg (swapperK_gt _ _ _ h2)]
  rw [hB]
  have hlim : Lib.bitLen L.length < 4611686018427387904 := Nat.lt_of_le_of_lt (Lib.bitLen_le L.length 62 (by omega) (by omega)) (by omega)
  have hsw := swapSwapsK_of_literal (P := Tryz.prog) (α := Rt) false 117 (fun args W => run_callFunc_extern Tryz.func117 (by kernel_rfl) (by kernel_rfl) (by kernel_rfl) (e := Extern.ReflectliteSwapper.swap false) (by kernel_rfl) args W)
    58 rtE (by kernel_rfl) rcell 4 (fun _ => rfl) (by kernel_rfl) (fun _ => by kernel_rfl) rt_one blk 0 L.length c
  have hw1 : RowKit.Below w.heap.size w (sliceWorld Tryz.prog Tryz.laysGg6_ren 47 (some ⟨blk, 0, none⟩) L.length c w) := by unfold sliceWorld; go_grown
  have S := (Srt.start (n := L.length) hH hl (by simp)).below hw1
  refine (pdq_any (enc := rcell) (k := 4) (fun _ => rfl) hO eg hL hsw hn (L.length + 1) 0 L.length (Lib.bitLen L.length) L.toArray _ (by omega) (Nat.zero_le _) (Nat.le_refl _) hlim (.inl rfl) S).mono ?_
  rintro e w' ⟨rfl, hS, hT⟩
  have h := pdq_sorts lt hO L.toArray 0 L.length (Lib.bitLen L.length) true true (Nat.zero_le _) (by simp) (.inl rfl)
  exact ⟨rfl, _, perm_list h.1, sorted_list (by rw [h.1.1]; simp) h.2, hS.holds, hS.touch⟩
theorem sliceR_none (g : Nat) (lb : Array Value) (p : Option Addr) (c n : Nat) (h1 : n ≤ 1) (w : World) :
    Calls Tryz.prog 68 #[.iface 47 (.slice p n c), .func (.func g) #[] lb] w fun e w' => e = .returned (.tuple #[]) ∧ RowKit.Below w.heap.size w w' := by
  have hgrow : ∀ w' os, w' = grow w os → RowKit.Below w.heap.size w w' := by
    rintro w' os rfl
    refine ⟨rfl, rfl, rfl, by rw [size_grow]; omega, fun j hj => ?_⟩
    show (_ ++ os)[j]? = _
    rw [Array.getElem?_append_left hj]
  rcases (show n = 0 ∨ n = 1 by omega) with rfl | rfl
  · refine (Any.sort_Slice_tiny (P := Tryz.prog) (ρ := Tryz.laysGg6_ren) Tryz.laysGg6 47 58 rtT rtE (by kernel_rfl) (by kernel_rfl) (by kernel_rfl) (by kernel_rfl) 25 (fun _ => by kernel_rfl) p 0 c h1 109 (by kernel_rfl) (.func g) #[] lb w).mono ?_
    rintro e w' ⟨rfl, os, h⟩
    exact ⟨rfl, hgrow w' os h⟩
  · refine (Any.sort_Slice_tiny (P := Tryz.prog) (ρ := Tryz.laysGg6_ren) Tryz.laysGg6 47 58 rtT rtE (by kernel_rfl) (by kernel_rfl) (by kernel_rfl) (by kernel_rfl) 25 (fun _ => by kernel_rfl) p 1 c h1 110 (by kernel_rfl) (.func g) #[] lb w).mono ?_
    rintro e w' ⟨rfl, os, h⟩
    exact ⟨rfl, hgrow w' os h⟩
end Go.Proofs.YtoihkbanmnagkaaGreat
/-
  What list of a table hands back: all that it has, bucket by bucket, then the stash. No condition but that the table's cells lie in memory, and that its stash is short of 2^20.
-/
set_option linter.unusedSimpArgs false
set_option linter.unusedVariables false
namespace Go.Proofs.YtoihkbanmnagkaaGreat
open Go.RowKit Go.Sort M

theorem flat_snoc (T : Tab) (j : Nat) (h : j < T.B.length) : (T.B.take (j + 1)).flatMap allC = (T.B.take j).flatMap allC ++ allC (T.bk j) := by
  rw [List.take_succ_eq_append_getElem h, List.flatMap_append, bk_at T j h]
  simp
theorem flat_le (T : Tab) (h4 : ∀ i, i < T.B.length → (T.bk i).length = 4) : ∀ j, j ≤ T.B.length → ((T.B.take j).flatMap allC).length ≤ j * 4
  | 0, _ => by simp
  | j + 1, h => by
    have ih := flat_le T h4 j (by omega)
    have := allC_len (T.bk j)
    rw [h4 j (by omega)] at this
    rw [flat_snoc T j (by omega), List.length_append]
    omega
set_option maxRecDepth 100000 in
set_option maxHeartbeats 4000000 in
theorem list_any (t g : Nat) (v : Value) (T : Tab) (m : Int) (w : World) (H : CT w t g v T m) (h : Num T) (hf : T.st.length < 1048576) :
    Calls Tryz.prog 67 #[.pointer (some ⟨t, 0, none⟩)] w fun e w' => NewRts w w' e (contT T) := by
  have hl := H.tb.tlt
  have c1 := H.tb.c1
  have h4 : ∀ i, i < T.B.length → (T.bk i).length = 4 := fun i hi => (H.tb.bk i hi).four
  have hFL := Lib.hid (flat_le T h4)
  have hhi := h.hi
  have HA := Lib.hid (fun x (hx : x < T.B.length) w (H : CT w t g v T m) => all11_any g (x * 20) (T.bk x) w (H.tb.bk x hx))
  have HH := Lib.hid H
  clear H h h4
  go_enter Tryz.func67, Tryz.ntmps67
  go_wp2
  go_loopw [3, 4, 10] (fun s3 s4 i wr => ∃ (j : Nat) (L : List Rt), j ≤ T.B.length ∧ i = .int .i64 (j : Int) ∧ Hid (L = (T.B.take j).flatMap allC) ∧ L.length ≤ 262144 ∧ Hid (wr.ownsRow w.heap.size 58 4 s3 L.length (rcs L)) ∧ Below w.heap.size w wr) (fun _ _ i _ => T.B.length - (intOf i).toNat)
  case atStart => exact ⟨0, [], by omega, rfl, rfl, by simp, World.ownsRow_nil _ _ _ _, by go_grown⟩
  case round =>
    obtain ⟨j, L, hj, rfl, hL, hLl, hown, hb⟩ := hrel
    by_cases hlt : j < T.B.length
    · have HH1 := Lib.hid (HH.out.below hb)
      have c1 := HH1.out.tb.c1
      have hl1 := HH1.out.tb.tlt
      have i1 : (0 : Int) ≤ (j : Int) := by omega
      have i2 : (j : Int) < (T.B.length : Int) := by omega
      have hz := hb.size
      have hfl := hFL.out (j + 1) (by omega)
      have hsn := flat_snoc T j hlt
      rw [hsn, List.length_append, ← hL.out] at hfl
      have HSN := Lib.hid hsn
      have HAL := Lib.hid hfl
      have HA1 := Lib.hid (HA.out j hlt wr HH1.out)
      clear hsn hfl
      go_wp2_with fail
      refine HA1.out.mono ?_
      rintro e w2 ⟨p, c, rfl, hown2, hb2⟩
      have hownL := Lib.hid (own_below hown.out hb2)
      have hown2 := Lib.hid hown2
      have hw2 := hb.trans (hb2.mono hb.size)
      have hz2 := hw2.size
      have hAl := HAL.out
      obtain ⟨N, hN⟩ : ∃ N, N = L ++ allC (T.bk j) := ⟨_, rfl⟩
      have hl3 : N.length ≤ 262144 := by rw [hN, List.length_append]; omega
      have HN := Lib.hid hN
      clear hb2 hown HA1 hN
      go_wp2_with (at_builtin; go_loud (refine wpList_append_rts rfl (.tmp 13) (.tmp 20) rfl w.heap.size wr.heap.size _ _ L (allC (T.bk j)) N HN.out rfl rfl hownL.out hown2.out (by omega) (by omega) ?_))
      intro v3 w3 hown3 hg3 hat
      have hw3 : Below w.heap.size w w3 := hw2.grown hg3 hz2 (fun k hk => (hownL.out.lt k hk).1)
      have hO3 := Lib.hid hown3
      clear hown3 hg3 hat
      go_wp2
      go_roundw
      case rel => exact ⟨j + 1, N, by omega, by go_num, by show _ = _; rw [HSN.out, HN.out, hL.out], hl3, hO3, hw3⟩
      case measure => simp [intOf]; omega
    · have hjn : j = T.B.length := by omega
      have HH1 := Lib.hid (HH.out.below hb)
      have c2 := HH1.out.tb.c2
      have hl1 := HH1.out.tb.tlt
      have hz := hb.size
      have hE : contT T = L ++ T.st := by
        unfold contT
        rw [hL.out, hjn, List.take_length]
      have HE := Lib.hid hE
      clear hE
      go_wp2_with (at_builtin; go_loud (refine wpList_append_rts rfl (.tmp 23) (.tmp 27) rfl w.heap.size 0 _ _ L T.st (contT T) HE.out rfl rfl hown.out HH1.out.tb.own (by omega) (by omega) ?_))
      intro v3 w3 hown3 hg3 hat
      have hw3 : Below w.heap.size w w3 := hb.grown hg3 hz (fun k hk => (hown.out.lt k hk).1)
      obtain ⟨p3, c3, rfl⟩ := own_slice hown3
      have hO3 := Lib.hid hown3
      clear hown3 hg3 hat
      go_wp2
      go_ret
      exact ⟨p3, c3, rfl, hO3.out, hw3⟩
end Go.Proofs.YtoihkbanmnagkaaGreat
/-
  What All of a table hands back: all that it has, sorted. No condition but that the table's cells lie in memory, that no key is twice in it, and that its stash is short of 2^20.
-/
set_option linter.unusedSimpArgs false
set_option linter.unusedVariables false
namespace Go.Proofs.YtoihkbanmnagkaaGreat
open Go.RowKit Go.Sort M

set_option maxRecDepth 100000 in
set_option maxHeartbeats 1000000 in
theorem allLess_any (bx blk c n : Nat) (hn : n < 1000000000) (w0 : World) (hc : w0.cell? ⟨bx, 0, none⟩ = some (.slice (some ⟨blk, 0, none⟩) n c)) (hne : bx ≠ blk) :
    LessB 69 #[.pointer (some ⟨bx, 0, none⟩)] rcell 4 ltR w0 blk 0 n := by
  intro W d S i j hi hj
  have hb0 : bx < w0.heap.size := World.block_lt_of_cell? w0 _ hc
  have b0 := S.touch.cell hc hne
  have hbl : bx < W.heap.size := Nat.lt_of_lt_of_le hb0 S.touch.size
  have hl := S.lt2
  have hs := S.size
  have x0 := (S.holds.cell (i := i) (c := 0) (by omega) (by decide)).1
  have x1 := (S.holds.cell (i := i) (c := 1) (by omega) (by decide)).1
  have x2 := (S.holds.cell (i := i) (c := 2) (by omega) (by decide)).1
  have y0 := (S.holds.cell (i := j) (c := 0) (by omega) (by decide)).1
  have y1 := (S.holds.cell (i := j) (c := 1) (by omega) (by decide)).1
  have y2 := (S.holds.cell (i := j) (c := 2) (by omega) (by decide)).1
  have HL := less_any d[i]!.k.h d[i]!.k.l d[i]!.k.n d[j]!.k.h d[j]!.k.l d[j]!.k.n
  change Gives _ _ _ (.bool (ltR d[i]! d[j]!)) at HL
  generalize ltR d[i]! d[j]! = ls at *
  change W.cell? _ = some (.int .u64 (d[i]!.k.h : Int)) at x0
  change W.cell? _ = some (.int .u64 (d[i]!.k.l : Int)) at x1
  change W.cell? _ = some (.int .i64 d[i]!.k.n) at x2
  change W.cell? _ = some (.int .u64 (d[j]!.k.h : Int)) at y0
  change W.cell? _ = some (.int .u64 (d[j]!.k.l : Int)) at y1
  change W.cell? _ = some (.int .i64 d[j]!.k.n) at y2
  generalize d[i]!.k = q at *
  generalize d[j]!.k = r at *
  rw [Nat.zero_add] at x0 x1 x2 y0 y1 y2
  rw [Nat.add_zero] at x0 y0
  have HL := Lib.hid HL
  have i1 : (0 : Int) ≤ (i : Int) := by omega
  have i2 : (i : Int) < (n : Int) := by omega
  have j1 : (0 : Int) ≤ (j : Int) := by omega
  have j2 : (j : Int) < (n : Int) := by omega
  clear S hc hb0
  show Calls _ _ #[.int .i64 (i : Int), .int .i64 (j : Int), .pointer (some ⟨bx, 0, none⟩)] _ _
  obtain ⟨w, hw⟩ : ∃ w, w = W := ⟨_, rfl⟩
  subst hw
  go_enter Tryz.func69, Tryz.ntmps69
  go_wp2_with fail
  have kg := cell_grow
  refine region_whole (by kernel_rfl) (by kernel_rfl) ?_
  repeat (any_goals (first | go_big_quiet_step ((exact HL.out.at _ _ _)) | quiet_step ((exact HL.out.at _ _ _))))
  refine wpQuiet_nil ?_
  clear kg
  intro w1 hb1
  obtain ⟨hc1, hf1⟩ := bcell hb1
  have hw1 : Below w.heap.size w w1 := by
    refine Below.trans ?_ (hb1.mono ?_)
    · go_grown
    · first | omega | go_size
  go_wp2
  go_ret
  exact ⟨rfl, hw1⟩
set_option maxRecDepth 100000 in
set_option maxHeartbeats 1000000 in
theorem all12_any (t g : Nat) (v : Value) (T : Tab) (m : Int) (w : World) (H : CT w t g v T m) (h : Num T) (hf : T.st.length < 1048576) (hk : (keysR (contT T)).Nodup) :
    Calls Tryz.prog 39 #[.pointer (some ⟨t, 0, none⟩)] w fun e w' => ∃ p c M, e = .returned (.slice p M.length c) ∧ Row w' p (rcs M) ∧ M.Perm (contT T) ∧ Sorted M ∧ RowKit.Below w.heap.size w w' := by
  have hl := H.tb.tlt
  have HLI := Lib.hid (list_any t g v T m w H h hf)
  have hLn : (contT T).length < 1000000000 := by
    have h1 := flat_le T (fun i hi => (H.tb.bk i hi).four) T.B.length (Nat.le_refl _)
    rw [List.take_length] at h1
    have h2 := h.hi
    unfold contT
    rw [List.length_append]
    omega
  obtain ⟨L, hL⟩ : ∃ L, L = contT T := ⟨_, rfl⟩
  rw [← hL] at HLI hk hLn ⊢
  clear H h hf hL
  have HK := Lib.hid hk
  clear hk
  go_enter Tryz.func39, Tryz.ntmps39
  go_wp2_with fail
  refine HLI.out.mono ?_
  rintro e w1 ⟨p, c, rfl, hown, hb1⟩
  have eg := enters_of Tryz.func69 (by kernel_rfl) rfl
  have hz1 := hb1.size
  have hS : ∀ W, RowKit.Below w1.heap.size w1 W → w1.heap.size < W.heap.size → W.cell? ⟨w1.heap.size, 0, none⟩ = some (.slice p L.length c) →
      Calls Tryz.prog 68 #[.iface 47 (.slice p L.length c), .func (.func 69) #[] #[.pointer (some ⟨w1.heap.size, 0, none⟩)]] W fun e w' => e = .returned (.tuple #[]) ∧ ∃ M : List Rt, M.length = L.length ∧ M.Perm L ∧ Sorted M ∧ Row w' p (rcs M) ∧ RowKit.Below w.heap.size W w' ∧ w'.cell? ⟨w1.heap.size, 0, none⟩ = some (.slice p L.length c) := by
    intro W hW hz hc
    have hownW := own_below hown hW
    by_cases h2 : 2 ≤ L.length
    · rcases hown.2 with ⟨e, h0⟩ | ⟨blk, cap', cur, e, hB, -, -, -, -, -⟩
      · omega
      · injection e with e1 e2 e3
        subst e1
        have hbk : blk < w1.heap.size := (hown.lt blk rfl).2
        refine (sliceR_any _ _ ltR ltR_swo eg blk c L h2 (by omega) W (holds_own hownW) (by omega) (allLess_any w1.heap.size blk c L.length hLn W hc (by omega))).mono ?_
        rintro e w' ⟨rfl, M, m1, m2, m3, m4⟩
        refine ⟨rfl, M, m1.length_eq, m1, sorted_strict ((keysR_perm m1).nodup_iff.2 HK.out) m2, row_holds m3 (by have := m4.size; omega), m4.below (by omega) (fun j hj => by omega), m4.cell hc (by show w1.heap.size ≠ blk; omega)⟩
    · refine (sliceR_none _ _ p c L.length (by omega) W).mono ?_
      rintro e w' ⟨rfl, hb⟩
      have hs : Sorted L := by
        rcases L with _ | ⟨a, _ | ⟨b, L⟩⟩
        · exact List.Pairwise.nil
        · exact List.pairwise_singleton _ _
        · simp at h2
      exact ⟨rfl, L, rfl, List.Perm.refl _, hs, (Row.of_own hownW).below hb, hb.mono (by have := hW.size; omega), (hb.cell (p := ⟨w1.heap.size, 0, none⟩) hz).trans hc⟩
  have HS := Lib.hid hS
  have HOWN := Lib.hid hown
  clear hS hown eg
  go_wp2_with fail
  refine (HS.out _ (by go_grown) (by simp) (by simp [go_sem])).mono ?_
  rintro e w2 ⟨rfl, M, m1, m2, m3, m4, hb2, b0⟩
  have hbl : w1.heap.size < w2.heap.size := World.block_lt_of_cell? w2 _ b0
  have HM := Lib.hid (And.intro m1 (And.intro m2 (And.intro m3 m4)))
  have hw2 : RowKit.Below w.heap.size w w2 := by
    refine RowKit.Below.trans ?_ hb2
    exact hb1.trans (by go_grown)
  clear m1 m2 m3 m4 hb2
  go_wp2
  go_ret
  obtain ⟨m1, m2, m3, m4⟩ := HM.out
  exact ⟨p, c, M, by rw [m1]; rfl, m4, m2, m3, hw2⟩
end Go.Proofs.YtoihkbanmnagkaaGreat
