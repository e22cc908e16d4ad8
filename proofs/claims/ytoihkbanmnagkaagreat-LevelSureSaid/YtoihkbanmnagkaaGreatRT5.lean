/-
  What Delete of the reference's table does. No condition but that the table's cells lie in memory.
-/
import Derived.Test.YtoihkbanmnagkaaGreatW11b
import Derived.Test.YtoihkbanmnagkaaGreatRBkt
import Derived.Test.YtoihkbanmnagkaaGreatAppR
import Derived.Test.YtoihkbanmnagkaaGreatW12l
import Derived.Test.YtoihkbanmnagkaaGreatRT2
import Derived.Test.YtoihkbanmnagkaaGreatReg6
/-
  What All of the reference's bucket hands back: a new row of routes, by place. No condition but that the bucket's cells lie in memory.
-/
set_option linter.unusedSimpArgs false
set_option linter.unusedVariables false
namespace Go.Proofs.YtoihkbanmnagkaaGreat
open Go.RowKit Go.Sort M

set_option maxHeartbeats 2000000 in
set_option maxRecDepth 100000 in
theorem rall4_any (g o : Nat) (C : List Pl) (w : World) (H : RBk w g o C) :
    Calls Tryz.prog 40 #[.pointer (some ⟨g, o, none⟩)] w fun e w' => NewRts w w' e (allC C) := by
  have HH := Lib.hid H
  have h4 := H.four
  have hg := H.lt
  have HS := Lib.hid (fun i h => allC_snoc C i h)
  have HA := Lib.hid (allC_len C)
  obtain ⟨i0, hi0, iz0, iz1, iz2⟩ := info_parts infoR
  clear H
  go_enter Tryz.func40, Tryz.ntmps40
  go_wp2
  go_loopw [3, 4] (fun s3 i wr => ∃ (j : Nat) (p : Option Addr) (c : Nat) (L : List Rt), j ≤ 4 ∧ i = .int .i64 (j : Int) ∧ s3 = .slice p L.length c ∧ L.length ≤ 4 ∧ Hid (L = allC (C.take j)) ∧ wr.ownsRow w.heap.size 58 4 (.slice p L.length c) L.length (rcs L) ∧ Below w.heap.size w wr) (fun _ i _ => 4 - (intOf i).toNat)
  case atStart => exact ⟨0, none, 0, [], by omega, rfl, rfl, by simp, Lib.hid rfl, World.ownsRow_nil _ _ _ _, by go_grown⟩
  case round =>
    obtain ⟨j, p, c, L, hj, rfl, rfl, hL, hLe, hown, hb⟩ := hrel
    have hz := hb.size
    by_cases hlt : j < 4
    · have H1 := HH.out.below hb
      have hs := HS.out j (by omega)
      rw [← hLe.out] at hs
      have hle := allC_len (C.take (j + 1))
      rw [hs] at hle
      have hle2 : (C.take (j + 1)).length ≤ 4 := by simp; omega
      have HLE : Hid ((L ++ (C[j]'(by omega)).toList).length ≤ 4) := by show _ ≤ 4; omega
      have hon := H1.on j (by omega)
      obtain ⟨r0, r1, r2, r3⟩ := H1.rt j (by omega)
      have hgl := H1.lt
      have i1 : (0 : Int) ≤ (j : Int) := by omega
      have i2 : (j : Int) < 4 := by omega
      clear hle hle2 H1
      have HN := Lib.hid hs
      clear hs hLe
      generalize hx : (C[j]'(by omega)) = x at hon r0 r1 r2 r3 HN HLE
      clear hx
      cases x with
      | none =>
        simp only [Option.isSome_none] at hon
        have HN' : Hid (L = allC (C.take (j + 1))) := by show L = _; rw [HN.out]; simp
        clear HN r0 r1 r2 r3
        go_wp2
        go_roundw
        case rel => exact ⟨j + 1, p, c, L, by omega, by go_num, rfl, hL, HN', own_below hown (by go_grown), hb.trans (by go_grown)⟩
        case measure => simp [intOf]; omega
      | some r =>
        simp only [xh, xl, xn, xv, Option.isSome_some] at hon r0 r1 r2 r3
        have HN' : Hid (L ++ [r] = allC (C.take (j + 1))) := by show L ++ [r] = _; rw [HN.out]; simp
        have HL' : Hid ((L ++ [r]).length ≤ 4) := by show _ ≤ 4; exact HLE.out
        have hLl : L.length ≤ 3 := by have := HL'.out; simp at this; omega
        clear HN HLE
        go_wp2_with (at_builtin; go_loud (refine wpList_append_own _ rfl (.tmp 15) (.tmp 22) 47 rfl w.heap.size 58 i0 _ 4 32 Tryz.underlying47 hi0 iz0 iz1 iz2 rfl (by decide) _ _ _ rfl (hown.alloc _) ⟨wr.heap.size, 0, none⟩ 1 1 (rcell r) rfl rfl (four_new (by simp [go_sem]) (by simp [go_sem]) (by simp [go_sem]) (by simp [go_sem])) (by simp [rcell, Value.oneCell']) (by unfold maxLen; omega) (by omega) (by simp; omega) ?_))
        intro v3 w3 hown3 hg3 _
        have hown4 := own_rsnoc hown3 rfl
        have hw3 : Below w.heap.size w w3 := (hb.alloc hz _).grown hg3 (by simp; omega) (fun j hj => (hown.lt j hj).1)
        obtain ⟨p3, c3, rfl⟩ := own_slice hown4
        clear hown3 hg3 hown hb
        go_wp2
        go_roundw
        case rel => exact ⟨j + 1, p3, c3, L ++ [r], by omega, by go_num, rfl, HL'.out, HN', hown4, hw3⟩
        case measure => simp [intOf]; omega
    · have he : L = allC C := by have := hLe.out; rwa [List.take_of_length_le (by omega)] at this
      have HE := Lib.hid he
      clear he
      go_wp2
      go_ret
      rw [← HE.out]
      exact ⟨p, c, rfl, hown, hb⟩
end Go.Proofs.YtoihkbanmnagkaaGreat
/-
  What Delete of the reference's table does. No condition but that the table's cells lie in memory.
-/
set_option linter.unusedSimpArgs false
set_option linter.unusedVariables false
namespace Go.Proofs.YtoihkbanmnagkaaGreat
open Go.RowKit Go.Sort M

/-- A new stash, a row that a call has just laid. -/
theorem Tb.restash {K : World → Nat → Nat → List Pl → Prop} {w w1 : World} {t g : Nat} {v v' : Value} {T : Tab} (hK : BK K) (H : Tb K w t g v T) {st' : List Rt} (hb : Below w.heap.size w w1) (own1 : w1.ownsRow w.heap.size 58 4 v' st'.length (rcs st')) :
    Tb K (w1.setCell ⟨t, 2, none⟩ v') t g v' { T with st := st' } ∧ Touch (Blk t g v) w (w1.setCell ⟨t, 2, none⟩ v') ∧ ∀ k, Blk t g v' k → k < w.heap.size → Blk t g v k := by
  have hlo : ∀ k, v'.ownBlock = some k → w.heap.size ≤ k := fun k hk => (own1.lt k hk).1
  have ht1 : w1.heap[t]? = w.heap[t]? := hb.block t H.tlt
  have hg1 : w1.heap[g]? = w.heap[g]? := hb.block g H.blt
  have hb2 : ∀ k, k ≠ t → (w1.setCell ⟨t, 2, none⟩ v').heap[k]? = w1.heap[k]? := fun k hk => Below.heap_setCell w1 ⟨t, 2, none⟩ v' k (by simpa using hk)
  have hs2 : (w1.setCell ⟨t, 2, none⟩ v').heap.size = w1.heap.size := World.size_setCell _ _ _
  have c0 := (World.cell?_of_block (a := ⟨t, 0, none⟩) ht1).trans H.c0
  have c1 := (World.cell?_of_block (a := ⟨t, 1, none⟩) ht1).trans H.c1
  have c2 := (World.cell?_of_block (a := ⟨t, 2, none⟩) ht1).trans H.c2
  have ne : ∀ j, j ≠ 2 → (w1.setCell ⟨t, 2, none⟩ v').cell? ⟨t, j, none⟩ = w1.cell? ⟨t, j, none⟩ := fun j hj => by
    rw [World.cell?_setCell_other]
    intro e
    injection e with _ e2
    exact hj e2.symm
  have hvt : v'.ownBlock ≠ some t := fun e => by have := hlo t e; have := H.tlt; omega
  have hvg : v'.ownBlock ≠ some g := fun e => by have := hlo g e; have := H.blt; omega
  refine ⟨⟨fun i hi => hK.block (H.bk i hi) (by rw [hs2]; exact hb.size) ((hb2 g (fun e => H.tg e.symm)).trans hg1), by rw [hs2]; exact Nat.lt_of_lt_of_le H.blt hb.size, by rw [hs2]; exact Nat.lt_of_lt_of_le H.tlt hb.size,
    (ne 0 (by decide)).trans c0, (ne 1 (by decide)).trans c1, World.cell?_setCell_same _ _ _ c2, fun j => by rw [World.frozen?_setCell, World.frozen?_of_block (a := ⟨t, j, none⟩) ht1]; exact H.f j,
    own_block (own_le own1 (Nat.zero_le _)) (fun j e => hb2 j (fun e2 => hvt (e2 ▸ e))), H.tg, hvt, hvg⟩, ⟨hb.os, hb.tape, hb.output, by rw [hs2]; exact hb.size, fun k hk hn => ?_⟩, fun k hk hl => ?_⟩
  · rw [hb2 k (fun e => hn (.inl e))]
    exact hb.block k hk
  · rcases hk with e | e | e
    · exact .inl e
    · exact .inr (.inl e)
    · have := hlo k e
      omega
set_option maxRecDepth 100000 in
set_option maxHeartbeats 4000000 in
theorem rdelete12_first (t g : Nat) (v : Value) (T : Tab) (k : Ky) (C : List Pl) (w : World) (H : Tb RBk w t g v T) (h : Num T) (hk : k.good) (hp1 : takeC (T.bk (T.x1 k)) k = some C) :
    Calls Tryz.prog 33 #[.pointer (some ⟨t, 0, none⟩), kyV k] w fun e w' => e = .returned (.bool true) ∧ RStep w w' t g v (T.set (T.x1 k) C) := by
  have HB := Lib.hid (rtwo_fact T k h hk)
  have HH := Lib.hid H
  have hl := H.tlt
  have c0 := H.c0
  have c1 := H.c1
  have hlim := H.blk
  have HLM := Lib.hid hlim
  have hx1 := h.x1_lt k
  have hx2 := h.x2_lt k
  obtain ⟨x1, hX1⟩ : ∃ x, x = T.x1 k := ⟨_, rfl⟩
  obtain ⟨x2, hX2⟩ : ∃ x, x = T.x2 k := ⟨_, rfl⟩
  rw [← hX1] at HB hx1
  rw [← hX2] at HB hx2
  have HX1 := Lib.hid hX1
  have HX2 := Lib.hid hX2
  clear H hlim hX1 hX2
  unfold kyV at *
  go_enter Tryz.func33, Tryz.ntmps33
  go_wp2_with fail
  have kg := cell_grow
  refine region_whole (by kernel_rfl) (by kernel_rfl) ?_
  repeat (any_goals (first | go_big_quiet_step ((exact HB.out.at _ _ _)) | quiet_step ((exact HB.out.at _ _ _))))
  refine wpQuiet_nil ?_
  clear kg
  intro w4 hb4
  obtain ⟨hc4, hf4⟩ := bcell hb4
  have hw4 : Below w.heap.size w w4 := by
    refine Below.trans ?_ (hb4.mono ?_)
    · go_grown
    · first | omega | go_size
  have d0 : w4.cell? ⟨w.heap.size, 0, none⟩ = some (.int .u64 (k.h : Int)) := by
    rw [hb4.cell (by simp <;> omega)]
    first | assumption | (simp [go_sem]; done) | (simp [go_sem, *]; done)
  have d1 : w4.cell? ⟨w.heap.size, 1, none⟩ = some (.int .u64 (k.l : Int)) := by
    rw [hb4.cell (by simp <;> omega)]
    first | assumption | (simp [go_sem]; done) | (simp [go_sem, *]; done)
  have d2 : w4.cell? ⟨w.heap.size, 2, none⟩ = some (.int .i64 k.n) := by
    rw [hb4.cell (by simp <;> omega)]
    first | assumption | (simp [go_sem]; done) | (simp [go_sem, *]; done)
  have hz4 : w.heap.size < w4.heap.size := by
    have hs := hb4.size
    try simp only [World.size_alloc, World.size_setCell] at hs
    omega
  have HC4 := Lib.hid (HH.out.below bk_rbk hw4)
  have HT4 := Lib.hid (Touch.quiet hw4 (S := Blk t g v))
  have c1 := HC4.out.c1
  have hl4 := HC4.out.tlt
  have hg4 := HC4.out.blt
  have htg := HC4.out.tg
  have hlg : g < w.heap.size := HLM.out g (.inr (.inl rfl))
  have hwg : w.heap.size ≠ g := by omega
  have i1 : (0 : Int) ≤ (x1 : Int) := by omega
  have i2 : (x1 : Int) < (T.B.length : Int) := by omega
  have i3 : (0 : Int) ≤ (x2 : Int) := by omega
  have i4 : (x2 : Int) < (T.B.length : Int) := by omega
  clear hc4 hf4 hb4 hw4 HB hl c0
  have hP1 : ∀ W, Hid (Tb RBk W t g v T ∧ Touch (Blk t g v) w4 W) → W.cell? ⟨w.heap.size, 0, none⟩ = some (.int .u64 (k.h : Int)) → W.cell? ⟨w.heap.size, 1, none⟩ = some (.int .u64 (k.l : Int)) → W.cell? ⟨w.heap.size, 2, none⟩ = some (.int .i64 k.n) →
      Calls Tryz.prog 58 #[.pointer (some ⟨g, x1 * 20, none⟩), .agg #[.int .u64 (k.h : Int), .int .u64 (k.l : Int), .int .i64 k.n]] W fun e w' => e = .returned (.bool (takeC (T.bk x1) k).isSome) ∧ Hid (Tb RBk w' t g v (T.set x1 ((takeC (T.bk x1) k).getD (T.bk x1))) ∧ Touch (Blk t g v) w4 w') ∧
        w'.cell? ⟨t, 1, none⟩ = some (.slice (some ⟨g, 0, none⟩) T.B.length T.B.length) ∧ w'.cell? ⟨w.heap.size, 0, none⟩ = some (.int .u64 (k.h : Int)) ∧ w'.cell? ⟨w.heap.size, 1, none⟩ = some (.int .u64 (k.l : Int)) ∧ w'.cell? ⟨w.heap.size, 2, none⟩ = some (.int .i64 k.n) := by
    intro W hW q0 q1 q2
    refine (rtake11_any g (x1 * 20) (T.bk x1) k W (hW.out.1.bk x1 hx1)).mono ?_
    rintro e w' ⟨rfl, h1, h2⟩
    have hB := World.block_lt_of_cell? W ⟨w.heap.size, 0, none⟩ q0
    have h3 := hW.out.1.turn bk_rbk hx1 h2 h1
    exact ⟨rfl, ⟨h3.1, hW.out.2.trans h3.2⟩, (h2.far hW.out.1.tlt htg 1).1.trans hW.out.1.c1, (h2.far hB hwg 0).1.trans q0, (h2.far hB hwg 1).1.trans q1, (h2.far hB hwg 2).1.trans q2⟩
  rw [HX1.out] at hP1
  rw [hp1, ← HX1.out] at hP1
  simp only [Option.isSome_none, Option.getD_none, Option.isSome_some, Option.getD_some] at hP1
  try rw [tab_self T x1 hx1] at hP1
  have HP1 := Lib.hid hP1
  clear hP1
  go_wp2_with fail
  have kg := cell_grow
  refine region_phases [7] 16 (by kernel_rfl) (by kernel_rfl) (by kernel_rfl) ?_
  unfold phQ
  simp only [Nat.sub_zero, List.take_succ_cons, List.take_zero, List.getElem?_cons_succ, List.getElem?_cons_zero]
  repeat (any_goals (first | go_big_quiet_step (fail) | quiet_step (fail)))
  refine wpQuiet_nil ?_
  clear kg
  intro w5 hb5 K5 hK5 o ho
  injection ho with ho
  subst ho
  obtain ⟨hc5, hf5⟩ := bcell hb5
  have HC5 := Lib.hid (HC4.out.below bk_rbk hb5)
  have hT5 := Touch.quiet hb5 (S := Blk t g v)
  have d0 := (hc5 _ _ hz4).trans d0
  have d1 := (hc5 _ _ hz4).trans d1
  have d2 := (hc5 _ _ hz4).trans d2
  have hz5 := Nat.lt_of_lt_of_le hz4 hb5.size
  clear hc5 hf5 hb5
  go_simp
  refine (HP1.out _ ⟨HC5.out, hT5⟩ d0 d1 d2).mono ?_
  rintro e w6 ⟨rfl, hF6, k0, k1, k2, k3⟩
  have hl6 := hF6.out.1.tlt
  have hz6 := Nat.lt_of_lt_of_le hz4 hF6.out.2.size
  clear d0 d1 d2 c1 hT5 HC5
  refine hK5 _ _ ?_
  clear hK5 K5
  have kg := cell_grow
  unfold phQ
  simp only [Nat.reduceSub, Nat.reduceAdd, List.drop_succ_cons, List.drop_zero, List.take_succ_cons, List.take_zero]
  repeat (any_goals (first | go_big_quiet_step (fail) | quiet_step (fail)))
  refine wpQuiet_nil ?_
  clear kg
  intro w7 hb7
  obtain ⟨hc7, hf7⟩ := bcell hb7
  have HF7 := Lib.hid (show Hid (Tb RBk w7 t g v (T.set x1 C) ∧ Touch (Blk t g v) w4 w7) from ⟨hF6.out.1.below bk_rbk hb7, hF6.out.2.trans (Touch.quiet hb7)⟩)
  have k1 := (hc7 _ _ hz6).trans k1
  have k2 := (hc7 _ _ hz6).trans k2
  have k3 := (hc7 _ _ hz6).trans k3
  have hz7 := Nat.lt_of_lt_of_le hz6 hb7.size
  clear hc7 hf7 hb7 k0
  go_wp2
  go_ret
  rw [← HX1.out]
  exact ⟨rfl, RStep.same HF7.out.1 (HT4.out.trans HF7.out.2)⟩
set_option maxRecDepth 100000 in
set_option maxHeartbeats 4000000 in
theorem rdelete12_second (t g : Nat) (v : Value) (T : Tab) (k : Ky) (C : List Pl) (w : World) (H : Tb RBk w t g v T) (h : Num T) (hk : k.good) (hp1 : takeC (T.bk (T.x1 k)) k = none) (hp2 : takeC (T.bk (T.x2 k)) k = some C) :
    Calls Tryz.prog 33 #[.pointer (some ⟨t, 0, none⟩), kyV k] w fun e w' => e = .returned (.bool true) ∧ RStep w w' t g v (T.set (T.x2 k) C) := by
  have HB := Lib.hid (rtwo_fact T k h hk)
  have HH := Lib.hid H
  have hl := H.tlt
  have c0 := H.c0
  have c1 := H.c1
  have hlim := H.blk
  have HLM := Lib.hid hlim
  have hx1 := h.x1_lt k
  have hx2 := h.x2_lt k
  obtain ⟨x1, hX1⟩ : ∃ x, x = T.x1 k := ⟨_, rfl⟩
  obtain ⟨x2, hX2⟩ : ∃ x, x = T.x2 k := ⟨_, rfl⟩
  rw [← hX1] at HB hx1
  rw [← hX2] at HB hx2
  have HX1 := Lib.hid hX1
  have HX2 := Lib.hid hX2
  clear H hlim hX1 hX2
  unfold kyV at *
  go_enter Tryz.func33, Tryz.ntmps33
  go_wp2_with fail
  have kg := cell_grow
  refine region_whole (by kernel_rfl) (by kernel_rfl) ?_
  repeat (any_goals (first | go_big_quiet_step ((exact HB.out.at _ _ _)) | quiet_step ((exact HB.out.at _ _ _))))
  refine wpQuiet_nil ?_
  clear kg
  intro w4 hb4
  obtain ⟨hc4, hf4⟩ := bcell hb4
  have hw4 : Below w.heap.size w w4 := by
    refine Below.trans ?_ (hb4.mono ?_)
    · go_grown
    · first | omega | go_size
  have d0 : w4.cell? ⟨w.heap.size, 0, none⟩ = some (.int .u64 (k.h : Int)) := by
    rw [hb4.cell (by simp <;> omega)]
    first | assumption | (simp [go_sem]; done) | (simp [go_sem, *]; done)
  have d1 : w4.cell? ⟨w.heap.size, 1, none⟩ = some (.int .u64 (k.l : Int)) := by
    rw [hb4.cell (by simp <;> omega)]
    first | assumption | (simp [go_sem]; done) | (simp [go_sem, *]; done)
  have d2 : w4.cell? ⟨w.heap.size, 2, none⟩ = some (.int .i64 k.n) := by
    rw [hb4.cell (by simp <;> omega)]
    first | assumption | (simp [go_sem]; done) | (simp [go_sem, *]; done)
  have hz4 : w.heap.size < w4.heap.size := by
    have hs := hb4.size
    try simp only [World.size_alloc, World.size_setCell] at hs
    omega
  have HC4 := Lib.hid (HH.out.below bk_rbk hw4)
  have HT4 := Lib.hid (Touch.quiet hw4 (S := Blk t g v))
  have c1 := HC4.out.c1
  have hl4 := HC4.out.tlt
  have hg4 := HC4.out.blt
  have htg := HC4.out.tg
  have hlg : g < w.heap.size := HLM.out g (.inr (.inl rfl))
  have hwg : w.heap.size ≠ g := by omega
  have i1 : (0 : Int) ≤ (x1 : Int) := by omega
  have i2 : (x1 : Int) < (T.B.length : Int) := by omega
  have i3 : (0 : Int) ≤ (x2 : Int) := by omega
  have i4 : (x2 : Int) < (T.B.length : Int) := by omega
  clear hc4 hf4 hb4 hw4 HB hl c0
  have hP1 : ∀ W, Hid (Tb RBk W t g v T ∧ Touch (Blk t g v) w4 W) → W.cell? ⟨w.heap.size, 0, none⟩ = some (.int .u64 (k.h : Int)) → W.cell? ⟨w.heap.size, 1, none⟩ = some (.int .u64 (k.l : Int)) → W.cell? ⟨w.heap.size, 2, none⟩ = some (.int .i64 k.n) →
      Calls Tryz.prog 58 #[.pointer (some ⟨g, x1 * 20, none⟩), .agg #[.int .u64 (k.h : Int), .int .u64 (k.l : Int), .int .i64 k.n]] W fun e w' => e = .returned (.bool (takeC (T.bk x1) k).isSome) ∧ Hid (Tb RBk w' t g v (T.set x1 ((takeC (T.bk x1) k).getD (T.bk x1))) ∧ Touch (Blk t g v) w4 w') ∧
        w'.cell? ⟨t, 1, none⟩ = some (.slice (some ⟨g, 0, none⟩) T.B.length T.B.length) ∧ w'.cell? ⟨w.heap.size, 0, none⟩ = some (.int .u64 (k.h : Int)) ∧ w'.cell? ⟨w.heap.size, 1, none⟩ = some (.int .u64 (k.l : Int)) ∧ w'.cell? ⟨w.heap.size, 2, none⟩ = some (.int .i64 k.n) := by
    intro W hW q0 q1 q2
    refine (rtake11_any g (x1 * 20) (T.bk x1) k W (hW.out.1.bk x1 hx1)).mono ?_
    rintro e w' ⟨rfl, h1, h2⟩
    have hB := World.block_lt_of_cell? W ⟨w.heap.size, 0, none⟩ q0
    have h3 := hW.out.1.turn bk_rbk hx1 h2 h1
    exact ⟨rfl, ⟨h3.1, hW.out.2.trans h3.2⟩, (h2.far hW.out.1.tlt htg 1).1.trans hW.out.1.c1, (h2.far hB hwg 0).1.trans q0, (h2.far hB hwg 1).1.trans q1, (h2.far hB hwg 2).1.trans q2⟩
  rw [HX1.out] at hP1
  rw [hp1, ← HX1.out] at hP1
  simp only [Option.isSome_none, Option.getD_none, Option.isSome_some, Option.getD_some] at hP1
  try rw [tab_self T x1 hx1] at hP1
  have HP1 := Lib.hid hP1
  clear hP1
  have hP2 : ∀ W, Hid (Tb RBk W t g v T ∧ Touch (Blk t g v) w4 W) → W.cell? ⟨w.heap.size, 0, none⟩ = some (.int .u64 (k.h : Int)) → W.cell? ⟨w.heap.size, 1, none⟩ = some (.int .u64 (k.l : Int)) → W.cell? ⟨w.heap.size, 2, none⟩ = some (.int .i64 k.n) →
      Calls Tryz.prog 58 #[.pointer (some ⟨g, x2 * 20, none⟩), .agg #[.int .u64 (k.h : Int), .int .u64 (k.l : Int), .int .i64 k.n]] W fun e w' => e = .returned (.bool (takeC (T.bk x2) k).isSome) ∧ Hid (Tb RBk w' t g v (T.set x2 ((takeC (T.bk x2) k).getD (T.bk x2))) ∧ Touch (Blk t g v) w4 w') ∧
        w'.cell? ⟨t, 1, none⟩ = some (.slice (some ⟨g, 0, none⟩) T.B.length T.B.length) ∧ w'.cell? ⟨w.heap.size, 0, none⟩ = some (.int .u64 (k.h : Int)) ∧ w'.cell? ⟨w.heap.size, 1, none⟩ = some (.int .u64 (k.l : Int)) ∧ w'.cell? ⟨w.heap.size, 2, none⟩ = some (.int .i64 k.n) := by
    intro W hW q0 q1 q2
    refine (rtake11_any g (x2 * 20) (T.bk x2) k W (hW.out.1.bk x2 hx2)).mono ?_
    rintro e w' ⟨rfl, h1, h2⟩
    have hB := World.block_lt_of_cell? W ⟨w.heap.size, 0, none⟩ q0
    have h3 := hW.out.1.turn bk_rbk hx2 h2 h1
    exact ⟨rfl, ⟨h3.1, hW.out.2.trans h3.2⟩, (h2.far hW.out.1.tlt htg 1).1.trans hW.out.1.c1, (h2.far hB hwg 0).1.trans q0, (h2.far hB hwg 1).1.trans q1, (h2.far hB hwg 2).1.trans q2⟩
  rw [HX2.out] at hP2
  rw [hp2, ← HX2.out] at hP2
  simp only [Option.isSome_none, Option.getD_none, Option.isSome_some, Option.getD_some] at hP2
  try rw [tab_self T x2 hx2] at hP2
  have HP2 := Lib.hid hP2
  clear hP2
  go_wp2_with fail
  have kg := cell_grow
  refine region_phases [7] 16 (by kernel_rfl) (by kernel_rfl) (by kernel_rfl) ?_
  unfold phQ
  simp only [Nat.sub_zero, List.take_succ_cons, List.take_zero, List.getElem?_cons_succ, List.getElem?_cons_zero]
  repeat (any_goals (first | go_big_quiet_step (fail) | quiet_step (fail)))
  refine wpQuiet_nil ?_
  clear kg
  intro w5 hb5 K5 hK5 o ho
  injection ho with ho
  subst ho
  obtain ⟨hc5, hf5⟩ := bcell hb5
  have HC5 := Lib.hid (HC4.out.below bk_rbk hb5)
  have hT5 := Touch.quiet hb5 (S := Blk t g v)
  have d0 := (hc5 _ _ hz4).trans d0
  have d1 := (hc5 _ _ hz4).trans d1
  have d2 := (hc5 _ _ hz4).trans d2
  have hz5 := Nat.lt_of_lt_of_le hz4 hb5.size
  clear hc5 hf5 hb5
  go_simp
  refine (HP1.out _ ⟨HC5.out, hT5⟩ d0 d1 d2).mono ?_
  rintro e w6 ⟨rfl, hF6, k0, k1, k2, k3⟩
  have hl6 := hF6.out.1.tlt
  have hz6 := Nat.lt_of_lt_of_le hz4 hF6.out.2.size
  clear d0 d1 d2 c1 hT5 HC5
  refine hK5 _ _ ?_
  clear hK5 K5
  have kg := cell_grow
  unfold phQ
  simp only [Nat.reduceSub, Nat.reduceAdd, List.drop_succ_cons, List.drop_zero, List.take_succ_cons, List.take_zero]
  repeat (any_goals (first | go_big_quiet_step (fail) | quiet_step (fail)))
  refine wpQuiet_nil ?_
  clear kg
  intro w7 hb7
  obtain ⟨hc7, hf7⟩ := bcell hb7
  have HF7 := Lib.hid (show Hid (Tb RBk w7 t g v (T) ∧ Touch (Blk t g v) w4 w7) from ⟨hF6.out.1.below bk_rbk hb7, hF6.out.2.trans (Touch.quiet hb7)⟩)
  have k1 := (hc7 _ _ hz6).trans k1
  have k2 := (hc7 _ _ hz6).trans k2
  have k3 := (hc7 _ _ hz6).trans k3
  have hz7 := Nat.lt_of_lt_of_le hz6 hb7.size
  clear hc7 hf7 hb7 k0
  go_wp2_with fail
  refine (HP2.out _ HF7.out k1 k2 k3).mono ?_
  rintro e w8 ⟨rfl, hF8, k0, k1, k2, k3⟩
  have hz8 := Nat.lt_of_lt_of_le hz4 hF8.out.2.size
  have hl8 := hF8.out.1.tlt
  clear HF7 hF6 hz6 hl6 hl4 hz7
  go_wp2
  go_ret
  rw [← HX2.out]
  exact ⟨rfl, RStep.same hF8.out.1 (HT4.out.trans hF8.out.2)⟩
set_option maxRecDepth 100000 in
set_option maxHeartbeats 4000000 in
theorem rdelete12_last (t g : Nat) (pv : Option Addr) (cv : Nat) (T : Tab) (k : Ky) (w : World) (H : Tb RBk w t g (.slice pv T.st.length cv) T) (h : Num T) (hk : k.good) (hf : T.st.length < 1048576) (hp1 : takeC (T.bk (T.x1 k)) k = none) (hp2 : takeC (T.bk (T.x2 k)) k = none) :
    Calls Tryz.prog 33 #[.pointer (some ⟨t, 0, none⟩), kyV k] w fun e w' => e = .returned (.bool (decide ((outS T.st k).length < T.st.length))) ∧ RStep w w' t g (.slice pv T.st.length cv) { T with st := outS T.st k } := by
  have HW := Lib.hid (fun w (H : Tb RBk w t g (.slice pv T.st.length cv) T) => without12_any pv cv T.st k w (Row.of_own H.own) hf)
  obtain ⟨v, hv⟩ : ∃ v, v = Value.slice pv T.st.length cv := ⟨_, rfl⟩
  rw [← hv] at H HW
  have HV := Lib.hid hv
  obtain ⟨L, hL⟩ : ∃ L, L = outS T.st k := ⟨_, rfl⟩
  rw [← hL] at HW ⊢
  rw [← hv]
  clear hL hv
  obtain ⟨S, hS⟩ : ∃ S, S = T.st.length := ⟨_, rfl⟩
  obtain ⟨N, hN⟩ : ∃ N, N = L.length := ⟨_, rfl⟩
  have hcmp : decide (L.length < T.st.length) = decide ((N : Int) < (S : Int)) := by rw [hS, hN]; simp
  rw [hcmp]
  have HS := Lib.hid hS
  have HN := Lib.hid hN
  clear hS hcmp hN
  have HB := Lib.hid (rtwo_fact T k h hk)
  have HH := Lib.hid H
  have hl := H.tlt
  have c0 := H.c0
  have c1 := H.c1
  have hlim := H.blk
  have HLM := Lib.hid hlim
  have hx1 := h.x1_lt k
  have hx2 := h.x2_lt k
  obtain ⟨x1, hX1⟩ : ∃ x, x = T.x1 k := ⟨_, rfl⟩
  obtain ⟨x2, hX2⟩ : ∃ x, x = T.x2 k := ⟨_, rfl⟩
  rw [← hX1] at HB hx1
  rw [← hX2] at HB hx2
  have HX1 := Lib.hid hX1
  have HX2 := Lib.hid hX2
  clear H hlim hX1 hX2
  unfold kyV at *
  go_enter Tryz.func33, Tryz.ntmps33
  go_wp2_with fail
  have kg := cell_grow
  refine region_whole (by kernel_rfl) (by kernel_rfl) ?_
  repeat (any_goals (first | go_big_quiet_step ((exact HB.out.at _ _ _)) | quiet_step ((exact HB.out.at _ _ _))))
  refine wpQuiet_nil ?_
  clear kg
  intro w4 hb4
  obtain ⟨hc4, hf4⟩ := bcell hb4
  have hw4 : Below w.heap.size w w4 := by
    refine Below.trans ?_ (hb4.mono ?_)
    · go_grown
    · first | omega | go_size
  have d0 : w4.cell? ⟨w.heap.size, 0, none⟩ = some (.int .u64 (k.h : Int)) := by
    rw [hb4.cell (by simp <;> omega)]
    first | assumption | (simp [go_sem]; done) | (simp [go_sem, *]; done)
  have d1 : w4.cell? ⟨w.heap.size, 1, none⟩ = some (.int .u64 (k.l : Int)) := by
    rw [hb4.cell (by simp <;> omega)]
    first | assumption | (simp [go_sem]; done) | (simp [go_sem, *]; done)
  have d2 : w4.cell? ⟨w.heap.size, 2, none⟩ = some (.int .i64 k.n) := by
    rw [hb4.cell (by simp <;> omega)]
    first | assumption | (simp [go_sem]; done) | (simp [go_sem, *]; done)
  have hz4 : w.heap.size < w4.heap.size := by
    have hs := hb4.size
    try simp only [World.size_alloc, World.size_setCell] at hs
    omega
  have HC4 := Lib.hid (HH.out.below bk_rbk hw4)
  have HT4 := Lib.hid (Touch.quiet hw4 (S := Blk t g v))
  have c1 := HC4.out.c1
  have hl4 := HC4.out.tlt
  have hg4 := HC4.out.blt
  have htg := HC4.out.tg
  have hlg : g < w.heap.size := HLM.out g (.inr (.inl rfl))
  have hwg : w.heap.size ≠ g := by omega
  have i1 : (0 : Int) ≤ (x1 : Int) := by omega
  have i2 : (x1 : Int) < (T.B.length : Int) := by omega
  have i3 : (0 : Int) ≤ (x2 : Int) := by omega
  have i4 : (x2 : Int) < (T.B.length : Int) := by omega
  clear hc4 hf4 hb4 hw4 HB hl c0
  have hP1 : ∀ W, Hid (Tb RBk W t g v T ∧ Touch (Blk t g v) w4 W) → W.cell? ⟨w.heap.size, 0, none⟩ = some (.int .u64 (k.h : Int)) → W.cell? ⟨w.heap.size, 1, none⟩ = some (.int .u64 (k.l : Int)) → W.cell? ⟨w.heap.size, 2, none⟩ = some (.int .i64 k.n) →
      Calls Tryz.prog 58 #[.pointer (some ⟨g, x1 * 20, none⟩), .agg #[.int .u64 (k.h : Int), .int .u64 (k.l : Int), .int .i64 k.n]] W fun e w' => e = .returned (.bool (takeC (T.bk x1) k).isSome) ∧ Hid (Tb RBk w' t g v (T.set x1 ((takeC (T.bk x1) k).getD (T.bk x1))) ∧ Touch (Blk t g v) w4 w') ∧
        w'.cell? ⟨t, 1, none⟩ = some (.slice (some ⟨g, 0, none⟩) T.B.length T.B.length) ∧ w'.cell? ⟨w.heap.size, 0, none⟩ = some (.int .u64 (k.h : Int)) ∧ w'.cell? ⟨w.heap.size, 1, none⟩ = some (.int .u64 (k.l : Int)) ∧ w'.cell? ⟨w.heap.size, 2, none⟩ = some (.int .i64 k.n) := by
    intro W hW q0 q1 q2
    refine (rtake11_any g (x1 * 20) (T.bk x1) k W (hW.out.1.bk x1 hx1)).mono ?_
    rintro e w' ⟨rfl, h1, h2⟩
    have hB := World.block_lt_of_cell? W ⟨w.heap.size, 0, none⟩ q0
    have h3 := hW.out.1.turn bk_rbk hx1 h2 h1
    exact ⟨rfl, ⟨h3.1, hW.out.2.trans h3.2⟩, (h2.far hW.out.1.tlt htg 1).1.trans hW.out.1.c1, (h2.far hB hwg 0).1.trans q0, (h2.far hB hwg 1).1.trans q1, (h2.far hB hwg 2).1.trans q2⟩
  rw [HX1.out] at hP1
  rw [hp1, ← HX1.out] at hP1
  simp only [Option.isSome_none, Option.getD_none, Option.isSome_some, Option.getD_some] at hP1
  try rw [tab_self T x1 hx1] at hP1
  have HP1 := Lib.hid hP1
  clear hP1
  have hP2 : ∀ W, Hid (Tb RBk W t g v T ∧ Touch (Blk t g v) w4 W) → W.cell? ⟨w.heap.size, 0, none⟩ = some (.int .u64 (k.h : Int)) → W.cell? ⟨w.heap.size, 1, none⟩ = some (.int .u64 (k.l : Int)) → W.cell? ⟨w.heap.size, 2, none⟩ = some (.int .i64 k.n) →
      Calls Tryz.prog 58 #[.pointer (some ⟨g, x2 * 20, none⟩), .agg #[.int .u64 (k.h : Int), .int .u64 (k.l : Int), .int .i64 k.n]] W fun e w' => e = .returned (.bool (takeC (T.bk x2) k).isSome) ∧ Hid (Tb RBk w' t g v (T.set x2 ((takeC (T.bk x2) k).getD (T.bk x2))) ∧ Touch (Blk t g v) w4 w') ∧
        w'.cell? ⟨t, 1, none⟩ = some (.slice (some ⟨g, 0, none⟩) T.B.length T.B.length) ∧ w'.cell? ⟨w.heap.size, 0, none⟩ = some (.int .u64 (k.h : Int)) ∧ w'.cell? ⟨w.heap.size, 1, none⟩ = some (.int .u64 (k.l : Int)) ∧ w'.cell? ⟨w.heap.size, 2, none⟩ = some (.int .i64 k.n) := by
    intro W hW q0 q1 q2
    refine (rtake11_any g (x2 * 20) (T.bk x2) k W (hW.out.1.bk x2 hx2)).mono ?_
    rintro e w' ⟨rfl, h1, h2⟩
    have hB := World.block_lt_of_cell? W ⟨w.heap.size, 0, none⟩ q0
    have h3 := hW.out.1.turn bk_rbk hx2 h2 h1
    exact ⟨rfl, ⟨h3.1, hW.out.2.trans h3.2⟩, (h2.far hW.out.1.tlt htg 1).1.trans hW.out.1.c1, (h2.far hB hwg 0).1.trans q0, (h2.far hB hwg 1).1.trans q1, (h2.far hB hwg 2).1.trans q2⟩
  rw [HX2.out] at hP2
  rw [hp2, ← HX2.out] at hP2
  simp only [Option.isSome_none, Option.getD_none, Option.isSome_some, Option.getD_some] at hP2
  try rw [tab_self T x2 hx2] at hP2
  have HP2 := Lib.hid hP2
  clear hP2
  go_wp2_with fail
  have kg := cell_grow
  refine region_phases [7] 16 (by kernel_rfl) (by kernel_rfl) (by kernel_rfl) ?_
  unfold phQ
  simp only [Nat.sub_zero, List.take_succ_cons, List.take_zero, List.getElem?_cons_succ, List.getElem?_cons_zero]
  repeat (any_goals (first | go_big_quiet_step (fail) | quiet_step (fail)))
  refine wpQuiet_nil ?_
  clear kg
  intro w5 hb5 K5 hK5 o ho
  injection ho with ho
  subst ho
  obtain ⟨hc5, hf5⟩ := bcell hb5
  have HC5 := Lib.hid (HC4.out.below bk_rbk hb5)
  have hT5 := Touch.quiet hb5 (S := Blk t g v)
  have d0 := (hc5 _ _ hz4).trans d0
  have d1 := (hc5 _ _ hz4).trans d1
  have d2 := (hc5 _ _ hz4).trans d2
  have hz5 := Nat.lt_of_lt_of_le hz4 hb5.size
  clear hc5 hf5 hb5
  go_simp
  refine (HP1.out _ ⟨HC5.out, hT5⟩ d0 d1 d2).mono ?_
  rintro e w6 ⟨rfl, hF6, k0, k1, k2, k3⟩
  have hl6 := hF6.out.1.tlt
  have hz6 := Nat.lt_of_lt_of_le hz4 hF6.out.2.size
  clear d0 d1 d2 c1 hT5 HC5
  refine hK5 _ _ ?_
  clear hK5 K5
  have kg := cell_grow
  unfold phQ
  simp only [Nat.reduceSub, Nat.reduceAdd, List.drop_succ_cons, List.drop_zero, List.take_succ_cons, List.take_zero]
  repeat (any_goals (first | go_big_quiet_step (fail) | quiet_step (fail)))
  refine wpQuiet_nil ?_
  clear kg
  intro w7 hb7
  obtain ⟨hc7, hf7⟩ := bcell hb7
  have HF7 := Lib.hid (show Hid (Tb RBk w7 t g v (T) ∧ Touch (Blk t g v) w4 w7) from ⟨hF6.out.1.below bk_rbk hb7, hF6.out.2.trans (Touch.quiet hb7)⟩)
  have k1 := (hc7 _ _ hz6).trans k1
  have k2 := (hc7 _ _ hz6).trans k2
  have k3 := (hc7 _ _ hz6).trans k3
  have hz7 := Nat.lt_of_lt_of_le hz6 hb7.size
  clear hc7 hf7 hb7 k0
  go_wp2_with fail
  refine (HP2.out _ HF7.out k1 k2 k3).mono ?_
  rintro e w8 ⟨rfl, hF8, k0, k1, k2, k3⟩
  have hz8 := Nat.lt_of_lt_of_le hz4 hF8.out.2.size
  have hl8 := hF8.out.1.tlt
  clear HF7 hF6 hz6 hl6 hl4 hz7
  have HF9 := Lib.hid (show Tb RBk w8 t g v T ∧ Touch (Blk t g v) w w8 from ⟨hF8.out.1, HT4.out.trans hF8.out.2⟩)
  have c2 := HF9.out.1.c2
  have f2 := HF9.out.1.f 2
  rw [HV.out, ← HS.out] at c2
  have HWW : ∀ W, Below w8.heap.size w8 W → Calls Tryz.prog 17 #[.slice pv S cv, .agg #[.int .u64 (k.h : Int), .int .u64 (k.l : Int), .int .i64 k.n]] W fun e w' => ∃ p c, e = .returned (.slice p N c) ∧
      Hid (Tb RBk (w'.setCell ⟨t, 2, none⟩ (.slice p N c)) t g (.slice p N c) { T with st := L } ∧ Touch (Blk t g v) w (w'.setCell ⟨t, 2, none⟩ (.slice p N c)) ∧ ∀ k, Blk t g (.slice p N c) k → k < w.heap.size → Blk t g v k) ∧ w'.cell? ⟨t, 2, none⟩ = some (.slice pv S cv) ∧ w'.frozen? ⟨t, 2, none⟩ = false ∧
      w'.cell? ⟨w.heap.size, 0, none⟩ = some (.int .u64 (k.h : Int)) ∧ w'.cell? ⟨w.heap.size, 1, none⟩ = some (.int .u64 (k.l : Int)) ∧ w'.cell? ⟨w.heap.size, 2, none⟩ = some (.int .i64 k.n) := by
    intro W hW
    have hTW := HF9.out.1.below bk_rbk hW
    have := HW.out W hTW
    rw [HV.out, ← HS.out] at this
    refine this.mono ?_
    rintro e w' ⟨p, c, rfl, h1, h2⟩
    have h3 := hTW.restash bk_rbk (st' := L) h2 h1
    have hlt := hTW.tlt
    have hzW := Nat.lt_of_lt_of_le hz8 hW.size
    rw [← HN.out] at h3 ⊢
    refine ⟨p, c, rfl, ⟨h3.1, (HF9.out.2.trans (Touch.quiet hW)).trans h3.2.1, fun k hk hkl => h3.2.2 k hk (Nat.lt_of_lt_of_le hkl (Nat.le_trans HF9.out.2.size hW.size))⟩, (h2.cell (p := ⟨t, 2, none⟩) hlt).trans ((hW.cell (p := ⟨t, 2, none⟩) hl8).trans c2), (h2.frozen (p := ⟨t, 2, none⟩) hlt).trans (hTW.f 2), (h2.cell (p := ⟨w.heap.size, 0, none⟩) hzW).trans ((hW.cell (p := ⟨w.heap.size, 0, none⟩) hz8).trans k1), (h2.cell (p := ⟨w.heap.size, 1, none⟩) hzW).trans ((hW.cell (p := ⟨w.heap.size, 1, none⟩) hz8).trans k2), (h2.cell (p := ⟨w.heap.size, 2, none⟩) hzW).trans ((hW.cell (p := ⟨w.heap.size, 2, none⟩) hz8).trans k3)⟩
  have HWW := Lib.hid HWW
  have n0 := World.new_ne w8 _ c2
  have n1 := World.new_ne w8 _ k1
  have hcc : (if N < S then true else false) = decide (N < S) := by by_cases h : N < S <;> simp [h]
  clear hF8 HC4 HP1 HP2 k0 HW
  go_wp2_with fail
  have kg := cell_grow
  refine wp_region_noPanic ?_
  generalize hNQ : NoPanic _ = NQ
  refine region_one [0, 1, 2, 3] [4, 5] [6, 7, 8, 9] (by kernel_rfl) (by rw [← hNQ]; exact fun _ _ _ h => h) (by kernel_rfl) (by kernel_rfl) ?_
  simp only [pickL, List.filterMap_cons, List.filterMap_nil, List.getElem?_toArray, List.getElem?_cons_succ, List.getElem?_cons_zero]
  repeat (any_goals (quiet_step (fail)))
  refine wpQuiet_nil ?_
  clear kg
  intro w9 hb9
  go_wp2_with fail
  refine (HWW.out _ hb9).mono ?_
  rintro e w10 ⟨p, c, rfl, hF, j0, jf, -⟩
  have hl10 := World.block_lt_of_cell? w10 ⟨t, 2, none⟩ j0
  go_wp2_with fail
  rw [← hNQ]
  refine NoPanic.normal ?_
  generalize (w10.setCell ⟨t, 2, none⟩ (.slice p N c)) = w11 at hF ⊢
  have c2 := hF.out.1.c2
  have hl11 := hF.out.1.tlt
  by_cases hc : (N : Int) < (S : Int)
  · go_wp2
    go_ret
    exact ⟨by simp; omega, _, _, hF.out⟩
  · go_wp2
    go_ret
    exact ⟨by simp; omega, _, _, hF.out⟩
/-- Delete of the reference's table. -/
theorem rdelete12_any (t g : Nat) (v : Value) (T : Tab) (k : Ky) (w : World) (H : Tb RBk w t g v T) (h : Num T) (hk : k.good) (hf : T.st.length < 1048576) :
    Calls Tryz.prog 33 #[.pointer (some ⟨t, 0, none⟩), kyV k] w fun e w' => e = .returned (.bool (delT T k).2) ∧ RStep w w' t g v (delT T k).1 := by
  obtain ⟨pv, cv, rfl⟩ := own_slice H.own
  unfold delT
  cases h1 : takeC (T.bk (T.x1 k)) k with
  | some C => exact rdelete12_first t g _ T k C w H h hk h1
  | none =>
    cases h2 : takeC (T.bk (T.x2 k)) k with
    | some C => exact rdelete12_second t g _ T k C w H h hk h1 h2
    | none => exact rdelete12_last t g pv cv T k w H h hk hf h1 h2
end Go.Proofs.YtoihkbanmnagkaaGreat
