/-
  walk.Sorted: a new row, sorted, of several routes of one prefix the last one. No condition but that the row lies in memory and is short of 2^20.
-/
import Derived.Test.YtcfioplbbbaeoaaW15
set_option linter.unusedSimpArgs false
set_option linter.unusedVariables false
namespace Go.Proofs.Ytcfioplbbbaeoaa
open Go Go.RowKit Go.Sort M

set_option maxHeartbeats 2000000 in
set_option maxRecDepth 100000 in
theorem wsorted_any (p : Option Addr) (c : Nat) (L : List Rt) (w : World) (hR : Row w p (rcs L)) (hp : p = none → c = 0) (hl : L.length < 1048576) :
    Calls Try.prog 18 #[.slice p L.length c] w fun e w' => NewRts w w' e (sortR L) := by
  have HC := Lib.hid (clone_any p c L w hR hp (by omega))
  have HLn := Lib.hid hl
  clear hR hp hl
  go_enter Try.func18, Try.ntmps18
  go_wp2_with fail
  refine HC.out.mono ?_
  rintro e w1 ⟨p, c, rfl, hown, hb1⟩
  have eg := enters_of Try.func25 (by kernel_rfl) rfl
  have hz1 := hb1.size
  have hS : ∀ W, RowKit.Below w1.heap.size w1 W → w1.heap.size < W.heap.size → W.cell? ⟨w1.heap.size, 0, none⟩ = some (.slice p L.length c) →
      Calls Try.prog 24 #[.iface 34 (.slice p L.length c), .func (.func 25) #[] #[.pointer (some ⟨w1.heap.size, 0, none⟩)]] W fun e w' => e = .returned (.tuple #[]) ∧ ∃ M : List Rt, M.length = L.length ∧ Asc ltR M ∧ Stb ltR L M ∧ Row w' p (rcs M) ∧ RowKit.Below w.heap.size w1 w' ∧ w'.cell? ⟨w1.heap.size, 0, none⟩ = some (.slice p L.length c) := by
    intro W hW hz hc
    have hLn := HLn.out
    have hownW := own_below hown hW
    by_cases h2 : 2 ≤ L.length
    · rcases hown.2 with ⟨e, h0⟩ | ⟨blk, cap', cur, e, hB, -, -, -, -, -⟩
      · omega
      · injection e with e1 e2 e3
        subst e1
        have hbk : blk < w1.heap.size := (hown.lt blk rfl).2
        refine (stableR_any _ _ ltR ltR_swo eg blk c L h2 (by omega) W (holds_own hownW) (by omega) (walkLess_any w1.heap.size blk c L.length (by omega) W hc (by omega))).mono ?_
        rintro e w' ⟨rfl, M, m1, m2, m3, m4⟩
        have ml := m2.len
        refine ⟨rfl, M, ml.symm, m1, m2, row_holds m3 (by have := m4.size; omega), ?_, m4.cell hc (by show w1.heap.size ≠ blk; omega)⟩
        exact (hW.mono hz1).trans (m4.below (by have := hW.size; omega) (fun j hj => by omega))
    · refine (stableR_none _ _ p c L.length (by omega) W).mono ?_
      rintro e w' ⟨rfl, hb⟩
      have hs : Asc ltR L := by
        rcases L with _ | ⟨a, _ | ⟨b, L⟩⟩
        · exact List.Pairwise.nil
        · exact List.pairwise_singleton _ _
        · simp at h2
      exact ⟨rfl, L, rfl, hs, Stb.refl _, (Row.of_own hownW).below hb, (hW.trans (hb.mono (by have := hW.size; omega))).mono hz1, (hb.cell (p := ⟨w1.heap.size, 0, none⟩) hz).trans hc⟩
  have HS := Lib.hid hS
  have HP : Hid (p = none → L.length = 0) := Lib.hid fun e => by
    subst e
    rcases hown.2 with ⟨-, h0⟩ | ⟨blk, cap', cur, e, -⟩
    · exact h0
    · cases e
  clear hS hown eg HC
  go_wp2_with fail
  refine (HS.out _ (by go_grown) (by simp) (by simp [go_sem])).mono ?_
  rintro e w2 ⟨rfl, M, m0, m1, m2, m3, m4, b0⟩
  have hbl : w1.heap.size < w2.heap.size := World.block_lt_of_cell? w2 _ b0
  have HE := Lib.hid (lasts_eq m1 m2)
  have hw2 : RowKit.Below w.heap.size w w2 := hb1.trans m4
  have HM := Lib.hid m3
  have HN := Lib.hid m0
  have hMl : M.length < 1048576 := by have := HLn.out; omega
  rw [← HN.out]
  rw [← HN.out] at b0
  clear m0 m1 m2 m3 m4 HS HLn HN
  go_wp2
  go_loopg [4, 15] M.length (fun kx s4 s15 wr => ∃ (i : Nat) (N : List Rt) (p4 : Option Addr) (c4 : Nat), s15 = .int .i64 (i : Int) ∧ M.length - i ≤ kx ∧ i ≤ M.length ∧ s4 = .slice p4 N.length c4 ∧ Hid (N ++ lastsR (M.drop i) = lastsR M) ∧ Hid (wr.ownsRow w2.heap.size 43 4 (.slice p4 N.length c4) N.length (rcs N)) ∧ Below w2.heap.size w2 wr)
  case atStart => exact ⟨0, [], none, 0, rfl, by omega, by omega, rfl, Lib.hid rfl, Lib.hid (World.ownsRow_nil _ _ _ _), by go_grown⟩
  case round =>
    obtain ⟨i, N, p4, c4, rfl, h1, h2, rfl, HN, HO, hb⟩ := hrel
    by_cases hi : i < M.length
    · obtain ⟨g, o, rfl, hg, x0, x1, x2, x3⟩ := HM.out.rt hi
      have x0 := (hb.cell (p := ⟨g, o + i * 4, none⟩) hg).trans x0
      have x1 := (hb.cell (p := ⟨g, o + i * 4 + 1, none⟩) hg).trans x1
      have x2 := (hb.cell (p := ⟨g, o + i * 4 + 2, none⟩) hg).trans x2
      have x3 := (hb.cell (p := ⟨g, o + i * 4 + 3, none⟩) hg).trans x3
      have d0 := (hb.cell (p := ⟨w1.heap.size, 0, none⟩) hbl).trans b0
      have hg2 := Nat.lt_of_lt_of_le hg hb.size
      have hbl2 := Nat.lt_of_lt_of_le hbl hb.size
      have hz0 := hb.size
      have i1 : (0 : Int) ≤ (i : Int) := by omega
      have i2 : (i : Int) < (M.length : Int) := by omega
      obtain ⟨r, hr⟩ : ∃ r, r = M[i] := ⟨_, rfl⟩
      rw [← hr] at x0 x1 x2 x3
      have HMr := Lib.hid hr
      clear hr
      have HOb := Lib.hid (HO.out.alloc (.cells #[.int .u64 (r.k.h : Int), .int .u64 (r.k.l : Int), .int .i64 r.k.n, .int .i64 r.v] 43))
      have hb5 : Below w2.heap.size w2 (wr.alloc (.cells #[.int .u64 (r.k.h : Int), .int .u64 (r.k.l : Int), .int .i64 r.k.n, .int .i64 r.v] 43)) := by go_grown
      have e0 : (wr.alloc (.cells #[.int .u64 (r.k.h : Int), .int .u64 (r.k.l : Int), .int .i64 r.k.n, .int .i64 r.v] 43)).cell? ⟨wr.heap.size, 0, none⟩ = some (.int .u64 (r.k.h : Int)) := by simp [go_sem]
      have e1 : (wr.alloc (.cells #[.int .u64 (r.k.h : Int), .int .u64 (r.k.l : Int), .int .i64 r.k.n, .int .i64 r.v] 43)).cell? ⟨wr.heap.size, 1, none⟩ = some (.int .u64 (r.k.l : Int)) := by simp [go_sem]
      have e2 : (wr.alloc (.cells #[.int .u64 (r.k.h : Int), .int .u64 (r.k.l : Int), .int .i64 r.k.n, .int .i64 r.v] 43)).cell? ⟨wr.heap.size, 2, none⟩ = some (.int .i64 r.k.n) := by simp [go_sem]
      have e3 : (wr.alloc (.cells #[.int .u64 (r.k.h : Int), .int .u64 (r.k.l : Int), .int .i64 r.k.n, .int .i64 r.v] 43)).cell? ⟨wr.heap.size, 3, none⟩ = some (.int .i64 r.v) := by simp [go_sem]
      have z5 : wr.heap.size < (wr.alloc (.cells #[.int .u64 (r.k.h : Int), .int .u64 (r.k.l : Int), .int .i64 r.k.n, .int .i64 r.v] 43)).heap.size := by simp
      by_cases hn : i + 1 < M.length
      · obtain ⟨g', o', hgo, -, y0, y1, y2, -⟩ := HM.out.rt hn
        injection hgo with hgo
        injection hgo with hg1 ho1
        subst hg1
        subst ho1
        have y0 := (hb5.cell (p := ⟨g, o + (i + 1) * 4, none⟩) hg).trans y0
        have y1 := (hb5.cell (p := ⟨g, o + (i + 1) * 4 + 1, none⟩) hg).trans y1
        have y2 := (hb5.cell (p := ⟨g, o + (i + 1) * 4 + 2, none⟩) hg).trans y2
        have hn1 : ((i : Int) + 1 == (M.length : Int)) = false := by
          rw [beq_eq_false_iff_ne]
          omega
        have i3 : (i : Int) + 1 < (M.length : Int) := by omega
        have hE := neq_pfx15 M[i + 1].k.h M[i + 1].k.l M[i + 1].k.n r.k.h r.k.l r.k.n
        have hst := HN.out
        rw [lasts_step M i hi, dif_pos hn, ← HMr.out] at hst
        obtain ⟨y, hy⟩ : ∃ y, y = M[i + 1] := ⟨_, rfl⟩
        rw [← hy] at y0 y1 y2 hE hst
        clear hy
        by_cases hk : y.k = r.k
        · rw [if_pos hk] at hst
          have HN2 : Hid (N ++ lastsR (M.drop (i + 1)) = lastsR M) := Lib.hid (by simpa using hst)
          rw [decide_eq_true (show y.k.h = r.k.h ∧ y.k.l = r.k.l ∧ y.k.n = r.k.n from by rw [hk]; exact ⟨rfl, rfl, rfl⟩)] at hE
          clear hst hk
          go_wp2_with fail
          have d0 := (hb5.cell (p := ⟨w1.heap.size, 0, none⟩) hbl).trans b0
          have hg2 := Nat.lt_of_lt_of_le hg hb5.size
          have hbl2 := Nat.lt_of_lt_of_le hbl hb5.size
          generalize World.alloc wr _ = w5 at *
          have hz5 := hb5.size
          have hw5 := hw2.trans (hb5.mono hw2.size)
          have kg := cell_grow
          refine region_whole (by kernel_rfl) (by kernel_rfl) ?_
          repeat (any_goals (first | go_big_quiet_step (fail) | quiet_step (fail)))
          refine wpQuiet_nil ?_
          clear kg
          intro w7 hb7
          obtain ⟨hc7, hf7⟩ := bcell hb7
          have hw7 : Below w.heap.size w w7 := by
            refine Below.trans ?_ (hb7.mono ?_)
            · go_grown
            · first | omega | go_size
          have hw7 := hb5.trans (hb7.mono hb5.size)
          have HO7 := Lib.hid (own_below HOb.out hb7)
          have e0 := (hc7 _ _ z5).trans e0
          have e1 := (hc7 _ _ z5).trans e1
          have e2 := (hc7 _ _ z5).trans e2
          have e3 := (hc7 _ _ z5).trans e3
          have z5 := Nat.lt_of_lt_of_le z5 hb7.size
          clear hc7 hf7 hb7
          go_wp2
          go_roundg (M.length - (i + 1))
          case measure => omega
          case rel => exact ⟨i + 1, N, p4, c4, by go_num, by omega, by omega, rfl, HN2, HO7, hw7⟩
        · rw [if_neg hk] at hst
          have HN2 : Hid ((N ++ [r]) ++ lastsR (M.drop (i + 1)) = lastsR M) := Lib.hid (by simpa using hst)
          have hne : ¬ (y.k.h = r.k.h ∧ y.k.l = r.k.l ∧ y.k.n = r.k.n) := fun ⟨q1, q2, q3⟩ => hk (by
            cases hy1 : y.k
            cases hr1 : r.k
            rw [hy1, hr1] at q1 q2 q3
            simp_all)
          rw [decide_eq_false hne] at hE
          clear hst hk hne
          go_wp2_with fail
          have d0 := (hb5.cell (p := ⟨w1.heap.size, 0, none⟩) hbl).trans b0
          have hg2 := Nat.lt_of_lt_of_le hg hb5.size
          have hbl2 := Nat.lt_of_lt_of_le hbl hb5.size
          generalize World.alloc wr _ = w5 at *
          have hz5 := hb5.size
          have hw5 := hw2.trans (hb5.mono hw2.size)
          have kg := cell_grow
          refine region_whole (by kernel_rfl) (by kernel_rfl) ?_
          repeat (any_goals (first | go_big_quiet_step (fail) | quiet_step (fail)))
          refine wpQuiet_nil ?_
          clear kg
          intro w7 hb7
          obtain ⟨hc7, hf7⟩ := bcell hb7
          have hw7 : Below w.heap.size w w7 := by
            refine Below.trans ?_ (hb7.mono ?_)
            · go_grown
            · first | omega | go_size
          have hw7 := hb5.trans (hb7.mono hb5.size)
          have HO7 := Lib.hid (own_below HOb.out hb7)
          have e0 := (hc7 _ _ z5).trans e0
          have e1 := (hc7 _ _ z5).trans e1
          have e2 := (hc7 _ _ z5).trans e2
          have e3 := (hc7 _ _ z5).trans e3
          have z5 := Nat.lt_of_lt_of_le z5 hb7.size
          clear hc7 hf7 hb7
          have HO8 := Lib.hid (HO7.out.alloc (.cells #[.int .u64 (r.k.h : Int), .int .u64 (r.k.l : Int), .int .i64 r.k.n, .int .i64 r.v] 43))
          have hsrc : Hid (∀ j u, (rcs [r])[j]? = some u → (w7.alloc (.cells #[.int .u64 (r.k.h : Int), .int .u64 (r.k.l : Int), .int .i64 r.k.n, .int .i64 r.v] 43)).cell? ((⟨w7.heap.size, 0, none⟩ : Addr).add j) = some u) := by
            rw [rcs_one]
            exact Lib.hid (four_new (by simp [go_sem]) (by simp [go_sem]) (by simp [go_sem]) (by simp [go_sem]))
          have hNl : N.length ≤ M.length := by
            have h1 := congrArg List.length HN.out
            have h2 := lasts_len M
            simp only [List.length_append] at h1
            omega
          have HNl := Lib.hid hNl
          clear hNl
          have hw8 : Below w2.heap.size w2 (w7.alloc (.cells #[.int .u64 (r.k.h : Int), .int .u64 (r.k.l : Int), .int .i64 r.k.n, .int .i64 r.v] 43)) := hw7.alloc hw7.size _
          go_wp2_with (at_builtin; go_loud (refine wpList_append_row rfl (.tmp 36) (.tmp 38) rfl w2.heap.size _ N [r] (N ++ [r]) rfl rfl ⟨w7.heap.size, 0, none⟩ 1 rfl HO8.out hsrc.out (by have := HNl.out; simp; omega) hw8.size ?_))
          intro v9 w9 hown9 hg9 _
          obtain ⟨p9, c9, rfl⟩ := own_slice hown9
          have hw9 : Below w2.heap.size w2 w9 := hw8.grown hg9 hw8.size (fun k e => (HO8.out.lt k e).1)
          have HO9 := Lib.hid hown9
          clear hown9 hg9 hw8
          go_wp2
          go_roundg (M.length - (i + 1))
          case measure => omega
          case rel => exact ⟨i + 1, N ++ [r], p9, c9, by go_num, by omega, by omega, by rw [List.length_append]; rfl, HN2, by rw [List.length_append]; exact HO9, hw9⟩
      · have hn1 : ((i : Int) + 1 == (M.length : Int)) = true := by
          rw [beq_iff_eq]
          omega
        have HN2 : Hid ((N ++ [r]) ++ lastsR (M.drop (i + 1)) = lastsR M) := by
          have := HN.out
          rw [lasts_step M i hi, dif_neg hn, ← HMr.out] at this
          exact Lib.hid (by simpa using this)
        go_wp2_with fail
        have d0 := (hb5.cell (p := ⟨w1.heap.size, 0, none⟩) hbl).trans b0
        have hg2 := Nat.lt_of_lt_of_le hg hb5.size
        have hbl2 := Nat.lt_of_lt_of_le hbl hb5.size
        generalize World.alloc wr _ = w5 at *
        have hz5 := hb5.size
        have hw5 := hw2.trans (hb5.mono hw2.size)
        have kg := cell_grow
        refine region_whole (by kernel_rfl) (by kernel_rfl) ?_
        repeat (any_goals (first | go_big_quiet_step (fail) | quiet_step (fail)))
        refine wpQuiet_nil ?_
        clear kg
        intro w7 hb7
        obtain ⟨hc7, hf7⟩ := bcell hb7
        have hw7 : Below w.heap.size w w7 := by
          refine Below.trans ?_ (hb7.mono ?_)
          · go_grown
          · first | omega | go_size
        have hw7 := hb5.trans (hb7.mono hb5.size)
        have HO7 := Lib.hid (own_below HOb.out hb7)
        have e0 := (hc7 _ _ z5).trans e0
        have e1 := (hc7 _ _ z5).trans e1
        have e2 := (hc7 _ _ z5).trans e2
        have e3 := (hc7 _ _ z5).trans e3
        have z5 := Nat.lt_of_lt_of_le z5 hb7.size
        clear hc7 hf7 hb7
        have HO8 := Lib.hid (HO7.out.alloc (.cells #[.int .u64 (r.k.h : Int), .int .u64 (r.k.l : Int), .int .i64 r.k.n, .int .i64 r.v] 43))
        have hsrc : Hid (∀ j u, (rcs [r])[j]? = some u → (w7.alloc (.cells #[.int .u64 (r.k.h : Int), .int .u64 (r.k.l : Int), .int .i64 r.k.n, .int .i64 r.v] 43)).cell? ((⟨w7.heap.size, 0, none⟩ : Addr).add j) = some u) := by
          rw [rcs_one]
          exact Lib.hid (four_new (by simp [go_sem]) (by simp [go_sem]) (by simp [go_sem]) (by simp [go_sem]))
        have hNl : N.length ≤ M.length := by
          have h1 := congrArg List.length HN.out
          have h2 := lasts_len M
          simp only [List.length_append] at h1
          omega
        have HNl := Lib.hid hNl
        clear hNl
        have hw8 : Below w2.heap.size w2 (w7.alloc (.cells #[.int .u64 (r.k.h : Int), .int .u64 (r.k.l : Int), .int .i64 r.k.n, .int .i64 r.v] 43)) := hw7.alloc hw7.size _
        go_wp2_with (at_builtin; go_loud (refine wpList_append_row rfl (.tmp 36) (.tmp 38) rfl w2.heap.size _ N [r] (N ++ [r]) rfl rfl ⟨w7.heap.size, 0, none⟩ 1 rfl HO8.out hsrc.out (by have := HNl.out; simp; omega) hw8.size ?_))
        intro v9 w9 hown9 hg9 _
        obtain ⟨p9, c9, rfl⟩ := own_slice hown9
        have hw9 : Below w2.heap.size w2 w9 := hw8.grown hg9 hw8.size (fun k e => (HO8.out.lt k e).1)
        have HO9 := Lib.hid hown9
        clear hown9 hg9 hw8
        go_wp2
        go_roundg (M.length - (i + 1))
        case measure => omega
        case rel => exact ⟨i + 1, N ++ [r], p9, c9, by go_num, by omega, by omega, by rw [List.length_append]; rfl, HN2, by rw [List.length_append]; exact HO9, hw9⟩
    · go_wp2
      go_ret
      have := HN.out
      rw [List.drop_eq_nil_of_le (by omega)] at this
      simp only [lastsR, List.append_nil] at this
      rw [← HE.out, ← this]
      exact ⟨p4, c4, rfl, own_le HO.out hw2.size, hw2.trans (hb.mono hw2.size)⟩
end Go.Proofs.Ytcfioplbbbaeoaa
