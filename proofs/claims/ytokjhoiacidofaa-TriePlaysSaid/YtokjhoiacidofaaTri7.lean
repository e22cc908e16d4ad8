/-
  What a trie's Longest, Get, Put and Delete hand back, and what it has behind them. No condition but those that stand in each.
-/
import Derived.Test.YtokjhoiacidofaaTri6
set_option linter.unusedSimpArgs false
set_option linter.unusedVariables false
namespace Go.Proofs.Ytokjhoiacidofaa
open Go.RowKit Go.Sort M

theorem right_full {ah al : Nat} : rightB ah al 128 = true := by
  rw [rightB_iff]
  exact ⟨by decide, by decide, cutW_full _ _ (by decide), cutW_full _ _ (by decide)⟩
/-- What Longest finds. -/
def lonV (ah al : Nat) (T : Pt) : Option Rt := coverP ah al (-1) 128 T none
theorem cov_lon (ah al : Nat) (T : Pt) : covV ⟨ah, al, 128⟩ (-1) 128 T = lonV ah al T := by
  unfold covV lonV
  rw [if_pos (show rightB (⟨ah, al, 128⟩ : Ky).h (⟨ah, al, 128⟩ : Ky).l (⟨ah, al, 128⟩ : Ky).n = true from right_full)]
  rfl
set_option maxRecDepth 100000 in
set_option maxHeartbeats 2000000 in
theorem longest_any {K : Nat → Prop} {t : Nat} {T : Pt} {n : Int} {w : World} (H : Tri w K t T n) (ah al : Nat) (ha : W64 ah) (hb : W64 al) :
    Calls Try.prog 18 #[.pointer (some ⟨t, 0, none⟩), .agg #[.int .u64 (ah : Int), .int .u64 (al : Int)]] w fun e w' => e = .returned (.tuple #[rtA ((lonV ah al T).getD zr), .bool (lonV ah al T).isSome]) ∧ Below w.heap.size w w' := by
  have HC : Hid (∀ W, Below w.heap.size w W → Calls Try.prog 19 #[.pointer (some ⟨t, 0, none⟩), .agg #[.int .u64 (ah : Int), .int .u64 (al : Int), .int .i64 128], .int .i64 (-1), .int .i64 128] W fun e w' => e = .returned (.tuple #[rtA ((lonV ah al T).getD zr), .bool (lonV ah al T).isSome]) ∧ Below W.heap.size W w') := by
    intro W hW
    have h := cover_any (H.below hW) ⟨ah, al, 128⟩ (-1) 128 ⟨ha, hb⟩
    rw [cov_lon] at h
    exact h
  obtain ⟨x, hx⟩ : ∃ x, x = (lonV ah al T).getD zr := ⟨_, rfl⟩
  obtain ⟨c, hc⟩ : ∃ c, c = (lonV ah al T).isSome := ⟨_, rfl⟩
  rw [← hx, ← hc] at HC ⊢
  clear hx hc H
  unfold rtA at HC ⊢
  go_enter Try.func18, Try.ntmps18
  go_wp2_with fail
  refine (HC.out _ (by go_grown)).mono ?_
  rintro e w1 ⟨rfl, hb1⟩
  generalize hwB : World.alloc (World.alloc w _) _ = wB at hb1
  have hB : Below w.heap.size w wB := by rw [← hwB]; go_grown
  have hzB : w.heap.size + 1 < wB.heap.size := by rw [← hwB]; simp
  have y0 : w1.cell? ⟨w.heap.size + 1, 0, none⟩ = some (.int .u64 0) := by rw [hb1.cell (p := ⟨w.heap.size + 1, 0, none⟩) hzB, ← hwB]; simp [go_sem]
  have y1 : w1.cell? ⟨w.heap.size + 1, 1, none⟩ = some (.int .u64 0) := by rw [hb1.cell (p := ⟨w.heap.size + 1, 1, none⟩) hzB, ← hwB]; simp [go_sem]
  have y2 : w1.cell? ⟨w.heap.size + 1, 2, none⟩ = some (.int .i64 0) := by rw [hb1.cell (p := ⟨w.heap.size + 1, 2, none⟩) hzB, ← hwB]; simp [go_sem]
  have y3 : w1.cell? ⟨w.heap.size + 1, 3, none⟩ = some (.int .i64 0) := by rw [hb1.cell (p := ⟨w.heap.size + 1, 3, none⟩) hzB, ← hwB]; simp [go_sem]
  have yf : ∀ j, w1.frozen? ⟨w.heap.size + 1, j, none⟩ = false := fun j => by rw [hb1.frozen (p := ⟨w.heap.size + 1, j, none⟩) hzB, ← hwB]; simp [go_sem]
  have hwE := hB.trans (hb1.mono hB.size)
  have hz2 := Nat.lt_of_lt_of_le hzB hb1.size
  clear hwB hb1 hB hzB HC
  go_wp2
  have hg4 := give4_ok x y0 y1 y2 y3 hwE (show w.heap.size ≤ w.heap.size + 1 by omega)
  have hw3 : ((((w1.setCell ⟨w.heap.size + 1, 0, none⟩ (.int .u64 (x.k.h : Int))).setCell ⟨w.heap.size + 1, 1, none⟩ (.int .u64 (x.k.l : Int))).setCell ⟨w.heap.size + 1, 2, none⟩ (.int .i64 x.k.n)).setCell ⟨w.heap.size + 1, 3, none⟩ (.int .i64 x.v)) = give4 w1 (w.heap.size + 1) x := rfl
  rw [hw3]
  clear hw3
  generalize give4 w1 (w.heap.size + 1) x = w3 at hg4 ⊢
  obtain ⟨j0, j1, j2, j3, hwG, hsG⟩ := hg4
  clear y0 y1 y2 y3 yf
  refine bodyPost_ret (by simp [results, Try.results18, go_sem, j0, j1, j2, j3]; try rfl) rfl ?_
  exact ⟨rfl, hwG⟩
/-- What Get finds. -/
def getV (p : Ky) (T : Pt) : Option Rt := covV p (p.n - 1) p.n T
set_option maxRecDepth 100000 in
theorem tget_any {K : Nat → Prop} {t : Nat} {T : Pt} {n : Int} {w : World} (H : Tri w K t T n) (p : Ky) (pg : p.good) :
    Calls Try.prog 13 #[.pointer (some ⟨t, 0, none⟩), kyV p] w fun e w' => e = .returned (.tuple #[.int .i64 ((getV p T).getD zr).v, .bool (getV p T).isSome]) ∧ Below w.heap.size w w' := by
  by_cases hr : rightB p.h p.l p.n = true
  · obtain ⟨n0, n1⟩ := rightK_le hr
    have HC : Hid (∀ W, Below w.heap.size w W → Calls Try.prog 19 #[.pointer (some ⟨t, 0, none⟩), kyV p, .int .i64 (p.n - 1), .int .i64 p.n] W fun e w' => e = .returned (.tuple #[rtA ((getV p T).getD zr), .bool (getV p T).isSome]) ∧ Below W.heap.size W w') :=
      fun W hW => cover_any (H.below hW) p (p.n - 1) p.n pg
    clear hr
    obtain ⟨x, hx⟩ : ∃ x, x = (getV p T).getD zr := ⟨_, rfl⟩
    obtain ⟨c, hc⟩ : ∃ c, c = (getV p T).isSome := ⟨_, rfl⟩
    rw [← hx, ← hc] at HC ⊢
    clear hx hc H
    unfold rtA kyV at HC
    unfold kyV
    go_enter Try.func13, Try.ntmps13
    go_wp2_with fail
    refine (HC.out _ (by go_grown)).mono ?_
    rintro e w1 ⟨rfl, hb1⟩
    have hw1 : Below w.heap.size w w1 := Below.trans (by go_grown) (hb1.mono (by simp))
    have hz1 : w.heap.size ≤ w1.heap.size := hw1.size
    clear hb1
    go_wp2
    go_ret2
    exact ⟨rfl, by go_grown⟩
  · have HC : Hid (∀ W, Below w.heap.size w W → Calls Try.prog 19 #[.pointer (some ⟨t, 0, none⟩), kyV p, .int .i64 (wrap64 (p.n - 1)), .int .i64 p.n] W fun e w' => e = .returned (.tuple #[rtA ((getV p T).getD zr), .bool (getV p T).isSome]) ∧ Below W.heap.size W w') := by
      intro W hW
      have h := cover_any (H.below hW) p (wrap64 (p.n - 1)) p.n pg
      unfold getV covV at *
      rw [if_neg hr] at h ⊢
      exact h
    clear hr
    obtain ⟨x, hx⟩ : ∃ x, x = (getV p T).getD zr := ⟨_, rfl⟩
    obtain ⟨c, hc⟩ : ∃ c, c = (getV p T).isSome := ⟨_, rfl⟩
    rw [← hx, ← hc] at HC ⊢
    clear hx hc H
    unfold rtA kyV at HC
    unfold kyV
    go_enter Try.func13, Try.ntmps13
    go_wp2_with fail
    refine (HC.out _ (by go_grown)).mono ?_
    rintro e w1 ⟨rfl, hb1⟩
    have hw1 : Below w.heap.size w w1 := Below.trans (by go_grown) (hb1.mono (by simp))
    have hz1 : w.heap.size ≤ w1.heap.size := hw1.size
    clear hb1
    go_wp2
    go_ret2
    exact ⟨rfl, by go_grown⟩
/-! ### Put and Delete -/
theorem get_at {T : Pt} (ho : T.ok) {p : Ky} (pg : p.good) {r : Rt} (h : getV p T = some r) : rightK p ∧ T.mem r ∧ r.k = p := by
  unfold getV covV at h
  by_cases hr : rightB p.h p.l p.n = true
  · rw [if_pos hr, show min p.n p.n = p.n by omega] at h
    refine ⟨hr, ?_⟩
    rcases cover_ok pg.1 pg.2 (p.n - 1) p.n none ho with ⟨e, -⟩ | ⟨x, e, hx, hcx, -⟩
    · rw [e] at h; cases h
    · rw [e] at h
      injection h with h
      subst h
      refine ⟨hx, ?_⟩
      obtain ⟨c1, c2, c3⟩ := cand_iff.1 hcx
      have hxo := Pt.all_mem (all_ok ho) hx
      have hp := (has_pre hxo.1 hxo.2 pg.1 pg.2).1 c3
      refine pathK_inj hxo.1 pg hxo.2 hr ?_
      have := pre_take hp
      rw [pathK_len, path_take _ _ _ _ (by have := rightK_le hxo.2; omega), show x.k.n = p.n by omega] at this
      exact this
  · rw [if_neg hr] at h
    cases h
/-- A trie's struct written anew. -/
theorem Tri.store {K : Nat → Prop} {t : Nat} {T T' : Pt} {n : Int} {w w1 : World} (H : Tri w K t T n) (hb : Below w.heap.size w w1) {q : Option Addr} (h : NdAt w1 K T' q) (ho : T'.ok) :
    Tri (w1.setCell ⟨t, 0, none⟩ (.pointer q)) K t T' n ∧ Touch (fun k => k = t) w (w1.setCell ⟨t, 0, none⟩ (.pointer q)) := by
  obtain ⟨q0, c0, -⟩ := H.at'
  have hl := H.lt
  have h0 := (hb.cell (p := ⟨t, 0, none⟩) hl).trans c0
  have h1 := (hb.cell (p := ⟨t, 1, none⟩) hl).trans H.c1
  have hblk : ∀ k, k ≠ t → (w1.setCell ⟨t, 0, none⟩ (.pointer q)).heap[k]? = w1.heap[k]? := fun k hk => Below.heap_setCell w1 ⟨t, 0, none⟩ _ k hk
  refine ⟨⟨by rw [World.size_setCell]; exact Nat.lt_of_lt_of_le hl hb.size, ⟨q, World.cell?_setCell_same _ _ _ h0, ?_⟩, (set_ne _ _ _ _ _ (by decide)).trans h1, fun j => ?_, H.off, fun g hg => H.new g (by rw [World.size_setCell] at hg; exact Nat.le_trans hb.size hg), ho⟩, ⟨hb.os, hb.tape, hb.output, by rw [World.size_setCell]; exact hb.size, fun k hk hn => (hblk k hn).trans (hb.block k hk)⟩⟩
  · refine h.kept (by rw [World.size_setCell]; exact Nat.le_refl _) (fun g hg _ => hblk g (fun e => H.off (e ▸ hg))) (fun _ h => h)
  · rw [World.frozen?_setCell]
    exact (hb.frozen (p := ⟨t, j, none⟩) hl).trans (H.f j)
theorem Tri.count {K : Nat → Prop} {t : Nat} {T : Pt} {n : Int} {w : World} (H : Tri w K t T n) (n' : Int) :
    Tri (w.setCell ⟨t, 1, none⟩ (.int .i64 n')) K t T n' ∧ Touch (fun k => k = t) w (w.setCell ⟨t, 1, none⟩ (.int .i64 n')) := by
  obtain ⟨q0, c0, hq⟩ := H.at'
  have hblk : ∀ k, k ≠ t → (w.setCell ⟨t, 1, none⟩ (.int .i64 n')).heap[k]? = w.heap[k]? := fun k hk => Below.heap_setCell w ⟨t, 1, none⟩ _ k hk
  refine ⟨⟨by rw [World.size_setCell]; exact H.lt, ⟨q0, (set_ne _ _ _ _ _ (by decide)).trans c0, ?_⟩, World.cell?_setCell_same _ _ _ H.c1, fun j => by rw [World.frozen?_setCell]; exact H.f j, H.off, fun g hg => H.new g (by rw [World.size_setCell] at hg; exact hg), H.ok⟩, ⟨rfl, rfl, rfl, by rw [World.size_setCell]; exact Nat.le_refl _, fun k hk hn => hblk k hn⟩⟩
  exact hq.kept (by rw [World.size_setCell]; exact Nat.le_refl _) (fun g hg _ => hblk g (fun e => H.off (e ▸ hg))) (fun _ h => h)
/-- What a trie has behind a Put, and how many. -/
def putT (p : Ky) (x : Int) (T : Pt) : Pt := if rightB p.h p.l p.n = true then withP T ⟨p, x⟩ else T
def putC14 (p : Ky) (T : Pt) (n : Int) : Int := if rightB p.h p.l p.n = true ∧ (getV p T).isSome = false then n + 1 else n
def delT14 (p : Ky) (T : Pt) : Pt := if (getV p T).isSome = true then withoutP T p else T
def delC14 (p : Ky) (T : Pt) (n : Int) : Int := if (getV p T).isSome = true then n - 1 else n
def getN14 (p : Ky) (T : Pt) : Value := .tuple #[.int .i64 ((getV p T).getD zr).v, .bool (getV p T).isSome]
set_option maxRecDepth 100000 in
set_option maxHeartbeats 4000000 in
theorem tput_any {K : Nat → Prop} {t : Nat} {T : Pt} {n : Int} {w : World} (H : Tri w K t T n) (p : Ky) (x : Int) (pg : p.good) (hn0 : -1000000 ≤ n) (hn1 : n ≤ 1000000) :
    Calls Try.prog 7 #[.pointer (some ⟨t, 0, none⟩), kyV p, .int .i64 x] w fun e w' => e = .returned (getN14 p T) ∧ Tri w' K t (putT p x T) (putC14 p T n) ∧ Touch (fun k => k = t) w w' := by
  by_cases hr : rightB p.h p.l p.n = true
  · have HWT := Lib.hid (twith_any (x := ⟨p, x⟩) pg hr H.ok)
    have hok' := with_ok (x := ⟨p, x⟩) pg hr H.ok
    unfold putT
    rw [if_pos hr]
    have hl := H.lt
    have HGT := Lib.hid (fun (W : World) (hW : Below w.heap.size w W) => tget_any (H.below hW) p pg)
    obtain ⟨gv, hgv⟩ : ∃ x, x = ((getV p T).getD zr).v := ⟨_, rfl⟩
    obtain ⟨gs, hgs⟩ : ∃ x, x = (getV p T).isSome := ⟨_, rfl⟩
    have HH := Lib.hid H
    have hR := right_any p.h p.l p.n pg.1 pg.2
    rw [hr] at hR
    have HRT := Lib.hid hR
    obtain ⟨nc, hnc⟩ : ∃ c, c = putC14 p T n := ⟨_, rfl⟩
    rw [← hnc]
    unfold putC14 at hnc
    rw [← hgs] at hnc
    have HNC := Lib.hid hnc
    clear hnc
    unfold getN14
    rw [← hgv, ← hgs] at HGT ⊢
    have HGS := Lib.hid hgs
    clear H hR hgv hgs
    unfold kyV at HGT ⊢
    go_enter Try.func7, Try.ntmps7
    go_wp2_with fail
    refine (HRT.out _).mono ?_
    rintro e w1 ⟨rfl, hb1⟩
    generalize hwB : World.alloc w _ = wB at hb1
    have hB : Below w.heap.size w wB := by rw [← hwB]; go_grown
    have p0 : wB.cell? ⟨w.heap.size, 0, none⟩ = some (.int .u64 (p.h : Int)) := by rw [← hwB]; simp [go_sem]
    have p1 : wB.cell? ⟨w.heap.size, 1, none⟩ = some (.int .u64 (p.l : Int)) := by rw [← hwB]; simp [go_sem]
    have p2 : wB.cell? ⟨w.heap.size, 2, none⟩ = some (.int .i64 p.n) := by rw [← hwB]; simp [go_sem]
    have hzB : w.heap.size < wB.heap.size := by rw [← hwB]; simp
    clear hwB
    have p0 := (hb1.cell (p := ⟨w.heap.size, 0, none⟩) hzB).trans p0
    have p1 := (hb1.cell (p := ⟨w.heap.size, 1, none⟩) hzB).trans p1
    have p2 := (hb1.cell (p := ⟨w.heap.size, 2, none⟩) hzB).trans p2
    have hz1 := Nat.lt_of_lt_of_le hzB hb1.size
    have hw1 := hB.trans (hb1.mono hB.size)
    clear hB hb1 hzB
    go_wp2_with fail
    refine (HGT.out _ hw1).mono ?_
    rintro e w2 ⟨rfl, hb2⟩
    have p0 := (hb2.cell (p := ⟨w.heap.size, 0, none⟩) hz1).trans p0
    have p1 := (hb2.cell (p := ⟨w.heap.size, 1, none⟩) hz1).trans p1
    have p2 := (hb2.cell (p := ⟨w.heap.size, 2, none⟩) hz1).trans p2
    have hz2 := Nat.lt_of_lt_of_le hz1 hb2.size
    have hw2 := hw1.trans (hb2.mono hw1.size)
    clear hb2 hw1 hz1 HGT HRT
    have H2 := HH.out.below hw2
    obtain ⟨q, c0, hq⟩ := H2.at'
    have HQ := Lib.hid hq
    have hl2 := H2.lt
    clear hq
    go_wp2_with fail
    have kg := cell_grow
    refine wp_region_noPanic ?_
    generalize hNQ : NoPanic _ = NQ
    refine region_row [0,1,2,3,6] [4,5,7] [8] [9,10,11] (by kernel_rfl) (by rw [← hNQ]; exact fun _ _ _ h => h) (by kernel_rfl) (by kernel_rfl) ?_
    simp only [pickL, List.filterMap_cons, List.filterMap_nil, List.getElem?_toArray, List.getElem?_cons_succ, List.getElem?_cons_zero]
    repeat (any_goals (quiet_step (fail)))
    refine wpQuiet_nil ?_
    clear kg
    intro w3 hb3
    intro K1 hK1 o ho
    injection ho with ho
    subst ho
    go_simp
    refine (HWT.out K q w3 (fun g hg => H2.new g (Nat.le_trans hb3.size hg)) (HQ.out.below hb3)).mono ?_
    rintro e w4 ⟨q', rfl, hT, hb4⟩
    have hb24 := hb3.trans (hb4.mono hb3.size)
    have hw4 := hw2.trans (hb24.mono hw2.size)
    refine hK1 _ _ hb24 ?_
    clear hK1 K1
    have c0 := (hb24.cell (p := ⟨t, 0, none⟩) hl2).trans c0
    have f0 := (hb24.frozen (p := ⟨t, 0, none⟩) hl2).trans (H2.f 0)
    have hl4 := Nat.lt_of_lt_of_le hl2 hb24.size
    obtain ⟨HS, HTO⟩ := HH.out.store hw4 hT hok'
    clear p0 p1 p2 hb3 hb4 hb24 hw4 hT H2 HQ
    show wpList _ _ _ _ _ _
    simp only [pickL, List.filterMap_cons, List.filterMap_nil, List.getElem?_toArray, List.getElem?_cons_succ, List.getElem?_cons_zero]
    go_wp2_with fail
    rw [← hNQ]
    refine NoPanic.normal ?_
    clear hNQ
    generalize w4.setCell ⟨t, 0, none⟩ (.pointer q') = w5 at HS HTO ⊢
    have c1 := HS.c1
    have f1 := HS.f 1
    have hl5 := HS.lt
    clear c0 f0 hl4 hl2 hw2 hz2
    cases gs with
    | true =>
      go_wp2
      go_ret2
      rw [show nc = n from HNC.out.trans (if_neg (fun h => Bool.noConfusion h.2))]
      exact ⟨rfl, HS, HTO⟩
    | false =>
      obtain ⟨HS2, HTO2⟩ := HS.count (n + 1)
      go_wp2
      go_ret2
      rw [show nc = n + 1 from HNC.out.trans (if_pos ⟨hr, by trivial⟩)]
      exact ⟨rfl, HS2, HTO.trans HTO2⟩
  · have hr0 : rightB p.h p.l p.n = false := by simpa using hr
    have hnone : getV p T = none := by unfold getV covV; rw [if_neg hr]
    unfold putT getN14 putC14
    rw [if_neg hr, hnone, if_neg (fun h => hr h.1)]
    have hR := right_any p.h p.l p.n pg.1 pg.2
    rw [hr0] at hR
    have HRT := Lib.hid hR
    have HH := Lib.hid H
    clear hR hr hr0 hnone H
    unfold kyV
    go_enter Try.func7, Try.ntmps7
    go_wp2_with fail
    refine (HRT.out _).mono ?_
    rintro e w1 ⟨rfl, hb1⟩
    have hw1 : Below w.heap.size w w1 := Below.trans (by go_grown) (hb1.mono (by simp))
    clear hb1
    go_wp2
    go_ret2
    exact ⟨rfl, HH.out.below hw1, Touch.quiet hw1⟩
set_option maxRecDepth 100000 in
set_option maxHeartbeats 4000000 in
theorem tdel_any {K : Nat → Prop} {t : Nat} {T : Pt} {n : Int} {w : World} (H : Tri w K t T n) (p : Ky) (pg : p.good) (hn0 : -1000000 ≤ n) (hn1 : n ≤ 1000000) :
    Calls Try.prog 9 #[.pointer (some ⟨t, 0, none⟩), kyV p] w fun e w' => e = .returned (getN14 p T) ∧ Tri w' K t (delT14 p T) (delC14 p T n) ∧ Touch (fun k => k = t) w w' := by
  unfold delT14 delC14
  cases hg : (getV p T).isSome with
  | false =>
    rw [if_neg (fun h => Bool.noConfusion h), if_neg (fun h => Bool.noConfusion h)]
    have hl := H.lt
    have HGT := Lib.hid (fun (W : World) (hW : Below w.heap.size w W) => tget_any (H.below hW) p pg)
    obtain ⟨gv, hgv⟩ : ∃ x, x = ((getV p T).getD zr).v := ⟨_, rfl⟩
    have HH := Lib.hid H
    unfold getN14
    rw [hg] at HGT ⊢
    rw [← hgv] at HGT ⊢
    clear H hgv
    unfold kyV at HGT ⊢
    go_enter Try.func9, Try.ntmps9
    go_wp2_with fail
    refine (HGT.out _ (by go_grown)).mono ?_
    rintro e w1 ⟨rfl, hb1⟩
    generalize hwB : World.alloc w _ = wB at hb1
    have hB : Below w.heap.size w wB := by rw [← hwB]; go_grown
    have hw1 := hB.trans (hb1.mono hB.size)
    clear hwB hB hb1 HGT hg
    go_wp2
    go_ret2
    exact ⟨rfl, HH.out.below hw1, Touch.quiet hw1⟩
  | true =>
    rw [if_pos rfl, if_pos rfl]
    obtain ⟨r, hr⟩ := Option.isSome_iff_exists.1 hg
    obtain ⟨-, hm, hk⟩ := get_at H.ok pg hr
    have HWT := Lib.hid (twithout_any pg H.ok ⟨r, hm, hk⟩)
    have hok' := without_ok (p := p) H.ok
    clear hr hm hk
    have hl := H.lt
    have HGT := Lib.hid (fun (W : World) (hW : Below w.heap.size w W) => tget_any (H.below hW) p pg)
    obtain ⟨gv, hgv⟩ : ∃ x, x = ((getV p T).getD zr).v := ⟨_, rfl⟩
    have HH := Lib.hid H
    unfold getN14
    rw [hg] at HGT ⊢
    rw [← hgv] at HGT ⊢
    clear H hgv
    unfold kyV at HGT ⊢
    go_enter Try.func9, Try.ntmps9
    go_wp2_with fail
    refine (HGT.out _ (by go_grown)).mono ?_
    rintro e w1 ⟨rfl, hb1⟩
    generalize hwB : World.alloc w _ = wB at hb1
    have hB : Below w.heap.size w wB := by rw [← hwB]; go_grown
    have hw1 := hB.trans (hb1.mono hB.size)
    have p0 : wB.cell? ⟨w.heap.size, 0, none⟩ = some (.int .u64 (p.h : Int)) := by rw [← hwB]; simp [go_sem]
    have p1 : wB.cell? ⟨w.heap.size, 1, none⟩ = some (.int .u64 (p.l : Int)) := by rw [← hwB]; simp [go_sem]
    have p2 : wB.cell? ⟨w.heap.size, 2, none⟩ = some (.int .i64 p.n) := by rw [← hwB]; simp [go_sem]
    have hzB : w.heap.size < wB.heap.size := by rw [← hwB]; simp
    have p0 := (hb1.cell (p := ⟨w.heap.size, 0, none⟩) hzB).trans p0
    have p1 := (hb1.cell (p := ⟨w.heap.size, 1, none⟩) hzB).trans p1
    have p2 := (hb1.cell (p := ⟨w.heap.size, 2, none⟩) hzB).trans p2
    have hz1 := Nat.lt_of_lt_of_le hzB hb1.size
    clear hwB hB hb1 hzB HGT hg r
    have H2 := HH.out.below hw1
    obtain ⟨q, c0, hq⟩ := H2.at'
    have HQ := Lib.hid hq
    have hl2 := H2.lt
    clear hq
    go_wp2_with fail
    have kg := cell_grow
    refine wp_region_noPanic ?_
    generalize hNQ : NoPanic _ = NQ
    refine region_row [0,1,2,3] [4,5] [6] [7,8,9] (by kernel_rfl) (by rw [← hNQ]; exact fun _ _ _ h => h) (by kernel_rfl) (by kernel_rfl) ?_
    simp only [pickL, List.filterMap_cons, List.filterMap_nil, List.getElem?_toArray, List.getElem?_cons_succ, List.getElem?_cons_zero]
    repeat (any_goals (quiet_step (fail)))
    refine wpQuiet_nil ?_
    clear kg
    intro w3 hb3
    intro K1 hK1 o ho
    injection ho with ho
    subst ho
    go_simp
    refine (HWT.out K q w3 (fun g hg => H2.new g (Nat.le_trans hb3.size hg)) (HQ.out.below hb3)).mono ?_
    rintro e w4 ⟨q', rfl, hT, hb4⟩
    have hb24 := hb3.trans (hb4.mono hb3.size)
    have hw4 := hw1.trans (hb24.mono hw1.size)
    refine hK1 _ _ hb24 ?_
    clear hK1 K1
    have c0 := (hb24.cell (p := ⟨t, 0, none⟩) hl2).trans c0
    have f0 := (hb24.frozen (p := ⟨t, 0, none⟩) hl2).trans (H2.f 0)
    have hl4 := Nat.lt_of_lt_of_le hl2 hb24.size
    obtain ⟨HS, HTO⟩ := HH.out.store hw4 hT hok'
    clear p0 p1 p2 hb3 hb4 hb24 hw4 hT H2 HQ
    show wpList _ _ _ _ _ _
    simp only [pickL, List.filterMap_cons, List.filterMap_nil, List.getElem?_toArray, List.getElem?_cons_succ, List.getElem?_cons_zero]
    go_wp2_with fail
    rw [← hNQ]
    refine NoPanic.normal ?_
    clear hNQ
    generalize w4.setCell ⟨t, 0, none⟩ (.pointer q') = w5 at HS HTO ⊢
    have c1 := HS.c1
    have f1 := HS.f 1
    have hl5 := HS.lt
    clear c0 f0 hl4 hl2 hw1 hz1
    obtain ⟨HS2, HTO2⟩ := HS.count (n - 1)
    go_wp2
    go_ret2
    exact ⟨rfl, HS2, HTO.trans HTO2⟩
end Go.Proofs.Ytokjhoiacidofaa
