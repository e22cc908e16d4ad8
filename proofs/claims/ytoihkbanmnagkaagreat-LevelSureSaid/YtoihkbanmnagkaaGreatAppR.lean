/-
  append of one row of routes to another one, each of the call's own or a table's. No condition but that both together are short of 2^40.
-/
import Derived.Test.YtoihkbanmnagkaaGreatRFil2c
import Derived.Test.YtoihkbanmnagkaaGreatRT2
import Derived.Test.YtoihkbanmnagkaaGreatW1c
import Derived.Test.YtoihkbanmnagkaaGreatM14c
import Derived.Test.YtoihkbanmnagkaaGreatRBkt
import Derived.Test.YtoihkbanmnagkaaGreatMade
import Derived.Laws.AppendOwnNone
import Derived.Maps.AppendAt
/-
  The reference's level in memory, and what its Look hands back. No condition but that the level lies in memory, and that words are words.
-/
set_option linter.unusedSimpArgs false
set_option linter.unusedVariables false
namespace Go.Proofs.YtoihkbanmnagkaaGreat
open Go Go.RowKit Go.Sort M

/-- The reference's level: its struct at block t, its filter, its table, all in blocks that K allows, apart from each other. -/
structure RLevB (w : World) (K : Nat → Prop) (t : Nat) (V : Lv) (lo hi f g u b : Nat) (v : Value) : Prop where
  lt : t < w.heap.size
  c0 : w.cell? ⟨t, 0, none⟩ = some (.int .i64 V.n)
  c1 : w.cell? ⟨t, 1, none⟩ = some (.pointer (some ⟨f, 0, none⟩))
  c2 : w.cell? ⟨t, 2, none⟩ = some (.pointer (some ⟨u, 0, none⟩))
  fil : RFil w lo hi f g V.s V.k V.C
  tab : Tb RBk w u b v V.T
  kt : K t
  kf : ∀ j, In lo hi j → K j
  kb : ∀ j, Blk u b v j → K j
  tf : ¬ In lo hi t
  tb : ¬ Blk u b v t
  fb : ∀ j, Blk u b v j → ¬ In lo hi j
def RLev (w : World) (K : Nat → Prop) (t : Nat) (V : Lv) : Prop := ∃ lo hi f g u b v, RLevB w K t V lo hi f g u b v
theorem RLev.touched {w w' : World} {K S : Nat → Prop} {t : Nat} {V : Lv} (H : RLev w K t V) (ht : Touch S w w') (hn : ∀ j, K j → ¬ S j) : RLev w' K t V := by
  obtain ⟨lo, hi, f, g, u, b, v, H⟩ := H
  exact ⟨lo, hi, f, g, u, b, v, Nat.lt_of_lt_of_le H.lt ht.size, ht.cell H.c0 (hn _ H.kt), ht.cell H.c1 (hn _ H.kt), ht.cell H.c2 (hn _ H.kt), H.fil.touched ht (fun j h1 h2 => hn _ (H.kf j ⟨h1, h2⟩)), H.tab.touched bk_rbk ht (fun j hj => hn _ (H.kb j hj)), H.kt, H.kf, H.kb, H.tf, H.tb, H.fb⟩
theorem RLev.below {w w' : World} {K : Nat → Prop} {t : Nat} {V : Lv} (H : RLev w K t V) (hb : Below w.heap.size w w') : RLev w' K t V := H.touched (S := fun _ => False) (Touch.quiet hb) (fun _ _ x => x)
/-- What Look hands back. -/
def lookA (V : Lv) (ah al : Nat) : Value := .tuple #[.int .i64 ((V.hit ah al).getD 0), .bool (V.hit ah al).isSome, .bool (V.may ah al)]
/-- What each operation of the statement that lays the key hands back. -/
def lkD (kh kl : Nat) (n : Int) (S : Nat) (i : Nat) (v : Value) (W : World) : Prop :=
  match i with
  | 5 => v = .agg #[.int .u64 (kh : Int), .int .u64 (kl : Int)]
  | 10 => v = .agg #[.int .u64 (kh : Int), .int .u64 (kl : Int), .int .i64 n]
  | 11 => ∃ b, v = .pointer (some ⟨b, 0, none⟩) ∧ S ≤ b ∧ b < W.heap.size ∧ W.cell? ⟨b, 0, none⟩ = some (.int .u64 0) ∧ W.cell? ⟨b, 1, none⟩ = some (.int .u64 0) ∧ W.cell? ⟨b, 2, none⟩ = some (.int .i64 0) ∧ ∀ j, W.frozen? ⟨b, j, none⟩ = false
  | _ => True
theorem lkD_stable (kh kl : Nat) (n : Int) (S : Nat) : ∀ i v W W', Below W.heap.size W W' → lkD kh kl n S i v W → lkD kh kl n S i v W' := by
  intro i v W W' hb h
  unfold lkD at h ⊢
  split at h
  · exact h
  · exact h
  · obtain ⟨b, e, h1, h2, h3, h4, h5, h6⟩ := h
    exact ⟨b, e, h1, Nat.lt_of_lt_of_le h2 hb.size, (hb.cell (p := ⟨b, 0, none⟩) h2).trans h3, (hb.cell (p := ⟨b, 1, none⟩) h2).trans h4, (hb.cell (p := ⟨b, 2, none⟩) h2).trans h5, fun j => (hb.frozen (p := ⟨b, j, none⟩) h2).trans (h6 j)⟩
  · trivial
/-- What each operation of the statement that asks the table hands back. -/
def lgD (hv : Int) (hs : Bool) (n : Nat) (i : Nat) (v : Value) (_ : World) : Prop :=
  match i with
  | 5 => ∃ p c, v = .tuple #[.int .i64 hv, .bool hs, .slice p n c]
  | 6 => ∃ p c, v = .tuple #[.int .i64 hv, .bool hs, .slice p n c]
  | 7 => v = .int .i64 hv
  | 8 => v = .bool hs
  | 10 => v = .int .i64 hv
  | 11 => v = .bool hs
  | _ => True
set_option maxRecDepth 100000 in
set_option maxHeartbeats 4000000 in
theorem rlook21_any (w : World) (K : Nat → Prop) (t : Nat) (V : Lv) (N : List Rt) (ah al : Nat) (H : RLev w K t V) (HV : LvOk V N) (hn : 0 ≤ V.n) (ha : W64 ah) (hb : W64 al) (hf : V.T.st.length < 1048576) :
    Calls Tryz.prog 12 #[.pointer (some ⟨t, 0, none⟩), .agg #[.int .u64 (ah : Int), .int .u64 (al : Int)]] w fun e w' => e = .returned (lookA V ah al) ∧ Below w.heap.size w w' := by
  obtain ⟨lo, hi, f, g, u, b, v, H⟩ := H
  have hlt := H.lt
  have c0 := H.c0
  have c1 := H.c1
  have c2 := H.c2
  have H1c := c1
  have H2c := c2
  have hcut := rcut_any ah al V.n ha hb
  obtain ⟨kk, hkk⟩ : ∃ kk, kk = V.key ah al := ⟨_, rfl⟩
  have hkn : kk.n = V.n := by rw [hkk]; show ((V.n.toNat : Nat) : Int) = V.n; omega
  have hkg : kk.good := by rw [hkk]; exact ⟨ha.cut _, hb.cut _⟩
  have hkh : cutW ah V.n.toNat = kk.h := by rw [hkk]; rfl
  have hkl : cutW al (V.n.toNat - 64) = kk.l := by rw [hkk]; rfl
  rw [hkh, hkl] at hcut
  obtain ⟨kh, kl, kn⟩ := kk
  simp only at hkn hcut
  rw [← hkn] at c0 hcut
  have HF := Lib.hid H.fil
  have HT := Lib.hid H.tab
  have HCUT := Lib.hid hcut
  have hmay := fun W (h : RFil W lo hi f g V.s V.k V.C) => rmay_any lo hi f g V.s V.k V.C kh kl kn W h hkg.1 hkg.2
  have hget := fun W (h : Tb RBk W u b v V.T) => rget12_any u b v V.T ⟨kh, kl, kn⟩ W h HV.kept.inv.num hkg hf
  have hmv : mayL V.C (Go.Proofs.YtoihkbanmnagkaaGreat.plc V.s kh kl kn V.k V.C.length) = V.may ah al := by unfold Lv.may; rw [← hkk]; rfl
  have hgv : getT V.T ⟨kh, kl, kn⟩ = getT V.T (V.key ah al) := by rw [← hkk]
  rw [hgv] at hget
  unfold kyV at hget
  simp only at hget
  rw [hmv] at hmay
  unfold lookA
  have hhit : (V.may ah al = true → V.hit ah al = getT V.T (V.key ah al)) ∧ (V.may ah al = false → V.hit ah al = none) := ⟨fun h => by unfold Lv.hit; rw [h]; rfl, fun h => by unfold Lv.hit; rw [h]; rfl⟩
  obtain ⟨mb, hmb⟩ : ∃ mb, mb = V.may ah al := ⟨_, rfl⟩
  obtain ⟨hv, hhv⟩ : ∃ hv, hv = V.hit ah al := ⟨_, rfl⟩
  rw [← hmb] at hmay hhit ⊢
  rw [← hhv] at hhit ⊢
  have HHIT := Lib.hid hhit
  have HMAY := Lib.hid hmay
  have HGET := Lib.hid hget
  clear hhit hmb hhv H hcut hmay hget hkk hkn hkg hkh hkl HV hmv hgv ha hb hf
  go_enter Tryz.func12, Tryz.ntmps12
  go_wp2_with fail
  have kg := cell_grow
  refine wp_region_noPanic ?_
  generalize hNQ : NoPanic _ = NQ
  refine region_eff [1, 2, 3, 6, 7, 8] [0, 4, 9] [(5, 16, []), (10, 21, [(5, 16)]), (11, 7, [])] [12] (lkD kh kl kn (w.heap.size + 1)) (lkD_stable _ _ _ _) (by kernel_rfl) (by rw [← hNQ]; exact fun _ _ _ h => h) (by kernel_rfl) (by kernel_rfl) (by kernel_rfl) ?_
  simp only [pickL, List.filterMap_cons, List.filterMap_nil, List.getElem?_toArray, List.getElem?_cons_succ, List.getElem?_cons_zero]
  repeat (any_goals (quiet_step (fail)))
  refine wpQuiet_nil ?_
  clear kg
  refine ⟨by rfl, ⟨?_, ?_, ?_, trivial⟩, ?_⟩
  · intro W hW K hK o ho
    injection ho with ho
    subst ho
    go_simp
    go_at_call 21
    refine (HCUT.out _).mono ?_
    rintro e w3 ⟨rfl, hb3⟩
    exact hK _ _ hb3 rfl
  · intro W hW v5 h5 K
    obtain rfl : v5 = _ := h5
    go_simp
    intro hK o ho
    injection ho with ho
    subst ho
    go_simp
    exact hK _ _ (Below.refl _ _) rfl
  · intro W hW K
    go_simp
    intro hK o ho
    injection ho with ho
    subst ho
    go_simp
    have hsz := hW.size
    simp only [World.size_alloc] at hsz
    exact hK _ _ (by go_grown) ⟨W.heap.size, rfl, hsz, by simp, by simp [go_sem], by simp [go_sem], by simp [go_sem], fun j => by simp [go_sem]⟩
  · intro W hW v5 h5 v10 h10 v11 h11
    obtain rfl : v5 = _ := h5
    obtain rfl : v10 = _ := h10
    obtain ⟨bk, rfl, hbk, hbl, z0, z1, z2, zf⟩ := h11
    have hw1 : Below w.heap.size w W := Below.trans (by go_grown) (hW.mono (by simp))
    show wpList _ _ _ _ _ _
    simp only [pickL, List.filterMap_cons, List.filterMap_nil, List.getElem?_toArray, List.getElem?_cons_succ, List.getElem?_cons_zero]
    subst hNQ
    clear hW
    have c0 := (hw1.cell (p := ⟨t, 0, none⟩) hlt).trans c0
    have c1 := (hw1.cell (p := ⟨t, 1, none⟩) hlt).trans c1
    have c2 := (hw1.cell (p := ⟨t, 2, none⟩) hlt).trans c2
    have hbw : w.heap.size ≤ bk := by omega
    have htb : t ≠ bk := by omega
    have hw2 : Below w.heap.size w (((W.setCell ⟨bk, 0, none⟩ (.int .u64 (kh : Int))).setCell ⟨bk, 1, none⟩ (.int .u64 (kl : Int))).setCell ⟨bk, 2, none⟩ (.int .i64 kn)) := ((hw1.setCell hbw _).setCell hbw _).setCell hbw _
    have e0 : (((W.setCell ⟨bk, 0, none⟩ (.int .u64 (kh : Int))).setCell ⟨bk, 1, none⟩ (.int .u64 (kl : Int))).setCell ⟨bk, 2, none⟩ (.int .i64 kn)).cell? ⟨bk, 0, none⟩ = some (.int .u64 (kh : Int)) := by simp [go_sem, z0, z1, z2]
    have e1 : (((W.setCell ⟨bk, 0, none⟩ (.int .u64 (kh : Int))).setCell ⟨bk, 1, none⟩ (.int .u64 (kl : Int))).setCell ⟨bk, 2, none⟩ (.int .i64 kn)).cell? ⟨bk, 1, none⟩ = some (.int .u64 (kl : Int)) := by simp [go_sem, z0, z1, z2]
    have e2 : (((W.setCell ⟨bk, 0, none⟩ (.int .u64 (kh : Int))).setCell ⟨bk, 1, none⟩ (.int .u64 (kl : Int))).setCell ⟨bk, 2, none⟩ (.int .i64 kn)).cell? ⟨bk, 2, none⟩ = some (.int .i64 kn) := by simp [go_sem, z0, z1, z2]
    have d1 := (hw2.cell (p := ⟨t, 1, none⟩) hlt).trans H1c
    have d2 := (hw2.cell (p := ⟨t, 2, none⟩) hlt).trans H2c
    have hs2 : bk < (((W.setCell ⟨bk, 0, none⟩ (.int .u64 (kh : Int))).setCell ⟨bk, 1, none⟩ (.int .u64 (kl : Int))).setCell ⟨bk, 2, none⟩ (.int .i64 kn)).heap.size := by simpa using hbl
    go_wp2_with fail
    refine NoPanic.normal ?_
    go_wp2_with fail
    generalize ((W.setCell ⟨bk, 0, none⟩ (.int .u64 (kh : Int))).setCell ⟨bk, 1, none⟩ (.int .u64 (kl : Int))).setCell ⟨bk, 2, none⟩ (.int .i64 kn) = W2 at *
    clear c0 c1 c2 z0 z1 z2 zf hw1
    have ht2 : t < W2.heap.size := Nat.lt_of_lt_of_le hlt hw2.size
    have kg := cell_grow
    refine region_whole (by kernel_rfl) (by kernel_rfl) ?_
    repeat (any_goals (first | go_big_quiet_step ((exact Calls.regrown_of (HMAY.out _ (HF.out.below (hw2.trans ((below_regrown _ _ _).mono hw2.size)))))) | quiet_step ((exact Calls.regrown_of (HMAY.out _ (HF.out.below (hw2.trans ((below_regrown _ _ _).mono hw2.size))))))))
    refine wpQuiet_nil ?_
    clear kg
    intro w2 hb2
    obtain ⟨hc2, hf2⟩ := bcell hb2
    have d2 := (hc2 _ _ ht2).trans d2
    have e0 := (hc2 _ _ hs2).trans e0
    have e1 := (hc2 _ _ hs2).trans e1
    have e2 := (hc2 _ _ hs2).trans e2
    have hw3 := hw2.trans (hb2.mono hw2.size)
    have ht3 := Nat.lt_of_lt_of_le ht2 hb2.size
    have hs3 := Nat.lt_of_lt_of_le hs2 hb2.size
    clear hc2 hf2 hb2 d1
    have hh := HHIT.out
    cases mb with
    | false =>
      have hn := hh.2 rfl
      subst hn
      clear hh
      go_wp2
      go_ret3
      exact ⟨rfl, hw3⟩
    | true =>
      have hn := hh.1 rfl
      subst hn
      clear hh
      go_wp2_with fail
      have kg := cell_grow
      refine wp_region_noPanic ?_
      generalize hNQ : NoPanic _ = NQ
      refine region_eff9 [0, 1, 2] [3, 4] [(5, 35, []), (6, 29, [(5, 35)]), (7, 36, [(6, 29)]), (8, 37, [(6, 29)]), (9, 38, [(6, 29)]), (10, 8, [(7, 36)]), (11, 9, [(8, 37)]), (12, 10, [(9, 38)])] [] (lgD ((getT V.T (V.key ah al)).getD 0) (getT V.T (V.key ah al)).isSome (readT V.T ⟨kh, kl, kn⟩).length) (fun i v W W' _ h => h) (by kernel_rfl) (by rw [← hNQ]; exact fun _ _ _ h => h) (by kernel_rfl) (by kernel_rfl) (by kernel_rfl) ?_
      simp only [pickL, List.filterMap_cons, List.filterMap_nil, List.getElem?_toArray, List.getElem?_cons_succ, List.getElem?_cons_zero]
      repeat (any_goals (quiet_step (fail)))
      refine wpQuiet_nil ?_
      clear kg
      refine ⟨by rfl, ⟨?_, ?_, ?_, ?_, ?_, ?_, ?_, ?_, trivial⟩, ?_⟩
      · intro W4 hW4 K hK o ho
        injection ho with ho
        subst ho
        go_simp
        go_at_call 30
        refine (HGET.out _ (HT.out.below bk_rbk (hw3.trans (hW4.mono hw3.size)))).mono ?_
        rintro e w5 ⟨p5, c5, rfl, -, hb5⟩
        exact hK _ _ hb5 ⟨p5, c5, rfl⟩
      · intro W4 hW4 v5 h5 K
        obtain ⟨p6, c6, rfl⟩ := h5
        go_simp
        intro hK o ho
        injection ho with ho
        subst ho
        go_simp
        exact hK _ _ (Below.refl _ _) ⟨p6, c6, rfl⟩
      · intro W4 hW4 v6 h6 K
        obtain ⟨p6, c6, rfl⟩ := h6
        go_simp
        intro hK o ho
        injection ho with ho
        subst ho
        go_simp
        exact hK _ _ (Below.refl _ _) rfl
      · intro W4 hW4 v6 h6 K
        obtain ⟨p6, c6, rfl⟩ := h6
        go_simp
        intro hK o ho
        injection ho with ho
        subst ho
        go_simp
        exact hK _ _ (Below.refl _ _) rfl
      · intro W4 hW4 v6 h6 K
        obtain ⟨p6, c6, rfl⟩ := h6
        go_simp
        intro hK o ho
        injection ho with ho
        subst ho
        go_simp
        exact hK _ _ (Below.refl _ _) trivial
      · intro W4 hW4 v7 h7 K
        obtain rfl : v7 = _ := h7
        go_simp
        intro hK o ho
        injection ho with ho
        subst ho
        go_simp
        exact hK _ _ (Below.refl _ _) rfl
      · intro W4 hW4 v8 h8 K
        obtain rfl : v8 = _ := h8
        go_simp
        intro hK o ho
        injection ho with ho
        subst ho
        go_simp
        exact hK _ _ (Below.refl _ _) rfl
      · intro W4 hW4 v9 h9 K
        clear h9
        go_simp
        intro hK o ho
        injection ho with ho
        subst ho
        go_simp
        exact hK _ _ (Below.refl _ _) trivial
      · intro W4 hW4 v5 h5 v6 h6 v7 h7 v8 h8 v9 h9 v10 h10 v11 h11 v12 h12
        obtain ⟨p5, c5, rfl⟩ := h5
        obtain ⟨p6, c6, rfl⟩ := h6
        obtain rfl : v7 = _ := h7
        obtain rfl : v8 = _ := h8
        obtain rfl : v10 = _ := h10
        obtain rfl : v11 = _ := h11
        have hw5 := hw3.trans (hW4.mono hw3.size)
        show wpList _ _ _ _ _ _
        simp only [pickL, List.filterMap_nil]
        subst hNQ
        clear hW4 h9 h12
        go_wp2_with fail
        refine NoPanic.normal ?_
        go_wp2
        go_ret3
        exact ⟨rfl, hw5⟩
end Go.Proofs.YtoihkbanmnagkaaGreat
/-
  Rows of changes in memory: five cells to each; whatever the type's number. No condition but those that stand in each.
-/
set_option linter.unusedSimpArgs false
set_option linter.unusedVariables false
namespace Go.Proofs.YtoihkbanmnagkaaGreat
open Go Go.RowKit Go.Sort M

def ccell (c : Ch) : List Value := [.int .u64 (c.k.h : Int), .int .u64 (c.k.l : Int), .int .i64 c.k.n, .int .i64 c.o, .int .i64 c.n]
def ccs (L : List Ch) : List Value := L.flatMap ccell
theorem ccs_len (L : List Ch) : (ccs L).length = L.length * 5 := by
  unfold ccs
  induction L with
  | nil => rfl
  | cons x L ih => simp only [List.flatMap_cons, List.length_append, ih, ccell, List.length_cons, List.length_nil]; omega
theorem ccs_append (L M : List Ch) : ccs (L ++ M) = ccs L ++ ccs M := by simp [ccs]
theorem ccs_cons (x : Ch) (L : List Ch) : ccs (x :: L) = ccell x ++ ccs L := rfl
theorem ccs_one (p : Ch) : ccs [p] = ccell p := by simp [ccs]
theorem ccs_cell : ∀ (L : List Ch) (k j : Nat) (h : k < L.length), j < 5 → (ccs L)[k * 5 + j]? = (ccell L[k])[j]?
  | x :: L, 0, j, _, hj => by
    rw [ccs_cons, List.getElem?_append_left (by simp [ccell]; omega)]
    simp
  | x :: L, k + 1, j, h, hj => by
    rw [ccs_cons, List.getElem?_append_right (by simp [ccell]; omega), show (k + 1) * 5 + j - (ccell x).length = k * 5 + j by simp [ccell]; omega]
    rw [ccs_cell L k j (by simpa using h) hj]
    simp
theorem ccs_one' (L : List Ch) : ∀ u ∈ ccs L, u.oneCell' = true := by
  intro u hu
  unfold ccs at hu
  rw [List.mem_flatMap] at hu
  obtain ⟨p, -, hp⟩ := hu
  simp only [ccell, List.mem_cons, List.not_mem_nil, or_false] at hp
  rcases hp with rfl | rfl | rfl | rfl | rfl <;> rfl
/-- Change k of a row. -/
theorem Row.ch {w : World} {p : Option Addr} {L : List Ch} (h : Row w p (ccs L)) {k : Nat} (hk : k < L.length) : ∃ g o, p = some ⟨g, o, none⟩ ∧ g < w.heap.size ∧
    w.cell? ⟨g, o + k * 5, none⟩ = some (.int .u64 (L[k].k.h : Int)) ∧ w.cell? ⟨g, o + k * 5 + 1, none⟩ = some (.int .u64 (L[k].k.l : Int)) ∧ w.cell? ⟨g, o + k * 5 + 2, none⟩ = some (.int .i64 L[k].k.n) ∧
    w.cell? ⟨g, o + k * 5 + 3, none⟩ = some (.int .i64 L[k].o) ∧ w.cell? ⟨g, o + k * 5 + 4, none⟩ = some (.int .i64 L[k].n) := by
  rcases h with h | ⟨g, o, e, hg, hc⟩
  · have := ccs_len L
    rw [h] at this
    simp at this; omega
  · exact ⟨g, o, e, hg, hc (k * 5) _ (ccs_cell L k 0 hk (by omega)), hc (k * 5 + 1) _ (ccs_cell L k 1 hk (by omega)), hc (k * 5 + 2) _ (ccs_cell L k 2 hk (by omega)), hc (k * 5 + 3) _ (ccs_cell L k 3 hk (by omega)), hc (k * 5 + 4) _ (ccs_cell L k 4 hk (by omega))⟩
/-- A new row of changes, of type t. -/
def NewChs (t : TypeId) (w w' : World) (e : Ending) (L : List Ch) : Prop := ∃ p c, e = .returned (.slice p L.length c) ∧ w'.ownsRow w.heap.size t 5 (.slice p L.length c) L.length (ccs L) ∧ Below w.heap.size w w'
/-- Five new cells, at the head of their block. -/
theorem five_new {w : World} {g : Nat} {c : Ch} (h0 : w.cell? ⟨g, 0, none⟩ = some (.int .u64 (c.k.h : Int))) (h1 : w.cell? ⟨g, 1, none⟩ = some (.int .u64 (c.k.l : Int))) (h2 : w.cell? ⟨g, 2, none⟩ = some (.int .i64 c.k.n)) (h3 : w.cell? ⟨g, 3, none⟩ = some (.int .i64 c.o)) (h4 : w.cell? ⟨g, 4, none⟩ = some (.int .i64 c.n)) :
    ∀ j u, (ccell c)[j]? = some u → w.cell? ((⟨g, 0, none⟩ : Addr).add j) = some u := by
  intro j u hj
  rw [show (⟨g, 0, none⟩ : Addr).add j = ⟨g, j, none⟩ by unfold Addr.add; split <;> simp_all]
  match j, hj with
  | 0, hj => simp [ccell] at hj; subst hj; exact h0
  | 1, hj => simp [ccell] at hj; subst hj; exact h1
  | 2, hj => simp [ccell] at hj; subst hj; exact h2
  | 3, hj => simp [ccell] at hj; subst hj; exact h3
  | 4, hj => simp [ccell] at hj; subst hj; exact h4
theorem own_csnoc {w : World} {B n : Nat} {e : TypeId} {v : Value} {L : List Ch} {x : Ch} (h : w.ownsRow B e 5 v (n + 1) (ccs L ++ ccell x)) (hn : n = L.length) : w.ownsRow B e 5 v (L ++ [x]).length (ccs (L ++ [x])) := by
  rw [ccs_append, ccs_one, List.length_append, ← hn]
  exact h
/-- What a row has of a key, by where it stands. -/
theorem getS_find {N : List Rt} {k : Ky} {i : Nat} (h : findS N k = some i) : ∃ hi : i < N.length, getS N k = some N[i].v := by
  unfold findS at h
  obtain ⟨hi, h1, h2⟩ := List.findIdx?_eq_some_iff_getElem.1 h
  refine ⟨hi, ?_⟩
  unfold getS
  have : N.find? (fun r => decide (r.k = k)) = some N[i] := List.find?_eq_some_iff_getElem.2 ⟨h1, i, hi, rfl, fun j hj => by simpa using h2 j hj⟩
  rw [this]
  rfl
theorem getS_nofind {N : List Rt} {k : Ky} (h : findS N k = none) : getS N k = none := by
  rw [getS_none]
  intro hk
  have := find_is18.2 hk
  rw [h] at this
  cases this
end Go.Proofs.YtoihkbanmnagkaaGreat
/-
  What chapter 21's laws ask of the program's level, as a Prop over whatever the program is; the document's example. No condition but those that stand in each.
-/
set_option linter.unusedSimpArgs false
set_option linter.unusedVariables false
namespace Go.Proofs.YtoihkbanmnagkaaGreat
open Go Go.RowKit Go.Sort M

/-- What the program's level does: P w K t V: at block t lies the level V, whose blocks K allows. -/
structure LevC (P : World → (Nat → Prop) → Nat → Lv → Prop) : Prop where
  bad : ∀ (n k m b : Int) (s : Nat) (w : World), W64 s → badV n k m b →
    Calls Tryz.prog 6 #[.int .i64 n, .int .u64 (s : Int), .int .i64 k, .int .i64 m, .int .i64 b] w fun e w' => e = .returned (.tuple #[.pointer none, .int .i64 1]) ∧ Below w.heap.size w w'
  new : ∀ (n k : Int) (s m b : Nat) (w : World), W64 s → ¬ badV n k m b →
    Calls Tryz.prog 6 #[.int .i64 n, .int .u64 (s : Int), .int .i64 k, .int .i64 (m : Int), .int .i64 (b : Int)] w fun e w' =>
      ∃ t, e = .returned (.tuple #[.pointer (some ⟨t, 0, none⟩), .int .i64 0]) ∧ P w' (In w.heap.size w'.heap.size) t (newV n s k m b) ∧ Below w.heap.size w w'
  turn : ∀ (w : World) (K : Nat → Prop) (t : Nat) (V : Lv) (N : List Rt) (p : Option Addr) (c : Nat) (L : List Ch), P w K t V → LvOk V N → (∀ x ∈ L, x.k.good) → N.length + L.length ≤ 100000 → L.length ≤ c → Row w p (ccs L) → (∀ a, p = some a → ¬ K a.block) →
    Calls Tryz.prog 9 #[.pointer (some ⟨t, 0, none⟩), .slice p L.length c] w fun e w' => e = .returned (.tuple #[]) ∧ ∃ K', P w' K' t (V.turns L) ∧ Touch K w w' ∧ ∀ g, K' g → K g ∨ In w.heap.size w'.heap.size g
  look : ∀ (w : World) (K : Nat → Prop) (t : Nat) (V : Lv) (N : List Rt) (ah al : Nat), P w K t V → LvOk V N → N.length ≤ 100000 → 0 ≤ V.n → W64 ah → W64 al →
    Calls Tryz.prog 11 #[.pointer (some ⟨t, 0, none⟩), .agg #[.int .u64 (ah : Int), .int .u64 (al : Int)]] w fun e w' => e = .returned (lookA V ah al) ∧ Below w.heap.size w w'
  keys : ∀ (w : World) (K : Nat → Prop) (t : Nat) (V : Lv) (N : List Rt), P w K t V → LvOk V N → N.length ≤ 100000 →
    Calls Tryz.prog 14 #[.pointer (some ⟨t, 0, none⟩)] w fun e w' => ∃ p c, e = .returned (.slice p N.length c) ∧ Row w' p (rcs N) ∧ Below w.heap.size w w'
  bits : ∀ (w : World) (K : Nat → Prop) (t : Nat) (V : Lv), P w K t V →
    Calls Tryz.prog 16 #[.pointer (some ⟨t, 0, none⟩)] w fun e w' => e = .returned (.int .i64 V.n) ∧ Below w.heap.size w w'
  touched : ∀ (w w' : World) (K S : Nat → Prop) (t : Nat) (V : Lv), P w K t V → Touch S w w' → (∀ g, K g → ¬ S g) → P w' K t V
section
variable {P : World → (Nat → Prop) → Nat → Lv → Prop}
theorem LevC.below (D : LevC P) {w w' : World} {K : Nat → Prop} {t : Nat} {V : Lv} (h : P w K t V) (hb : Below w.heap.size w w') : P w' K t V :=
  D.touched w w' K (fun _ => False) t V h (Touch.quiet hb) (fun _ _ x => x)
/-- One change. -/
theorem LevC.turn1 (D : LevC P) {w : World} {K : Nat → Prop} {t : Nat} {V : Lv} {N : List Rt} {p : Option Addr} {c : Nat} (x : Ch) (h : P w K t V) (hV : LvOk V N) (hx : x.k.good) (hl : N.length ≤ 90000) (hc : 1 ≤ c) (hR : Row w p (ccs [x])) (hp : ∀ a, p = some a → ¬ K a.block) :
    Calls Tryz.prog 9 #[.pointer (some ⟨t, 0, none⟩), .slice p 1 c] w fun e w' => e = .returned (.tuple #[]) ∧ ∃ K', P w' K' t (V.turn x) ∧ Touch K w w' ∧ ∀ g, K' g → K g ∨ In w.heap.size w'.heap.size g :=
  D.turn w K t V N p c [x] h hV (fun y hy => by rw [List.mem_singleton.1 hy]; exact hx) (by simp; omega) hc hR hp
end
/-- A new block of a change. -/
theorem row_change {w : World} (x : Ch) (t : TypeId) : Row (w.alloc (.cells #[.int .u64 (x.k.h : Int), .int .u64 (x.k.l : Int), .int .i64 x.k.n, .int .i64 x.o, .int .i64 x.n] t)) (some ⟨w.heap.size, 0, none⟩) (ccs [x]) := by
  refine .inr ⟨w.heap.size, 0, rfl, by simp, fun j u hu => ?_⟩
  rw [ccs_one] at hu
  match j, hu with
  | 0, hu => simp [ccell] at hu; subst hu; simp [go_sem]
  | 1, hu => simp [ccell] at hu; subst hu; simp [go_sem]
  | 2, hu => simp [ccell] at hu; subst hu; simp [go_sem]
  | 3, hu => simp [ccell] at hu; subst hu; simp [go_sem]
  | 4, hu => simp [ccell] at hu; subst hu; simp [go_sem]
end Go.Proofs.YtoihkbanmnagkaaGreat
/-
  append of one row of routes to another one, each of the call's own or a table's. No condition but that both together are short of 2^40.
-/
set_option linter.unusedSimpArgs false
set_option linter.unusedVariables false
namespace Go.Proofs.YtoihkbanmnagkaaGreat
open Go Go.RowKit Go.Sort M

theorem wpList_append_rts {ops : Array Oper} {rest : List Oper} {o : Oper} {a : Act} {w : World} {Q : Exit → Act → World → Prop} (hgd : o.guard = none) (s x : Operand)
    (ho : o.op = .call { callee := .builtin .append, args := #[s, x], argTypes := #[47, 47] }) (B B2 : Nat) (v u : Value) (L M N : List Rt) (hN : N = L ++ M) (hs : a.eval s = v) (hx : a.eval x = u)
    (hown : w.ownsRow B 58 4 v L.length (rcs L)) (hsrc : w.ownsRow B2 58 4 u M.length (rcs M)) (hlen : L.length + M.length ≤ 1099511627776) (hB : B ≤ w.heap.size)
    (h : ∀ v' w', w'.ownsRow B 58 4 v' N.length (rcs N) → w.grownBy w' v.ownBlock → (v'.ownBlock = v.ownBlock ∨ v'.ownBlock = some w.heap.size) → wpList Tryz.prog ops Q rest (a.put o.dst v') w') : wpList Tryz.prog ops Q (o :: rest) a w := by
  subst hN
  obtain ⟨i0, hi0, iz0, iz1, iz2⟩ := info_parts infoR
  rcases hsrc.2 with ⟨hu, h0⟩ | ⟨g, cap, cur, hu, -, -, -, -, -, -⟩
  · subst hu
    refine wpList_append_own_none hgd s x 47 ho B 58 i0 4 Tryz.underlying47 hi0 v _ _ hs hown hx ?_
    have hM := List.length_eq_zero_iff.1 h0
    subst hM
    refine h v w ?_ ⟨rfl, rfl, rfl, Nat.le_refl _, fun _ _ _ => rfl⟩ (.inl rfl)
    rwa [List.append_nil]
  · have hc := fun hg => hsrc.cells (g := g) hg
    subst hu
    refine wpList_append_own_at w hgd s x 47 ho B 58 i0 _ 4 32 Tryz.underlying47 hi0 iz0 iz1 iz2 rfl (by decide) v _ _ hs hown ⟨g, 0, none⟩ M.length cap (rcs M) hx (rcs_len M) (hc rfl) (rcs_one' M) (by unfold maxLen; omega) (by omega) hB ?_
    intro v' w' h1 h2 _ h4
    refine h v' w' ?_ h2 h4
    rw [rcs_append, List.length_append]
    exact h1
end Go.Proofs.YtoihkbanmnagkaaGreat
