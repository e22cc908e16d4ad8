/-
  What the program's put and remove leave of a level. No condition but that the level lies in memory, that words are words, and that there are at most 100000 keys.
-/
import Derived.Test.YtoihkbanmnagkaaGreatW21a
set_option linter.unusedSimpArgs false
set_option linter.unusedVariables false
namespace Go.Proofs.YtoihkbanmnagkaaGreat
open Go Go.RowKit Go.Sort M

def ptD (hv : Int) (hs : Bool) (n : Nat) (i : Nat) (v : Value) (_ : World) : Prop :=
  match i with
  | 5 => ∃ p c, v = .tuple #[.int .i64 hv, .bool hs, .slice p n c]
  | 6 => ∃ p c, v = .tuple #[.int .i64 hv, .bool hs, .slice p n c]
  | 7 => v = .int .i64 hv
  | 8 => v = .bool hs
  | 10 => v = .int .i64 hv
  | 11 => v = .bool hs
  | _ => True
def LevStep (w w' : World) (K : Nat → Prop) (t : Nat) (V' : Lv) : Prop := ∃ K', LevP w' K' t V' ∧ Touch K w w' ∧ ∀ g, K' g → K g ∨ In w.heap.size w'.heap.size g
theorem LevStep.end0 {w w' : World} {K K0 K' : Nat → Prop} {t : Nat} {V' : Lv} (h0 : ∀ g, K0 g → K g) (h : LevP w' K' t V') (hT : Touch K0 w w') (hk : ∀ g, K' g → K0 g ∨ In w.heap.size w'.heap.size g) : LevStep w w' K t V' :=
  ⟨K', h, hT.mono fun g _ hg => h0 g hg, fun g hg => (hk g hg).imp (h0 g) id⟩
theorem delT_same {T : Tab} {k : Ky} (h : (delT T k).2 = false) : (delT T k).1 = T := by
  unfold delT at h ⊢
  split at h
  · cases h
  · rename_i h1
    split at h
    · cases h
    · rename_i h2
      show ({ T with st := outS T.st k } : Tab) = T
      have hno : k ∉ keysR T.st := fun hk => by
        rw [← stash_lt] at hk
        simp only [decide_eq_false_iff_not] at h
        exact h hk
      rw [out_same hno]
set_option maxRecDepth 100000 in
set_option maxHeartbeats 4000000 in
theorem put21_any (w : World) (K : Nat → Prop) (t : Nat) (V : Lv) (N : List Rt) (kh kl : Nat) (kn o v : Int) (H : LevP w K t V) (HV : LvOk V N) (hg : (⟨kh, kl, kn⟩ : Ky).good) (hn : kn = V.n) (hv : 0 ≤ v) (hl : N.length ≤ 100000) :
    Calls Tryz.prog 29 #[.pointer (some ⟨t, 0, none⟩), .agg #[.int .u64 (kh : Int), .int .u64 (kl : Int), .int .i64 kn], .int .i64 v] w fun e w' => e = .returned (.tuple #[]) ∧ LevStep w w' K t (V.turn ⟨⟨kh, kl, kn⟩, o, v⟩) := by
  obtain ⟨lo, hi, f, u, H⟩ := H
  have hB := H.old
  obtain ⟨K0, hK0⟩ : ∃ K0 : Nat → Prop, K0 = fun j => K j ∧ j < w.heap.size := ⟨_, rfl⟩
  rw [← hK0] at hB
  have HK0 : Hid (∀ g, K0 g → K g) := Lib.hid fun g hg => by rw [hK0] at hg; exact hg.1
  have hng : ¬ K0 w.heap.size := fun h => by rw [hK0] at h; have := h.2; omega
  have HB := Lib.hid hB
  clear hK0 hB
  have hcl := HV.kept.len
  have hget := fun (Q : Nat → Prop) W (h : Seat Q W u V.T) => Seat.get u V.T ⟨kh, kl, kn⟩ W h HV.kept.inv hg (by omega)
  have hput := fun (Q : Nat → Prop) W (h : Seat Q W u V.T) hP => Seat.put u V.T ⟨⟨kh, kl, kn⟩, v⟩ W h HV.kept.inv hg (by omega) hP
  unfold kyV at hget hput
  simp only at hget hput
  have hadd := fun W C (h : Fil W lo hi f V.s V.k C) => fadd_any lo hi f V.s V.k C kh kl kn W h hg.1 hg.2
  have hte1 : V.has ⟨kh, kl, kn⟩ = true → V.turn ⟨⟨kh, kl, kn⟩, o, v⟩ = { V with T := putF 16 V.T ⟨⟨kh, kl, kn⟩, v⟩ } := fun h => by
    unfold Lv.turn
    rw [if_pos (show (⟨⟨kh, kl, kn⟩, o, v⟩ : Ch).k.n = V.n from hn), if_pos (show 0 ≤ (⟨⟨kh, kl, kn⟩, o, v⟩ : Ch).n from hv)]
    rw [show V.has (⟨⟨kh, kl, kn⟩, o, v⟩ : Ch).k = true from h, if_pos rfl]
  have hte2 : V.has ⟨kh, kl, kn⟩ = false → V.turn ⟨⟨kh, kl, kn⟩, o, v⟩ = { V with C := addL V.C (plc V.s kh kl kn V.k V.C.length), T := putF 16 V.T ⟨⟨kh, kl, kn⟩, v⟩ } := fun h => by
    unfold Lv.turn
    rw [if_pos (show (⟨⟨kh, kl, kn⟩, o, v⟩ : Ch).k.n = V.n from hn), if_pos (show 0 ≤ (⟨⟨kh, kl, kn⟩, o, v⟩ : Ch).n from hv)]
    rw [show V.has (⟨⟨kh, kl, kn⟩, o, v⟩ : Ch).k = false from h, if_neg (by simp)]
    rfl
  have hhas : V.has ⟨kh, kl, kn⟩ = (getT V.T ⟨kh, kl, kn⟩).isSome := rfl
  obtain ⟨hs, hhs⟩ : ∃ hs, hs = V.has ⟨kh, kl, kn⟩ := ⟨_, rfl⟩
  simp only [← hhas] at hget
  rw [← hhs] at hte1 hte2
  simp only [← hhs] at hget
  generalize (getT V.T ⟨kh, kl, kn⟩).getD 0 = hv0 at *
  generalize (readT V.T ⟨kh, kl, kn⟩).length = rl at *
  have HGET := Lib.hid hget
  have HPUT := Lib.hid hput
  have HADD := Lib.hid hadd
  have HT1 := Lib.hid hte1
  have HT2 := Lib.hid hte2
  clear H HV hg hn hv hl hcl hget hput hadd hte1 hte2 hhas hhs
  go_enter Tryz.func29, Tryz.ntmps29
  go_wp2_with fail
  obtain ⟨W1, hW1⟩ : ∃ W, W = w.alloc (.cells #[.int .u64 (kh : Int), .int .u64 (kl : Int), .int .i64 kn] 38) := ⟨_, rfl⟩
  try rw [← hW1]
  have hw : Below w.heap.size w W1 := by rw [hW1]; go_grown
  have e0 : W1.cell? ⟨w.heap.size, 0, none⟩ = some (.int .u64 (kh : Int)) := by rw [hW1]; simp [go_sem]
  have e1 : W1.cell? ⟨w.heap.size, 1, none⟩ = some (.int .u64 (kl : Int)) := by rw [hW1]; simp [go_sem]
  have e2 : W1.cell? ⟨w.heap.size, 2, none⟩ = some (.int .i64 kn) := by rw [hW1]; simp [go_sem]
  have hbl : w.heap.size < W1.heap.size := by rw [hW1]; simp
  have HB := Lib.hid (HB.out.below hw)
  clear hW1
  have d1 := HB.out.c1
  have d2 := HB.out.c2
  have dl := HB.out.lt
  have kg := cell_grow
  refine wp_region_noPanic ?_
  generalize hNQ : NoPanic _ = NQ
  refine region_eff9 [0, 1, 2] [3, 4] [(5, 15, []), (6, 9, [(5, 15)]), (7, 16, [(6, 9)]), (8, 17, [(6, 9)]), (9, 18, [(6, 9)]), (10, 6, [(7, 16)]), (11, 7, [(8, 17)]), (12, 8, [(9, 18)])] [] (ptD hv0 hs rl) (fun i v W W' _ h => h) (by kernel_rfl) (by rw [← hNQ]; exact fun _ _ _ h => h) (by kernel_rfl) (by kernel_rfl) (by kernel_rfl) ?_
  simp only [pickL, List.filterMap_cons, List.filterMap_nil, List.getElem?_toArray, List.getElem?_cons_succ, List.getElem?_cons_zero]
  repeat (any_goals (quiet_step (fail)))
  refine wpQuiet_nil ?_
  clear kg
  refine ⟨by rfl, ⟨?_, ?_, ?_, ?_, ?_, ?_, ?_, ?_, trivial⟩, ?_⟩
  · intro W4 hW4 K9 hK9 o9 ho
    injection ho with ho
    subst ho
    go_simp
    go_at_call 37
    have htb4 := (HB.out.below hW4).tab
    refine (HGET.out _ _ htb4).mono ?_
    rintro e w5 ⟨p5, c5, rfl, -, hb5⟩
    exact hK9 _ _ hb5 ⟨p5, c5, rfl⟩
  · intro W4 hW4 v5 h5 K9
    obtain ⟨p6, c6, rfl⟩ := h5
    go_simp
    intro hK9 o9 ho
    injection ho with ho
    subst ho
    go_simp
    exact hK9 _ _ (Below.refl _ _) ⟨p6, c6, rfl⟩
  · intro W4 hW4 v5 h5 K9
    obtain ⟨p6, c6, rfl⟩ := h5
    go_simp
    intro hK9 o9 ho
    injection ho with ho
    subst ho
    go_simp
    exact hK9 _ _ (Below.refl _ _) rfl
  · intro W4 hW4 v5 h5 K9
    obtain ⟨p6, c6, rfl⟩ := h5
    go_simp
    intro hK9 o9 ho
    injection ho with ho
    subst ho
    go_simp
    exact hK9 _ _ (Below.refl _ _) rfl
  · intro W4 hW4 v5 h5 K9
    obtain ⟨p6, c6, rfl⟩ := h5
    go_simp
    intro hK9 o9 ho
    injection ho with ho
    subst ho
    go_simp
    exact hK9 _ _ (Below.refl _ _) trivial
  · intro W4 hW4 v7 h7 K9
    obtain rfl : v7 = _ := h7
    go_simp
    intro hK9 o9 ho
    injection ho with ho
    subst ho
    go_simp
    exact hK9 _ _ (Below.refl _ _) rfl
  · intro W4 hW4 v8 h8 K9
    obtain rfl : v8 = _ := h8
    go_simp
    intro hK9 o9 ho
    injection ho with ho
    subst ho
    go_simp
    exact hK9 _ _ (Below.refl _ _) rfl
  · intro W4 hW4 v9 h9 K9
    clear h9
    go_simp
    intro hK9 o9 ho
    injection ho with ho
    subst ho
    go_simp
    exact hK9 _ _ (Below.refl _ _) trivial
  · intro w4 hb4 v5 h5 v6 h6 v7 h7 v8 h8 v9 h9 v10 h10 v11 h11 v12 h12
    obtain ⟨p5, c5, rfl⟩ := h5
    obtain ⟨p6, c6, rfl⟩ := h6
    obtain rfl : v7 = _ := h7
    obtain rfl : v8 = _ := h8
    obtain rfl : v10 = _ := h10
    obtain rfl : v11 = _ := h11
    show wpList _ _ _ _ _ _
    simp only [pickL, List.filterMap_nil]
    subst hNQ
    obtain ⟨hc4, -⟩ := bcell hb4
    have HB := Lib.hid (HB.out.below hb4)
    have e0 := (hc4 _ _ hbl).trans e0
    have e1 := (hc4 _ _ hbl).trans e1
    have e2 := (hc4 _ _ hbl).trans e2
    have hbl := Nat.lt_of_lt_of_le hbl (hb4).size
    have hw := hw.trans ((hb4).mono hw.size)
    clear d1 d2 dl
    have d1 := HB.out.c1
    have d2 := HB.out.c2
    have dl := HB.out.lt
    clear h9 h12 HGET hb4 hc4
    go_wp2_with fail
    refine NoPanic.normal ?_
    go_wp2_with fail
    have kg := cell_grow
    refine region_tail 6 (by kernel_rfl) (by kernel_rfl) ?_
    simp only [List.take_succ_cons, List.take_zero, List.drop_succ_cons, List.drop_zero]
    repeat (any_goals (first | go_big_quiet_step (fail) | quiet_step (fail)))
    refine wpQuiet_nil ?_
    clear kg
    intro w6 hb6
    obtain ⟨hc6, hf6⟩ := bcell hb6
    have HB := Lib.hid (HB.out.below hb6)
    have e0 := (hc6 _ _ hbl).trans e0
    have e1 := (hc6 _ _ hbl).trans e1
    have e2 := (hc6 _ _ hbl).trans e2
    have hbl := Nat.lt_of_lt_of_le hbl (hb6).size
    have hw := hw.trans ((hb6).mono hw.size)
    clear d1 d2 dl
    have d1 := HB.out.c1
    have d2 := HB.out.c2
    have dl := HB.out.lt
    clear hb6 hc6 hf6
    go_wp2_with fail
    refine (HPUT.out _ _ HB.out.seat HB.out.fresh).mono ?_
    rintro e w7 ⟨rfl, hst, hT7⟩
    obtain ⟨hB7, hK7⟩ := HB.out.tab_step hst hT7
    have hz7 := hT7.size
    have e0 := hK7.cell e0 hng
    have e1 := hK7.cell e1 hng
    have e2 := hK7.cell e2 hng
    have hbl := Nat.lt_of_lt_of_le hbl hz7
    have HTT := Lib.hid (Touch.trans (.quiet hw) hK7)
    have HB := Lib.hid hB7
    have hsz := hw.size
    clear d1 d2 dl hst hT7 hB7 hK7 hw
    have d1 := HB.out.c1
    have d2 := HB.out.c2
    have dl := HB.out.lt
    cases hs with
    | true =>
      have hte := HT1.out rfl
      go_wp2
      go_end0
      refine ⟨rfl, ?_⟩
      rw [hte]
      refine LevStep.end0 HK0.out ⟨lo, hi, f, u, HB.out⟩ HTT.out fun g hg => ?_
      rcases hg with h | h
      · exact .inl h
      · exact .inr ⟨by have := h.1; omega, h.2⟩
    | false =>
      have hte := HT2.out rfl
      go_wp2_with fail
      have kg := cell_grow
      refine region_tail 5 (by kernel_rfl) (by kernel_rfl) ?_
      simp only [List.take_succ_cons, List.take_zero, List.drop_succ_cons, List.drop_zero]
      repeat (any_goals (first | go_big_quiet_step (fail) | quiet_step (fail)))
      refine wpQuiet_nil ?_
      clear kg
      intro w8 hb8
      obtain ⟨hc8, hf8⟩ := bcell hb8
      have hz8 := hb8.size
      have HB := Lib.hid (HB.out.below hb8)
      have HTT := Lib.hid (HTT.out.trans (.quiet hb8))
      clear hb8 hc8 hf8 d1 d2 dl
      go_wp2_with fail
      refine (HADD.out _ _ HB.out.fil).mono ?_
      rintro e w9 ⟨rfl, hf9, hT9⟩
      obtain ⟨hB9, hT9'⟩ := HB.out.fil_step hf9 hT9 (addL_len _ _)
      have hz9 := hT9.size
      go_wp2
      go_end0
      refine ⟨rfl, ?_⟩
      rw [hte]
      refine LevStep.end0 HK0.out ⟨lo, hi, f, u, hB9⟩ (touch_then HTT.out (fun g hg => ?_) hT9') fun g hg => ?_
      · rcases hg with h | h
        · exact .inl h
        · exact .inr (by have := h.1; omega)
      · rcases hg with h | h
        · exact .inl h
        · exact .inr ⟨by have := h.1; omega, by have := h.2; omega⟩
set_option maxRecDepth 100000 in
set_option maxHeartbeats 4000000 in
theorem remove21_any (w : World) (K : Nat → Prop) (t : Nat) (V : Lv) (N : List Rt) (kh kl : Nat) (kn o v : Int) (H : LevP w K t V) (HV : LvOk V N) (hg : (⟨kh, kl, kn⟩ : Ky).good) (hn : kn = V.n) (hv : ¬ 0 ≤ v) (hl : N.length ≤ 100000) :
    Calls Tryz.prog 28 #[.pointer (some ⟨t, 0, none⟩), .agg #[.int .u64 (kh : Int), .int .u64 (kl : Int), .int .i64 kn]] w fun e w' => e = .returned (.tuple #[]) ∧ LevStep w w' K t (V.turn ⟨⟨kh, kl, kn⟩, o, v⟩) := by
  obtain ⟨lo, hi, f, u, H⟩ := H
  have hB := H.old
  obtain ⟨K0, hK0⟩ : ∃ K0 : Nat → Prop, K0 = fun j => K j ∧ j < w.heap.size := ⟨_, rfl⟩
  rw [← hK0] at hB
  have HK0 : Hid (∀ g, K0 g → K g) := Lib.hid fun g hg => by rw [hK0] at hg; exact hg.1
  have hng : ¬ K0 w.heap.size := fun h => by rw [hK0] at h; have := h.2; omega
  have HB := Lib.hid hB
  clear hK0 hB
  have hcl := HV.kept.len
  have hdel := fun (Q : Nat → Prop) W (h : Seat Q W u V.T) hP => Seat.del u V.T ⟨kh, kl, kn⟩ W h HV.kept hg (by omega) hP
  unfold kyV at hdel
  simp only at hdel
  have hrem := fun W C (h : Fil W lo hi f V.s V.k C) => frem_any lo hi f V.s V.k C kh kl kn W h hg.1 hg.2
  have hds : (delT V.T ⟨kh, kl, kn⟩).2 = V.has ⟨kh, kl, kn⟩ := by
    rw [Bool.eq_iff_iff, HV.kept.del_tells, HV.has]
  have hte1 : V.has ⟨kh, kl, kn⟩ = true → V.turn ⟨⟨kh, kl, kn⟩, o, v⟩ = { V with C := remL V.C (plc V.s kh kl kn V.k V.C.length), T := (delT V.T ⟨kh, kl, kn⟩).1 } := fun h => by
    unfold Lv.turn
    rw [if_pos (show (⟨⟨kh, kl, kn⟩, o, v⟩ : Ch).k.n = V.n from hn), if_neg (show ¬ 0 ≤ (⟨⟨kh, kl, kn⟩, o, v⟩ : Ch).n from hv)]
    rw [show V.has (⟨⟨kh, kl, kn⟩, o, v⟩ : Ch).k = true from h, if_pos rfl]
    rfl
  have hte2 : V.has ⟨kh, kl, kn⟩ = false → V.turn ⟨⟨kh, kl, kn⟩, o, v⟩ = V := fun h => by
    unfold Lv.turn
    rw [if_pos (show (⟨⟨kh, kl, kn⟩, o, v⟩ : Ch).k.n = V.n from hn), if_neg (show ¬ 0 ≤ (⟨⟨kh, kl, kn⟩, o, v⟩ : Ch).n from hv)]
    rw [show V.has (⟨⟨kh, kl, kn⟩, o, v⟩ : Ch).k = false from h, if_neg (by simp)]
  have hsame : V.has ⟨kh, kl, kn⟩ = false → (delT V.T ⟨kh, kl, kn⟩).1 = V.T := fun h => delT_same (by rw [hds]; exact h)
  obtain ⟨hs, hhs⟩ : ∃ hs, hs = V.has ⟨kh, kl, kn⟩ := ⟨_, rfl⟩
  rw [← hhs] at hte1 hte2 hsame hds
  rw [hds] at hdel
  have HDEL := Lib.hid hdel
  have HREM := Lib.hid hrem
  have HT1 := Lib.hid hte1
  have HT2 := Lib.hid hte2
  have HSM := Lib.hid hsame
  clear H HV hg hn hv hl hcl hdel hrem hte1 hte2 hds hsame hhs
  go_enter Tryz.func28, Tryz.ntmps28
  go_wp2_with fail
  obtain ⟨W1, hW1⟩ : ∃ W, W = w.alloc (.cells #[.int .u64 (kh : Int), .int .u64 (kl : Int), .int .i64 kn] 38) := ⟨_, rfl⟩
  try rw [← hW1]
  have hw : Below w.heap.size w W1 := by rw [hW1]; go_grown
  have e0 : W1.cell? ⟨w.heap.size, 0, none⟩ = some (.int .u64 (kh : Int)) := by rw [hW1]; simp [go_sem]
  have e1 : W1.cell? ⟨w.heap.size, 1, none⟩ = some (.int .u64 (kl : Int)) := by rw [hW1]; simp [go_sem]
  have e2 : W1.cell? ⟨w.heap.size, 2, none⟩ = some (.int .i64 kn) := by rw [hW1]; simp [go_sem]
  have hbl : w.heap.size < W1.heap.size := by rw [hW1]; simp
  have HB := Lib.hid (HB.out.below hw)
  clear hW1
  have d1 := HB.out.c1
  have d2 := HB.out.c2
  have dl := HB.out.lt
  have kg := cell_grow
  refine region_tail 5 (by kernel_rfl) (by kernel_rfl) ?_
  simp only [List.take_succ_cons, List.take_zero, List.drop_succ_cons, List.drop_zero]
  repeat (any_goals (first | go_big_quiet_step (fail) | quiet_step (fail)))
  refine wpQuiet_nil ?_
  clear kg
  intro w6 hb6
  obtain ⟨hc6, hf6⟩ := bcell hb6
  have HB := Lib.hid (HB.out.below hb6)
  have e0 := (hc6 _ _ hbl).trans e0
  have e1 := (hc6 _ _ hbl).trans e1
  have e2 := (hc6 _ _ hbl).trans e2
  have hbl := Nat.lt_of_lt_of_le hbl (hb6).size
  have hw := hw.trans ((hb6).mono hw.size)
  clear d1 d2 dl
  have d1 := HB.out.c1
  have d2 := HB.out.c2
  have dl := HB.out.lt
  clear hb6 hc6 hf6
  go_wp2_with fail
  refine (HDEL.out _ _ HB.out.seat HB.out.fresh).mono ?_
  rintro e w7 ⟨rfl, hst, hT7⟩
  obtain ⟨hB7, hK7⟩ := HB.out.tab_step hst hT7
  have hz7 := hT7.size
  have e0 := hK7.cell e0 hng
  have e1 := hK7.cell e1 hng
  have e2 := hK7.cell e2 hng
  have hbl := Nat.lt_of_lt_of_le hbl hz7
  have HTT := Lib.hid (Touch.trans (.quiet hw) hK7)
  have HB := Lib.hid hB7
  have hsz := hw.size
  clear d1 d2 dl hst hT7 hB7 hK7 hw
  have d1 := HB.out.c1
  have d2 := HB.out.c2
  have dl := HB.out.lt
  cases hs with
  | false =>
    have hte := HT2.out rfl
    have hsm := HSM.out rfl
    have hB := HB.out
    rw [hsm] at hB
    have HB := Lib.hid hB
    clear hB hsm
    go_wp2
    go_end0
    refine ⟨rfl, ?_⟩
    rw [hte]
    refine LevStep.end0 HK0.out ⟨lo, hi, f, u, HB.out⟩ HTT.out fun g hg => ?_
    rcases hg with h | h
    · exact .inl h
    · exact .inr ⟨by have := h.1; omega, h.2⟩
  | true =>
    have hte := HT1.out rfl
    go_wp2_with fail
    have kg := cell_grow
    refine region_tail 5 (by kernel_rfl) (by kernel_rfl) ?_
    simp only [List.take_succ_cons, List.take_zero, List.drop_succ_cons, List.drop_zero]
    repeat (any_goals (first | go_big_quiet_step (fail) | quiet_step (fail)))
    refine wpQuiet_nil ?_
    clear kg
    intro w8 hb8
    obtain ⟨hc8, hf8⟩ := bcell hb8
    have hz8 := hb8.size
    have HB := Lib.hid (HB.out.below hb8)
    have HTT := Lib.hid (HTT.out.trans (.quiet hb8))
    clear hb8 hc8 hf8 d1 d2 dl
    go_wp2_with fail
    refine (HREM.out _ _ HB.out.fil).mono ?_
    rintro e w9 ⟨rfl, hf9, hT9⟩
    obtain ⟨hB9, hT9'⟩ := HB.out.fil_step hf9 hT9 (remL_len _ _)
    have hz9 := hT9.size
    go_wp2
    go_end0
    refine ⟨rfl, ?_⟩
    rw [hte]
    refine LevStep.end0 HK0.out ⟨lo, hi, f, u, hB9⟩ (touch_then HTT.out (fun g hg => ?_) hT9') fun g hg => ?_
    · rcases hg with h | h
      · exact .inl h
      · exact .inr (by have := h.1; omega)
    · rcases hg with h | h
      · exact .inl h
      · exact .inr ⟨by have := h.1; omega, by have := h.2; omega⟩
end Go.Proofs.YtoihkbanmnagkaaGreat
