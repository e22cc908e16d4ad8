/-
  What Remove of a counting filter does. No condition but those that stand in each.
-/
import Derived.Test.YtoihkbanmnagkaaGreatL21b
import Derived.Test.YtoihkbanmnagkaaGreatM12b
/-
  LevelSure's walk. No condition but those that stand in it.
-/
set_option linter.unusedSimpArgs false
set_option linter.unusedVariables false
namespace Go.Proofs.YtoihkbanmnagkaaGreat
open Go Go.RowKit Go.Sort M

/-- What goes along: the level, its row, the row that the law keeps, which lies apart from it. -/
structure SureI (P : World → (Nat → Prop) → Nat → Lv → Prop) (w0 wr : World) (t : Nat) (V : Lv) (N : List Rt) (q : Option Addr) (c : Nat) (K : Nat → Prop) : Prop where
  lev : P wr K t V
  ok : LvOk V N
  top : ∀ g, K g → w0.heap.size ≤ g ∧ g < wr.heap.size
  own : wr.ownsRow w0.heap.size 58 4 (.slice q N.length c) N.length (rcs N)
  far : ∀ j, (Value.slice q N.length c).ownBlock = some j → ¬ K j
  below : Below w0.heap.size w0 wr
section
variable {P : World → (Nat → Prop) → Nat → Lv → Prop}
theorem SureI.grow (D : LevC P) {w0 wr w' : World} {t : Nat} {V : Lv} {N : List Rt} {q : Option Addr} {c : Nat} {K : Nat → Prop} (h : SureI P w0 wr t V N q c K) (hb : Below wr.heap.size wr w') : SureI P w0 w' t V N q c K :=
  ⟨D.below h.lev hb, h.ok, fun g hg => ⟨(h.top g hg).1, Nat.lt_of_lt_of_le (h.top g hg).2 hb.size⟩, own_below h.own hb, h.far, h.below.trans (hb.mono h.below.size)⟩
/-- Behind a Turn: the old row is still there, apart from it. -/
theorem SureI.turned {w0 wr w' : World} {t : Nat} {V V' : Lv} {N : List Rt} {q : Option Addr} {c : Nat} {K K' : Nat → Prop} (h : SureI P w0 wr t V N q c K) (hp : P w' K' t V') (hT : Touch K wr w') (hK : ∀ g, K' g → K g ∨ In wr.heap.size w'.heap.size g) :
    w'.ownsRow w0.heap.size 58 4 (.slice q N.length c) N.length (rcs N) ∧ (∀ j, (Value.slice q N.length c).ownBlock = some j → ¬ K' j) ∧ (∀ g, K' g → w0.heap.size ≤ g ∧ g < w'.heap.size) ∧ Below w0.heap.size w0 w' := by
  refine ⟨own_block h.own fun j hj => hT.block j (h.own.lt j hj).2 (h.far j hj), fun j hj hk => ?_, fun g hg => ?_, h.below.trans (hT.below h.below.size (fun j hj => (h.top j hj).1))⟩
  · rcases hK j hk with hk | hk
    · exact h.far j hj hk
    · have := (h.own.lt j hj).2
      have := hk.1
      omega
  · rcases hK g hg with hk | hk
    · exact ⟨(h.top g hk).1, Nat.lt_of_lt_of_le (h.top g hk).2 hT.size⟩
    · exact ⟨Nat.le_trans h.below.size hk.1, hk.2⟩
theorem LvOk.good {V : Lv} {N : List Rt} (H : LvOk V N) : ∀ r ∈ N, r.k.good := fun r hr => H.kept.inv.good r (H.kept.all.mem_iff.2 hr)
theorem into_out {N : List Rt} (h : Sorted N) (k : Ky) (v : Int) : intoS (outS N k) ⟨k, v⟩ = intoS N ⟨k, v⟩ := by
  have ho := outS_sorted k h
  refine getS_ext (intoS_sorted _ ho) (intoS_sorted _ h) fun j => ?_
  rw [getS_into ho, getS_into h, getS_out h]
  by_cases e : j = k
  · rw [if_pos e, if_pos e]
  · rw [if_neg e, if_neg e, if_neg e]
theorem new_own_le {w w' : World} {B : Nat} {e : TypeId} {v : Value} {n k : Nat} {xs : List Value} (h : w'.ownsRow w.heap.size e k v n xs) {K : Nat → Prop} (hK : ∀ g, K g → B ≤ g ∧ g < w.heap.size) : ∀ j, v.ownBlock = some j → ¬ K j := fun j hj hk => by
  have := (h.lt j hj).1
  have := (hK j hk).2
  omega
/-- What the last question finds. -/
theorem last21 {V : Lv} {N : List Rt} (H : LvOk V N) (ah al : Nat) : ∃ (hv : Int) (hs mb : Bool), lookA V ah al = .tuple #[.int .i64 hv, .bool hs, .bool mb] ∧ ((hs = true ∧ mb = true ∧ 0 ≤ stI N (V.key ah al)) ∨ (hs = false ∧ ¬ 0 ≤ stI N (V.key ah al))) := by
  refine ⟨_, _, _, rfl, ?_⟩
  have hh := H.hit ah al
  cases hf : findS N (V.key ah al) with
  | some j =>
    obtain ⟨hj, hg⟩ := getS_find hf
    rw [hg] at hh
    refine .inl ⟨by rw [hh]; rfl, ?_, ?_⟩
    · unfold Lv.hit at hh
      by_cases hm : V.may ah al = true
      · exact hm
      · rw [if_neg hm] at hh
        cases hh
    · rw [stI_some hf]
      omega
  | none =>
    rw [getS_nofind hf] at hh
    refine .inr ⟨by rw [hh]; rfl, ?_⟩
    rw [stI_none hf]
    omega
set_option maxHeartbeats 8000000 in
set_option maxRecDepth 100000 in
theorem sure_walk (D : LevC P) (n k m : Int) (s : Nat) (q : Option Addr) (c : Nat) (L : List Ch) (ah al : Nat) (w : World) (ws : W64 s) (hR : Row w q (ccs L)) (hg : ∀ x ∈ L, x.k.good) (ha : W64 ah) (hb : W64 al) (hL : L.length ≤ maxLen) :
    Calls Tryz.prog 4 #[.int .i64 n, .int .u64 (s : Int), .int .i64 k, .int .i64 m, .slice q L.length c, .agg #[.int .u64 (ah : Int), .int .u64 (al : Int)]] w fun e w' => e = .returned (.bool true) ∧ Below w.heap.size w w' := by
  have HA := Lib.hid (fun w => alive21_any D w)
  unfold maxLen at hL
  have hg1 := hg
  by_cases g1 : n < 1
  · skip
    clear hR hg hg1
    go_enter Tryz.func4, Tryz.ntmps4
    go_wp2_with fail
    refine (HA.out _).mono ?_
    rintro e w1 ⟨rfl, hb1⟩
    have hw1 : Below w.heap.size w w1 := Below.trans (by go_grown) (hb1.mono (by simp))
    clear hb1
    go_wp2
    go_ret
    exact ⟨rfl, hw1⟩
  by_cases g2 : 128 < n
  · skip
    clear hR hg hg1
    go_enter Tryz.func4, Tryz.ntmps4
    go_wp2_with fail
    refine (HA.out _).mono ?_
    rintro e w1 ⟨rfl, hb1⟩
    have hw1 : Below w.heap.size w w1 := Below.trans (by go_grown) (hb1.mono (by simp))
    clear hb1
    go_wp2
    go_ret
    exact ⟨rfl, hw1⟩
  by_cases g3 : k < 1
  · skip
    clear hR hg hg1
    go_enter Tryz.func4, Tryz.ntmps4
    go_wp2_with fail
    refine (HA.out _).mono ?_
    rintro e w1 ⟨rfl, hb1⟩
    have hw1 : Below w.heap.size w w1 := Below.trans (by go_grown) (hb1.mono (by simp))
    clear hb1
    go_wp2
    go_ret
    exact ⟨rfl, hw1⟩
  by_cases g4 : 16 < k
  · skip
    clear hR hg hg1
    go_enter Tryz.func4, Tryz.ntmps4
    go_wp2_with fail
    refine (HA.out _).mono ?_
    rintro e w1 ⟨rfl, hb1⟩
    have hw1 : Below w.heap.size w w1 := Below.trans (by go_grown) (hb1.mono (by simp))
    clear hb1
    go_wp2
    go_ret
    exact ⟨rfl, hw1⟩
  by_cases g5 : m < 1
  · skip
    clear hR hg hg1
    go_enter Tryz.func4, Tryz.ntmps4
    go_wp2_with fail
    refine (HA.out _).mono ?_
    rintro e w1 ⟨rfl, hb1⟩
    have hw1 : Below w.heap.size w w1 := Below.trans (by go_grown) (hb1.mono (by simp))
    clear hb1
    go_wp2
    go_ret
    exact ⟨rfl, hw1⟩
  by_cases g6 : 300 < m
  · skip
    clear hR hg hg1
    go_enter Tryz.func4, Tryz.ntmps4
    go_wp2_with fail
    refine (HA.out _).mono ?_
    rintro e w1 ⟨rfl, hb1⟩
    have hw1 : Below w.heap.size w w1 := Below.trans (by go_grown) (hb1.mono (by simp))
    clear hb1
    go_wp2
    go_ret
    exact ⟨rfl, hw1⟩
  by_cases g7 : 80 < (L.length : Int)
  · skip
    clear hR hg hg1
    go_enter Tryz.func4, Tryz.ntmps4
    go_wp2_with fail
    refine (HA.out _).mono ?_
    rintro e w1 ⟨rfl, hb1⟩
    have hw1 : Below w.heap.size w w1 := Below.trans (by go_grown) (hb1.mono (by simp))
    clear hb1
    go_wp2
    go_ret
    exact ⟨rfl, hw1⟩
  obtain ⟨M, rfl⟩ := Int.eq_ofNat_of_zero_le (show 0 ≤ m by omega)
  have hnew := fun W => D.new n k s M 1 W ws (by unfold badV; omega)
  have hok0 := newV_ok n s k M 1 (by decide) (by decide)
  have HNEW : Hid (∀ W : World, Calls Tryz.prog 6 #[.int .i64 n, .int .u64 (s : Int), .int .i64 k, .int .i64 (M : Int), .int .i64 1] W fun e w' => ∃ t, e = .returned (.tuple #[.pointer (some ⟨t, 0, none⟩), .int .i64 0]) ∧ P w' (In W.heap.size w'.heap.size) t (newV n s k M 1) ∧ Below W.heap.size W w') := Lib.hid hnew
  have HD := Lib.hid D
  have HG := Lib.hid hg
  have HOK0 := Lib.hid hok0
  have hall : Hid (∀ i, i ≤ L.length → LvOk ((newV n s k M 1).turns (L.take i)) (rowsT n [] (L.take i)) ∧ (rowsT n [] (L.take i)).length ≤ i ∧ ((newV n s k M 1).turns (L.take i)).n = n) := Lib.hid fun i hi => by
    have h := hok0.turns (L.take i) (fun x hx => hg x (List.mem_of_mem_take hx))
    refine ⟨h.1, ?_, turns_n _ _⟩
    have h2 := h.2
    rw [List.length_take] at h2
    simp only [List.length_nil] at h2
    exact Nat.le_trans h2 (by omega)
  have hl80 : L.length ≤ 80 := by omega
  clear hnew hok0 hg hg1 hL
  go_enter Tryz.func4, Tryz.ntmps4
  go_wp2_with fail
  refine (HA.out _).mono ?_
  rintro e w1 ⟨rfl, hb1⟩
  have hw1 : Below w.heap.size w w1 := Below.trans (by go_grown) (hb1.mono (by simp))
  have b0 : w1.cell? ⟨w.heap.size, 0, none⟩ = some (.int .u64 (ah : Int)) := by
    rw [hb1.cell (by simp <;> omega)]
    first | assumption | (simp [go_sem]; done) | (simp [go_sem, *]; done)
  have b1 : w1.cell? ⟨w.heap.size, 1, none⟩ = some (.int .u64 (al : Int)) := by
    rw [hb1.cell (by simp <;> omega)]
    first | assumption | (simp [go_sem]; done) | (simp [go_sem, *]; done)
  have hz1 : w.heap.size < w1.heap.size := by have := hb1.size; simp at this; omega
  have HAB : Hid (∀ wx, Below w1.heap.size w1 wx → wx.cell? ⟨w.heap.size, 0, none⟩ = some (.int .u64 (ah : Int)) ∧ wx.cell? ⟨w.heap.size, 1, none⟩ = some (.int .u64 (al : Int)) ∧ w.heap.size < wx.heap.size) := Lib.hid fun wx h =>
    ⟨(h.cell (p := ⟨w.heap.size, 0, none⟩) hz1).trans b0, (h.cell (p := ⟨w.heap.size, 1, none⟩) hz1).trans b1, Nat.lt_of_lt_of_le hz1 h.size⟩
  clear hb1 HA b0 b1
  go_wp2_with fail
  refine (HNEW.out _).mono ?_
  rintro e w2 ⟨t, rfl, hP, hb2⟩
  have hw2 := hw1.trans (hb2.mono hw1.size)
  have hz2 := hb2.size
  have HI0 : Hid (SureI P w1 w2 t (newV n s k M 1) [] none 0 (In w1.heap.size w2.heap.size)) := Lib.hid ⟨hP, HOK0.out, fun g hg => ⟨hg.1, hg.2⟩, World.ownsRow_nil _ _ _ _, fun j hj => (by simp [Value.ownBlock] at hj), hb2⟩
  have hzw : w.heap.size < w2.heap.size := by omega
  clear hP HNEW HOK0 hb2
  go_wp2_with fail
  refine (num21_any 0 _).mono ?_
  rintro e w3 ⟨rfl, hb3⟩
  have HI3 := Lib.hid (HI0.out.grow HD.out hb3)
  have HR := Lib.hid hR
  clear hb3 HI0 hR
  go_wp2
  go_loopg [16, 17] L.length (fun kx s16 s17 wr => ∃ (i nl : Nat) (p : Option Addr) (cp : Nat), s17 = .int .i64 (i : Int) ∧ L.length - i ≤ kx ∧ i ≤ L.length ∧ s16 = .slice p nl cp ∧ nl ≤ 80 ∧ Hid (nl = (rowsT n [] (L.take i)).length) ∧ Hid (∃ K, SureI P w1 wr t ((newV n s k M 1).turns (L.take i)) (rowsT n [] (L.take i)) p cp K))
  case atStart => exact ⟨0, 0, none, 0, rfl, by omega, by omega, rfl, by omega, Lib.hid rfl, Lib.hid ⟨_, HI3.out⟩⟩
  case round =>
    clear HI3
    obtain ⟨i, nl, p, cp, rfl, k1, k2, rfl, k3, HN, HI⟩ := hrel
    by_cases hi : i < L.length
    · obtain ⟨K, hI⟩ := HI.out
      have hwr := hw1.trans (hI.below.mono hw1.size)
      obtain ⟨g0, o0, rfl, hg0, x0, x1, x2, x3, x4⟩ := HR.out.ch hi
      have hi1 := hall.out (i + 1) hi
      have hi0 := hall.out i (by omega)
      have hsn : L.take (i + 1) = L.take i ++ [L[i]] := List.take_succ_eq_append_getElem hi
      have hgd := HG.out _ (List.getElem_mem hi)
      rw [hsn, Lv.turns_snoc, rowsT_snoc] at hi1
      rw [← HN.out] at hi0
      have j1 : (0 : Int) ≤ (i : Int) := by omega
      have j2 : (i : Int) < (L.length : Int) := by omega
      have hnx : ∀ (wx : World) (nl' : Nat) (p' : Option Addr) (cp' : Nat), nl' = (rowT n (rowsT n [] (L.take i)) L[i]).length → (∃ K, SureI P w1 wx t (((newV n s k M 1).turns (L.take i)).turn L[i]) (rowT n (rowsT n [] (L.take i)) L[i]) p' cp' K) →
          Hid (nl' = (rowsT n [] (L.take (i + 1))).length) ∧ Hid (∃ K, SureI P w1 wx t ((newV n s k M 1).turns (L.take (i + 1))) (rowsT n [] (L.take (i + 1))) p' cp' K) := fun wx nl' p' cp' e h => by
        rw [hsn, Lv.turns_snoc, rowsT_snoc]
        exact ⟨Lib.hid e, Lib.hid h⟩
      generalize L[i] = x at *
      obtain ⟨V1, hV1⟩ : ∃ V1, V1 = (newV n s k M 1).turns (L.take i) := ⟨_, rfl⟩
      obtain ⟨N1, hN1⟩ : ∃ N1, N1 = rowsT n [] (L.take i) := ⟨_, rfl⟩
      rw [← hV1] at hI hnx hi1 hi0
      rw [← hN1] at hI hnx hi1 hi0 HN
      have hN : nl = N1.length := HN.out
      subst hN
      have hV1n : V1.n = n := hi0.2.2
      have hN90 : N1.length ≤ 90000 := by omega
      obtain ⟨⟨kh, kl, kn⟩, xo, nw⟩ := x
      simp only at x0 x1 x2 x3 x4 hgd
      have hba : Below wr.heap.size wr (wr.alloc (.cells #[.int .u64 (kh : Int), .int .u64 (kl : Int), .int .i64 kn, .int .i64 xo, .int .i64 nw] 40)) := by go_grown
      have hIa := hI.grow D hba
      have htu := fun c hc => D.turn1 (c := c) ⟨⟨kh, kl, kn⟩, xo, nw⟩ hIa.lev hIa.ok hgd hN90 hc (row_change (w := wr) ⟨⟨kh, kl, kn⟩, xo, nw⟩ 40) (fun a ha hk => by
        injection ha with ha
        subst ha
        have := (hI.top _ hk).2
        simp only at this
        omega)
      have HTU := Lib.hid htu
      have HIA := Lib.hid hIa
      have HSO := Lib.hid hI.ok.kept.sort
      have HNX := Lib.hid hnx
      have HI1 := Lib.hid hi1.1
      have hrow : (kn = n → rowT n N1 ⟨⟨kh, kl, kn⟩, xo, nw⟩ = stepC N1 ⟨⟨kh, kl, kn⟩, xo, nw⟩) ∧ (¬ kn = n → rowT n N1 ⟨⟨kh, kl, kn⟩, xo, nw⟩ = N1) := ⟨fun h => if_pos h, fun h => if_neg h⟩
      have HROW := Lib.hid hrow
      obtain ⟨N2, hN2⟩ : ∃ N2, N2 = rowT n N1 ⟨⟨kh, kl, kn⟩, xo, nw⟩ := ⟨_, rfl⟩
      have hl2 : N2.length ≤ 80 := by have := hi1.2.1; rw [← hN2] at this; omega
      rw [← hN2] at HNX HROW HI1
      have HXS : Hid (∀ wx, Below w.heap.size w wx → wx.cell? ⟨g0, o0 + i * 5, none⟩ = some (.int .u64 (kh : Int)) ∧ wx.cell? ⟨g0, o0 + i * 5 + 1, none⟩ = some (.int .u64 (kl : Int)) ∧ wx.cell? ⟨g0, o0 + i * 5 + 2, none⟩ = some (.int .i64 kn) ∧ wx.cell? ⟨g0, o0 + i * 5 + 3, none⟩ = some (.int .i64 xo) ∧ wx.cell? ⟨g0, o0 + i * 5 + 4, none⟩ = some (.int .i64 nw) ∧ g0 < wx.heap.size) := Lib.hid fun wx h =>
        ⟨(h.cell (p := ⟨g0, o0 + i * 5, none⟩) hg0).trans x0, (h.cell (p := ⟨g0, o0 + i * 5 + 1, none⟩) hg0).trans x1, (h.cell (p := ⟨g0, o0 + i * 5 + 2, none⟩) hg0).trans x2, (h.cell (p := ⟨g0, o0 + i * 5 + 3, none⟩) hg0).trans x3, (h.cell (p := ⟨g0, o0 + i * 5 + 4, none⟩) hg0).trans x4, Nat.lt_of_lt_of_le hg0 h.size⟩
      clear hI hIa htu hrow hi1 hi0 hnx hV1n hV1 hN1 hsn HI HN hN2 x0 x1 x2 x3 x4
      obtain ⟨z0, z1, z2, z3, z4, zl⟩ := HXS.out wr hwr
      go_wp2_with fail
      refine (HTU.out _ (Nat.le_refl _)).mono ?_
      rintro e w5 ⟨rfl, K', hP5, hT5, hK5⟩
      obtain ⟨o5, f5, t5, b5⟩ := HIA.out.turned hP5 hT5 hK5
      have hw5 := hw1.trans (b5.mono hw1.size)
      have HF5 : Hid (∀ wx q' c', Below w5.heap.size w5 wx → wx.ownsRow w1.heap.size 58 4 (.slice q' N2.length c') N2.length (rcs N2) → (∀ j, (Value.slice q' N2.length c').ownBlock = some j → ¬ K' j) → ∃ K, SureI P w1 wx t (V1.turn ⟨⟨kh, kl, kn⟩, xo, nw⟩) N2 q' c' K) :=
        Lib.hid fun wx q' c' hb ho hf => ⟨K', D.below hP5 hb, HI1.out, fun g hg => ⟨(t5 g hg).1, Nat.lt_of_lt_of_le (t5 g hg).2 hb.size⟩, ho, hf, b5.trans (hb.mono b5.size)⟩
      have HO5 := Lib.hid o5
      have HFA := Lib.hid f5
      have HT5 := Lib.hid t5
      have hb5s := b5.size
      clear HTU HIA hP5 hT5 hK5 o5 f5 t5 z0 z1 z2 z3 z4 zl hwr hba
      obtain ⟨z0, z1, z2, z3, z4, zl⟩ := HXS.out w5 hw5
      by_cases hkn : kn = n
      · have hst := HROW.out.1 hkn
        have nq : (kn != n) = false := by simpa using hkn
        have hSt : (0 ≤ nw → N2 = intoS (outS N1 ⟨kh, kl, kn⟩) ⟨⟨kh, kl, kn⟩, nw⟩) ∧ (¬ 0 ≤ nw → N2 = outS N1 ⟨kh, kl, kn⟩) := by
          rw [into_out HSO.out]
          exact ⟨fun h => hst.trans (if_pos h), fun h => hst.trans (if_neg h)⟩
        have HST := Lib.hid hSt
        have hwo := without12_any p cp N1 ⟨kh, kl, kn⟩ w5 (Row.of_own HO5.out) (by omega)
        unfold kyV at hwo
        simp only at hwo
        have HWO := Lib.hid hwo
        have hol : (outS N1 ⟨kh, kl, kn⟩).length ≤ N1.length := List.length_filter_le _ _
        obtain ⟨N3, hN3⟩ : ∃ N3, N3 = outS N1 ⟨kh, kl, kn⟩ := ⟨_, rfl⟩
        rw [← hN3] at HWO HST hol
        clear hst hSt hwo hkn hN3
        go_wp2_with fail
        refine HWO.out.mono ?_
        rintro e w6 ⟨p6, c6, rfl, ho6, hb6⟩
        have HO6 := Lib.hid ho6
        have hw6 := hw5.trans (hb6.mono hw5.size)
        clear HWO ho6 z0 z1 z2 z3 z4 zl
        obtain ⟨z0, z1, z2, -, z4, zl⟩ := HXS.out w6 hw6
        by_cases h0 : 0 ≤ nw
        · have hNe := HST.out.1 h0
          have hin := fun W h => into_any w5.heap.size p6 c6 N3 ⟨⟨kh, kl, kn⟩, nw⟩ W h (by omega)
          rw [← hNe] at hin
          unfold rtA at hin
          simp only at hin
          have HIN := Lib.hid hin
          clear hin hNe HST
          go_wp2_with fail
          have kg := cell_grow
          refine region_tail 12 (by kernel_rfl) (by kernel_rfl) ?_
          simp only [List.take_succ_cons, List.take_zero, List.drop_succ_cons, List.drop_zero]
          repeat (any_goals (first | go_big_quiet_step (fail) | quiet_step (fail)))
          refine wpQuiet_nil ?_
          clear kg
          intro w15 hb15
          obtain ⟨hc15, hf15⟩ := bcell hb15
          go_wp2_with fail
          refine (HIN.out _ (own_below HO6.out hb15)).mono ?_
          rintro e w8 ⟨p8, c8, rfl, ho8, hb8⟩
          have hw58 := hb6.trans ((hb15.trans (hb8.mono hb15.size)).mono hb6.size)
          have ho9 := own_le ho8 (Nat.le_trans hb6.size hb15.size)
          have hfin := HF5.out w8 p8 c8 hw58 (own_le ho9 hb5s) (new_own_le ho9 HT5.out)
          obtain ⟨r1, r2⟩ := HNX.out w8 N2.length p8 c8 rfl hfin
          clear hfin ho8 ho9 hb8 hb15 hc15 hf15 HIN
          go_wp2
          go_roundg (L.length - (i + 1))
          case measure => omega
          case rel => exact ⟨i + 1, N2.length, p8, c8, by go_num, by omega, by omega, rfl, hl2, r1, r2⟩
        · have hNe := HST.out.2 (by omega)
          have ho6 := HO6.out
          rw [← hNe] at ho6
          have hfin := HF5.out w6 p6 c6 hb6 (own_le ho6 hb5s) (new_own_le ho6 HT5.out)
          obtain ⟨r1, r2⟩ := HNX.out w6 N2.length p6 c6 rfl hfin
          have hne : N3.length = N2.length := by rw [hNe]
          clear hfin ho6 HST hNe
          go_wp2
          go_roundg (L.length - (i + 1))
          case measure => omega
          case rel => exact ⟨i + 1, N2.length, p6, c6, by go_num, by omega, by omega, by first | rfl | rw [hne], hl2, r1, r2⟩
      · have hNe := HROW.out.2 hkn
        have nq : (kn != n) = true := by simpa using hkn
        have ho5 := HO5.out
        have hf5 := HFA.out
        rw [← hNe] at ho5 hf5
        have hfin := HF5.out w5 p cp (Below.refl _ _) ho5 hf5
        obtain ⟨r1, r2⟩ := HNX.out w5 N2.length p cp rfl hfin
        have hne : N1.length = N2.length := by rw [hNe]
        clear hfin ho5 hf5 hkn hNe
        go_wp2
        go_roundg (L.length - (i + 1))
        case measure => omega
        case rel => exact ⟨i + 1, N2.length, p, cp, by go_num, by omega, by omega, by first | rfl | rw [hne], hl2, r1, r2⟩
    · obtain ⟨K, hI⟩ := HI.out
      have hn0 := hall.out L.length (Nat.le_refl _)
      have hN := HN.out
      rw [List.take_of_length_le (show L.length ≤ i by omega)] at hI hN
      rw [List.take_length] at hn0
      obtain ⟨V, hV⟩ : ∃ V, V = (newV n s k M 1).turns L := ⟨_, rfl⟩
      obtain ⟨N, hN1⟩ : ∃ N, N = rowsT n [] L := ⟨_, rfl⟩
      rw [← hV] at hI hn0
      rw [← hN1] at hI hn0 hN
      subst hN
      have hVn : V.n = n := hn0.2.2
      have hok := hI.ok
      have hwr := hw1.trans (hI.below.mono hw1.size)
      have hlook := fun W (h : P W K t V) ah al (a : W64 ah) (b : W64 al) => D.look W K t V N ah al h hok (by omega) (by omega) a b
      have hkeys := fun W (h : P W K t V) => D.keys W K t V N h hok (by omega)
      have hkn : Hid (∀ r ∈ N, rightB r.k.h r.k.l r.k.n = true → lookA V r.k.h r.k.l = .tuple #[.int .i64 r.v, .bool true, .bool true]) := Lib.hid fun r hr hrt => by
        have h1 := hok.hitK hr hrt
        have h2 := hok.hit r.k.h r.k.l
        rw [h1, (getS_some hok.kept.sort (k := r.k) (v := r.v)).2 hr] at h2
        have h3 : V.may r.k.h r.k.l = true := hok.sure (by rw [h1]; exact List.mem_map.2 ⟨r, hr, rfl⟩)
        unfold lookA
        rw [h2, h3]
        rfl
      obtain ⟨hv, hs, mb, hla, hcase⟩ := last21 hok ah al
      have hlk := fun W (h : P W K t V) => hlook W h ah al ha hb
      rw [hla] at hlk
      have hkey : V.key ah al = ⟨cutW ah n.toNat, cutW al (n.toNat - 64), n⟩ := by
        unfold Lv.key cutK
        rw [hVn]
        congr 1
        omega
      rw [hkey] at hcase
      have HLOOK := Lib.hid hlook
      have HKEYS := Lib.hid hkeys
      have HLK := Lib.hid hlk
      have HI2 := Lib.hid hI
      have HGD := Lib.hid hok.good
      have HCASE := Lib.hid hcase
      clear HI HN hn0 hlook hkeys hlk hcase hla hok hV hN1 hVn hkey HR HG hall hI
      have hcut := rcut_any ah al n ha hb
      have hfind := fun W (h : Row W p (rcs N)) => find12_any p cp N ⟨cutW ah n.toNat, cutW al (n.toNat - 64), n⟩ W h (by omega)
      unfold kyV at hfind
      simp only at hfind
      obtain ⟨st, hst⟩ : ∃ st, st = stI N ⟨cutW ah n.toNat, cutW al (n.toNat - 64), n⟩ := ⟨_, rfl⟩
      rw [← hst] at hfind HCASE
      have hsame : Hid (∀ (q : Option Addr) d W, Row W q (rcs N) → Row W p (rcs N) → Calls Tryz.prog 13 #[.slice q N.length d, .slice p N.length cp] W fun e w' => e = .returned (.bool true) ∧ Below W.heap.size W w') := Lib.hid fun q d W h1 h2 => by
        have := sameR_any q p d cp N N W h1 h2 (by omega) (by omega)
        rw [decide_eq_true (rfl : N = N)] at this
        exact this
      have HCUT := Lib.hid hcut
      have HFIND := Lib.hid hfind
      clear hcut hfind hst
      go_wp2
      go_loopg [18] N.length (fun kx s18 wx => ∃ i : Nat, s18 = .int .i64 (i : Int) ∧ N.length - i ≤ kx ∧ i ≤ N.length ∧ Hid (SureI P w1 wx t V N p cp K) ∧ Below w.heap.size w wx)
      case atStart => exact ⟨0, rfl, by omega, by omega, HI2, hwr⟩
      case round =>
        clear HI2 hwr
        obtain ⟨i, rfl, m1, m2, HI2, hbx⟩ := hrel
        by_cases hi2 : i < N.length
        · obtain ⟨gr, or, rfl, hgr, r0, r1, r2, r3⟩ := (Row.of_own HI2.out.own).rt hi2
          have hrd := HGD.out N[i] (List.getElem_mem hi2)
          have hrt := rright_any N[i].k.h N[i].k.l N[i].k.n hrd.1 hrd.2
          have hres := hkn.out N[i] (List.getElem_mem hi2)
          have j1 : (0 : Int) ≤ (i : Int) := by omega
          have j2 : (i : Int) < (N.length : Int) := by omega
          generalize N[i] = r at *
          obtain ⟨⟨kh, kl, kn⟩, v⟩ := r
          simp only at r0 r1 r2 r3 hrd hrt hres
          have hlk := fun W (h : P W K t V) => HLOOK.out W h kh kl hrd.1 hrd.2
          cases hrb : rightB kh kl kn with
          | false =>
            rw [hrb] at hrt
            have HRT := Lib.hid hrt
            clear hres hlk hrt hrb hrd
            go_wp2_with fail
            refine (HRT.out _).mono ?_
            rintro e w5 ⟨rfl, hb5⟩
            have HI5 := Lib.hid (HI2.out.grow HD.out hb5)
            have hw5 := hbx.trans (hb5.mono hbx.size)
            clear hb5 HI2 HRT
            go_wp2
            go_roundg (N.length - (i + 1))
            case measure => omega
            case rel => exact ⟨i + 1, by go_num, by omega, by omega, HI5, hw5⟩
          | true =>
            rw [hres hrb] at hlk
            rw [hrb] at hrt
            have HRT := Lib.hid hrt
            have HLK1 := Lib.hid hlk
            clear hres hlk hrt hrb hrd
            go_wp2_with fail
            refine (HRT.out _).mono ?_
            rintro e w5 ⟨rfl, hb5⟩
            have HI5 := Lib.hid (HI2.out.grow HD.out hb5)
            have hw5 := hbx.trans (hb5.mono hbx.size)
            have r0 := (hb5.cell (p := ⟨gr, or + i * 4, none⟩) hgr).trans r0
            have r1 := (hb5.cell (p := ⟨gr, or + i * 4 + 1, none⟩) hgr).trans r1
            have r3 := (hb5.cell (p := ⟨gr, or + i * 4 + 3, none⟩) hgr).trans r3
            have hgr := Nat.lt_of_lt_of_le hgr hb5.size
            clear hb5 HI2 HRT r2
            go_wp2_with fail
            refine (HLK1.out _ HI5.out.lev).mono ?_
            rintro e w6 ⟨rfl, hb6⟩
            have HI6 := Lib.hid (HI5.out.grow HD.out hb6)
            have hw6 := hw5.trans (hb6.mono hw5.size)
            have r3 := (hb6.cell (p := ⟨gr, or + i * 4 + 3, none⟩) hgr).trans r3
            have hgr := Nat.lt_of_lt_of_le hgr hb6.size
            clear hb6 HI5 HLK1 r0 r1
            go_wp2
            go_roundg (N.length - (i + 1))
            case measure => omega
            case rel => exact ⟨i + 1, by go_num, by omega, by omega, HI6, hw6⟩
        · obtain ⟨b0, b1, bl⟩ := HAB.out _ HI2.out.below
          clear HGD hkn HLOOK
          go_wp2_with fail
          refine (HLK.out _ HI2.out.lev).mono ?_
          rintro e w5 ⟨rfl, hb5⟩
          have HI5 := Lib.hid (HI2.out.grow HD.out hb5)
          have hw5 := hbx.trans (hb5.mono hbx.size)
          clear hb5 HI2 HLK b0 b1 bl
          obtain ⟨b0, b1, bl⟩ := HAB.out _ HI5.out.below
          go_wp2_with fail
          refine (HCUT.out _).mono ?_
          rintro e w6 ⟨rfl, hb6⟩
          have HI6 := Lib.hid (HI5.out.grow HD.out hb6)
          have hw6 := hw5.trans (hb6.mono hw5.size)
          clear hb6 HI5 HCUT b0 b1 bl
          go_wp2_with fail
          refine (HFIND.out _ (Row.of_own HI6.out.own)).mono ?_
          rintro e w7 ⟨rfl, hb7⟩
          have HI7 := Lib.hid (HI6.out.grow HD.out hb7)
          have hw7 := hw6.trans (hb7.mono hw6.size)
          clear hb7 HI6 HFIND
          go_wp2_with fail
          refine (HKEYS.out _ HI7.out.lev).mono ?_
          rintro e w8 ⟨p8, c8, rfl, ho8, hb8⟩
          have HI8 := Lib.hid (HI7.out.grow HD.out hb8)
          have hw8 := hw7.trans (hb8.mono hw7.size)
          have HO8 := Lib.hid ho8
          clear hb8 HI7 HKEYS ho8
          go_wp2_with fail
          refine (hsame.out _ _ _ HO8.out (Row.of_own HI8.out.own)).mono ?_
          rintro e w9 ⟨rfl, hb9⟩
          have hw9 := hw8.trans (hb9.mono hw8.size)
          clear hb9 HI8 HO8 hsame
          rcases HCASE.out with ⟨h1, h2, h3⟩ | ⟨h1, h3⟩
          · subst h1 h2
            clear HCASE
            go_wp2
            go_ret
            exact ⟨rfl, hw9⟩
          · subst h1
            have h3 : st < 0 := by omega
            clear HCASE
            cases mb
            · go_wp2
              go_ret
              exact ⟨(show Ending.returned (Value.bool (!decide (0 ≤ st))) = _ from by rw [decide_eq_false (by omega)]; rfl), hw9⟩
            · go_wp2
              go_ret
              exact ⟨(show Ending.returned (Value.bool (!decide (0 ≤ st))) = _ from by rw [decide_eq_false (by omega)]; rfl), hw9⟩
end
end Go.Proofs.YtoihkbanmnagkaaGreat
/-
  What Add of a counting filter does. No condition but those that stand in each.
-/
set_option linter.unusedSimpArgs false
set_option linter.unusedVariables false
namespace Go.Proofs.YtoihkbanmnagkaaGreat
open Go.RowKit Go.Sort M

set_option maxHeartbeats 2000000 in
theorem fadd_any (lo hi f s : Nat) (k : Int) (C : List Nat) (h l : Nat) (n : Int) (w : World) (H : Fil w lo hi f s k C) (wh : W64 h) (wl : W64 l) :
    Calls Tryz.prog 50 #[.pointer (some ⟨f, 0, none⟩), .agg #[.int .u64 h, .int .u64 l, .int .i64 n]] w fun e w' => e = .returned (.tuple #[]) ∧
      Fil w' lo hi f s k (addL C (plc s h l n k C.length)) ∧ Touch (In lo hi) w w' := by
  have hP : ∀ wx, Fil wx lo hi f s k C → Calls Tryz.prog 61 #[.pointer (some ⟨f, 0, none⟩), .agg #[.int .u64 h, .int .u64 l, .int .i64 n]] wx fun e w' => ∃ p c, e = .returned (.slice p (plc s h l n k C.length).length c) ∧
      w'.ownsRow wx.heap.size 3 1 (.slice p (plc s h l n k C.length).length c) (plc s h l n k C.length).length (ics (plc s h l n k C.length)) ∧ Below wx.heap.size wx w' := fun wx H => fplaces_any lo hi f s k C h l n wx H wh wl
  have hL16 := plc_len s h l n k C.length
  generalize plc s h l n k C.length = L at *
  have HP := Lib.hid hP
  have HC := Lib.hid H
  clear hP H
  go_enter Tryz.func50, Tryz.ntmps50
  go_wp2_with fail
  refine (HP.out _ (HC.out.below (by go_grown))).mono ?_
  rintro e w1 ⟨p, c, rfl, hown, hb1⟩
  have hw1 : Below w.heap.size w w1 := Below.trans (by go_grown) (hb1.mono (by go_size))
  have hown2 := own_le (B' := w.heap.size) hown (by go_size)
  have HC1 := Lib.hid (HC.out.below hw1)
  have htop : hi ≤ w.heap.size := by
    obtain ⟨g1, h1, g2, h2, H⟩ := HC.out
    exact H.top
  obtain ⟨g1, h1, g2, h2, H⟩ := HC1.out
  clear hown hb1 HC1 HP
  go_wp2
  go_loopw [10] (fun i10 wr => ∃ i : Nat, i ≤ L.length ∧ i10 = .int .i64 i ∧ FilB wr lo hi f g1 h1 g2 h2 s k (addL C (L.take i)) (onsC (addL C (L.take i))) ∧ wr.ownsRow w.heap.size 3 1 (.slice p L.length c) L.length (ics L) ∧ Touch (In lo hi) w wr) (fun i10 _ => L.length - (intOf i10).toNat)
  case atStart => exact ⟨0, Nat.zero_le _, rfl, H, hown2, Touch.of_below hw1 (fun k h1 h2 => absurd h1 (by omega))⟩
  case round =>
    clear H hown2 hw1
    obtain ⟨i, hi2, rfl, H, hown, ht⟩ := hrel
    have hz := ht.size
    by_cases hlt : i < L.length
    · obtain ⟨gr, orr, rfl, hgr, d0⟩ := (IRow.of_own hown).at hlt
      have hsn := addL_snoc C L i hlt
      have hlow := (hown.lt gr rfl).1
      generalize hx : L[i] = x at *
      generalize hA : addL C (L.take i) = A at *
      have HSN := Lib.hid hsn
      clear hx hA hsn
      have c2 := H.c2
      have hl := H.lt
      have HH := Lib.hid H
      have HO := Lib.hid hown
      clear H hown
      go_wp2_with fail
      refine (up_any _ _ _ _ x _ HH.out.cs).mono ?_
      rintro e w2 ⟨rfl, hN2, hg2⟩
      obtain ⟨H2, ht2⟩ := HH.out.turnC hN2 (upL_len _ _) hg2
      have hown2 := Touch.own HO.out ht2 (fun j e hj => by cases e; exact absurd (show gr < hi from hj.2) (by omega))
      have ht3 := ht.trans ht2
      have c3 := H2.c3
      have hl2 := H2.lt
      have HH2 := Lib.hid H2
      have HO2 := Lib.hid hown2
      clear H2 hown2 hN2 hg2 ht2 ht c2
      go_wp2_with fail
      refine (bset_any _ _ _ _ x _ _ HH2.out.bs).mono ?_
      rintro e w3 ⟨rfl, hN3, hg3⟩
      obtain ⟨H3, ht4⟩ := HH2.out.turnD hN3 (setB_len _ _ _) hg3
      have hown3 := Touch.own HO2.out ht4 (fun j e hj => by cases e; exact absurd (show gr < hi from hj.2) (by omega))
      have ht5 := ht3.trans ht4
      rw [ons_up, ← HSN.out] at H3
      clear hN3 hg3 ht3 ht4
      go_wp2
      go_roundw
      case rel => exact ⟨i + 1, by omega, by go_num, H3, hown3, ht5⟩
      case measure => simp [intOf]; omega
    · go_wp2
      go_end0
      rw [List.take_of_length_le (by omega)] at H
      exact ⟨rfl, ⟨_, _, _, _, H⟩, ht⟩
end Go.Proofs.YtoihkbanmnagkaaGreat
/-
  What Remove of a counting filter does. No condition but those that stand in each.
-/
set_option linter.unusedSimpArgs false
set_option linter.unusedVariables false
namespace Go.Proofs.YtoihkbanmnagkaaGreat
open Go.RowKit Go.Sort M

set_option maxHeartbeats 2000000 in
theorem frem_any (lo hi f s : Nat) (k : Int) (C : List Nat) (h l : Nat) (n : Int) (w : World) (H : Fil w lo hi f s k C) (wh : W64 h) (wl : W64 l) :
    Calls Tryz.prog 48 #[.pointer (some ⟨f, 0, none⟩), .agg #[.int .u64 h, .int .u64 l, .int .i64 n]] w fun e w' => e = .returned (.tuple #[]) ∧
      Fil w' lo hi f s k (remL C (plc s h l n k C.length)) ∧ Touch (In lo hi) w w' := by
  have hP : ∀ wx, Fil wx lo hi f s k C → Calls Tryz.prog 61 #[.pointer (some ⟨f, 0, none⟩), .agg #[.int .u64 h, .int .u64 l, .int .i64 n]] wx fun e w' => ∃ p c, e = .returned (.slice p (plc s h l n k C.length).length c) ∧
      w'.ownsRow wx.heap.size 3 1 (.slice p (plc s h l n k C.length).length c) (plc s h l n k C.length).length (ics (plc s h l n k C.length)) ∧ Below wx.heap.size wx w' := fun wx H => fplaces_any lo hi f s k C h l n wx H wh wl
  have hL16 := plc_len s h l n k C.length
  generalize plc s h l n k C.length = L at *
  have HP := Lib.hid hP
  have HC := Lib.hid H
  clear hP H
  go_enter Tryz.func48, Tryz.ntmps48
  go_wp2_with fail
  refine (HP.out _ (HC.out.below (by go_grown))).mono ?_
  rintro e w1 ⟨p, c, rfl, hown, hb1⟩
  have hw1 : Below w.heap.size w w1 := Below.trans (by go_grown) (hb1.mono (by go_size))
  have hown2 := own_le (B' := w.heap.size) hown (by go_size)
  have HC1 := Lib.hid (HC.out.below hw1)
  have htop : hi ≤ w.heap.size := by
    obtain ⟨g1, h1, g2, h2, H⟩ := HC.out
    exact H.top
  obtain ⟨g1, h1, g2, h2, H⟩ := HC1.out
  clear hown hb1 HC1 HP
  go_wp2
  go_loopw [10] (fun i10 wr => ∃ i : Nat, i ≤ L.length ∧ i10 = .int .i64 i ∧ FilB wr lo hi f g1 h1 g2 h2 s k (remL C (L.take i)) (onsC (remL C (L.take i))) ∧ wr.ownsRow w.heap.size 3 1 (.slice p L.length c) L.length (ics L) ∧ Touch (In lo hi) w wr) (fun i10 _ => L.length - (intOf i10).toNat)
  case atStart => exact ⟨0, Nat.zero_le _, rfl, H, hown2, Touch.of_below hw1 (fun k h1 h2 => absurd h1 (by omega))⟩
  case round =>
    clear H hown2 hw1
    obtain ⟨i, hi2, rfl, H, hown, ht⟩ := hrel
    have hz := ht.size
    by_cases hlt : i < L.length
    · obtain ⟨gr, orr, rfl, hgr, d0⟩ := (IRow.of_own hown).at hlt
      have hsn := remL_snoc C L i hlt
      have hlow := (hown.lt gr rfl).1
      generalize hx : L[i] = x at *
      generalize hA : remL C (L.take i) = A at *
      have HSN := Lib.hid hsn
      clear hx hA hsn
      have c2 := H.c2
      have hl := H.lt
      have HH := Lib.hid H
      have HO := Lib.hid hown
      clear H hown
      go_wp2_with fail
      refine (down_any _ _ _ _ x _ HH.out.cs).mono ?_
      rintro e w2 ⟨rfl, hN2, hg2⟩
      obtain ⟨H2, ht2⟩ := HH.out.turnC hN2 (downL_len _ _) hg2
      have hown2 := Touch.own HO.out ht2 (fun j e hj => by cases e; exact absurd (show gr < hi from hj.2) (by omega))
      have ht3 := ht.trans ht2
      have c2 := H2.c2
      have c3 := H2.c3
      have hl2 := H2.lt
      obtain ⟨v, hv⟩ : ∃ v : Nat, v = getN (downL A x) x := ⟨_, rfl⟩
      have hgt : ∀ wx, Below w2.heap.size w2 wx → Calls Tryz.prog 75 #[.pointer (some ⟨g1, 0, none⟩), .int .i64 x] wx fun e w' => e = .returned (.int .i64 (v : Int)) ∧ Below wx.heap.size wx w' := by
        intro wx hb
        rw [hv]
        exact get_any _ _ _ _ x _ (H2.cs.below hb)
      have HG := Lib.hid hgt
      have hod := ons_down A x
      rw [← hv] at hod
      have HOD := Lib.hid hod
      have HH2 := Lib.hid H2
      have HO2 := Lib.hid hown2
      clear H2 hown2 hN2 hg2 ht2 ht hgt hv hod
      go_wp2_with fail
      have kg := cell_grow
      refine region_tail 12 (by kernel_rfl) (by kernel_rfl) ?_
      simp only [List.take_succ_cons, List.take_zero, List.drop_succ_cons, List.drop_zero]
      repeat (any_goals (first | go_big_quiet_step ((exact Calls.regrown_of (HG.out _ (below_regrown _ _ _)))) | quiet_step ((exact Calls.regrown_of (HG.out _ (below_regrown _ _ _))))))
      refine wpQuiet_nil ?_
      clear kg
      intro w3 hb3
      obtain ⟨hc3, hf3⟩ := bcell hb3
      have HH3 := Lib.hid (HH2.out.below hb3)
      have hown3 := Touch.own HO2.out (Touch.quiet hb3 (S := In lo hi)) (fun j e hj => by cases e; exact absurd (show gr < hi from hj.2) (by omega))
      have HO3 := Lib.hid hown3
      have ht3b := ht3.trans (Touch.quiet hb3)
      clear HH2 HO2 hown3 hb3
      go_wp2_with fail
      refine (bset_any _ _ _ _ x _ _ HH3.out.bs).mono ?_
      rintro e w4 ⟨rfl, hN3, hg3⟩
      obtain ⟨H3, ht4⟩ := HH3.out.turnD hN3 (setB_len _ _ _) hg3
      have hown3 := Touch.own HO3.out ht4 (fun j e hj => by cases e; exact absurd (show gr < hi from hj.2) (by omega))
      have ht5 := ht3b.trans ht4
      rw [show ((v : Int) != 0) = decide (v ≠ 0) by rw [Bool.eq_iff_iff]; simp, HOD.out, ← HSN.out] at H3
      clear hN3 hg3 ht3 ht4
      go_wp2
      go_roundw
      case rel => exact ⟨i + 1, by omega, by go_num, H3, hown3, ht5⟩
      case measure => simp [intOf]; omega
    · go_wp2
      go_end0
      rw [List.take_of_length_le (by omega)] at H
      exact ⟨rfl, ⟨_, _, _, _, H⟩, ht⟩
end Go.Proofs.YtoihkbanmnagkaaGreat
