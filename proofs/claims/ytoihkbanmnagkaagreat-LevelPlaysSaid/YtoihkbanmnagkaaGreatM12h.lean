/-
  Plain mathematics of a growth: so many keys laid anew. No condition but those that stand in each.
-/
import Derived.Test.YtoihkbanmnagkaaGreatW11b
import Derived.Test.YtoihkbanmnagkaaGreatW11c
import Derived.Test.YtoihkbanmnagkaaGreatAppR
import Derived.Test.YtoihkbanmnagkaaGreatW12c
import Derived.Test.YtoihkbanmnagkaaGreatRFil2d
import Derived.Deep.LoopGhost
import Derived.Test.YtoihkbanmnagkaaGreatM18b
/-
  What list of a table hands back: all that it has, bucket by bucket, then the stash. No condition but that the table's cells lie in memory, and that its stash is short of 2^20.
-/
set_option linter.unusedSimpArgs false
set_option linter.unusedVariables false
namespace Go.Proofs.YtoihkbanmnagkaaGreat
open Go.RowKit Go.Sort M

theorem flat_snoc (T : Tab) (j : Nat) (h : j < T.B.length) : (T.B.take (j + 1)).flatMap allC = (T.B.take j).flatMap allC ++ allC (T.bk j) := by
  rw [List.take_succ_eq_append_getElem h, List.flatMap_append, bk_at T j h]
  simp
theorem flat_le (T : Tab) (h4 : ∀ i, i < T.B.length → (T.bk i).length = 4) : ∀ j, j ≤ T.B.length → ((T.B.take j).flatMap allC).length ≤ j * 4
  | 0, _ => by simp
  | j + 1, h => by
    have ih := flat_le T h4 j (by omega)
    have := allC_len (T.bk j)
    rw [h4 j (by omega)] at this
    rw [flat_snoc T j (by omega), List.length_append]
    omega
set_option maxRecDepth 100000 in
set_option maxHeartbeats 4000000 in
theorem list_any (t g : Nat) (v : Value) (T : Tab) (m : Int) (w : World) (H : CT w t g v T m) (h : Num T) (hf : T.st.length < 1048576) :
    Calls Tryz.prog 67 #[.pointer (some ⟨t, 0, none⟩)] w fun e w' => NewRts w w' e (contT T) := by
  have hl := H.tb.tlt
  have c1 := H.tb.c1
  have h4 : ∀ i, i < T.B.length → (T.bk i).length = 4 := fun i hi => (H.tb.bk i hi).four
  have hFL := Lib.hid (flat_le T h4)
  have hhi := h.hi
  have HA := Lib.hid (fun x (hx : x < T.B.length) w (H : CT w t g v T m) => all11_any g (x * 20) (T.bk x) w (H.tb.bk x hx))
  have HH := Lib.hid H
  clear H h h4
  go_enter Tryz.func67, Tryz.ntmps67
  go_wp2
  go_loopw [3, 4, 10] (fun s3 s4 i wr => ∃ (j : Nat) (L : List Rt), j ≤ T.B.length ∧ i = .int .i64 (j : Int) ∧ Hid (L = (T.B.take j).flatMap allC) ∧ L.length ≤ 262144 ∧ Hid (wr.ownsRow w.heap.size 58 4 s3 L.length (rcs L)) ∧ Below w.heap.size w wr) (fun _ _ i _ => T.B.length - (intOf i).toNat)
  case atStart => exact ⟨0, [], by omega, rfl, rfl, by simp, World.ownsRow_nil _ _ _ _, by go_grown⟩
  case round =>
    obtain ⟨j, L, hj, rfl, hL, hLl, hown, hb⟩ := hrel
    by_cases hlt : j < T.B.length
    · have HH1 := Lib.hid (HH.out.below hb)
      have c1 := HH1.out.tb.c1
      have hl1 := HH1.out.tb.tlt
      have i1 : (0 : Int) ≤ (j : Int) := by omega
      have i2 : (j : Int) < (T.B.length : Int) := by omega
      have hz := hb.size
      have hfl := hFL.out (j + 1) (by omega)
      have hsn := flat_snoc T j hlt
      rw [hsn, List.length_append, ← hL.out] at hfl
      have HSN := Lib.hid hsn
      have HAL := Lib.hid hfl
      have HA1 := Lib.hid (HA.out j hlt wr HH1.out)
      clear hsn hfl
      go_wp2_with fail
      refine HA1.out.mono ?_
      rintro e w2 ⟨p, c, rfl, hown2, hb2⟩
      have hownL := Lib.hid (own_below hown.out hb2)
      have hown2 := Lib.hid hown2
      have hw2 := hb.trans (hb2.mono hb.size)
      have hz2 := hw2.size
      have hAl := HAL.out
      obtain ⟨N, hN⟩ : ∃ N, N = L ++ allC (T.bk j) := ⟨_, rfl⟩
      have hl3 : N.length ≤ 262144 := by rw [hN, List.length_append]; omega
      have HN := Lib.hid hN
      clear hb2 hown HA1 hN
      go_wp2_with (at_builtin; go_loud (refine wpList_append_rts rfl (.tmp 13) (.tmp 20) rfl w.heap.size wr.heap.size _ _ L (allC (T.bk j)) N HN.out rfl rfl hownL.out hown2.out (by omega) (by omega) ?_))
      intro v3 w3 hown3 hg3 hat
      have hw3 : Below w.heap.size w w3 := hw2.grown hg3 hz2 (fun k hk => (hownL.out.lt k hk).1)
      have hO3 := Lib.hid hown3
      clear hown3 hg3 hat
      go_wp2
      go_roundw
      case rel => exact ⟨j + 1, N, by omega, by go_num, by show _ = _; rw [HSN.out, HN.out, hL.out], hl3, hO3, hw3⟩
      case measure => simp [intOf]; omega
    · have hjn : j = T.B.length := by omega
      have HH1 := Lib.hid (HH.out.below hb)
      have c2 := HH1.out.tb.c2
      have hl1 := HH1.out.tb.tlt
      have hz := hb.size
      have hE : contT T = L ++ T.st := by
        unfold contT
        rw [hL.out, hjn, List.take_length]
      have HE := Lib.hid hE
      clear hE
      go_wp2_with (at_builtin; go_loud (refine wpList_append_rts rfl (.tmp 23) (.tmp 27) rfl w.heap.size 0 _ _ L T.st (contT T) HE.out rfl rfl hown.out HH1.out.tb.own (by omega) (by omega) ?_))
      intro v3 w3 hown3 hg3 hat
      have hw3 : Below w.heap.size w w3 := hb.grown hg3 hz (fun k hk => (hown.out.lt k hk).1)
      obtain ⟨p3, c3, rfl⟩ := own_slice hown3
      have hO3 := Lib.hid hown3
      clear hown3 hg3 hat
      go_wp2
      go_ret
      exact ⟨p3, c3, rfl, hO3.out, hw3⟩
end Go.Proofs.YtoihkbanmnagkaaGreat
/-
  What All of the reference's table hands back: all that it has, sorted. No condition but that the table's cells lie in memory, and that its stash is short of 2^19.
-/
set_option linter.unusedSimpArgs false
set_option linter.unusedVariables false
namespace Go.Proofs.YtoihkbanmnagkaaGreat
open Go.RowKit Go.Sort M

theorem sortR_snoc4 (l : List Rt) (x : Rt) : sortR (l ++ [x]) = intoS (sortR l) x := by
  unfold sortR
  rw [List.foldl_append]
  rfl
theorem fold_into_len : ∀ (l M : List Rt), Sorted M → (l.foldl intoS M).length ≤ M.length + l.length
  | [], M, _ => by simp
  | a :: l, M, h => by
    have ih := fold_into_len l (intoS M a) (intoS_sorted a h)
    have hl : (intoS M a).length ≤ M.length + 1 := by
      have := (intoS_perm a h).length_eq
      rw [this, List.length_cons]
      have : (outS M a.k).length ≤ M.length := List.length_filter_le _ _
      omega
    rw [List.foldl_cons, List.length_cons]
    omega
theorem sortR_le (l : List Rt) : (sortR l).length ≤ l.length := by
  have := fold_into_len l [] List.Pairwise.nil
  simpa [sortR] using this
set_option maxRecDepth 100000 in
set_option maxHeartbeats 4000000 in
theorem rall12_any (t g : Nat) (v : Value) (T : Tab) (w : World) (H : Tb RBk w t g v T) (h : Num T) (hf : T.st.length < 524288) :
    Calls Tryz.prog 15 #[.pointer (some ⟨t, 0, none⟩)] w fun e w' => NewRts w w' e (allT T) := by
  obtain ⟨pv, cv, rfl⟩ := own_slice H.own
  have h4 : ∀ i, i < T.B.length → (T.bk i).length = 4 := fun i hi => (H.bk i hi).four
  have hFL := Lib.hid (flat_le T h4)
  have hF4 := Lib.hid h4
  have hhi := h.hi
  have HA := Lib.hid (fun x (hx : x < T.B.length) w (H : Tb RBk w t g (.slice pv T.st.length cv) T) => rall4_any g (x * 20) (T.bk x) w (H.bk x hx))
  have HI := Lib.hid (fun B p c L r w hR hl => into_any B p c L r w hR hl)
  unfold rtA at HI
  have HH := Lib.hid H
  have hl := H.tlt
  clear H h h4
  go_enter Tryz.func15, Tryz.ntmps15
  go_wp2
  go_loopg [3, 4, 5, 6] T.B.length (fun kx s3 s4 s5 s6 wr => ∃ (j : Nat) (L : List Rt) (p : Option Addr) (c : Nat), s4 = .int .i64 (j : Int) ∧ s3 = .slice p L.length c ∧ j ≤ T.B.length ∧ T.B.length - j ≤ kx ∧ L.length ≤ 262144 ∧ Hid (L = sortR ((T.B.take j).flatMap allC)) ∧ Hid (wr.ownsRow w.heap.size 58 4 (.slice p L.length c) L.length (rcs L)) ∧ Hid (Below w.heap.size w wr))
  case atStart => exact ⟨0, [], none, 0, by go_num, rfl, by omega, by omega, by simp, rfl, World.ownsRow_nil _ _ _ _, by show Below _ _ _; go_grown⟩
  case round =>
    obtain ⟨j, L, p, c, rfl, rfl, hj, hk, hLl, HL, HO, HB⟩ := hrel
    have HH1 := Lib.hid (HH.out.below bk_rbk HB.out)
    have c1 := HH1.out.c1
    have hl1 := HH1.out.tlt
    by_cases hlt : j < T.B.length
    · have i1 : (0 : Int) ≤ (j : Int) := by omega
      have i2 : (j : Int) < (T.B.length : Int) := by omega
      have hfl := hFL.out j (by omega)
      have hal := allC_len (T.bk j)
      rw [hF4.out j hlt] at hal
      have HSN := Lib.hid (flat_snoc T j hlt)
      obtain ⟨N, hN⟩ : ∃ N, N = allC (T.bk j) := ⟨_, rfl⟩
      obtain ⟨X, hX⟩ : ∃ X, X = (T.B.take j).flatMap allC := ⟨_, rfl⟩
      have HA1 := HA.out j hlt wr HH1.out
      rw [← hN] at HA1 hal HSN
      rw [← hX] at HSN HL hfl
      have HA1 := Lib.hid HA1
      have HSN := Lib.hid HSN
      clear hN hX
      go_wp2_with fail
      refine HA1.out.mono ?_
      rintro e w2 ⟨p2, q2, rfl, hown2, hb2⟩
      have HOL := Lib.hid (own_below HO.out hb2)
      have HON := Lib.hid hown2
      have HB2 := Lib.hid (HB.out.trans (hb2.mono HB.out.size))
      clear hown2 hb2 HA1 HO c1 hl1 HH1
      go_wp2
      go_loopg [3, 6] N.length (fun ky s3 s6 wr => ∃ (k : Nat) (L : List Rt) (p : Option Addr) (c : Nat), s6 = .int .i64 (k : Int) ∧ s3 = .slice p L.length c ∧ k ≤ N.length ∧ N.length - k ≤ ky ∧ L.length ≤ 262144 ∧ Hid (L = sortR (X ++ N.take k)) ∧ Hid (wr.ownsRow w.heap.size 58 4 (.slice p L.length c) L.length (rcs L)) ∧ Hid (wr.ownsRow w.heap.size 58 4 (.slice p2 N.length q2) N.length (rcs N)) ∧ Hid (Below w.heap.size w wr))
      case atStart => exact ⟨0, L, p, c, by go_num, rfl, by omega, by omega, hLl, by show L = _; rw [HL.out]; simp, HOL, own_le HON.out HB.out.size, HB2⟩
      case round =>
        clear HL HOL HON HB2 HB hLl
        obtain ⟨k, L, p, c, rfl, rfl, hkN, hky, hLl, HL, HO, HON, HB⟩ := hrel
        by_cases hlt2 : k < N.length
        · obtain ⟨gr, o, rfl, hgr, r0, r1, r2, r3⟩ := (Row.of_own HON.out).rt hlt2
          have k1 : (0 : Int) ≤ (k : Int) := by omega
          have k2 : (k : Int) < (N.length : Int) := by omega
          have hLN : Hid (intoS L N[k] = sortR (X ++ N.take (k + 1))) := by
            show intoS L N[k] = _
            rw [HL.out, List.take_succ_eq_append_getElem hlt2, ← List.append_assoc, sortR_snoc4]
          have hln : (intoS L N[k]).length ≤ 262144 := by
            rw [hLN.out]
            have := sortR_le (X ++ N.take (k + 1))
            rw [List.length_append, List.length_take] at this
            omega
          have HLN := Lib.hid hln
          have HI1 := Lib.hid (HI.out _ _ _ L N[k] wr HO.out (by omega))
          clear hln
          generalize N[k] = r at *
          go_wp2_with fail
          refine HI1.out.mono ?_
          rintro e w3 ⟨p3, q3, rfl, hown3, hb3⟩
          have HO3 := Lib.hid (own_le hown3 HB.out.size)
          have HN3 := Lib.hid (own_below HON.out hb3)
          have HB3 := Lib.hid (HB.out.trans (hb3.mono HB.out.size))
          have hl3 := HLN.out
          generalize intoS L r = L3 at *
          clear hown3 hb3 HI1
          go_wp2
          go_roundg (N.length - (k + 1))
          case measure => omega
          case rel => exact ⟨k + 1, L3, p3, q3, by go_num, rfl, by omega, by omega, hl3, hLN, HO3, HN3, HB3⟩
        · have hkn : k = N.length := by omega
          have HE : Hid (L = sortR ((T.B.take (j + 1)).flatMap allC)) := by
            show L = _
            rw [HL.out, hkn, List.take_length, HSN.out.out]
          go_wp2
          go_roundg (T.B.length - (j + 1))
          case measure => omega
          case rel => exact ⟨j + 1, L, p, c, by go_num, rfl, by omega, by omega, hLl, HE, HO, HB⟩
    · have hjn : j = T.B.length := by omega
      have hfl := hFL.out T.B.length (Nat.le_refl _)
      obtain ⟨X, hX⟩ : ∃ X, X = T.B.flatMap allC := ⟨_, rfl⟩
      have HE : Hid (L = sortR (X ++ T.st.take 0)) := by
        show L = _
        rw [HL.out, hjn, List.take_length, List.take_zero, List.append_nil, hX]
      have HXL : X.length ≤ 262144 := by rw [List.take_length] at hfl; rw [hX]; omega
      have HX : Hid (allT T = sortR (X ++ T.st)) := by show _ = _; rw [hX]; rfl
      clear hX hfl HL hjn
      go_wp2
      go_loopg [3, 7] T.st.length (fun ky s3 s7 wr => ∃ (k : Nat) (L : List Rt) (p : Option Addr) (c : Nat), s7 = .int .i64 (k : Int) ∧ s3 = .slice p L.length c ∧ k ≤ T.st.length ∧ T.st.length - k ≤ ky ∧ L.length ≤ 786432 ∧ Hid (L = sortR (X ++ T.st.take k)) ∧ Hid (wr.ownsRow w.heap.size 58 4 (.slice p L.length c) L.length (rcs L)) ∧ Hid (Below w.heap.size w wr))
      case atStart => exact ⟨0, L, p, c, by go_num, rfl, by omega, by omega, by omega, HE, HO, HB⟩
      case round =>
        clear HE HO HB hLl HH1 c1 hl1
        obtain ⟨k, L, p, c, rfl, rfl, hkN, hky, hLl, HL, HO, HB⟩ := hrel
        have HH1 := Lib.hid (HH.out.below bk_rbk HB.out)
        have c2 := HH1.out.c2
        have hl1 := HH1.out.tlt
        by_cases hlt2 : k < T.st.length
        · have hrow := (Row.of_own HH1.out.own).rt hlt2
          obtain ⟨gr, o, hpv, hgr, r0, r1, r2, r3⟩ := hrow
          rw [hpv] at c2
          have k1 : (0 : Int) ≤ (k : Int) := by omega
          have k2 : (k : Int) < (T.st.length : Int) := by omega
          have hLN : Hid (intoS L T.st[k] = sortR (X ++ T.st.take (k + 1))) := by
            show intoS L T.st[k] = _
            rw [HL.out, List.take_succ_eq_append_getElem hlt2, ← List.append_assoc, sortR_snoc4]
          have hln : (intoS L T.st[k]).length ≤ 786432 := by
            rw [hLN.out]
            have := sortR_le (X ++ T.st.take (k + 1))
            rw [List.length_append, List.length_take] at this
            omega
          have HLN := Lib.hid hln
          have HI1 := Lib.hid (HI.out _ _ _ L T.st[k] wr HO.out (by omega))
          have HPV := Lib.hid hpv
          clear hln hpv
          generalize T.st[k] = r at *
          go_wp2_with fail
          refine HI1.out.mono ?_
          rintro e w3 ⟨p3, q3, rfl, hown3, hb3⟩
          have HO3 := Lib.hid (own_le hown3 HB.out.size)
          have HB3 := Lib.hid (HB.out.trans (hb3.mono HB.out.size))
          have hl3 := HLN.out
          generalize intoS L r = L3 at *
          clear hown3 hb3 HI1
          go_wp2
          go_roundg (T.st.length - (k + 1))
          case measure => omega
          case rel => exact ⟨k + 1, L3, p3, q3, by go_num, rfl, by omega, by omega, hl3, hLN, HO3, HB3⟩
        · have hkn : k = T.st.length := by omega
          have HE : Hid (L = allT T) := by
            show L = _
            rw [HL.out, hkn, List.take_length, HX.out]
          go_wp2
          go_ret
          rw [← HE.out]
          exact ⟨p, c, rfl, HO.out, HB.out⟩
end Go.Proofs.YtoihkbanmnagkaaGreat
/-
  Plain mathematics of a growth: so many keys laid anew. No condition but those that stand in each.
-/
set_option linter.unusedSimpArgs false
set_option linter.unusedVariables false
namespace Go.Proofs.YtoihkbanmnagkaaGreat
open M

theorem fold_pre {T : Tab} (H : Inv T) {f : Tab → Rt → Tab} (hf : ∀ T r, Inv T → r.k.good → GrowOk T r (f T r)) (j : Nat) (hj : j ≤ (contT T).length) :
    Inv (((contT T).take j).foldl f (grown T)) ∧ (contT (((contT T).take j).foldl f (grown T))).length = j ∧ (grown T).B.length ≤ (((contT T).take j).foldl f (grown T)).B.length := by
  have hG := grown_inv H
  have he : contT (grown T) = [] := empty_cont _ _
  have h := fold_ok hf ((contT T).take j) (grown T) hG.1 (fun r hr => H.good r (List.mem_of_mem_take hr)) (by
    rw [he, List.append_nil]
    have := H.keys
    unfold keysR at *
    rw [List.map_take]
    exact this.sublist (List.take_sublist _ _))
  refine ⟨h.1, ?_, h.2.2⟩
  have hl := h.2.1.length_eq
  rw [he, List.append_nil, List.length_take] at hl
  omega
theorem fold_snoc {α β : Type} (f : β → α → β) (L : List α) (x : β) (j : Nat) (h : j < L.length) : (L.take (j + 1)).foldl f x = f ((L.take j).foldl f x) L[j] := by
  rw [List.take_succ_eq_append_getElem h, List.foldl_append]
  rfl
end Go.Proofs.YtoihkbanmnagkaaGreat
