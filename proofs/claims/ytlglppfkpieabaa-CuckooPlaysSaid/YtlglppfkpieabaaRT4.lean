/-
  What All of the reference's table hands back: all that it has, sorted. No condition but that the table's cells lie in memory, and that its stash is short of 2^19.
-/
import Derived.Test.YtlglppfkpieabaaReg4
import Derived.Test.YtlglppfkpieabaaW11c
import Derived.Test.YtlglppfkpieabaaBkt
import Derived.Test.YtlglppfkpieabaaW12e
import Derived.Test.YtlglppfkpieabaaAct12
import Derived.Deep.LoopGhost
/-
  What All of the reference's bucket hands back: a new row of routes, by place. No condition but that the bucket's cells lie in memory.
-/
set_option linter.unusedSimpArgs false
set_option linter.unusedVariables false
namespace Go.Proofs.Ytlglppfkpieabaa
open Go.RowKit Go.Sort M

set_option maxHeartbeats 2000000 in
set_option maxRecDepth 100000 in
theorem rall4_any (g o : Nat) (C : List Pl) (w : World) (H : RBk w g o C) :
    Calls Try.prog 44 #[.pointer (some ⟨g, o, none⟩)] w fun e w' => NewRts w w' e (allC C) := by
  have HH := Lib.hid H
  have h4 := H.four
  have hg := H.lt
  have HS := Lib.hid (fun i h => allC_snoc C i h)
  have HA := Lib.hid (allC_len C)
  obtain ⟨i0, hi0, iz0, iz1, iz2⟩ := info_parts infoR
  clear H
  go_enter Try.func44, Try.ntmps44
  go_wp2
  go_loopw [3, 4] (fun s3 i wr => ∃ (j : Nat) (p : Option Addr) (c : Nat) (L : List Rt), j ≤ 4 ∧ i = .int .i64 (j : Int) ∧ s3 = .slice p L.length c ∧ L.length ≤ 4 ∧ Hid (L = allC (C.take j)) ∧ wr.ownsRow w.heap.size 48 4 (.slice p L.length c) L.length (rcs L) ∧ Below w.heap.size w wr) (fun _ i _ => 4 - (intOf i).toNat)
  case atStart => exact ⟨0, none, 0, [], by omega, rfl, rfl, by simp, Lib.hid rfl, World.ownsRow_nil _ _ _ _, by go_grown⟩
  case round =>
    obtain ⟨j, p, c, L, hj, rfl, rfl, hL, hLe, hown, hb⟩ := hrel
    have hz := hb.size
    by_cases hlt : j < 4
    · have H1 := HH.out.below hb
      have hs := HS.out j (by omega)
      rw [← hLe.out] at hs
      have hle := allC_len (C.take (j + 1))
      rw [hs] at hle
      have hle2 : (C.take (j + 1)).length ≤ 4 := by simp; omega
      have HLE : Hid ((L ++ (C[j]'(by omega)).toList).length ≤ 4) := by show _ ≤ 4; omega
      have hon := H1.on j (by omega)
      obtain ⟨r0, r1, r2, r3⟩ := H1.rt j (by omega)
      have hgl := H1.lt
      have i1 : (0 : Int) ≤ (j : Int) := by omega
      have i2 : (j : Int) < 4 := by omega
      clear hle hle2 H1
      have HN := Lib.hid hs
      clear hs hLe
      generalize hx : (C[j]'(by omega)) = x at hon r0 r1 r2 r3 HN HLE
      clear hx
      cases x with
      | none =>
        simp only [Option.isSome_none] at hon
        have HN' : Hid (L = allC (C.take (j + 1))) := by show L = _; rw [HN.out]; simp
        clear HN r0 r1 r2 r3
        go_wp2
        go_roundw
        case rel => exact ⟨j + 1, p, c, L, by omega, by go_num, rfl, hL, HN', own_below hown (by go_grown), hb.trans (by go_grown)⟩
        case measure => simp [intOf]; omega
      | some r =>
        simp only [xh, xl, xn, xv, Option.isSome_some] at hon r0 r1 r2 r3
        have HN' : Hid (L ++ [r] = allC (C.take (j + 1))) := by show L ++ [r] = _; rw [HN.out]; simp
        have HL' : Hid ((L ++ [r]).length ≤ 4) := by show _ ≤ 4; exact HLE.out
        have hLl : L.length ≤ 3 := by have := HL'.out; simp at this; omega
        clear HN HLE
        go_wp2_with (at_builtin; go_loud (refine wpList_append_own _ rfl (.tmp 15) (.tmp 22) 43 rfl w.heap.size 48 i0 _ 4 32 Try.underlying43 hi0 iz0 iz1 iz2 rfl (by decide) _ _ _ rfl (hown.alloc _) ⟨wr.heap.size, 0, none⟩ 1 1 (rcell r) rfl rfl (four_new (by simp [go_sem]) (by simp [go_sem]) (by simp [go_sem]) (by simp [go_sem])) (by simp [rcell, Value.oneCell']) (by unfold maxLen; omega) (by omega) (by simp; omega) ?_))
        intro v3 w3 hown3 hg3 _
        have hown4 := own_rsnoc hown3 rfl
        have hw3 : Below w.heap.size w w3 := (hb.alloc hz _).grown hg3 (by simp; omega) (fun j hj => (hown.lt j hj).1)
        obtain ⟨p3, c3, rfl⟩ := own_slice hown4
        clear hown3 hg3 hown hb
        go_wp2
        go_roundw
        case rel => exact ⟨j + 1, p3, c3, L ++ [r], by omega, by go_num, rfl, HL'.out, HN', hown4, hw3⟩
        case measure => simp [intOf]; omega
    · have he : L = allC C := by have := hLe.out; rwa [List.take_of_length_le (by omega)] at this
      have HE := Lib.hid he
      clear he
      go_wp2
      go_ret
      rw [← HE.out]
      exact ⟨p, c, rfl, hown, hb⟩
end Go.Proofs.Ytlglppfkpieabaa
/-
  What All of the reference's table hands back: all that it has, sorted. No condition but that the table's cells lie in memory, and that its stash is short of 2^19.
-/
set_option linter.unusedSimpArgs false
set_option linter.unusedVariables false
namespace Go.Proofs.Ytlglppfkpieabaa
open Go.RowKit Go.Sort M

theorem sortR_snoc (l : List Rt) (x : Rt) : sortR (l ++ [x]) = intoS (sortR l) x := by
  unfold sortR
  rw [List.foldl_append]
  rfl
theorem fold_into_len : ∀ (l M : List Rt), Sorted M → (l.foldl intoS M).length ≤ M.length + l.length
  | [], M, _ => by simp
  | a :: l, M, h => by
    have ih := fold_into_len l (intoS M a) (intoS_sorted a h)
    have hl : (intoS M a).length ≤ M.length + 1 := by
      have := (intoS_perm a h).length_eq
      rw [this, List.length_cons]
      have : (outS M a.k).length ≤ M.length := List.length_filter_le _ _
      omega
    rw [List.foldl_cons, List.length_cons]
    omega
theorem sortR_le (l : List Rt) : (sortR l).length ≤ l.length := by
  have := fold_into_len l [] List.Pairwise.nil
  simpa [sortR] using this
set_option maxRecDepth 100000 in
set_option maxHeartbeats 4000000 in
theorem rall12_any (t g : Nat) (v : Value) (T : Tab) (w : World) (H : Tb RBk w t g v T) (h : Num T) (hf : T.st.length < 524288) :
    Calls Try.prog 17 #[.pointer (some ⟨t, 0, none⟩)] w fun e w' => NewRts w w' e (allT T) := by
  obtain ⟨pv, cv, rfl⟩ := own_slice H.own
  have h4 : ∀ i, i < T.B.length → (T.bk i).length = 4 := fun i hi => (H.bk i hi).four
  have hFL := Lib.hid (flat_le T h4)
  have hF4 := Lib.hid h4
  have hhi := h.hi
  have HA := Lib.hid (fun x (hx : x < T.B.length) w (H : Tb RBk w t g (.slice pv T.st.length cv) T) => rall4_any g (x * 20) (T.bk x) w (H.bk x hx))
  have HI := Lib.hid (fun B p c L r w hR hl => into_any B p c L r w hR hl)
  unfold rtA at HI
  have HH := Lib.hid H
  have hl := H.tlt
  clear H h h4
  go_enter Try.func17, Try.ntmps17
  go_wp2
  go_loopg [3, 4, 5, 6] T.B.length (fun kx s3 s4 s5 s6 wr => ∃ (j : Nat) (L : List Rt) (p : Option Addr) (c : Nat), s4 = .int .i64 (j : Int) ∧ s3 = .slice p L.length c ∧ j ≤ T.B.length ∧ T.B.length - j ≤ kx ∧ L.length ≤ 262144 ∧ Hid (L = sortR ((T.B.take j).flatMap allC)) ∧ Hid (wr.ownsRow w.heap.size 48 4 (.slice p L.length c) L.length (rcs L)) ∧ Hid (Below w.heap.size w wr))
  case atStart => exact ⟨0, [], none, 0, by go_num, rfl, by omega, by omega, by simp, rfl, World.ownsRow_nil _ _ _ _, by show Below _ _ _; go_grown⟩
  case round =>
    obtain ⟨j, L, p, c, rfl, rfl, hj, hk, hLl, HL, HO, HB⟩ := hrel
    have HH1 := Lib.hid (HH.out.below bk_rbk HB.out)
    have c1 := HH1.out.c1
    have hl1 := HH1.out.tlt
    by_cases hlt : j < T.B.length
    · have i1 : (0 : Int) ≤ (j : Int) := by omega
      have i2 : (j : Int) < (T.B.length : Int) := by omega
      have hfl := hFL.out j (by omega)
      have hal := allC_len (T.bk j)
      rw [hF4.out j hlt] at hal
      have HSN := Lib.hid (flat_snoc T j hlt)
      obtain ⟨N, hN⟩ : ∃ N, N = allC (T.bk j) := ⟨_, rfl⟩
      obtain ⟨X, hX⟩ : ∃ X, X = (T.B.take j).flatMap allC := ⟨_, rfl⟩
      have HA1 := HA.out j hlt wr HH1.out
      rw [← hN] at HA1 hal HSN
      rw [← hX] at HSN HL hfl
      have HA1 := Lib.hid HA1
      have HSN := Lib.hid HSN
      clear hN hX
      go_wp2_with fail
      refine HA1.out.mono ?_
      rintro e w2 ⟨p2, q2, rfl, hown2, hb2⟩
      have HOL := Lib.hid (own_below HO.out hb2)
      have HON := Lib.hid hown2
      have HB2 := Lib.hid (HB.out.trans (hb2.mono HB.out.size))
      clear hown2 hb2 HA1 HO c1 hl1 HH1
      go_wp2
      go_loopg [3, 6] N.length (fun ky s3 s6 wr => ∃ (k : Nat) (L : List Rt) (p : Option Addr) (c : Nat), s6 = .int .i64 (k : Int) ∧ s3 = .slice p L.length c ∧ k ≤ N.length ∧ N.length - k ≤ ky ∧ L.length ≤ 262144 ∧ Hid (L = sortR (X ++ N.take k)) ∧ Hid (wr.ownsRow w.heap.size 48 4 (.slice p L.length c) L.length (rcs L)) ∧ Hid (wr.ownsRow w.heap.size 48 4 (.slice p2 N.length q2) N.length (rcs N)) ∧ Hid (Below w.heap.size w wr))
      case atStart => exact ⟨0, L, p, c, by go_num, rfl, by omega, by omega, hLl, by show L = _; rw [HL.out]; simp, HOL, own_le HON.out HB.out.size, HB2⟩
      case round =>
        clear HL HOL HON HB2 HB hLl
        obtain ⟨k, L, p, c, rfl, rfl, hkN, hky, hLl, HL, HO, HON, HB⟩ := hrel
        by_cases hlt2 : k < N.length
        · obtain ⟨gr, o, rfl, hgr, r0, r1, r2, r3⟩ := (Row.of_own HON.out).rt hlt2
          have k1 : (0 : Int) ≤ (k : Int) := by omega
          have k2 : (k : Int) < (N.length : Int) := by omega
          have hLN : Hid (intoS L N[k] = sortR (X ++ N.take (k + 1))) := by
            show intoS L N[k] = _
            rw [HL.out, List.take_succ_eq_append_getElem hlt2, ← List.append_assoc, sortR_snoc]
          have hln : (intoS L N[k]).length ≤ 262144 := by
            rw [hLN.out]
            have := sortR_le (X ++ N.take (k + 1))
            rw [List.length_append, List.length_take] at this
            omega
          have HLN := Lib.hid hln
          have HI1 := Lib.hid (HI.out _ _ _ L N[k] wr HO.out (by omega))
          clear hln
          generalize N[k] = r at *
          go_wp2_with fail
          refine HI1.out.mono ?_
          rintro e w3 ⟨p3, q3, rfl, hown3, hb3⟩
          have HO3 := Lib.hid (own_le hown3 HB.out.size)
          have HN3 := Lib.hid (own_below HON.out hb3)
          have HB3 := Lib.hid (HB.out.trans (hb3.mono HB.out.size))
          have hl3 := HLN.out
          generalize intoS L r = L3 at *
          clear hown3 hb3 HI1
          go_wp2
          go_roundg (N.length - (k + 1))
          case measure => omega
          case rel => exact ⟨k + 1, L3, p3, q3, by go_num, rfl, by omega, by omega, hl3, hLN, HO3, HN3, HB3⟩
        · have hkn : k = N.length := by omega
          have HE : Hid (L = sortR ((T.B.take (j + 1)).flatMap allC)) := by
            show L = _
            rw [HL.out, hkn, List.take_length, HSN.out.out]
          go_wp2
          go_roundg (T.B.length - (j + 1))
          case measure => omega
          case rel => exact ⟨j + 1, L, p, c, by go_num, rfl, by omega, by omega, hLl, HE, HO, HB⟩
    · have hjn : j = T.B.length := by omega
      have hfl := hFL.out T.B.length (Nat.le_refl _)
      obtain ⟨X, hX⟩ : ∃ X, X = T.B.flatMap allC := ⟨_, rfl⟩
      have HE : Hid (L = sortR (X ++ T.st.take 0)) := by
        show L = _
        rw [HL.out, hjn, List.take_length, List.take_zero, List.append_nil, hX]
      have HXL : X.length ≤ 262144 := by rw [List.take_length] at hfl; rw [hX]; omega
      have HX : Hid (allT T = sortR (X ++ T.st)) := by show _ = _; rw [hX]; rfl
      clear hX hfl HL hjn
      go_wp2
      go_loopg [3, 7] T.st.length (fun ky s3 s7 wr => ∃ (k : Nat) (L : List Rt) (p : Option Addr) (c : Nat), s7 = .int .i64 (k : Int) ∧ s3 = .slice p L.length c ∧ k ≤ T.st.length ∧ T.st.length - k ≤ ky ∧ L.length ≤ 786432 ∧ Hid (L = sortR (X ++ T.st.take k)) ∧ Hid (wr.ownsRow w.heap.size 48 4 (.slice p L.length c) L.length (rcs L)) ∧ Hid (Below w.heap.size w wr))
      case atStart => exact ⟨0, L, p, c, by go_num, rfl, by omega, by omega, by omega, HE, HO, HB⟩
      case round =>
        clear HE HO HB hLl HH1 c1 hl1
        obtain ⟨k, L, p, c, rfl, rfl, hkN, hky, hLl, HL, HO, HB⟩ := hrel
        have HH1 := Lib.hid (HH.out.below bk_rbk HB.out)
        have c2 := HH1.out.c2
        have hl1 := HH1.out.tlt
        by_cases hlt2 : k < T.st.length
        · have hrow := (Row.of_own HH1.out.own).rt hlt2
          obtain ⟨gr, o, hpv, hgr, r0, r1, r2, r3⟩ := hrow
          rw [hpv] at c2
          have k1 : (0 : Int) ≤ (k : Int) := by omega
          have k2 : (k : Int) < (T.st.length : Int) := by omega
          have hLN : Hid (intoS L T.st[k] = sortR (X ++ T.st.take (k + 1))) := by
            show intoS L T.st[k] = _
            rw [HL.out, List.take_succ_eq_append_getElem hlt2, ← List.append_assoc, sortR_snoc]
          have hln : (intoS L T.st[k]).length ≤ 786432 := by
            rw [hLN.out]
            have := sortR_le (X ++ T.st.take (k + 1))
            rw [List.length_append, List.length_take] at this
            omega
          have HLN := Lib.hid hln
          have HI1 := Lib.hid (HI.out _ _ _ L T.st[k] wr HO.out (by omega))
          have HPV := Lib.hid hpv
          clear hln hpv
          generalize T.st[k] = r at *
          go_wp2_with fail
          refine HI1.out.mono ?_
          rintro e w3 ⟨p3, q3, rfl, hown3, hb3⟩
          have HO3 := Lib.hid (own_le hown3 HB.out.size)
          have HB3 := Lib.hid (HB.out.trans (hb3.mono HB.out.size))
          have hl3 := HLN.out
          generalize intoS L r = L3 at *
          clear hown3 hb3 HI1
          go_wp2
          go_roundg (T.st.length - (k + 1))
          case measure => omega
          case rel => exact ⟨k + 1, L3, p3, q3, by go_num, rfl, by omega, by omega, hl3, hLN, HO3, HB3⟩
        · have hkn : k = T.st.length := by omega
          have HE : Hid (L = allT T) := by
            show L = _
            rw [HL.out, hkn, List.take_length, HX.out]
          go_wp2
          go_ret
          rw [← HE.out]
          exact ⟨p, c, rfl, HO.out, HB.out⟩
end Go.Proofs.Ytlglppfkpieabaa
