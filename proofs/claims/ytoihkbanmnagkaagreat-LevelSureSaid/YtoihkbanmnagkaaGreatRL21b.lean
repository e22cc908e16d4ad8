/-
  The reference's level: what New, and Turn, leave. No condition but that the level lies in memory, that words are words, and that there are at most 100000 keys.
-/
import Derived.Test.YtoihkbanmnagkaaGreatRT5
import Derived.Test.YtoihkbanmnagkaaGreatW12k
import Derived.Test.YtoihkbanmnagkaaGreatL21b
import Derived.Deep.LoopGhost
import Derived.Test.YtoihkbanmnagkaaGreatL12
import Derived.Test.YtoihkbanmnagkaaGreatW1c
import Derived.Test.YtoihkbanmnagkaaGreatW6c
import Derived.Test.YtoihkbanmnagkaaGreatRT7
import Derived.Test.YtoihkbanmnagkaaGreatAppR
import Derived.Test.YtoihkbanmnagkaaGreatRFil2c
import Derived.Test.YtoihkbanmnagkaaGreatRFil2d
/-
  What All of the reference's table hands back: all that it has, sorted. No condition but that the table's cells lie in memory, and that its stash is short of 2^19.
-/
set_option linter.unusedSimpArgs false
set_option linter.unusedVariables false
namespace Go.Proofs.YtoihkbanmnagkaaGreat
open Go.RowKit Go.Sort M

theorem sortR_snoc4 (l : List Rt) (x : Rt) : sortR (l ++ [x]) = intoS (sortR l) x := by
  unfold sortR
  rw [List.foldl_append]
  rfl
theorem fold_into_len : ∀ (l M : List Rt), Sorted M → (l.foldl intoS M).length ≤ M.length + l.length
  | [], M, _ => by simp
  | a :: l, M, h => by
    have ih := fold_into_len l (intoS M a) (intoS_sorted a h)
    have hl : (intoS M a).length ≤ M.length + 1 := by
      have := (intoS_perm a h).length_eq
      rw [this, List.length_cons]
      have : (outS M a.k).length ≤ M.length := List.length_filter_le _ _
      omega
    rw [List.foldl_cons, List.length_cons]
    omega
theorem sortR_le (l : List Rt) : (sortR l).length ≤ l.length := by
  have := fold_into_len l [] List.Pairwise.nil
  simpa [sortR] using this
set_option maxRecDepth 100000 in
set_option maxHeartbeats 4000000 in
theorem rall12_any (t g : Nat) (v : Value) (T : Tab) (w : World) (H : Tb RBk w t g v T) (h : Num T) (hf : T.st.length < 524288) :
    Calls Tryz.prog 15 #[.pointer (some ⟨t, 0, none⟩)] w fun e w' => NewRts w w' e (allT T) := by
  obtain ⟨pv, cv, rfl⟩ := own_slice H.own
  have h4 : ∀ i, i < T.B.length → (T.bk i).length = 4 := fun i hi => (H.bk i hi).four
  have hFL := Lib.hid (flat_le T h4)
  have hF4 := Lib.hid h4
  have hhi := h.hi
  have HA := Lib.hid (fun x (hx : x < T.B.length) w (H : Tb RBk w t g (.slice pv T.st.length cv) T) => rall4_any g (x * 20) (T.bk x) w (H.bk x hx))
  have HI := Lib.hid (fun B p c L r w hR hl => into_any B p c L r w hR hl)
  unfold rtA at HI
  have HH := Lib.hid H
  have hl := H.tlt
  clear H h h4
  go_enter Tryz.func15, Tryz.ntmps15
  go_wp2
  go_loopg [3, 4, 5, 6] T.B.length (fun kx s3 s4 s5 s6 wr => ∃ (j : Nat) (L : List Rt) (p : Option Addr) (c : Nat), s4 = .int .i64 (j : Int) ∧ s3 = .slice p L.length c ∧ j ≤ T.B.length ∧ T.B.length - j ≤ kx ∧ L.length ≤ 262144 ∧ Hid (L = sortR ((T.B.take j).flatMap allC)) ∧ Hid (wr.ownsRow w.heap.size 58 4 (.slice p L.length c) L.length (rcs L)) ∧ Hid (Below w.heap.size w wr))
  case atStart => exact ⟨0, [], none, 0, by go_num, rfl, by omega, by omega, by simp, rfl, World.ownsRow_nil _ _ _ _, by show Below _ _ _; go_grown⟩
  case round =>
    obtain ⟨j, L, p, c, rfl, rfl, hj, hk, hLl, HL, HO, HB⟩ := hrel
    have HH1 := Lib.hid (HH.out.below bk_rbk HB.out)
    have c1 := HH1.out.c1
    have hl1 := HH1.out.tlt
    by_cases hlt : j < T.B.length
    · have i1 : (0 : Int) ≤ (j : Int) := by omega
      have i2 : (j : Int) < (T.B.length : Int) := by omega
      have hfl := hFL.out j (by omega)
      have hal := allC_len (T.bk j)
      rw [hF4.out j hlt] at hal
      have HSN := Lib.hid (flat_snoc T j hlt)
      obtain ⟨N, hN⟩ : ∃ N, N = allC (T.bk j) := ⟨_, rfl⟩
      obtain ⟨X, hX⟩ : ∃ X, X = (T.B.take j).flatMap allC := ⟨_, rfl⟩
      have HA1 := HA.out j hlt wr HH1.out
      rw [← hN] at HA1 hal HSN
      rw [← hX] at HSN HL hfl
      have HA1 := Lib.hid HA1
      have HSN := Lib.hid HSN
      clear hN hX
      go_wp2_with fail
      refine HA1.out.mono ?_
      rintro e w2 ⟨p2, q2, rfl, hown2, hb2⟩
      have HOL := Lib.hid (own_below HO.out hb2)
      have HON := Lib.hid hown2
      have HB2 := Lib.hid (HB.out.trans (hb2.mono HB.out.size))
      clear hown2 hb2 HA1 HO c1 hl1 HH1
      go_wp2
      go_loopg [3, 6] N.length (fun ky s3 s6 wr => ∃ (k : Nat) (L : List Rt) (p : Option Addr) (c : Nat), s6 = .int .i64 (k : Int) ∧ s3 = .slice p L.length c ∧ k ≤ N.length ∧ N.length - k ≤ ky ∧ L.length ≤ 262144 ∧ Hid (L = sortR (X ++ N.take k)) ∧ Hid (wr.ownsRow w.heap.size 58 4 (.slice p L.length c) L.length (rcs L)) ∧ Hid (wr.ownsRow w.heap.size 58 4 (.slice p2 N.length q2) N.length (rcs N)) ∧ Hid (Below w.heap.size w wr))
      case atStart => exact ⟨0, L, p, c, by go_num, rfl, by omega, by omega, hLl, by show L = _; rw [HL.out]; simp, HOL, own_le HON.out HB.out.size, HB2⟩
      case round =>
        clear HL HOL HON HB2 HB hLl
        obtain ⟨k, L, p, c, rfl, rfl, hkN, hky, hLl, HL, HO, HON, HB⟩ := hrel
        by_cases hlt2 : k < N.length
        · obtain ⟨gr, o, rfl, hgr, r0, r1, r2, r3⟩ := (Row.of_own HON.out).rt hlt2
          have k1 : (0 : Int) ≤ (k : Int) := by omega
          have k2 : (k : Int) < (N.length : Int) := by omega
          have hLN : Hid (intoS L N[k] = sortR (X ++ N.take (k + 1))) := by
            show intoS L N[k] = _
            rw [HL.out, List.take_succ_eq_append_getElem hlt2, ← List.append_assoc, sortR_snoc4]
          have hln : (intoS L N[k]).length ≤ 262144 := by
            rw [hLN.out]
            have := sortR_le (X ++ N.take (k + 1))
            rw [List.length_append, List.length_take] at this
            omega
          have HLN := Lib.hid hln
          have HI1 := Lib.hid (HI.out _ _ _ L N[k] wr HO.out (by omega))
          clear hln
          generalize N[k] = r at *
          go_wp2_with fail
          refine HI1.out.mono ?_
          rintro e w3 ⟨p3, q3, rfl, hown3, hb3⟩
          have HO3 := Lib.hid (own_le hown3 HB.out.size)
          have HN3 := Lib.hid (own_below HON.out hb3)
          have HB3 := Lib.hid (HB.out.trans (hb3.mono HB.out.size))
          have hl3 := HLN.out
          generalize intoS L r = L3 at *
          clear hown3 hb3 HI1
          go_wp2
          go_roundg (N.length - (k + 1))
          case measure => omega
          case rel => exact ⟨k + 1, L3, p3, q3, by go_num, rfl, by omega, by omega, hl3, hLN, HO3, HN3, HB3⟩
        · have hkn : k = N.length := by omega
          have HE : Hid (L = sortR ((T.B.take (j + 1)).flatMap allC)) := by
            show L = _
            rw [HL.out, hkn, List.take_length, HSN.out.out]
          go_wp2
          go_roundg (T.B.length - (j + 1))
          case measure => omega
          case rel => exact ⟨j + 1, L, p, c, by go_num, rfl, by omega, by omega, hLl, HE, HO, HB⟩
    · have hjn : j = T.B.length := by omega
      have hfl := hFL.out T.B.length (Nat.le_refl _)
      obtain ⟨X, hX⟩ : ∃ X, X = T.B.flatMap allC := ⟨_, rfl⟩
      have HE : Hid (L = sortR (X ++ T.st.take 0)) := by
        show L = _
        rw [HL.out, hjn, List.take_length, List.take_zero, List.append_nil, hX]
      have HXL : X.length ≤ 262144 := by rw [List.take_length] at hfl; rw [hX]; omega
      have HX : Hid (allT T = sortR (X ++ T.st)) := by show _ = _; rw [hX]; rfl
      clear hX hfl HL hjn
      go_wp2
      go_loopg [3, 7] T.st.length (fun ky s3 s7 wr => ∃ (k : Nat) (L : List Rt) (p : Option Addr) (c : Nat), s7 = .int .i64 (k : Int) ∧ s3 = .slice p L.length c ∧ k ≤ T.st.length ∧ T.st.length - k ≤ ky ∧ L.length ≤ 786432 ∧ Hid (L = sortR (X ++ T.st.take k)) ∧ Hid (wr.ownsRow w.heap.size 58 4 (.slice p L.length c) L.length (rcs L)) ∧ Hid (Below w.heap.size w wr))
      case atStart => exact ⟨0, L, p, c, by go_num, rfl, by omega, by omega, by omega, HE, HO, HB⟩
      case round =>
        clear HE HO HB hLl HH1 c1 hl1
        obtain ⟨k, L, p, c, rfl, rfl, hkN, hky, hLl, HL, HO, HB⟩ := hrel
        have HH1 := Lib.hid (HH.out.below bk_rbk HB.out)
        have c2 := HH1.out.c2
        have hl1 := HH1.out.tlt
        by_cases hlt2 : k < T.st.length
        · have hrow := (Row.of_own HH1.out.own).rt hlt2
          obtain ⟨gr, o, hpv, hgr, r0, r1, r2, r3⟩ := hrow
          rw [hpv] at c2
          have k1 : (0 : Int) ≤ (k : Int) := by omega
          have k2 : (k : Int) < (T.st.length : Int) := by omega
          have hLN : Hid (intoS L T.st[k] = sortR (X ++ T.st.take (k + 1))) := by
            show intoS L T.st[k] = _
            rw [HL.out, List.take_succ_eq_append_getElem hlt2, ← List.append_assoc, sortR_snoc4]
          have hln : (intoS L T.st[k]).length ≤ 786432 := by
            rw [hLN.out]
            have := sortR_le (X ++ T.st.take (k + 1))
            rw [List.length_append, List.length_take] at this
            omega
          have HLN := Lib.hid hln
          have HI1 := Lib.hid (HI.out _ _ _ L T.st[k] wr HO.out (by omega))
          have HPV := Lib.hid hpv
          clear hln hpv
          generalize T.st[k] = r at *
          go_wp2_with fail
          refine HI1.out.mono ?_
          rintro e w3 ⟨p3, q3, rfl, hown3, hb3⟩
          have HO3 := Lib.hid (own_le hown3 HB.out.size)
          have HB3 := Lib.hid (HB.out.trans (hb3.mono HB.out.size))
          have hl3 := HLN.out
          generalize intoS L r = L3 at *
          clear hown3 hb3 HI1
          go_wp2
          go_roundg (T.st.length - (k + 1))
          case measure => omega
          case rel => exact ⟨k + 1, L3, p3, q3, by go_num, rfl, by omega, by omega, hl3, hLN, HO3, HB3⟩
        · have hkn : k = T.st.length := by omega
          have HE : Hid (L = allT T) := by
            show L = _
            rw [HL.out, hkn, List.take_length, HX.out]
          go_wp2
          go_ret
          rw [← HE.out]
          exact ⟨p, c, rfl, HO.out, HB.out⟩
end Go.Proofs.YtoihkbanmnagkaaGreat
/-
  What grow of the reference's table does, what Put does then is a contract. No condition but that the table's cells lie in memory, and that it has fewer than 2^18 keys.
-/
set_option linter.unusedSimpArgs false
set_option linter.unusedVariables false
namespace Go.Proofs.YtoihkbanmnagkaaGreat
open Go.RowKit Go.Sort M

theorem rgrown_tb {w1 W0 W1 W2 w14 : World} {t g g2 n2 s2 : Nat} {v : Value} {T : Tab} (H : Tb RBk w1 t g v T) (hA : Below w1.heap.size w1 W0) (hg2 : w1.heap.size ≤ g2) (hgW : W0.heap[g2]? = some (.cells (madeCells zR.cells (n2 * 20)) 87 (0, 0)))
    (hW1 : W0.setCell ⟨t, 1, none⟩ (.slice (some ⟨g2, 0, none⟩) n2 n2) = W1) (hb : Below W1.heap.size W1 W2) (he : (W2.setCell ⟨t, 0, none⟩ (.int .u64 (s2 : Int))).setCell ⟨t, 2, none⟩ (.slice none 0 0) = w14) :
    Tb RBk w14 t g2 (.slice none 0 0) (emptyT s2 n2) ∧ Touch (Blk t g v) w1 w14 ∧ ∀ k, Blk t g2 (.slice none 0 0) k → k < w1.heap.size → Blk t g v k := by
  have ht := H.tlt
  have ht0 := Nat.lt_of_lt_of_le ht hA.size
  have hs1 : W1.heap.size = W0.heap.size := by rw [← hW1]; simp
  have ht1 : t < W1.heap.size := by rw [hs1]; exact ht0
  have ht2 := Nat.lt_of_lt_of_le ht1 hb.size
  have a0 := (hA.cell (p := ⟨t, 0, none⟩) ht).trans H.c0
  have a1 := (hA.cell (p := ⟨t, 1, none⟩) ht).trans H.c1
  have a2 := (hA.cell (p := ⟨t, 2, none⟩) ht).trans H.c2
  have b0 : W1.cell? ⟨t, 0, none⟩ = some (.int .u64 (T.s : Int)) := by rw [← hW1]; simp [go_sem, a0]
  have b1 : W1.cell? ⟨t, 1, none⟩ = some (.slice (some ⟨g2, 0, none⟩) n2 n2) := by rw [← hW1]; simp [go_sem, a1]
  have b2 : W1.cell? ⟨t, 2, none⟩ = some v := by rw [← hW1]; simp [go_sem, a2]
  have c0 := (hb.cell (p := ⟨t, 0, none⟩) ht1).trans b0
  have c1 := (hb.cell (p := ⟨t, 1, none⟩) ht1).trans b1
  have c2 := (hb.cell (p := ⟨t, 2, none⟩) ht1).trans b2
  have hne1 : ∀ k, k ≠ t → W1.heap[k]? = W0.heap[k]? := fun k hk => by rw [← hW1, Below.heap_setCell _ ⟨t, 1, none⟩ _ k (by simpa using hk)]
  have hne : ∀ k, k ≠ t → w14.heap[k]? = W2.heap[k]? := fun k hk => by
    rw [← he, Below.heap_setCell _ ⟨t, 2, none⟩ _ k (by simpa using hk), Below.heap_setCell _ ⟨t, 0, none⟩ _ k (by simpa using hk)]
  have hsz : w14.heap.size = W2.heap.size := by rw [← he]; simp
  have hgl0 := (Array.getElem?_eq_some_iff.1 hgW).1
  have hg14 : w14.heap[g2]? = some (.cells (madeCells zR.cells (n2 * 20)) 87 (0, 0)) := (hne g2 (by omega)).trans ((hb.block g2 (by omega)).trans ((hne1 g2 (by omega)).trans hgW))
  have hgl := (Array.getElem?_eq_some_iff.1 hg14).1
  refine ⟨Tb.fresh (fun i hi => made_rbk hg14 hi) hgl (by rw [hsz]; exact ht2) ?_ ?_ ?_ (fun j => ?_) (by omega), ⟨?_, ?_, ?_, ?_, fun k hk hn => ?_⟩, fun k hk hkl => ?_⟩
  · rw [← he]; simp [go_sem, c0]
  · rw [← he]; simp [go_sem, c1]
  · rw [← he]; simp [go_sem, c2]
  · rw [← he]
    simp only [World.frozen?_setCell]
    rw [hb.frozen (p := ⟨t, j, none⟩) ht1, ← hW1]
    simp only [World.frozen?_setCell]
    exact (hA.frozen (p := ⟨t, j, none⟩) ht).trans (H.f j)
  · have : w14.os = W2.os := by rw [← he]; rfl
    rw [this, hb.os, ← hW1]
    exact hA.os
  · have : w14.tape = W2.tape := by rw [← he]; rfl
    rw [this, hb.tape, ← hW1]
    exact hA.tape
  · have : w14.output = W2.output := by rw [← he]; rfl
    rw [this, hb.output, ← hW1]
    exact hA.output
  · have := hA.size
    have := hb.size
    omega
  · have hkt : k ≠ t := fun e => hn (.inl e)
    have := hA.size
    rw [hne k hkt, hb.block k (by omega), hne1 k hkt]
    exact hA.block k hk
  · rcases hk with e | e | e
    · exact .inl e
    · omega
    · simp [Value.ownBlock] at e
set_option maxRecDepth 100000 in
set_option maxHeartbeats 8000000 in
theorem rgrow_core (f : Tab → Rt → Tab) (B0 : Nat) (hf : ∀ T r, Inv T → r.k.good → GrowOk T r (f T r)) (t g : Nat) (v : Value) (T : Tab) (w : World) (H : Tb RBk w t g v T) (HI : Inv T) (hfew : (contT T).length ≤ 262144) (hB0 : B0 ≤ (grown T).B.length)
    (HP : ∀ g1 v1 T1 r w1, Tb RBk w1 t g1 v1 T1 → Inv T1 → r.k.good → (contT T1).length < 262144 → B0 ≤ T1.B.length → Calls Tryz.prog 31 #[.pointer (some ⟨t, 0, none⟩), kyV r.k, .int .i64 r.v] w1 fun e w' => e = .returned (.tuple #[]) ∧ RStep w1 w' t g1 v1 (f T1 r)) :
    Calls Tryz.prog 56 #[.pointer (some ⟨t, 0, none⟩)] w fun e w' => e = .returned (.tuple #[]) ∧ RStep w w' t g v ((contT T).foldl f (grown T)) := by
  have hst : T.st.length < 1048576 := by have := st_le T; omega
  have hlo := HI.lo
  have hhi := HI.hi
  have hl := H.tlt
  have c1 := H.c1
  have h4 : ∀ i, i < T.B.length → (T.bk i).length = 4 := fun i hi => (H.bk i hi).four
  have hFL := Lib.hid (flat_le T h4)
  have HA := Lib.hid (fun x (hx : x < T.B.length) w (H : Tb RBk w t g v T) => rall4_any g (x * 20) (T.bk x) w (H.bk x hx))
  have HMX : Gives Tryz.prog 27 #[.int .u64 (T.s : Int)] (.int .u64 (mixN T.s : Int)) := by
    have := rmix_any (T.s : Int)
    rwa [mixZ_nat _ HI.word] at this
  have HM := Lib.hid HMX
  have hlim := H.blk
  have HLM := Lib.hid hlim
  have HH := Lib.hid H
  have HPP := Lib.hid HP
  have HFP := Lib.hid (fun j hj => fold_pre HI hf j hj)
  have HII := Lib.hid HI
  have HFEW := Lib.hid hfew
  clear H HP hlim HMX h4
  unfold kyV at *
  go_enter Tryz.func56, Tryz.ntmps56
  go_wp2
  go_loopw [2, 3] (fun s2 i wr => ∃ (j : Nat) (L : List Rt), j ≤ T.B.length ∧ i = .int .i64 (j : Int) ∧ Hid (L = (T.B.take j).flatMap allC) ∧ L.length ≤ 262144 ∧ Hid (wr.ownsRow w.heap.size 58 4 s2 L.length (rcs L)) ∧ Below w.heap.size w wr) (fun _ i _ => T.B.length - (intOf i).toNat)
  case atStart => exact ⟨0, [], by omega, rfl, rfl, by simp, World.ownsRow_nil _ _ _ _, by go_grown⟩
  case round =>
    obtain ⟨j, L, hj, rfl, hL, hLl, hown, hb⟩ := hrel
    by_cases hlt : j < T.B.length
    · have HH1 := Lib.hid (HH.out.below bk_rbk hb)
      have c1 := HH1.out.c1
      have hl1 := HH1.out.tlt
      have i1 : (0 : Int) ≤ (j : Int) := by omega
      have i2 : (j : Int) < (T.B.length : Int) := by omega
      have hz := hb.size
      have hfl := hFL.out (j + 1) (by omega)
      have hsn := flat_snoc T j hlt
      rw [hsn, List.length_append, ← hL.out] at hfl
      have HSN := Lib.hid hsn
      have HAL := Lib.hid hfl
      have HA1 := Lib.hid (HA.out j hlt wr HH1.out)
      clear hsn hfl
      go_wp2_with fail
      refine HA1.out.mono ?_
      rintro e w2 ⟨p, c, rfl, hown2, hb2⟩
      have hownL := Lib.hid (own_below hown.out hb2)
      have hown2 := Lib.hid hown2
      have hw2 := hb.trans (hb2.mono hb.size)
      have hz2 := hw2.size
      have hAl := HAL.out
      obtain ⟨N, hN⟩ : ∃ N, N = L ++ allC (T.bk j) := ⟨_, rfl⟩
      have hl3 : N.length ≤ 262144 := by rw [hN, List.length_append]; omega
      have HN := Lib.hid hN
      clear hb2 hown HA1 hN
      go_wp2_with (at_builtin; go_loud (refine wpList_append_rts rfl (.tmp 14) (.tmp 21) rfl w.heap.size wr.heap.size _ _ L (allC (T.bk j)) N HN.out rfl rfl hownL.out hown2.out (by omega) (by omega) ?_))
      intro v3 w3 hown3 hg3 hat
      have hw3 : Below w.heap.size w w3 := hw2.grown hg3 hz2 (fun k hk => (hownL.out.lt k hk).1)
      have hO3 := Lib.hid hown3
      clear hown3 hg3 hat
      go_wp2
      go_roundw
      case rel => exact ⟨j + 1, N, by omega, by go_num, by show _ = _; rw [HSN.out, HN.out, hL.out], hl3, hO3, hw3⟩
      case measure => simp [intOf]; omega
    · have hjn : j = T.B.length := by omega
      have HH1 := Lib.hid (HH.out.below bk_rbk hb)
      have c1 := HH1.out.c1
      have c2 := HH1.out.c2
      have hl1 := HH1.out.tlt
      have hz := hb.size
      have hE : contT T = L ++ T.st := by
        unfold contT
        rw [hL.out, hjn, List.take_length]
      have HE := Lib.hid hE
      clear hE
      go_wp2_with (at_builtin; go_loud (refine wpList_append_rts rfl (.tmp 23) (.tmp 27) rfl w.heap.size 0 _ _ L T.st (contT T) HE.out rfl rfl hown.out HH1.out.own (by omega) (by omega) ?_))
      intro v3 w1 hown3 hg3 hat
      have hw3 : Below w.heap.size w w1 := hb.grown hg3 hz (fun k hk => (hown.out.lt k hk).1)
      obtain ⟨p, c, rfl⟩ := own_slice hown3
      have HO1 := Lib.hid hown3
      clear hown3 hg3 hat hown hb HH1 c1 c2 hl1 hz hl HE hL HA hFL hLl
      have hb1' := Lib.hid hw3
      have HC1 := Lib.hid (HH.out.below bk_rbk hw3)
      have c0 := HC1.out.c0
      have c1 := HC1.out.c1
      have c2 := HC1.out.c2
      have f0 := HC1.out.f 0
      have f1 := HC1.out.f 1
      have f2 := HC1.out.f 2
      have hl1 := HC1.out.tlt
      clear hw3
      obtain ⟨n2, hn2⟩ : ∃ x, x = min (2 * T.B.length) 65536 := ⟨_, rfl⟩
      have hn2a : 1 ≤ n2 ∧ n2 ≤ 65536 := by omega
      have PLA := fun w => make_row Tryz.underlying81 infoRB n2 (by omega) (by unfold maxLen; omega) w
      obtain ⟨MZ, hMZ⟩ : ∃ x, x = madeCells zR.cells (n2 * 20) := ⟨_, rfl⟩
      rw [← hMZ] at PLA
      have HMZ := Lib.hid hMZ
      have hwr : IntKind.i64.wrap (2 * (T.B.length : Int)) = 2 * (T.B.length : Int) := by rw [IntKind.wrap_i64]; omega
      have hcap : (if 2 * (T.B.length : Int) < 1 then (1 : Int) else if 65536 < 2 * (T.B.length : Int) then 65536 else 2 * (T.B.length : Int)) = (n2 : Int) := by
        rw [if_neg (by omega)]
        split <;> omega
      have HCAP := Lib.hid (fun W => cap_any (2 * (T.B.length : Int)) 1 65536 W)
      rw [hcap] at HCAP
      have HN2 := Lib.hid hn2
      clear hMZ hcap hn2 hn2a hlo hhi hfew hst hjn hj hlt
      go_wp2_with fail
      refine (HCAP.out _).mono ?_
      rintro e w4 ⟨rfl, rfl⟩
      go_wp2_with fail
      have hA := (Below.refl w1.heap.size w1).alloc (Nat.le_refl _) (.cells MZ 87)
      have hgW := heap_alloc_new w1 (.cells MZ 87)
      rw [← World.setCell_alloc_past _ _ _ _ hl1]
      generalize World.alloc w1 _ = W0 at hA hgW ⊢
      generalize hW1 : World.setCell W0 _ _ = W1
      have hs1 : W1.heap.size = W0.heap.size := by rw [← hW1]; simp
      have hlW : t < W1.heap.size := by rw [hs1]; exact Nat.lt_of_lt_of_le hl1 hA.size
      have c0 : W1.cell? ⟨t, 0, none⟩ = some (.int .u64 (T.s : Int)) := by rw [← hW1]; simp [go_sem, (hA.cell (p := ⟨t, 0, none⟩) hl1).trans c0]
      have c2 : W1.cell? ⟨t, 2, none⟩ = some v := by rw [← hW1]; simp [go_sem, (hA.cell (p := ⟨t, 2, none⟩) hl1).trans c2]
      have f0 : W1.frozen? ⟨t, 0, none⟩ = false := by rw [← hW1, World.frozen?_setCell]; exact (hA.frozen (p := ⟨t, 0, none⟩) hl1).trans f0
      have f2 : W1.frozen? ⟨t, 2, none⟩ = false := by rw [← hW1, World.frozen?_setCell]; exact (hA.frozen (p := ⟨t, 2, none⟩) hl1).trans f2
      refine (HM.out _).mono ?_
      rintro e w12 ⟨rfl, hb12⟩
      have c0 := (hb12.cell (p := ⟨t, 0, none⟩) hlW).trans c0
      have c2 := (hb12.cell (p := ⟨t, 2, none⟩) hlW).trans c2
      have f0 := (hb12.frozen (p := ⟨t, 0, none⟩) hlW).trans f0
      have f2 := (hb12.frozen (p := ⟨t, 2, none⟩) hlW).trans f2
      have hl12 := Nat.lt_of_lt_of_le hlW hb12.size
      go_wp2_with fail
      generalize he14 : World.setCell _ _ _ = w14
      have hF := Lib.hid (rgrown_tb (s2 := mixN T.s) (n2 := n2) HC1.out hA (Nat.le_refl _) (by rw [← HMZ.out]; exact hgW) hW1 hb12 he14)
      clear he14 hb12 hA hgW hW1 c0 c1 c2 f0 f1 f2 hl12 hlW hs1
      have hG : Hid (grown T = emptyT (mixN T.s) n2) := by show _ = _; unfold grown; rw [HN2.out]
      obtain ⟨L, hL⟩ : ∃ L, L = contT T := ⟨_, rfl⟩
      rw [← hL] at HO1 ⊢
      have hl0 : L.length ≤ 262144 := by rw [hL]; exact HFEW.out
      have HFL : Hid (∀ j, j ≤ L.length → Inv ((L.take j).foldl f (grown T)) ∧ (contT ((L.take j).foldl f (grown T))).length = j ∧ (grown T).B.length ≤ ((L.take j).foldl f (grown T)).B.length) := by rw [hL]; exact HFP.out
      have HGD : Hid (∀ (j : Nat) (hj : j < L.length), (L[j]).k.good) := by
        intro j hj
        exact HII.out.good _ (by rw [← hL]; exact List.getElem_mem hj)
      have hcs0 : RStep w1 w14 t g v ((L.take 0).foldl f (grown T)) := ⟨_, _, by rw [List.take_zero, List.foldl_nil, hG.out]; exact hF.out.1, hF.out.2.1, hF.out.2.2⟩
      have hown : Hid (∀ wr, Touch (Blk t g v) w1 wr → wr.ownsRow w.heap.size 58 4 (.slice p L.length c) L.length (rcs L)) := fun wr ht => Touch.own HO1.out ht fun j hj hk => by
        have h1 := (HO1.out.lt j hj).1
        have h2 := HLM.out j hk
        omega
      have HLL := Lib.hid hL
      clear hL hF hG HFP HII HO1
      generalize hT0 : grown T = T0 at *
      have HT0 := Lib.hid hT0
      clear hT0
      go_loopw [4] (fun i wr => ∃ (j : Nat), j ≤ L.length ∧ i = .int .i64 (j : Int) ∧ Hid (RStep w1 wr t g v ((L.take j).foldl f T0))) (fun i _ => L.length - (intOf i).toNat)
      case atStart => exact ⟨0, by omega, rfl, hcs0⟩
      case round =>
        clear hcs0
        obtain ⟨j, hj, rfl, HQ⟩ := hrel
        by_cases hlt : j < L.length
        · obtain ⟨g1, v1, hC, hT, hS⟩ := HQ.out
          have HC := Lib.hid hC
          have HT := Lib.hid hT
          have HS := Lib.hid hS
          obtain ⟨gr, o, rfl, hgr, r0, r1, r2, r3⟩ := (Row.of_own (hown.out wr hT)).rt hlt
          have i1 : (0 : Int) ≤ (j : Int) := by omega
          have i2 : (j : Int) < (L.length : Int) := by omega
          have HGDj := Lib.hid (HGD.out j hlt)
          have HFLj := Lib.hid (HFL.out j (by omega))
          have HSN := Lib.hid (fold_snoc f L T0 j hlt)
          clear hC hT hS HGD HFL hown
          generalize L[j] = r at *
          go_wp2_with fail
          have kg := cell_grow
          refine region_tail 11 (by kernel_rfl) (by kernel_rfl) ?_
          simp only [List.take_succ_cons, List.take_zero, List.drop_succ_cons, List.drop_zero]
          repeat (any_goals (first | go_big_quiet_step (fail) | quiet_step (fail)))
          refine wpQuiet_nil ?_
          clear kg
          intro w30 hb30
          obtain ⟨hc30, hf30⟩ := bcell hb30
          clear hc30 hf30
          go_wp2_with fail
          refine (HPP.out g1 v1 ((L.take j).foldl f T0) r _ (HC.out.below bk_rbk hb30) HFLj.out.1 HGDj.out (by rw [HFLj.out.2.1]; omega) (Nat.le_trans hB0 HFLj.out.2.2)).mono ?_
          rintro e w2 ⟨rfl, hcs⟩
          have HCS : Hid (RStep w1 w2 t g v ((L.take (j + 1)).foldl f T0)) := by
            have h := RStep.trans (HT.out.trans (Touch.quiet hb30)) HS.out hcs
            rw [← HSN.out] at h
            exact h
          clear hcs hb30
          go_wp2
          go_roundw
          case rel => exact ⟨j + 1, by omega, by go_num, HCS⟩
          case measure => simp [intOf]; omega
        · have hjl : j = L.length := by omega
          have HE : Hid (RStep w1 wr t g v (L.foldl f T0)) := by
            have h2 := HQ.out
            rw [hjl, List.take_length] at h2
            exact h2
          go_wp2
          go_end0
          rw [HT0.out, ← HLL.out]
          exact ⟨rfl, RStep.trans (Touch.quiet hb1'.out) (fun _ h _ => h) HE.out⟩
end Go.Proofs.YtoihkbanmnagkaaGreat
/-
  What Put of the reference's table does, however often the table grows meanwhile. No condition but that the table's cells lie in memory, and that it has fewer than 2^18 keys.
-/
set_option linter.unusedSimpArgs false
set_option linter.unusedVariables false
namespace Go.Proofs.YtoihkbanmnagkaaGreat
open Go.RowKit Go.Sort M

theorem rput_step (d : Nat) (t g : Nat) (v : Value) (T : Tab) (r : Rt) (w : World) (H : Tb RBk w t g v T) (HI : Inv T) (hk : r.k.good) (hfew : (contT T).length < 262144)
    (HG : ∀ g1 v1 w1, grows (stay T r) = true → Tb RBk w1 t g1 v1 (stay T r).1 → Calls Tryz.prog 56 #[.pointer (some ⟨t, 0, none⟩)] w1 fun e w' => e = .returned (.tuple #[]) ∧ RStep w1 w' t g1 v1 (putF d T r)) :
    Calls Tryz.prog 31 #[.pointer (some ⟨t, 0, none⟩), kyV r.k, .int .i64 r.v] w fun e w' => e = .returned (.tuple #[]) ∧ RStep w w' t g v (putF d T r) := by
  have hst := st_le T
  have hgr : ∀ {b}, (stay T r).2 = b → b = false → grows (stay T r) = false := fun h hb => by unfold grows; rw [h, hb]; rfl
  obtain ⟨pv, cv, hv⟩ := own_slice H.own
  cases hr : rep12 T r with
  | some T' =>
    have hs := stay_rep hr
    have hp := putF_stay d (hgr (by rw [hs]) rfl)
    rw [hs] at hp
    rw [hp]
    exact rput_old t g v T T' r w H HI.num hk (by omega) hr
  | none =>
    have hl := fresh_like HI hk hr
    cases h1 : putC (T.bk (T.x1 r.k)) r.k r.v with
    | some C =>
      have hF : fresh T r = (T.set (T.x1 r.k) C, none) := by unfold fresh; rw [h1]
      have hs := stay_in hr (by rw [hF])
      have hp := putF_stay d (hgr (by rw [hs]) rfl)
      rw [hs, hF] at hp
      rw [hp]
      exact rput_first t g v pv cv T r C w H hv HI.num hk (by omega) hr h1
    | none =>
      cases h2 : putC (T.bk (T.x2 r.k)) r.k r.v with
      | some C =>
        have hF : fresh T r = (T.set (T.x2 r.k) C, none) := by unfold fresh; rw [h1]; simp only [h2]
        have hs := stay_in hr (by rw [hF])
        have hp := putF_stay d (hgr (by rw [hs]) rfl)
        rw [hs, hF] at hp
        rw [hp]
        exact rput_second t g v pv cv T r C w H hv HI.num hk (by omega) hr h1 h2
      | none =>
        have hF : fresh T r = kicks 16 0 T (T.x2 r.k) r := by unfold fresh; rw [h1]; simp only [h2]
        obtain ⟨R, hR⟩ : ∃ R, R = kicks 16 0 T (T.x2 r.k) r := ⟨_, rfl⟩
        rw [← hR] at hF
        obtain ⟨T1, o⟩ := R
        have hT2 : ∀ q, o = some q → (stay T r).1 = { T1 with st := intoS T1.st q } := fun q hq => by
          have hs := stay_left hr (by rw [hF]; exact hq : (fresh T r).2 = some q)
          rw [hF] at hs
          rw [hs]
        have hgw : o.isSome = true → grows (stay T r) = (decide (8 < (stay T r).1.st.length) && decide ((stay T r).1.B.length < 65536)) := fun ho => by
          obtain ⟨q, hq⟩ := Option.isSome_iff_exists.1 ho
          have hs := stay_left hr (by rw [hF]; exact hq : (fresh T r).2 = some q)
          unfold grows; rw [hs]; rfl
        refine (rput_kicks t g v pv cv T (T1, o) (stay T r).1 (putF d T r) r w H hv HI.num HI.goodT hk (by omega) hr h1 h2 hR hT2 ?_).mono ?_
        · intro g1 v1 w1 ho H1 hn hb
          exact HG g1 v1 w1 (by rw [hgw ho, decide_eq_true hn, decide_eq_true hb]; rfl) H1
        · rintro e w' ⟨rfl, hno, hyes, hstay⟩
          refine ⟨rfl, ?_⟩
          cases ho : o with
          | none =>
            have hs := stay_in hr (by rw [hF]; exact ho)
            have hp := putF_stay d (hgr (by rw [hs]) rfl)
            rw [hs, hF] at hp
            rw [hp]
            exact hno ho
          | some q =>
            have ho2 : o.isSome = true := by rw [ho]; rfl
            by_cases hcase : 8 < (stay T r).1.st.length ∧ (stay T r).1.B.length < 65536
            · exact hyes ho2 hcase
            · have hp := putF_stay d (T := T) (r := r) (by
                rw [hgw ho2]
                by_cases ha : 8 < (stay T r).1.st.length
                · rw [decide_eq_false (fun hb => hcase ⟨ha, hb⟩), Bool.and_false]
                · rw [decide_eq_false ha, Bool.false_and])
              rw [hp]
              exact hstay ho2 hcase
/-- Put, with so many growths within one another at most as its table can bear. -/
theorem rput_any : ∀ (d : Nat) (t g : Nat) (v : Value) (T : Tab) (r : Rt) (w : World), Tb RBk w t g v T → Inv T → r.k.good → (contT T).length < 262144 → 65536 ≤ T.B.length * 2 ^ d →
    Calls Tryz.prog 31 #[.pointer (some ⟨t, 0, none⟩), kyV r.k, .int .i64 r.v] w fun e w' => e = .returned (.tuple #[]) ∧ RStep w w' t g v (putF d T r)
  | 0, t, g, v, T, r, w, H, HI, hk, hfew, hd => rput_step 0 t g v T r w H HI hk hfew fun g1 v1 w1 hg _ => by
      have hB := (stay_ok HI r hk).like.n
      unfold grows at hg
      simp only [Bool.and_eq_true, decide_eq_true_eq] at hg
      omega
  | d + 1, t, g, v, T, r, w, H, HI, hk, hfew, hd => rput_step (d + 1) t g v T r w H HI hk hfew fun g1 v1 w1 hg H1 => by
      have hS := stay_ok HI r hk
      have hB := hS.like.n
      have hG := grown_inv hS.inv
      have hcn : (contT (stay T r).1).length ≤ 262144 := by
        by_cases hr : rep12 T r = none
        · rw [stay_count_new HI hk hr]; omega
        · rw [stay_count_old HI hk hr]; omega
      have hp : 65536 ≤ (grown (stay T r).1).B.length * 2 ^ d := by
        have h1 : 1 ≤ 2 ^ d := Nat.one_le_two_pow
        rw [hG.2]
        by_cases h2 : 2 * (stay T r).1.B.length ≤ 65536
        · rw [Nat.min_eq_left h2, hB]
          rw [Nat.pow_succ] at hd
          have : 2 * T.B.length * 2 ^ d = T.B.length * (2 ^ d * 2) := by rw [Nat.mul_comm 2, Nat.mul_assoc, Nat.mul_comm 2]
          omega
        · rw [Nat.min_eq_right (by omega)]
          omega
      rw [putF_grow d hg]
      exact rgrow_core (putF d) _ (fun T r H hg => putF_ok d T r H hg) t g1 v1 (stay T r).1 w1 H1 hS.inv hcn (Nat.le_refl _) fun g2 v2 T2 r2 w2 H2 HI2 hk2 hf2 hB2 => rput_any d t g2 v2 T2 r2 w2 H2 HI2 hk2 hf2 (Nat.le_trans hp (Nat.mul_le_mul_right _ hB2))
end Go.Proofs.YtoihkbanmnagkaaGreat
/-
  The reference's level: what New, and Turn, leave. No condition but that the level lies in memory, that words are words, and that there are at most 100000 keys.
-/
set_option linter.unusedSimpArgs false
set_option linter.unusedVariables false
namespace Go.Proofs.YtoihkbanmnagkaaGreat
open Go Go.RowKit Go.Sort M

theorem RLevB.touched {w w' : World} {K S : Nat → Prop} {t : Nat} {V : Lv} {lo hi f g u b : Nat} {v : Value} (H : RLevB w K t V lo hi f g u b v) (ht : Touch S w w') (hn : ∀ j, K j → ¬ S j) : RLevB w' K t V lo hi f g u b v :=
  ⟨Nat.lt_of_lt_of_le H.lt ht.size, ht.cell H.c0 (hn _ H.kt), ht.cell H.c1 (hn _ H.kt), ht.cell H.c2 (hn _ H.kt), H.fil.touched ht (fun j h1 h2 => hn _ (H.kf j ⟨h1, h2⟩)), H.tab.touched bk_rbk ht (fun j hj => hn _ (H.kb j hj)), H.kt, H.kf, H.kb, H.tf, H.tb, H.fb⟩
theorem RLevB.below {w w' : World} {K : Nat → Prop} {t : Nat} {V : Lv} {lo hi f g u b : Nat} {v : Value} (H : RLevB w K t V lo hi f g u b v) (hb : Below w.heap.size w w') : RLevB w' K t V lo hi f g u b v := H.touched (S := fun _ => False) (Touch.quiet hb) (fun _ _ x => x)
theorem RLevB.mono {w : World} {K K' : Nat → Prop} {t : Nat} {V : Lv} {lo hi f g u b : Nat} {v : Value} (H : RLevB w K t V lo hi f g u b v) (h : ∀ j, K j → K' j) : RLevB w K' t V lo hi f g u b v :=
  ⟨H.lt, H.c0, H.c1, H.c2, H.fil, H.tab, h _ H.kt, fun j hj => h _ (H.kf j hj), fun j hj => h _ (H.kb j hj), H.tf, H.tb, H.fb⟩
/-- Its table is written. -/
theorem RLevB.tab_step {w w' : World} {K : Nat → Prop} {t : Nat} {V : Lv} {lo hi f g u b : Nat} {v : Value} {T' : Tab} (H : RLevB w K t V lo hi f g u b v) (S : RStep w w' u b v T') :
    ∃ b' v', RLevB w' (fun j => K j ∨ In w.heap.size w'.heap.size j) t { V with T := T' } lo hi f g u b' v' ∧ Touch K w w' := by
  obtain ⟨b', v', h1, h2, h3⟩ := S
  have hk : Touch K w w' := h2.mono fun k _ hk => H.kb k hk
  refine ⟨b', v', ⟨Nat.lt_of_lt_of_le H.lt h2.size, h2.cell H.c0 H.tb, h2.cell H.c1 H.tb, h2.cell H.c2 H.tb, H.fil.touched h2 (fun j a1 a2 hj => H.fb j hj ⟨a1, a2⟩), h1, .inl H.kt, fun j hj => .inl (H.kf j hj), fun j hj => ?_, H.tf, fun hj => H.tb (h3 t hj H.lt), fun j hj hi => ?_⟩, hk⟩
  · by_cases hl : j < w.heap.size
    · exact .inl (H.kb j (h3 j hj hl))
    · exact .inr ⟨by omega, h1.blk j hj⟩
  · by_cases hl : j < w.heap.size
    · exact H.fb j (h3 j hj hl) hi
    · have := H.fil.top
      have := hi.2
      omega
/-- Its filter is written. -/
theorem RLevB.fil_step {w w' : World} {K : Nat → Prop} {t : Nat} {V : Lv} {lo hi f g u b : Nat} {v : Value} {C' : List Nat} (H : RLevB w K t V lo hi f g u b v) (hf : RFil w' lo hi f g V.s V.k C') (ht : Touch (In lo hi) w w') :
    RLevB w' K t { V with C := C' } lo hi f g u b v ∧ Touch K w w' :=
  ⟨⟨Nat.lt_of_lt_of_le H.lt ht.size, ht.cell H.c0 H.tf, ht.cell H.c1 H.tf, ht.cell H.c2 H.tf, hf, H.tab.touched bk_rbk ht (fun j hj hn => H.fb j hj hn), H.kt, H.kf, H.kb, H.tf, H.tb, H.fb⟩, ht.mono fun k _ hk => H.kf k hk⟩
set_option maxRecDepth 100000 in
set_option maxHeartbeats 2000000 in
theorem rnewlevel_bad (n k m b : Int) (s : Nat) (w : World) (ws : W64 s) (h : badV n k m b) :
    Calls Tryz.prog 7 #[.int .i64 n, .int .u64 (s : Int), .int .i64 k, .int .i64 m, .int .i64 b] w fun e w' => e = .returned (.tuple #[.pointer none, .int .i64 1]) ∧ Below w.heap.size w w' := by
  unfold badV at h
  by_cases h1 : n < 1
  · go_enter Tryz.func7, Tryz.ntmps7
    go_wp2
    go_ret2
    exact ⟨rfl, by go_grown⟩
  · by_cases h2 : 128 < n
    · go_enter Tryz.func7, Tryz.ntmps7
      go_wp2
      go_ret2
      exact ⟨rfl, by go_grown⟩
    · by_cases hf : 1 ≤ k ∧ k ≤ 16 ∧ 1 ≤ m ∧ m ≤ 65536
      · obtain ⟨M, rfl⟩ := Int.eq_ofNat_of_zero_le (show 0 ≤ m by omega)
        have hF := Lib.hid (rnew_any s k M ws hf.1 hf.2.1 (by omega) (by omega) w)
        have hX := Lib.hid (mix_at s ws)
        have hB := Lib.hid (fun W => newtab_bad (mixN s) b W (by omega))
        clear h hf
        go_enter Tryz.func7, Tryz.ntmps7
        go_wp2_with fail
        refine hF.out.mono ?_
        rintro e w1 ⟨f, g, rfl, -, hb1⟩
        clear hF
        go_wp2_with fail
        refine (hX.out _).mono ?_
        rintro e w2 ⟨rfl, hb2⟩
        have hw2 := hb1.trans (hb2.mono hb1.size)
        clear hX hb1 hb2
        go_wp2_with fail
        refine (hB.out _).mono ?_
        rintro e w3 ⟨rfl, hb3⟩
        have hw3 := hw2.trans (hb3.mono hw2.size)
        clear hB hb3 hw2
        go_wp2
        go_ret2
        exact ⟨rfl, hw3⟩
      · have hF := Lib.hid (rnew_bad s k m hf w)
        clear h hf
        go_enter Tryz.func7, Tryz.ntmps7
        go_wp2_with fail
        refine hF.out.mono ?_
        rintro e w1 ⟨rfl, hb1⟩
        clear hF
        go_wp2
        go_ret2
        exact ⟨rfl, hb1⟩
set_option maxRecDepth 100000 in
set_option maxHeartbeats 2000000 in
theorem rnewlevel_any (n k : Int) (s m b : Nat) (w : World) (ws : W64 s) (h : ¬ badV n k m b) :
    Calls Tryz.prog 7 #[.int .i64 n, .int .u64 (s : Int), .int .i64 k, .int .i64 (m : Int), .int .i64 (b : Int)] w fun e w' =>
      ∃ t, e = .returned (.tuple #[.pointer (some ⟨t, 0, none⟩), .int .i64 0]) ∧ RLev w' (In w.heap.size w'.heap.size) t (newV n s k m b) ∧ Below w.heap.size w w' := by
  unfold badV at h
  obtain ⟨h1, h2, hf, h3, h4⟩ := Classical.not_not.1 h
  have hF := Lib.hid (rnew_any s k m ws hf.1 hf.2.1 (by omega) (by omega) w)
  have hX := Lib.hid (mix_at s ws)
  have hB := Lib.hid (fun W => newtab_any (mixN s) b W (by omega) (by omega))
  have n1 : ¬ n < 1 := by omega
  have n2 : ¬ 128 < n := by omega
  clear h hf
  go_enter Tryz.func7, Tryz.ntmps7
  go_wp2_with fail
  refine hF.out.mono ?_
  rintro e w1 ⟨f, g, rfl, hfil, hb1⟩
  have HF := Lib.hid hfil
  clear hF hfil
  go_wp2_with fail
  refine (hX.out _).mono ?_
  rintro e w2 ⟨rfl, hb2⟩
  have hw2 := hb1.trans (hb2.mono hb1.size)
  have HF2 := Lib.hid (HF.out.below hb2)
  clear hX HF
  go_wp2_with fail
  refine (hB.out _).mono ?_
  rintro e w3 ⟨u, rfl, bb, htb, hb3, hu, hbb⟩
  have hw3 := hw2.trans (hb3.mono hw2.size)
  have HF3 := Lib.hid (HF2.out.below hb3)
  have HT := Lib.hid htb
  have hz1 := hb1.size
  have hz2 := hb2.size
  have hz3 := hb3.size
  have hlu := htb.tlt
  have hlb := htb.blt
  clear hB hw2 HF2 htb
  go_wp2
  go_ret2
  refine ⟨w3.heap.size, rfl, ⟨w.heap.size, w1.heap.size, f, g, u, bb, .slice none 0 0, ?_⟩, by go_grown⟩
  have hbl : Below w3.heap.size w3 (w3.alloc (.cells #[.int .i64 n, .pointer (some ⟨f, 0, none⟩), .pointer (some ⟨u, 0, none⟩)] 52)) := by go_grown
  refine ⟨by simp, by simp [go_sem, newV], by simp [go_sem], by simp [go_sem], HF3.out.below hbl, HT.out.below bk_rbk hbl, ⟨by omega, by simp⟩, fun j hj => ⟨hj.1, by have := hj.2; simp; omega⟩, fun j hj => ?_, fun hj => by have := hj.2; omega, fun hj => ?_, fun j hj hi => ?_⟩
  · rcases hj with rfl | rfl | hj
    · exact ⟨by omega, by simp; omega⟩
    · exact ⟨by omega, by simp; omega⟩
    · cases hj
  · rcases hj with hj | hj | hj
    · omega
    · omega
    · cases hj
  · have := hi.2
    rcases hj with rfl | rfl | hj
    · omega
    · omega
    · cases hj
end Go.Proofs.YtoihkbanmnagkaaGreat
