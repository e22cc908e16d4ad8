/-
  CuckooKeeps as a walk: it hands back true, for every input. No condition but that the seed is a word of 64 bits, the count a whole number of 64 bits, and that the row of calls lies in old memory.
-/
import Derived.Test.YtlglppfkpieabaaW12m
import Derived.Test.YtlglppfkpieabaaW12l
import Derived.Test.YtlglppfkpieabaaAct12
import Derived.Test.YtlglppfkpieabaaW1c
import Derived.Deep.RegionHeld3
import Derived.Deep.LoopGhost
set_option linter.unusedSimpArgs false
set_option linter.unusedVariables false
namespace Go.Proofs.Ytlglppfkpieabaa
open Go.RowKit Go.Sort M

theorem outS_len : ∀ (L : List Rt) (k : Ky), (keysR L).Nodup → (outS L k).length + (if k ∈ keysR L then 1 else 0) = L.length
  | [], k, _ => by simp [outS, keysR]
  | a :: L, k, h => by
    have h1 : a.k ∉ keysR L ∧ (keysR L).Nodup := by
      unfold keysR at *
      rw [List.map_cons, List.nodup_cons] at h
      exact h
    have ih := outS_len L k h1.2
    by_cases e : a.k = k
    · have e1 : outS (a :: L) k = outS L k := by unfold outS; rw [List.filter_cons, if_neg (by simp [e])]
      have e2 : k ∈ keysR (a :: L) := by unfold keysR; simp [e]
      have e3 : k ∉ keysR L := by rw [← e]; exact h1.1
      rw [e1, if_pos e2, List.length_cons]
      rw [if_neg e3] at ih
      omega
    · have e1 : outS (a :: L) k = a :: outS L k := by unfold outS; rw [List.filter_cons, if_pos (by simp [e])]
      have e2 : k ∈ keysR (a :: L) ↔ k ∈ keysR L := by unfold keysR; simp [Ne.symm e]
      rw [e1, List.length_cons, List.length_cons]
      by_cases hm : k ∈ keysR L
      · rw [if_pos (e2.2 hm)]
        rw [if_pos hm] at ih
        omega
      · rw [if_neg (fun x => hm (e2.1 x))]
        rw [if_neg hm] at ih
        omega
theorem Kept.nodup {T : Tab} {N : List Rt} (H : Kept T N) : (keysR (contT T)).Nodup := (keysR_perm H.all).nodup_iff.2 H.sort.nodup
theorem Kept.del_len {T : Tab} {N : List Rt} (H : Kept T N) (k : Ky) : (if (delT T k).2 = true then ((contT T).length : Int) - 1 else ((contT T).length : Int)) = ((contT (delT T k).1).length : Int) := by
  have h := delT_ok H.inv k
  have h1 := h.2.1.length_eq
  have h2 := outS_len (contT T) k H.nodup
  by_cases e : (delT T k).2 = true
  · rw [if_pos e]
    rw [if_pos (h.2.2.1 e)] at h2
    omega
  · rw [if_neg e]
    rw [if_neg (fun x => e (h.2.2.2 x))] at h2
    omega
theorem into_len {N : List Rt} (r : Rt) (h : Sorted N) : (intoS N r).length ≤ N.length + 1 := by
  rw [(intoS_perm r h).length_eq, List.length_cons]
  have : (outS N r.k).length ≤ N.length := List.length_filter_le _ _
  omega
theorem outS_le (N : List Rt) (k : Ky) : (outS N k).length ≤ N.length := List.length_filter_le _ _
theorem del_B (T : Tab) (k : Ky) : (delT T k).1.B.length = T.B.length := by
  unfold delT
  split
  · simp [Tab.set]
  · split
    · simp [Tab.set]
    · rfl
theorem Seat.del {P : Nat → Prop} (t : Nat) (T : Tab) {N : List Rt} (k : Ky) (w : World) (H : Seat P w t T) (HK : Kept T N) (hk : k.good) (hfew : (contT T).length < 262144) (hP : ∀ k, w.heap.size ≤ k → P k) :
    Calls Try.prog 11 #[.pointer (some ⟨t, 0, none⟩), kyV k] w fun e w' => e = .returned (.bool (delT T k).2) ∧ Seat P w' t (delT T k).1 ∧ Touch P w w' := by
  obtain ⟨g, v, h, hp⟩ := H
  have hst := st_le T
  refine (delete12_any t g v T _ k w h HK.inv.num hk (by omega) (by omega) HK.inv.sort (by omega)).mono ?_
  rintro e w' ⟨rfl, g', v', h', ht, hs⟩
  rw [HK.del_len] at h'
  refine ⟨rfl, ⟨g', v', h', fun k hk' => ?_⟩, ht.mono fun k _ hk => hp k hk⟩
  by_cases e : k < w.heap.size
  · exact hp k (hs k hk' e)
  · exact hP k (by omega)
theorem Seat.all {P : Nat → Prop} (t : Nat) (T : Tab) {N : List Rt} (w : World) (H : Seat P w t T) (HK : Kept T N) (hfew : (contT T).length < 262144) :
    Calls Try.prog 19 #[.pointer (some ⟨t, 0, none⟩)] w fun e w' => ∃ p c, e = .returned (.slice p N.length c) ∧ Row w' p (rcs N) ∧ Below w.heap.size w w' := by
  obtain ⟨g, v, h, hp⟩ := H
  have hst := st_le T
  refine (all12_any t g v T _ w h HK.inv.num (by omega) HK.nodup).mono ?_
  rintro e w' ⟨p, c, M, rfl, hr, m1, m2, hb⟩
  have := HK.sorted m2 m1
  subst this
  exact ⟨p, c, rfl, hr, hb⟩
/-- The table and the law's own row, each in blocks of its own. -/
structure KeepsP (w wr : World) (t : Nat) (T : Tab) (N : List Rt) (vn : Value) : Prop where
  seat : Seat (fun k => w.heap.size ≤ k ∧ vn.ownBlock ≠ some k) wr t T
  own : wr.ownsRow w.heap.size 48 4 vn N.length (rcs N)
  below : Below w.heap.size w wr
theorem KeepsP.quiet {w wr wx : World} {t : Nat} {T : Tab} {N : List Rt} {vn : Value} (H : KeepsP w wr t T N vn) (hb : Below wr.heap.size wr wx) : KeepsP w wx t T N vn := ⟨H.seat.below hb, own_below H.own hb, H.below.trans (hb.mono H.below.size)⟩
theorem KeepsP.turn {w wr wx : World} {t : Nat} {T T' : Tab} {N : List Rt} {vn : Value} (H : KeepsP w wr t T N vn) (hs : Seat (fun k => w.heap.size ≤ k ∧ vn.ownBlock ≠ some k) wx t T') (ht : Touch (fun k => w.heap.size ≤ k ∧ vn.ownBlock ≠ some k) wr wx) : KeepsP w wx t T' N vn :=
  ⟨hs, Touch.own H.own ht (fun j e hj => hj.2 e), H.below.trans (ht.below H.below.size fun k hk => hk.1)⟩
theorem KeepsP.row {w wr wx : World} {t : Nat} {T : Tab} {N M : List Rt} {vn : Value} {p : Option Addr} {c : Nat} (H : KeepsP w wr t T N vn) (ho : wx.ownsRow wr.heap.size 48 4 (.slice p M.length c) M.length (rcs M)) (hb : Below wr.heap.size wr wx) : KeepsP w wx t T M (.slice p M.length c) := by
  refine ⟨(H.seat.mono (Q := fun k => w.heap.size ≤ k ∧ (Value.slice p M.length c).ownBlock ≠ some k) fun k hk hp => ⟨hp.1, fun e => ?_⟩).below hb, own_le ho H.below.size, H.below.trans (hb.mono H.below.size)⟩
  have := (ho.lt k e).1
  omega
theorem KeepsP.new {w wr : World} {t : Nat} {T : Tab} {N : List Rt} {vn : Value} (H : KeepsP w wr t T N vn) : ∀ k, wr.heap.size ≤ k → w.heap.size ≤ k ∧ vn.ownBlock ≠ some k := by
  intro k hk
  exact ⟨Nat.le_trans H.below.size hk, fun e => by have := (H.own.lt k e).2; omega⟩
theorem stI_ge (L : List Rt) (k : Ky) : decide (0 ≤ stI L k) = decide (k ∈ keysR L) := by
  rw [decide_eq_decide, ← find_tells]
  unfold stI
  cases h : findS L k with
  | none => simp
  | some i => simp
set_option maxRecDepth 100000 in
set_option maxHeartbeats 8000000 in
theorem keeps_walk (s : Nat) (n : Int) (p : Option Addr) (q : Nat) (A : List (Int × Rt)) (ws : W64 s) (w : World) (hR : RowA 5 act12 w p A) (hg : ∀ a ∈ A, a.2.k.good) (hA : A.length ≤ maxLen) :
    Calls Try.prog 4 #[.int .u64 s, .int .i64 n, .slice p A.length q] w fun e w' => e = .returned (.bool true) ∧ Below w.heap.size w w' := by
  have HA := Lib.hid alive12_any
  have HR := Lib.hid hR
  have HG := Lib.hid hg
  unfold maxLen at hA
  clear hR hg
  by_cases n0 : n < 1
  · have n1 := n0
    go_enter Try.func4, Try.ntmps4
    go_wp2_with fail
    refine (HA.out _).mono ?_
    rintro e0 w0 ⟨rfl, hb0⟩
    have hw0 : Below w.heap.size w w0 := by
      refine Below.trans ?_ (hb0.mono ?_)
      · go_grown
      · go_size
    go_wp2
    go_ret
    exact ⟨rfl, by go_grown⟩
  · by_cases n1 : 40 < n
    · have n2 := n1
      go_enter Try.func4, Try.ntmps4
      go_wp2_with fail
      refine (HA.out _).mono ?_
      rintro e0 w0 ⟨rfl, hb0⟩
      have hw0 : Below w.heap.size w w0 := by
        refine Below.trans ?_ (hb0.mono ?_)
        · go_grown
        · go_size
      go_wp2
      go_ret
      exact ⟨rfl, by go_grown⟩
    · by_cases l0 : (200 : Int) < (A.length : Int)
      · have l1 := l0
        go_enter Try.func4, Try.ntmps4
        go_wp2_with fail
        refine (HA.out _).mono ?_
        rintro e0 w0 ⟨rfl, hb0⟩
        have hw0 : Below w.heap.size w w0 := by
          refine Below.trans ?_ (hb0.mono ?_)
          · go_grown
          · go_size
        go_wp2
        go_ret
        exact ⟨rfl, by go_grown⟩
      · obtain ⟨B, rfl⟩ := Int.eq_ofNat_of_zero_le (show 0 ≤ n by omega)
        have HN := Lib.hid (num12_any 0)
        go_enter Try.func4, Try.ntmps4
        go_wp2_with fail
        refine (HA.out _).mono ?_
        rintro e0 w0 ⟨rfl, hb0⟩
        have hw0 : Below w.heap.size w w0 := by
          refine Below.trans ?_ (hb0.mono ?_)
          · go_grown
          · go_size
        have hz0 := hw0.size
        go_wp2_with fail
        refine (Seat.new s B _ (by omega) (by omega)).mono ?_
        rintro e w1 ⟨t, rfl, H1, hb1⟩
        have hw1 := hw0.trans (hb1.mono hz0)
        have H1 : Seat (fun k => w.heap.size ≤ k) w1 t (emptyT s B) := H1.mono fun k _ hk => Nat.le_trans hz0 hk
        clear hb1 hw0 hz0
        go_wp2_with fail
        refine (HN.out _).mono ?_
        rintro e w2 ⟨rfl, hb2⟩
        have hw2 := hw1.trans (hb2.mono hw1.size)
        have H2 := H1.below hb2
        have HK0 : KeepsP w w2 t (emptyT s B) [] (.slice none 0 0) := ⟨H2.mono fun k _ hk => ⟨hk, by simp [Value.ownBlock]⟩, World.ownsRow_nil _ _ _ _, hw2⟩
        clear hb2 H1 hw1 H2 hw2
        have HE0 : Kept (emptyT s B) [] := Kept.empty ws (by omega) (by omega)
        have hEB : B ≤ (emptyT s B).B.length := by simp [emptyT]
        go_wp2_with fail
        go_loopg [10, 11] A.length (fun gk n10 i11 wr => ∃ (i : Nat) (T : Tab) (N : List Rt), gk + i = A.length ∧ i11 = .int .i64 (i : Int) ∧ N.length ≤ i ∧ Hid (Kept T N ∧ B ≤ T.B.length) ∧ Hid (KeepsP w wr t T N n10))
        case atStart => exact ⟨0, _, [], by omega, rfl, Nat.le_refl _, Lib.hid ⟨HE0, hEB⟩, HK0⟩
        case round =>
          clear HE0 hEB HK0
          obtain ⟨i, T, N, hi, rfl, hN, HKT, HP⟩ := hrel
          obtain ⟨pn, cn, rfl⟩ := own_slice HP.out.own
          have HK := Lib.hid HKT.out.1
          have HB := Lib.hid HKT.out.2
          clear HKT
          by_cases hlt : i < A.length
          · obtain ⟨ga, oa, rfl, hga, d0, d1, d2, d3, d4⟩ := HR.out.act12 hlt
            have hgood := HG.out _ (List.getElem_mem hlt)
            obtain ⟨a, ha⟩ : ∃ a, a = A[i] := ⟨_, rfl⟩
            rw [← ha] at d0 d1 d2 d3 d4 hgood
            obtain ⟨way, ⟨⟨kh, kl, kn⟩, kv⟩⟩ := a
            simp only at d0 d1 d2 d3 d4 hgood
            have HW := Lib.hid (fun (wx : World) (hb : Below w.heap.size w wx) => And.intro ((hb.cell (p := ⟨ga, oa + i * 5, none⟩) hga).trans d0) (And.intro ((hb.cell (p := ⟨ga, oa + i * 5 + 1, none⟩) hga).trans d1) (And.intro ((hb.cell (p := ⟨ga, oa + i * 5 + 2, none⟩) hga).trans d2) (And.intro ((hb.cell (p := ⟨ga, oa + i * 5 + 3, none⟩) hga).trans d3) (And.intro ((hb.cell (p := ⟨ga, oa + i * 5 + 4, none⟩) hga).trans d4) (Nat.lt_of_lt_of_le hga hb.size))))))
            have HGD := Lib.hid hgood
            clear d0 d1 d2 d3 d4 hgood ha
            obtain ⟨e0, e1, e2, e3, e4, hgr⟩ := HW.out _ HP.out.below
            have hNl : (contT T).length < 262144 := by have := HK.out.len; omega
            by_cases hway : way = 1
            · have hwz : (way == 1) = true := by simp [hway]
              have hD := fun wx H hP => Seat.del (P := fun k => w.heap.size ≤ k ∧ (Value.slice pn N.length cn).ownBlock ≠ some k) t T ⟨kh, kl, kn⟩ wx H HK.out HGD.out hNl hP
              have hF := fun wx hR => find12_any pn cn N ⟨kh, kl, kn⟩ wx hR (by omega)
              have hsame : (delT T ⟨kh, kl, kn⟩).2 = decide (0 ≤ stI N ⟨kh, kl, kn⟩) := by
                rw [stI_ge]
                cases hd : (delT T ⟨kh, kl, kn⟩).2 with
                | true => rw [decide_eq_true ((HK.out.del_tells _).1 hd)]
                | false => rw [decide_eq_false (fun h => by have := (HK.out.del_tells _).2 h; rw [hd] at this; cases this)]
              have HK2 := Lib.hid (And.intro (HK.out.del ⟨kh, kl, kn⟩) (show B ≤ (delT T ⟨kh, kl, kn⟩).1.B.length by rw [del_B]; exact HB.out))
              obtain ⟨T2, hT2⟩ : ∃ T2, T2 = (delT T ⟨kh, kl, kn⟩).1 := ⟨_, rfl⟩
              obtain ⟨fi, hfi⟩ : ∃ fi, fi = stI N ⟨kh, kl, kn⟩ := ⟨_, rfl⟩
              rw [← hfi] at hF hsame
              rw [hsame, ← hT2] at hD
              rw [← hT2] at HK2
              unfold kyV at hD hF
              have HD := Lib.hid hD
              have HF := Lib.hid hF
              have HWO := Lib.hid (fun wx hR => without12_any pn cn N ⟨kh, kl, kn⟩ wx hR (by omega))
              have hol := outS_le N ⟨kh, kl, kn⟩
              obtain ⟨N2, hN2⟩ : ∃ N2, N2 = outS N ⟨kh, kl, kn⟩ := ⟨_, rfl⟩
              rw [← hN2] at HWO HK2 hol
              unfold kyV at HWO
              clear hD hF hsame hT2 hfi hN2 hway hNl HGD
              go_wp2_with fail
              go_region_held3 (fun w' => w'.cell? ⟨ga, oa + i * 5 + 2, none⟩ = some (.int .u64 (kh : Int)) ∧ w'.cell? ⟨ga, oa + i * 5 + 3, none⟩ = some (.int .u64 (kl : Int)) ∧ w'.cell? ⟨ga, oa + i * 5 + 4, none⟩ = some (.int .i64 kn))
                (first
                  | go_keep
                  | exact ⟨a0, a1, a2⟩
                  | exact ⟨b0, b1, b2⟩)
                (first
                  | (go_at_call 11; refine (HD.out _ (HP.out.quiet (by go_grown)).seat (HP.out.quiet (by go_grown)).new).mono ?_; rintro e w3 ⟨rfl, hs3, ht3⟩; have P3 := (HP.out.quiet (by go_grown)).turn hs3 ht3; obtain ⟨-, -, a0, a1, a2, ag⟩ := HW.out _ P3.below)
                  | (go_at_call 24; refine (HF.out _ (Row.of_own P3.own)).mono ?_; rintro e w4 ⟨rfl, hb4⟩; have P4 := P3.quiet hb4; obtain ⟨-, -, b0, b1, b2, bg⟩ := HW.out _ P4.below))
              have HP4 := Lib.hid P4
              clear hs3 ht3 P3 hb4 P4 HD HF HP e0 e1 e2 e3 e4 hgr a0 a1 a2 ag HK HB
              go_wp2_with fail
              refine (HWO.out _ (Row.of_own HP4.out.own)).mono ?_
              rintro e w5 ⟨p5, c5, rfl, ho5, hb5⟩
              have HP5 := Lib.hid (HP4.out.row ho5 hb5)
              clear ho5 hb5 HP4 HWO b0 b1 b2 bg
              have HLN := Lib.hid (fun wx H => Seat.len (P := fun k => w.heap.size ≤ k ∧ (Value.slice p5 N2.length c5).ownBlock ≠ some k) t T2 wx H)
              go_wp2_with fail
              refine (HLN.out _ HP5.out.seat).mono ?_
              rintro e w8 ⟨rfl, hb8⟩
              have HP8 := Lib.hid (HP5.out.quiet hb8)
              rw [HK2.out.1.len]
              clear hb8 HLN HP5
              go_wp2_with fail
              go_roundg (gk - 1)
              case measure => omega
              case rel => exact ⟨i + 1, T2, N2, by omega, by go_num, by omega, HK2, HP8⟩
            · have hwz : (way == 1) = false := by simp [hway]
              have hP := fun wx H hP => Seat.put (P := fun k => w.heap.size ≤ k ∧ (Value.slice pn N.length cn).ownBlock ≠ some k) t T ⟨⟨kh, kl, kn⟩, kv⟩ wx H HK.out.inv HGD.out hNl hP
              have hlen := (putF_ok 16 T ⟨⟨kh, kl, kn⟩, kv⟩ HK.out.inv HGD.out).len
              have HK2 := Lib.hid (And.intro (HK.out.put 16 ⟨⟨kh, kl, kn⟩, kv⟩ HGD.out) (Nat.le_trans HB.out hlen))
              obtain ⟨T2, hT2⟩ : ∃ T2, T2 = putF 16 T ⟨⟨kh, kl, kn⟩, kv⟩ := ⟨_, rfl⟩
              rw [← hT2] at hP HK2
              unfold kyV at hP
              have HPUT := Lib.hid hP
              have hin := fun wx hR => into_any w.heap.size pn cn N ⟨⟨kh, kl, kn⟩, kv⟩ wx hR (by omega)
              have hol := into_len ⟨⟨kh, kl, kn⟩, kv⟩ HK.out.sort
              obtain ⟨N2, hN2⟩ : ∃ N2, N2 = intoS N ⟨⟨kh, kl, kn⟩, kv⟩ := ⟨_, rfl⟩
              rw [← hN2] at hin HK2 hol
              unfold rtA at hin
              have HIN := Lib.hid hin
              clear hP hin hlen hT2 hN2 hway hNl HGD HK HB
              go_wp2_with fail
              have kg := cell_grow
              refine region_tail 11 (by kernel_rfl) (by kernel_rfl) ?_
              simp only [List.take_succ_cons, List.take_zero, List.drop_succ_cons, List.drop_zero]
              repeat (any_goals (first | go_big_quiet_step (fail) | quiet_step (fail)))
              refine wpQuiet_nil ?_
              clear kg
              intro w3 hb3
              obtain ⟨hc3, hf3⟩ := bcell hb3
              have HP3 := Lib.hid (HP.out.quiet hb3)
              clear hb3 HP e0 e1 e2 e3 e4 hgr
              go_wp2_with fail
              refine (HPUT.out _ HP3.out.seat HP3.out.new).mono ?_
              rintro e w4 ⟨rfl, hs4, ht4⟩
              have HP4 := Lib.hid (HP3.out.turn hs4 ht4)
              obtain ⟨e0, e1, e2, e3, e4, hgr⟩ := HW.out _ HP4.out.below
              clear hs4 ht4 HP3 HPUT
              go_wp2_with fail
              have kg := cell_grow
              refine region_tail 12 (by kernel_rfl) (by kernel_rfl) ?_
              simp only [List.take_succ_cons, List.take_zero, List.drop_succ_cons, List.drop_zero]
              repeat (any_goals (first | go_big_quiet_step (fail) | quiet_step (fail)))
              refine wpQuiet_nil ?_
              clear kg
              intro w6 hb6
              obtain ⟨hc6, hf6⟩ := bcell hb6
              have HP6 := Lib.hid (HP4.out.quiet hb6)
              clear hb6 HP4 e0 e1 e2 e3 e4 hgr
              go_wp2_with fail
              refine (HIN.out _ HP6.out.own).mono ?_
              rintro e w7 ⟨p5, c5, rfl, ho5, hb5⟩
              have HP5 := Lib.hid (HP6.out.row ho5 hb5)
              clear ho5 hb5 HP6 HIN
              have HLN := Lib.hid (fun wx H => Seat.len (P := fun k => w.heap.size ≤ k ∧ (Value.slice p5 N2.length c5).ownBlock ≠ some k) t T2 wx H)
              go_wp2_with fail
              refine (HLN.out _ HP5.out.seat).mono ?_
              rintro e w8 ⟨rfl, hb8⟩
              have HP8 := Lib.hid (HP5.out.quiet hb8)
              rw [HK2.out.1.len]
              clear hb8 HLN HP5
              go_wp2_with fail
              go_roundg (gk - 1)
              case measure => omega
              case rel => exact ⟨i + 1, T2, N2, by omega, by go_num, by omega, HK2, HP8⟩
          · have hNl : (contT T).length < 262144 := by have := HK.out.len; omega
            have HGET := Lib.hid (fun (k : Nat) (hk : k < N.length) wx H => Seat.get (P := fun k => w.heap.size ≤ k ∧ (Value.slice pn N.length cn).ownBlock ≠ some k) t T N[k].k wx H HK.out.inv (HK.out.inv.good _ (HK.out.all.mem_iff.2 (List.getElem_mem hk))) hNl)
            have HSZ := Lib.hid (fun wx H => Seat.size (P := fun k => w.heap.size ≤ k ∧ (Value.slice pn N.length cn).ownBlock ≠ some k) t T wx H)
            have HALL := Lib.hid (fun wx H => Seat.all (P := fun k => w.heap.size ≤ k ∧ (Value.slice pn N.length cn).ownBlock ≠ some k) t T wx H HK.out hNl)
            have HBB := HB.out
            go_wp2
            go_loopg [12] N.length (fun gk i12 wr => ∃ k : Nat, gk + k = N.length ∧ i12 = .int .i64 (k : Int) ∧ Hid (KeepsP w wr t T N (.slice pn N.length cn)))
            case atStart => exact ⟨0, by omega, rfl, HP⟩
            case round =>
              clear HP
              obtain ⟨k, hk, rfl, HP⟩ := hrel
              by_cases hkl : k < N.length
              · have hG := HGET.out k hkl
                have hget := HK.out.get (List.getElem_mem hkl)
                obtain ⟨gr, or, rfl, hgr, r0, r1, r2, r3⟩ := (Row.of_own HP.out.own).rt hkl
                obtain ⟨r, hr⟩ : ∃ r, r = N[k] := ⟨_, rfl⟩
                rw [← hr] at r0 r1 r2 r3
                simp only [← hr] at hG hget
                have hrl := read_len T r.k
                obtain ⟨rl, hrl2⟩ : ∃ rl, rl = (readT T r.k).length := ⟨_, rfl⟩
                rw [hget] at hG
                rw [← hrl2] at hG hrl
                unfold kyV at hG
                have HG2 := Lib.hid hG
                clear hG hget hr hrl2
                have i1 : (k : Int) < (N.length : Int) := by omega
                go_wp2_with fail
                refine (HG2.out _ HP.out.seat).mono ?_
                rintro e w5 ⟨p5, c5, rfl, -, hb5⟩
                have HP5 := Lib.hid (HP.out.quiet hb5)
                have x3 := (hb5.cell (p := ⟨gr, or + k * 4 + 3, none⟩) hgr).trans r3
                have hgr5 := Nat.lt_of_lt_of_le hgr hb5.size
                have v1 : ¬ ((rl : Int) < 1) := by omega
                have v2 : ¬ ((2 : Int) < (rl : Int)) := by omega
                clear hb5 HP HG2 r0 r1 r2 r3 hgr
                go_wp2_with fail
                go_roundg (gk - 1)
                case measure => omega
                case rel => exact ⟨k + 1, by omega, by go_num, HP5⟩
              · have i1 : ¬ ((k : Int) < (N.length : Int)) := by omega
                go_wp2_with fail
                refine (HSZ.out _ HP.out.seat).mono ?_
                rintro e w5 ⟨rfl, hb5⟩
                have HP5 := Lib.hid (HP.out.quiet hb5)
                clear hb5 HP HSZ
                go_wp2_with fail
                refine (HALL.out _ HP5.out.seat).mono ?_
                rintro e w6 ⟨p6, c6, rfl, hr6, hb6⟩
                have HP6 := Lib.hid (HP5.out.quiet hb6)
                have HR6 := Lib.hid hr6
                clear hb6 HP5 HALL hr6
                go_wp2_with fail
                refine (sameR_any p6 pn c6 cn N N _ HR6.out (Row.of_own HP6.out.own) (by omega) (by omega)).mono ?_
                rintro e w7 ⟨rfl, hb7⟩
                have HP7 := Lib.hid (HP6.out.quiet hb7)
                rw [decide_eq_true rfl]
                have z1 : (B : Int) ≤ (T.B.length : Int) := by omega
                have z2 : (0 : Int) ≤ (T.st.length : Int) := by omega
                clear hb7 HP6
                go_wp2
                go_ret
                exact ⟨rfl, HP7.out.below⟩
end Go.Proofs.Ytlglppfkpieabaa
