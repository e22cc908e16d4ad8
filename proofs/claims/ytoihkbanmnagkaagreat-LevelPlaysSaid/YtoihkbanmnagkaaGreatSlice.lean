/-
  A slice that comes in as an argument, its elements of one or more cells: its rows as a list, at an address in old memory. No condition but those that stand in each.
-/
import Derived.Test.YtoihkbanmnagkaaGreatRL21b
import Derived.Test.YtoihkbanmnagkaaGreatRows
import Derived.WalkKit
import Derived.ProofKit
import Derived.OpenShut
import Derived.Carry
import Derived.Lib.SmallJoins
import Derived.ChangeMaps5
import Derived.Test.YtoihkbanmnagkaaGreatInts
import Derived.Deep.Slices
/-
  What the reference's Turn leaves of a level: the changes, one by one. No condition but that the level lies in memory apart from the changes, that words are words, and that there are at most 100000 keys.
-/
set_option linter.unusedSimpArgs false
set_option linter.unusedVariables false
namespace Go.Proofs.YtoihkbanmnagkaaGreat
open Go Go.RowKit Go.Sort M

/-- What each operation of the statement that asks the table hands back. -/
def tgD (hv : Int) (hs : Bool) (n : Nat) (i : Nat) (v : Value) (_ : World) : Prop :=
  match i with
  | 9 => ∃ p c, v = .tuple #[.int .i64 hv, .bool hs, .slice p n c]
  | 10 => ∃ p c, v = .tuple #[.int .i64 hv, .bool hs, .slice p n c]
  | 11 => v = .int .i64 hv
  | 12 => v = .bool hs
  | 14 => v = .int .i64 hv
  | 15 => v = .bool hs
  | _ => True
/-- One step of the reference's Turn. -/
def RoundR (w wr : World) (K : Nat → Prop) (t : Nat) (V : Lv) (N : List Rt) : Prop := LvOk V N ∧ ∃ K', RLev wr K' t V ∧ Touch K w wr ∧ ∀ g, K' g → K g ∨ In w.heap.size wr.heap.size g
theorem RoundR.below {w wr w' : World} {K : Nat → Prop} {t : Nat} {V : Lv} {N : List Rt} (h : RoundR w wr K t V N) (hb : Below wr.heap.size wr w') : RoundR w w' K t V N := by
  obtain ⟨h1, K', h2, h3, h4⟩ := h
  refine ⟨h1, K', h2.below hb, h3.trans (.quiet hb), fun g hg => ?_⟩
  rcases h4 g hg with h | h
  · exact .inl h
  · exact .inr ⟨h.1, Nat.lt_of_lt_of_le h.2 hb.size⟩
theorem RoundR.step {w wr w' : World} {K K' K'' : Nat → Prop} {t : Nat} {V V' : Lv} {N' : List Rt} (hV : LvOk V' N') (h3 : Touch K w wr) (h4 : ∀ g, K' g → K g ∨ In w.heap.size wr.heap.size g) (h2 : RLev w' K'' t V') (hT : Touch K' wr w') (hK : ∀ g, K'' g → K' g ∨ In wr.heap.size w'.heap.size g) : RoundR w w' K t V' N' := by
  refine ⟨hV, K'', h2, ⟨hT.os.trans h3.os, hT.tape.trans h3.tape, hT.output.trans h3.output, Nat.le_trans h3.size hT.size, fun i hi hn => ?_⟩, fun g hg => ?_⟩
  · refine (hT.block i (Nat.lt_of_lt_of_le hi h3.size) (fun hk => ?_)).trans (h3.block i hi hn)
    rcases h4 i hk with h | h
    · exact hn h
    · have := h.1
      omega
  · rcases hK g hg with h | h
    · rcases h4 g h with h | h
      · exact .inl h
      · exact .inr ⟨h.1, Nat.lt_of_lt_of_le h.2 hT.size⟩
    · exact .inr ⟨Nat.le_trans h3.size h.1, h.2⟩
theorem touch_then {a b c : World} {K K1 : Nat → Prop} (h : Touch K a b) (hs : ∀ g, K1 g → K g ∨ a.heap.size ≤ g) (k : Touch K1 b c) : Touch K a c :=
  ⟨k.os.trans h.os, k.tape.trans h.tape, k.output.trans h.output, Nat.le_trans h.size k.size, fun i hi hn => (k.block i (Nat.lt_of_lt_of_le hi h.size) (fun x => by
    rcases hs i x with h | h
    · exact hn h
    · omega)).trans (h.block i hi hn)⟩
set_option maxRecDepth 100000 in
set_option maxHeartbeats 8000000 in
theorem rturn21_any (w : World) (K : Nat → Prop) (t : Nat) (V : Lv) (N : List Rt) (p : Option Addr) (c : Nat) (L : List Ch) (H : RLev w K t V) (HV : LvOk V N) (hg : ∀ x ∈ L, x.k.good) (hl : N.length + L.length ≤ 100000) (hR : Row w p (ccs L)) (hp : 0 < L.length → ∀ a, p = some a → ¬ K a.block) :
    Calls Tryz.prog 10 #[.pointer (some ⟨t, 0, none⟩), .slice p L.length c] w fun e w' => e = .returned (.tuple #[]) ∧ ∃ K', RLev w' K' t (V.turns L) ∧ Touch K w w' ∧ ∀ g, K' g → K g ∨ In w.heap.size w'.heap.size g := by
  have HR := Lib.hid hR
  have HG := Lib.hid hg
  have HP := Lib.hid hp
  have HV0 := Lib.hid HV
  have HI : Hid (RoundR w w K t (V.turns (L.take 0)) (rowsT V.n N (L.take 0))) := Lib.hid ⟨HV, K, H, Touch.refl _ _, fun g h => .inl h⟩
  clear hR hg hp H HV
  go_enter Tryz.func10, Tryz.ntmps10
  go_wp2
  go_loopg [4] L.length (fun kx s4 wr => ∃ i : Nat, s4 = .int .i64 (i : Int) ∧ L.length - i ≤ kx ∧ i ≤ L.length ∧ Hid (RoundR w wr K t (V.turns (L.take i)) (rowsT V.n N (L.take i))))
  case atStart => exact ⟨0, rfl, by omega, by omega, HI⟩
  case round =>
    clear HI
    obtain ⟨i, rfl, k1, k2, HI⟩ := hrel
    by_cases hi : i < L.length
    · obtain ⟨g0, o0, rfl, hg0, x0, x1, x2, -, x4⟩ := HR.out.ch hi
      have hng : ¬ K g0 := HP.out (by omega) _ rfl
      obtain ⟨hV, K1, ⟨lo, hi1, f, gg, u, b, v, hB⟩, hT, hK⟩ := HI.out
      have hsn : L.take (i + 1) = L.take i ++ [L[i]] := List.take_succ_eq_append_getElem hi
      have hgd := HG.out _ (List.getElem_mem hi)
      have hlen := (HV0.out.turns (L.take i) (fun x hx => HG.out x (List.mem_of_mem_take hx))).2
      rw [List.length_take] at hlen
      have hnn := turns_n V (L.take i)
      have hng1 : ¬ K1 g0 := fun h => by
        rcases hK g0 h with h | h
        · exact hng h
        · have := h.1
          omega
      have z0 := hT.cell x0 hng
      have z1 := hT.cell x1 hng
      have z2 := hT.cell x2 hng
      have z4 := hT.cell x4 hng
      have hgl := Nat.lt_of_lt_of_le hg0 hT.size
      have hzw := hT.size
      have i1 : (0 : Int) ≤ (i : Int) := by omega
      have i2 : (i : Int) < (L.length : Int) := by omega
      have hlast : ∀ wx, RoundR w wx K t ((V.turns (L.take i)).turn L[i]) (rowT V.n (rowsT V.n N (L.take i)) L[i]) → RoundR w wx K t (V.turns (L.take (i + 1))) (rowsT V.n N (L.take (i + 1))) := fun wx h => by
        rw [hsn, Lv.turns_snoc, rowsT_snoc]
        exact h
      have hVn := hV.turn L[i] hgd
      rw [hnn] at hVn
      have hM : (rowsT V.n N (L.take i)).length ≤ 100000 := by omega
      generalize L[i] = x at *
      obtain ⟨V1, hV1⟩ : ∃ V1, V1 = V.turns (L.take i) := ⟨_, rfl⟩
      obtain ⟨N1, hN1⟩ : ∃ N1, N1 = rowsT V.n N (L.take i) := ⟨_, rfl⟩
      rw [← hV1] at hV hB hlast hVn hnn
      rw [← hN1] at hV hlast hM
      rw [← hN1] at hVn
      obtain ⟨⟨kh, kl, kn⟩, xo, nw⟩ := x
      simp only at z0 z1 z2 z4 hgd
      have HB := Lib.hid hB
      have HVI := Lib.hid hV
      have HVN := Lib.hid hVn
      have HLA := Lib.hid hlast
      have HTT := Lib.hid hT
      have HKK := Lib.hid hK
      have HK2 : Hid (∀ g, K1 g → K g ∨ w.heap.size ≤ g) := Lib.hid fun g h => by
        rcases hK g h with h | h
        · exact .inl h
        · exact .inr h.1
      have hz : wr.heap.size ≤ wr.heap.size := Nat.le_refl _
      clear HI hV hB hT hK x0 x1 x2 x4 hsn hlast hVn hV1 hN1 hlen
      have d0 := HB.out.c0
      change _ = some (Value.int .i64 V1.n) at d0
      have d1 := HB.out.c1
      have d2 := HB.out.c2
      have dl := HB.out.lt
      by_cases hkn : kn = V1.n
      · have nq : (kn != V1.n) = false := by simpa using hkn
        have hst := HVI.out.st
        have hnum := HVI.out.kept.inv.num
        have hget := fun W (h : Tb RBk W u b v V1.T) => rget12_any u b v V1.T ⟨kh, kl, kn⟩ W h hnum hgd (by omega)
        unfold kyV at hget
        simp only at hget
        have HGET := Lib.hid hget
        have hhas : V1.has ⟨kh, kl, kn⟩ = (getT V1.T ⟨kh, kl, kn⟩).isSome := rfl
        obtain ⟨hs, hhs⟩ : ∃ hs, hs = V1.has ⟨kh, kl, kn⟩ := ⟨_, rfl⟩
        rw [← hhas, ← hhs] at HGET
        have HTE : Hid ((0 ≤ nw → (hs = true → V1.turn ⟨⟨kh, kl, kn⟩, xo, nw⟩ = { V1 with T := putF 16 V1.T ⟨⟨kh, kl, kn⟩, nw⟩ }) ∧ (hs = false → V1.turn ⟨⟨kh, kl, kn⟩, xo, nw⟩ = { V1 with C := addL V1.C (plc V1.s kh kl kn V1.k V1.C.length), T := putF 16 V1.T ⟨⟨kh, kl, kn⟩, nw⟩ })) ∧
            (¬ 0 ≤ nw → (hs = true → V1.turn ⟨⟨kh, kl, kn⟩, xo, nw⟩ = { V1 with C := remL V1.C (plc V1.s kh kl kn V1.k V1.C.length), T := (delT V1.T ⟨kh, kl, kn⟩).1 }) ∧ (hs = false → V1.turn ⟨⟨kh, kl, kn⟩, xo, nw⟩ = V1))) := by
          refine Lib.hid ⟨fun h0 => ⟨fun h => ?_, fun h => ?_⟩, fun h0 => ⟨fun h => ?_, fun h => ?_⟩⟩
          · unfold Lv.turn
            rw [if_pos (show (⟨⟨kh, kl, kn⟩, xo, nw⟩ : Ch).k.n = V1.n from hkn), if_pos h0]
            rw [show V1.has (⟨⟨kh, kl, kn⟩, xo, nw⟩ : Ch).k = true from hhs.symm.trans h, if_pos rfl]
          · unfold Lv.turn
            rw [if_pos (show (⟨⟨kh, kl, kn⟩, xo, nw⟩ : Ch).k.n = V1.n from hkn), if_pos h0]
            rw [show V1.has (⟨⟨kh, kl, kn⟩, xo, nw⟩ : Ch).k = false from hhs.symm.trans h, if_neg (by simp)]
            rfl
          · unfold Lv.turn
            rw [if_pos (show (⟨⟨kh, kl, kn⟩, xo, nw⟩ : Ch).k.n = V1.n from hkn), if_neg h0]
            rw [show V1.has (⟨⟨kh, kl, kn⟩, xo, nw⟩ : Ch).k = true from hhs.symm.trans h, if_pos rfl]
            rfl
          · unfold Lv.turn
            rw [if_pos (show (⟨⟨kh, kl, kn⟩, xo, nw⟩ : Ch).k.n = V1.n from hkn), if_neg h0]
            rw [show V1.has (⟨⟨kh, kl, kn⟩, xo, nw⟩ : Ch).k = false from hhs.symm.trans h, if_neg (by simp)]
        have hinv := HVI.out.kept.inv
        have hcl := HVI.out.kept.len
        have hlo := hinv.lo
        have hput := fun W (h : Tb RBk W u b v V1.T) => rput_any 16 u b v V1.T ⟨⟨kh, kl, kn⟩, nw⟩ W h hinv hgd (by omega) (by omega)
        have hdel := fun W (h : Tb RBk W u b v V1.T) => rdelete12_any u b v V1.T ⟨kh, kl, kn⟩ W h hnum hgd (by omega)
        unfold kyV at hput hdel
        simp only at hput hdel
        have hadd := fun W (h : RFil W lo hi1 f gg V1.s V1.k V1.C) => radd_any lo hi1 f gg V1.s V1.k V1.C kh kl kn W h hgd.1 hgd.2
        have hrem := fun W (h : RFil W lo hi1 f gg V1.s V1.k V1.C) => rrem_any lo hi1 f gg V1.s V1.k V1.C kh kl kn W h hgd.1 hgd.2
        have HPUT := Lib.hid hput
        have HDEL := Lib.hid hdel
        have HADD := Lib.hid hadd
        have HREM := Lib.hid hrem
        clear hget hhas hhs hnum hinv hcl hlo hput hdel hadd hrem hst hkn hnn
        go_wp2_with fail
        have kg := cell_grow
        refine region_whole (by kernel_rfl) (by kernel_rfl) ?_
        repeat (any_goals (first | go_big_quiet_step (fail) | quiet_step (fail)))
        refine wpQuiet_nil ?_
        clear kg
        intro w3 hb3
        obtain ⟨hc3, hf3⟩ := bcell hb3
        have HB := Lib.hid (HB.out.below hb3)
        have z0 := (hc3 _ _ hgl).trans z0
        have z1 := (hc3 _ _ hgl).trans z1
        have z2 := (hc3 _ _ hgl).trans z2
        have z4 := (hc3 _ _ hgl).trans z4
        have hgl := Nat.lt_of_lt_of_le hgl (hb3).size
        have HTT := Lib.hid (HTT.out.trans (.quiet hb3))
        have hz := Nat.le_trans hz (hb3).size
        clear d0 d1 d2 dl
        have d0 := HB.out.c0
        change _ = some (Value.int .i64 V1.n) at d0
        have d1 := HB.out.c1
        have d2 := HB.out.c2
        have dl := HB.out.lt
        clear hb3 hc3 hf3
        go_wp2_with fail
        have kg := cell_grow
        refine wp_region_noPanic ?_
        generalize hNQ : NoPanic _ = NQ
        refine region_eff9 [0, 1, 2, 4, 5, 6, 7] [3, 8] [(9, 35, []), (10, 25, [(9, 35)]), (11, 36, [(10, 25)]), (12, 37, [(10, 25)]), (13, 38, [(10, 25)]), (14, 5, [(11, 36)]), (15, 6, [(12, 37)]), (16, 7, [(13, 38)])] [] (tgD ((getT V1.T ⟨kh, kl, kn⟩).getD 0) hs (readT V1.T ⟨kh, kl, kn⟩).length) (fun i v W W' _ h => h) (by kernel_rfl) (by rw [← hNQ]; exact fun _ _ _ h => h) (by kernel_rfl) (by kernel_rfl) (by kernel_rfl) ?_
        simp only [pickL, List.filterMap_cons, List.filterMap_nil, List.getElem?_toArray, List.getElem?_cons_succ, List.getElem?_cons_zero]
        repeat (any_goals (quiet_step (fail)))
        refine wpQuiet_nil ?_
        clear kg
        refine ⟨by rfl, ⟨?_, ?_, ?_, ?_, ?_, ?_, ?_, ?_, trivial⟩, ?_⟩
        · intro W4 hW4 K9 hK9 o9 ho
          injection ho with ho
          subst ho
          go_simp
          go_at_call 30
          have htb4 := HB.out.tab.below bk_rbk hW4
          refine (HGET.out _ htb4).mono ?_
          rintro e w5 ⟨p5, c5, rfl, -, hb5⟩
          exact hK9 _ _ hb5 ⟨p5, c5, rfl⟩
        · intro W4 hW4 v5 h5 K9
          obtain ⟨p6, c6, rfl⟩ := h5
          go_simp
          intro hK9 o9 ho
          injection ho with ho
          subst ho
          go_simp
          exact hK9 _ _ (Below.refl _ _) ⟨p6, c6, rfl⟩
        · intro W4 hW4 v5 h5 K9
          obtain ⟨p6, c6, rfl⟩ := h5
          go_simp
          intro hK9 o9 ho
          injection ho with ho
          subst ho
          go_simp
          exact hK9 _ _ (Below.refl _ _) rfl
        · intro W4 hW4 v5 h5 K9
          obtain ⟨p6, c6, rfl⟩ := h5
          go_simp
          intro hK9 o9 ho
          injection ho with ho
          subst ho
          go_simp
          exact hK9 _ _ (Below.refl _ _) rfl
        · intro W4 hW4 v5 h5 K9
          obtain ⟨p6, c6, rfl⟩ := h5
          go_simp
          intro hK9 o9 ho
          injection ho with ho
          subst ho
          go_simp
          exact hK9 _ _ (Below.refl _ _) trivial
        · intro W4 hW4 v7 h7 K9
          obtain rfl : v7 = _ := h7
          go_simp
          intro hK9 o9 ho
          injection ho with ho
          subst ho
          go_simp
          exact hK9 _ _ (Below.refl _ _) rfl
        · intro W4 hW4 v8 h8 K9
          obtain rfl : v8 = _ := h8
          go_simp
          intro hK9 o9 ho
          injection ho with ho
          subst ho
          go_simp
          exact hK9 _ _ (Below.refl _ _) rfl
        · intro W4 hW4 v9 h9 K9
          clear h9
          go_simp
          intro hK9 o9 ho
          injection ho with ho
          subst ho
          go_simp
          exact hK9 _ _ (Below.refl _ _) trivial
        · intro w4 hb4 v5 h5 v6 h6 v7 h7 v8 h8 v9 h9 v10 h10 v11 h11 v12 h12
          obtain ⟨p5, c5, rfl⟩ := h5
          obtain ⟨p6, c6, rfl⟩ := h6
          obtain rfl : v7 = _ := h7
          obtain rfl : v8 = _ := h8
          obtain rfl : v10 = _ := h10
          obtain rfl : v11 = _ := h11
          show wpList _ _ _ _ _ _
          simp only [pickL, List.filterMap_nil]
          subst hNQ
          obtain ⟨hc4, -⟩ := bcell hb4
          have HB := Lib.hid (HB.out.below hb4)
          have z0 := (hc4 _ _ hgl).trans z0
          have z1 := (hc4 _ _ hgl).trans z1
          have z2 := (hc4 _ _ hgl).trans z2
          have z4 := (hc4 _ _ hgl).trans z4
          have hgl := Nat.lt_of_lt_of_le hgl (hb4).size
          have HTT := Lib.hid (HTT.out.trans (.quiet hb4))
          have hz := Nat.le_trans hz (hb4).size
          clear d0 d1 d2 dl
          have d0 := HB.out.c0
          change _ = some (Value.int .i64 V1.n) at d0
          have d1 := HB.out.c1
          have d2 := HB.out.c2
          have dl := HB.out.lt
          clear h9 h12 HGET hb4 hc4
          generalize (getT V1.T ⟨kh, kl, kn⟩).getD 0 = hv at *
          generalize (readT V1.T ⟨kh, kl, kn⟩).length = rl at *
          go_wp2_with fail
          refine NoPanic.normal ?_
          by_cases h0 : 0 ≤ nw
          · have HT1 := Lib.hid (HTE.out.1 h0)
            go_wp2_with fail
            have kg := cell_grow
            refine region_tail 14 (by kernel_rfl) (by kernel_rfl) ?_
            simp only [List.take_succ_cons, List.take_zero, List.drop_succ_cons, List.drop_zero]
            repeat (any_goals (first | go_big_quiet_step (fail) | quiet_step (fail)))
            refine wpQuiet_nil ?_
            clear kg
            intro w6 hb6
            obtain ⟨hc6, hf6⟩ := bcell hb6
            have HB := Lib.hid (HB.out.below hb6)
            have z0 := (hc6 _ _ hgl).trans z0
            have z1 := (hc6 _ _ hgl).trans z1
            have z2 := (hc6 _ _ hgl).trans z2
            have z4 := (hc6 _ _ hgl).trans z4
            have hgl := Nat.lt_of_lt_of_le hgl (hb6).size
            have HTT := Lib.hid (HTT.out.trans (.quiet hb6))
            have hz := Nat.le_trans hz (hb6).size
            clear d0 d1 d2 dl
            have d0 := HB.out.c0
            change _ = some (Value.int .i64 V1.n) at d0
            have d1 := HB.out.c1
            have d2 := HB.out.c2
            have dl := HB.out.lt
            clear hb6 hc6 hf6
            go_wp2_with fail
            refine (HPUT.out _ HB.out.tab).mono ?_
            rintro e w7 ⟨rfl, hst⟩
            obtain ⟨b2, v2, hB7, hT7⟩ := HB.out.tab_step hst
            have hz7 := hT7.size
            have hz := Nat.le_trans hz hz7
            have HTT := Lib.hid (touch_then HTT.out HK2.out hT7)
            have z0 := (hT7).cell z0 hng1
            have z1 := (hT7).cell z1 hng1
            have z2 := (hT7).cell z2 hng1
            have z4 := (hT7).cell z4 hng1
            have hgl := Nat.lt_of_lt_of_le hgl (hT7).size
            have HB := Lib.hid hB7
            clear d0 d1 d2 dl hst hB7
            have d0 := HB.out.c0
            change _ = some (Value.int .i64 V1.n) at d0
            have d1 := HB.out.c1
            have d2 := HB.out.c2
            have dl := HB.out.lt
            cases hs with
            | true =>
              have hte := HT1.out.1 rfl
              go_wp2
              go_roundg (L.length - (i + 1))
              case measure => omega
              case rel =>
                refine ⟨i + 1, by go_num, by omega, by omega, Lib.hid (HLA.out _ ⟨HVN.out, _, by rw [hte]; exact ⟨lo, hi1, f, gg, u, b2, v2, HB.out⟩, HTT.out, fun g hg => ?_⟩)⟩
                rcases hg with hg | hg
                · rcases HKK.out g hg with h | h
                  · exact .inl h
                  · exact .inr ⟨h.1, by have := h.2; omega⟩
                · exact .inr ⟨by have := hg.1; omega, hg.2⟩
            | false =>
              have hte := HT1.out.2 rfl
              go_wp2_with fail
              have kg := cell_grow
              refine region_tail 9 (by kernel_rfl) (by kernel_rfl) ?_
              simp only [List.take_succ_cons, List.take_zero, List.drop_succ_cons, List.drop_zero]
              repeat (any_goals (first | go_big_quiet_step (fail) | quiet_step (fail)))
              refine wpQuiet_nil ?_
              clear kg
              intro w8 hb8
              obtain ⟨hc8, hf8⟩ := bcell hb8
              have HB := Lib.hid (HB.out.below hb8)
              have z0 := (hc8 _ _ hgl).trans z0
              have z1 := (hc8 _ _ hgl).trans z1
              have z2 := (hc8 _ _ hgl).trans z2
              have z4 := (hc8 _ _ hgl).trans z4
              have hgl := Nat.lt_of_lt_of_le hgl (hb8).size
              have HTT := Lib.hid (HTT.out.trans (.quiet hb8))
              have hz := Nat.le_trans hz (hb8).size
              clear d0 d1 d2 dl
              have d0 := HB.out.c0
              change _ = some (Value.int .i64 V1.n) at d0
              have d1 := HB.out.c1
              have d2 := HB.out.c2
              have dl := HB.out.lt
              have hz8 := hb8.size
              clear hb8 hc8 hf8
              go_wp2_with fail
              refine (HADD.out _ HB.out.fil).mono ?_
              rintro e w9 ⟨rfl, hf9, hT9⟩
              obtain ⟨hB9, hT9'⟩ := HB.out.fil_step hf9 hT9
              have hz9 := hT9.size
              have HTT := Lib.hid (touch_then HTT.out (fun g hg => by
                rcases hg with hg | hg
                · exact HK2.out g hg
                · exact .inr (by have := hg.1; omega)) hT9')
              have HB := Lib.hid hB9
              clear hB9 hT9 hT9' hf9 d0 d1 d2 dl
              go_wp2
              go_roundg (L.length - (i + 1))
              case measure => omega
              case rel =>
                refine ⟨i + 1, by go_num, by omega, by omega, Lib.hid (HLA.out _ ⟨HVN.out, _, by rw [hte]; exact ⟨lo, hi1, f, gg, u, b2, v2, HB.out⟩, HTT.out, fun g hg => ?_⟩)⟩
                rcases hg with hg | hg
                · rcases HKK.out g hg with h | h
                  · exact .inl h
                  · exact .inr ⟨h.1, by have := h.2; omega⟩
                · exact .inr ⟨by have := hg.1; omega, by have := hg.2; omega⟩
          · have HT2 := Lib.hid (HTE.out.2 (by omega))
            cases hs with
            | true =>
              have hte := HT2.out.1 rfl
              go_wp2_with fail
              have kg := cell_grow
              refine region_tail 9 (by kernel_rfl) (by kernel_rfl) ?_
              simp only [List.take_succ_cons, List.take_zero, List.drop_succ_cons, List.drop_zero]
              repeat (any_goals (first | go_big_quiet_step (fail) | quiet_step (fail)))
              refine wpQuiet_nil ?_
              clear kg
              intro w10 hb10
              obtain ⟨hc10, hf10⟩ := bcell hb10
              have HB := Lib.hid (HB.out.below hb10)
              have z0 := (hc10 _ _ hgl).trans z0
              have z1 := (hc10 _ _ hgl).trans z1
              have z2 := (hc10 _ _ hgl).trans z2
              have z4 := (hc10 _ _ hgl).trans z4
              have hgl := Nat.lt_of_lt_of_le hgl (hb10).size
              have HTT := Lib.hid (HTT.out.trans (.quiet hb10))
              have hz := Nat.le_trans hz (hb10).size
              clear d0 d1 d2 dl
              have d0 := HB.out.c0
              change _ = some (Value.int .i64 V1.n) at d0
              have d1 := HB.out.c1
              have d2 := HB.out.c2
              have dl := HB.out.lt
              clear hb10 hc10 hf10
              go_wp2_with fail
              refine (HDEL.out _ HB.out.tab).mono ?_
              rintro e w7 ⟨rfl, hst⟩
              obtain ⟨b2, v2, hB7, hT7⟩ := HB.out.tab_step hst
              have hz7 := hT7.size
              have hz := Nat.le_trans hz hz7
              have HTT := Lib.hid (touch_then HTT.out HK2.out hT7)
              have z0 := (hT7).cell z0 hng1
              have z1 := (hT7).cell z1 hng1
              have z2 := (hT7).cell z2 hng1
              have z4 := (hT7).cell z4 hng1
              have hgl := Nat.lt_of_lt_of_le hgl (hT7).size
              have HB := Lib.hid hB7
              clear d0 d1 d2 dl hst hB7
              have d0 := HB.out.c0
              change _ = some (Value.int .i64 V1.n) at d0
              have d1 := HB.out.c1
              have d2 := HB.out.c2
              have dl := HB.out.lt
              go_wp2_with fail
              have kg := cell_grow
              refine region_tail 9 (by kernel_rfl) (by kernel_rfl) ?_
              simp only [List.take_succ_cons, List.take_zero, List.drop_succ_cons, List.drop_zero]
              repeat (any_goals (first | go_big_quiet_step (fail) | quiet_step (fail)))
              refine wpQuiet_nil ?_
              clear kg
              intro w11 hb11
              obtain ⟨hc11, hf11⟩ := bcell hb11
              have HB := Lib.hid (HB.out.below hb11)
              have z0 := (hc11 _ _ hgl).trans z0
              have z1 := (hc11 _ _ hgl).trans z1
              have z2 := (hc11 _ _ hgl).trans z2
              have z4 := (hc11 _ _ hgl).trans z4
              have hgl := Nat.lt_of_lt_of_le hgl (hb11).size
              have HTT := Lib.hid (HTT.out.trans (.quiet hb11))
              have hz := Nat.le_trans hz (hb11).size
              clear d0 d1 d2 dl
              have d0 := HB.out.c0
              change _ = some (Value.int .i64 V1.n) at d0
              have d1 := HB.out.c1
              have d2 := HB.out.c2
              have dl := HB.out.lt
              have hz8 := hb11.size
              clear hb11 hc11 hf11
              go_wp2_with fail
              refine (HREM.out _ HB.out.fil).mono ?_
              rintro e w9 ⟨rfl, hf9, hT9⟩
              obtain ⟨hB9, hT9'⟩ := HB.out.fil_step hf9 hT9
              have hz9 := hT9.size
              have HTT := Lib.hid (touch_then HTT.out (fun g hg => by
                rcases hg with hg | hg
                · exact HK2.out g hg
                · exact .inr (by have := hg.1; omega)) hT9')
              have HB := Lib.hid hB9
              clear hB9 hT9 hT9' hf9 d0 d1 d2 dl
              go_wp2
              go_roundg (L.length - (i + 1))
              case measure => omega
              case rel =>
                refine ⟨i + 1, by go_num, by omega, by omega, Lib.hid (HLA.out _ ⟨HVN.out, _, by rw [hte]; exact ⟨lo, hi1, f, gg, u, b2, v2, HB.out⟩, HTT.out, fun g hg => ?_⟩)⟩
                rcases hg with hg | hg
                · rcases HKK.out g hg with h | h
                  · exact .inl h
                  · exact .inr ⟨h.1, by have := h.2; omega⟩
                · exact .inr ⟨by have := hg.1; omega, by have := hg.2; omega⟩
            | false =>
              have hte := HT2.out.2 rfl
              go_wp2
              go_roundg (L.length - (i + 1))
              case measure => omega
              case rel =>
                refine ⟨i + 1, by go_num, by omega, by omega, Lib.hid (HLA.out _ ⟨HVN.out, _, by rw [hte]; exact ⟨lo, hi1, f, gg, u, b, v, HB.out⟩, HTT.out, fun g hg => ?_⟩)⟩
                rcases HKK.out g hg with h | h
                · exact .inl h
                · exact .inr ⟨h.1, by have := h.2; omega⟩
      · have nq : (kn != V1.n) = true := by simpa using hkn
        have hte : V1.turn ⟨⟨kh, kl, kn⟩, xo, nw⟩ = V1 := if_neg hkn
        have HTN := Lib.hid hte
        clear hte hnn hkn
        go_wp2_with fail
        have kg := cell_grow
        refine region_whole (by kernel_rfl) (by kernel_rfl) ?_
        repeat (any_goals (first | go_big_quiet_step (fail) | quiet_step (fail)))
        refine wpQuiet_nil ?_
        clear kg
        intro w3 hb3
        obtain ⟨hc3, hf3⟩ := bcell hb3
        have HB := Lib.hid (HB.out.below hb3)
        have z0 := (hc3 _ _ hgl).trans z0
        have z1 := (hc3 _ _ hgl).trans z1
        have z2 := (hc3 _ _ hgl).trans z2
        have z4 := (hc3 _ _ hgl).trans z4
        have hgl := Nat.lt_of_lt_of_le hgl (hb3).size
        have HTT := Lib.hid (HTT.out.trans (.quiet hb3))
        have hz := Nat.le_trans hz (hb3).size
        clear d0 d1 d2 dl
        have d0 := HB.out.c0
        change _ = some (Value.int .i64 V1.n) at d0
        have d1 := HB.out.c1
        have d2 := HB.out.c2
        have dl := HB.out.lt
        clear hb3 hc3 hf3
        go_wp2
        go_roundg (L.length - (i + 1))
        case measure => omega
        case rel =>
          refine ⟨i + 1, by go_num, by omega, by omega, Lib.hid (HLA.out _ ⟨HVN.out, _, by rw [HTN.out]; exact ⟨lo, hi1, f, gg, u, b, v, HB.out⟩, HTT.out, fun g hg => ?_⟩)⟩
          rcases HKK.out g hg with h | h
          · exact .inl h
          · exact .inr ⟨h.1, by have := h.2; omega⟩
    · have HE : Hid (RoundR w wr K t (V.turns L) (rowsT V.n N L)) := by
        have := HI.out
        rw [List.take_of_length_le (by omega)] at this
        exact Lib.hid this
      clear HI
      go_wp2
      go_end0
      obtain ⟨-, K', h2, h3, h4⟩ := HE.out
      exact ⟨rfl, K', h2, h3, h4⟩
end Go.Proofs.YtoihkbanmnagkaaGreat
/-
  From a law's walk to its given statement: what an argument that leaves all old memory alone reads as behind the call, and how an address, a prefix and a number are opened. No condition.
-/
set_option linter.unusedSimpArgs false
set_option linter.unusedVariables false
namespace Go.Proofs.YtoihkbanmnagkaaGreat
open Go.ChangeShapes Go.WideShapes Go.ChangeAt Go.RowKit Go.Joins M

section
variable {H : Type} {enc : TypeId × Value → H} {P : Program}

/-- Arguments read as they did, wherever all that they reach is as it was. -/
theorem all_stays (hl : laidOutB P = true) {W W' : World} {sp : Nat → Bool} : ∀ (ts : List TypeId) (vs : List Value) (ds : List (DataW H)) (p : List MemPlace), ts.all (fun t => P.readableRec t && decide (t < P.types.size)) = true →
    DataW.TrodAll enc P W 0 (fun _ => true) true ts vs ds p → (∀ x ∈ p, W.sameAt W' x) → (∀ x ∈ p, sp x.block = true) → DataW.TrodAll enc P W' 0 sp true ts vs ds p
  | [], [], [], _, _, h, _, _ => h
  | t :: ts, v :: vs, d :: ds, p, ht, h, hsame, hs => by
    obtain ⟨p1, p2, h1, h2, rfl⟩ := h
    simp only [List.all_cons, Bool.and_eq_true, decide_eq_true_eq] at ht
    exact ⟨p1, p2, WideElems.Trod_stays hl ht.1.1 ht.1.2 h1 (fun x hx => hsame x (List.mem_append_left _ hx)) (fun x hx => hs x (List.mem_append_left _ hx)),
      all_stays hl ts vs ds p2 ht.2 h2 (fun x hx => hsame x (List.mem_append_right _ hx)) (fun x hx => hs x (List.mem_append_right _ hx)), rfl⟩
  | [], _ :: _, _, _, _, h, _, _ => h.elim
  | [], [], _ :: _, _, _, h, _, _ => h.elim
  | _ :: _, [], _, _, _, h, _, _ => h.elim
  | _ :: _, _ :: _, [], _, _, h, _, _ => h.elim

/-- WHAT A LAW OWES: its walk hands back true and leaves all that was there as it was. -/
theorem law_post {f : Func} {s : ChangeSpec} {apart : Bool} {W W' : World} {args : Array Value} {ds gs : List (DataW H)} {before : List MemPlace} {tb : TypeId}
    (hl : laidOutB P = true) (hts : f.params.toList.all (fun t => P.readableRec t && decide (t < P.types.size)) = true) (hr : f.resultTypes = #[tb]) (htb : P.underlying tb = some .bool) (hv : s.vars = [])
    (hW : DataW.Whole enc P f.params.toList s.vars apart W args.toList ds gs before) (hfn : s.fn H (ds ++ gs) = { results := [.lit (.bool true)], args := ds }) (hb : Below W.heap.size W W') :
    s.post enc P f apart true false false W args (.bool true) W' := by
  have hlt : ∀ p ∈ before, p.block < W.heap.size := fun p hp => hW.lt p hp
  have hold : ∀ p ∈ before, (fun b => decide (b < W.heap.size)) p.block = true := fun p hp => by simpa using hlt p hp
  have hW2 := hW
  obtain ⟨p, q, hA, hV, hpq, hz, hn⟩ := hW2
  rw [hv] at hV
  have hV2 := hV
  obtain ⟨hg, hq⟩ := trodVars_none hV
  subst hg hq
  rw [List.append_nil] at hpq
  subst hpq
  have hres : ∀ (b : Nat) (sp : Nat → Bool) (hd : Bool), DataW.TrodAll enc P W' b sp hd f.resultTypes.toList ((Value.bool true).resultList f.resultTypes.size) (s.fn H (ds ++ [])).results [] := fun b sp hd => by
    rw [hfn, hr]
    exact trodAll_cons_mk (shut_bool htb _) trodAll_mk0
  have hargs : ∀ sp : Nat → Bool, (∀ x ∈ before, sp x.block = true) → DataW.TrodAll enc P W' 0 sp true f.params.toList args.toList (s.fn H (ds ++ [])).args before := fun sp hsp => by
    rw [hfn]
    exact all_stays hl _ _ _ _ hts hA (fun x hx => hb.same (hlt x hx)) hsp
  have hvars : ∀ sp : Nat → Bool, DataW.TrodVars enc P W' sp s.vars (s.fn H (ds ++ [])).vars [] := fun sp => by
    rw [hfn, hv]
    rfl
  have hok : ∀ (j : Nat) (t : TypeId) (r : Value), f.resultTypes[j]? = some t → ((Value.bool true).resultList f.resultTypes.size)[j]? = some r → Value.okWide P W' .any 0 t r :=
    ok_one hr rfl (okWide_bool_mk htb _)
  refine ⟨ds, [], before, [], before, [], hW, hres _ _ _, hargs _ hold, hvars _, World.keptBut_mono (fun p hp => ⟨hp, Or.inr (by simpa using hp)⟩) (hb.frame (· ∈ before)), fun _ => ?_⟩
  refine ⟨hok, _, _, ([] ++ before) ++ [], ⟨[] ++ before, [], trodAll_append (hargs _ (fun _ _ => rfl)) (hres _ _ _), hvars _, rfl, ?_, ?_⟩, ?_⟩
  · intro b off hp
    have hin : MemPlace.cell b off ∈ before := by simpa using hp
    rw [hb.frozen (hlt _ hin)]
    exact hz b off hin
  · intro ha
    simpa using hn ha
  · intro p hp _
    simpa using hp
end

section
variable {H : Type} {enc : TypeId × Value → H} {w : World} {base : Nat} {spare : Nat → Bool} {held : Bool} {r : Reach} {b0 : Nat}

theorem wf_u64 {n : Int} (h : (Lit.int .u64 n).wf = true) : ∃ k : Nat, n = k ∧ W64 k := by
  obtain ⟨h0, h1⟩ := bounds_u64 h
  obtain ⟨k, rfl⟩ := Int.eq_ofNat_of_zero_le h0
  exact ⟨k, rfl, W64.mk (by omega)⟩

theorem cellsA : Tryz.prog.cellsOf 36 = 2 := by kernel_rfl
theorem cells64 : Tryz.prog.cellsOf 22 = 1 := by kernel_rfl
set_option maxRecDepth 100000 in
/-- An address by value. -/
theorem open_addr {v : Value} {d : DataW H} {p : List MemPlace} (hv : Value.okWide Tryz.prog w r b0 36 v) (h : DataW.Trod enc Tryz.prog w base spare held 36 v d p) :
    ∃ hi lo : Nat, v = .agg #[.int .u64 hi, .int .u64 lo] ∧ W64 hi ∧ W64 lo := by
  obtain ⟨c0, c1, y0, y1, m, rfl, -, -, h0, h1⟩ := open_agg2 Tryz.underlying36 (by kernel_rfl) cellsA hv h
  obtain ⟨a, e0, -, wa⟩ := DataW.trod_int Tryz.underlying22 h0
  obtain ⟨b, e1, -, wb⟩ := DataW.trod_int Tryz.underlying22 h1
  simp only [List.cons.injEq, and_true] at e0 e1
  obtain ⟨i, rfl, hi⟩ := wf_u64 wa
  obtain ⟨j, rfl, hj⟩ := wf_u64 wb
  exact ⟨i, j, by rw [e0, e1], hi, hj⟩

theorem cellsP : Tryz.prog.cellsOf 38 = 3 := by kernel_rfl
theorem cellsI : Tryz.prog.cellsOf 3 = 1 := by kernel_rfl
/-- A prefix's cells. -/
theorem open_pfx_cells {n : Nat} {cs : List Value} {x : DataW H × List MemPlace} (h : DataW.trod enc Tryz.prog w base spare held n 38 cs = some x) :
    ∃ (hi lo : Nat) (k : Int), cs = [.int .u64 hi, .int .u64 lo, .int .i64 k] ∧ W64 hi ∧ W64 lo ∧ (Lit.int .i64 k).wf = true := by
  obtain ⟨xs, m, -, -, hl, hxl, hf⟩ := DataW.trod_struct Tryz.underlying38 h
  rw [cellsP] at hl
  have h0 : DataW.trod enc Tryz.prog w base spare held m 36 ((cs.drop 0).take (Tryz.prog.cellsOf 36)) = xs[0]? := hf 0 _ rfl
  have h1 : DataW.trod enc Tryz.prog w base spare held m 3 ((cs.drop 2).take (Tryz.prog.cellsOf 3)) = xs[1]? := hf 1 _ rfl
  rw [cellsA] at h0
  rw [cellsI] at h1
  obtain ⟨c0, c1, c2, rfl⟩ : ∃ c0 c1 c2, cs = [c0, c1, c2] := by
    rcases cs with _ | ⟨c0, _ | ⟨c1, _ | ⟨c2, _ | ⟨c3, cs⟩⟩⟩⟩ <;> simp at hl
    exact ⟨c0, c1, c2, rfl⟩
  simp only [List.drop_zero, List.take_succ_cons, List.take_zero, List.drop_succ_cons] at h0 h1
  rw [List.getElem?_eq_getElem (by rw [hxl]; decide)] at h0 h1
  obtain ⟨ys, m', -, -, hl', hyl, hg⟩ := DataW.trod_struct Tryz.underlying36 h0
  have g0 : DataW.trod enc Tryz.prog w base spare held m' 22 (([c0, c1].drop 0).take (Tryz.prog.cellsOf 22)) = ys[0]? := hg 0 _ rfl
  have g1 : DataW.trod enc Tryz.prog w base spare held m' 22 (([c0, c1].drop 1).take (Tryz.prog.cellsOf 22)) = ys[1]? := hg 1 _ rfl
  rw [cells64] at g0 g1
  simp only [List.drop_zero, List.take_succ_cons, List.take_zero, List.drop_succ_cons] at g0 g1
  rw [List.getElem?_eq_getElem (by rw [hyl]; decide)] at g0 g1
  obtain ⟨a, e0, -, wa⟩ := DataW.trod_int Tryz.underlying22 g0
  obtain ⟨b, e1, -, wb⟩ := DataW.trod_int Tryz.underlying22 g1
  obtain ⟨c, e2, -, wc⟩ := DataW.trod_int Tryz.underlying3 h1
  simp only [List.cons.injEq, and_true] at e0 e1 e2
  obtain ⟨i, rfl, hi⟩ := wf_u64 wa
  obtain ⟨j, rfl, hj⟩ := wf_u64 wb
  exact ⟨i, j, c, by rw [e0, e1, e2], hi, hj, wc⟩
set_option maxRecDepth 100000 in
/-- A prefix by value. -/
theorem open_pfx {v : Value} {d : DataW H} {p : List MemPlace} (hv : Value.okWide Tryz.prog w r b0 38 v) (h : DataW.Trod enc Tryz.prog w base spare held 38 v d p) :
    ∃ (hi lo : Nat) (k : Int), v = .agg #[.int .u64 hi, .int .u64 lo, .int .i64 k] ∧ W64 hi ∧ W64 lo ∧ (Lit.int .i64 k).wf = true := by
  obtain ⟨cs, rfl, hsz⟩ := okWide_struct Tryz.underlying38 hv
  obtain ⟨m, hm⟩ := h
  obtain ⟨hi, lo, k, e, h1, h2, h3⟩ := open_pfx_cells hm
  refine ⟨hi, lo, k, ?_, h1, h2, h3⟩
  obtain ⟨l⟩ := cs
  have e' : l = _ := e
  rw [e']
end
end Go.Proofs.YtoihkbanmnagkaaGreat
/-
  A slice that comes in as an argument, its elements of one or more cells: its rows as a list, at an address in old memory. No condition but those that stand in each.
-/
set_option linter.unusedSimpArgs false
set_option linter.unusedVariables false
namespace Go.Proofs.YtoihkbanmnagkaaGreat
open Go.ChangeShapes Go.WideShapes Go.ChangeAt Go.RowKit Go.Joins Go.Deep M

/-- The elements L, each of k cells, lie at p. -/
def RowA {α : Type} (k : Nat) (cells : α → List Value) (w : World) (p : Option Addr) (L : List α) : Prop :=
  L = [] ∨ ∃ g o, p = some ⟨g, o, none⟩ ∧ g < w.heap.size ∧ ∀ (i : Nat) (hi : i < L.length) (j : Nat) (u : Value), (cells L[i])[j]? = some u → w.cell? ⟨g, o + i * k + j, none⟩ = some u
theorem RowA.below {α : Type} {k : Nat} {cells : α → List Value} {w w' : World} {p : Option Addr} {L : List α} (h : RowA k cells w p L) (hb : Below w.heap.size w w') : RowA k cells w' p L := by
  rcases h with h | ⟨g, o, e, hg, hc⟩
  · exact .inl h
  · exact .inr ⟨g, o, e, Nat.lt_of_lt_of_le hg hb.size, fun i hi j u hu => (hb.cell (p := ⟨g, o + i * k + j, none⟩) hg).trans (hc i hi j u hu)⟩
theorem RowA.at {α : Type} {k : Nat} {cells : α → List Value} {w : World} {p : Option Addr} {L : List α} (h : RowA k cells w p L) {i : Nat} (hi : i < L.length) :
    ∃ g o, p = some ⟨g, o, none⟩ ∧ g < w.heap.size ∧ ∀ (j : Nat) (u : Value), (cells L[i])[j]? = some u → w.cell? ⟨g, o + i * k + j, none⟩ = some u := by
  rcases h with h | ⟨g, o, e, hg, hc⟩
  · subst h
    simp at hi
  · exact ⟨g, o, e, hg, fun j u hu => hc i hi j u hu⟩
section
variable {H : Type} {enc : TypeId × Value → H} {P : Program} {w : World} {base : Nat} {spare : Nat → Bool} {held : Bool} {r : Reach} {b0 : Nat}
theorem open_elems {α : Type} [Inhabited α] {t e : TypeId} {k : Nat} {cells : α → List Value} {good : α → Prop} (ht : P.underlying t = some (.slice e)) (hC : P.cellsOf e = k) (hk : 0 < k) (hcell : ∀ a, good a → 0 < (cells a).length)
    (elem : ∀ n cs x, DataW.trod enc P w base spare held n e cs = some x → ∃ a, cs = cells a ∧ good a)
    {v : Value} {d : DataW H} {p : List MemPlace} (hv : Value.okWide P w r b0 t v) (h : DataW.Trod enc P w base spare held t v d p) :
    ∃ (q : Option Addr) (c : Nat) (L : List α), v = .slice q L.length c ∧ RowA k cells w q L ∧ (∀ a ∈ L, good a) ∧ L.length ≤ maxLen := by
  obtain ⟨q, len, c, rfl⟩ := okWide_slice ht hv
  obtain ⟨fuel, hf⟩ := h
  rcases open_slice ht hf with ⟨h0, -⟩ | ⟨a, len', cap, m, n, D, Pl, hcs, -, hl, hm, hmm, -, hx⟩
  · simp only [Value.cells, List.cons.injEq, Value.slice.injEq, and_true] at h0
    obtain ⟨rfl, rfl, rfl⟩ := h0
    exact ⟨none, 0, [], rfl, .inl rfl, by simp, by simp⟩
  · simp only [Value.cells, List.cons.injEq, Value.slice.injEq, and_true] at hcs
    obtain ⟨rfl, rfl, rfl⟩ := hcs
    have hlm : len ≤ m := by
      rw [hmm]
      split <;> omega
    obtain ⟨V, hV⟩ := choose_lt (α := α) (n := len) (p := fun i x => good x ∧ ∀ (j : Nat) (u : Value), (cells x)[j]? = some u → w.cell? (a.add (i * k + j)) = some u) (fun i hi => by
      obtain ⟨cs', h1, h2⟩ := hx i (by omega)
      obtain ⟨x, rfl, hg⟩ := elem _ _ _ h2
      refine ⟨x, hg, fun j u hu => ?_⟩
      obtain ⟨_, hlen, hat⟩ := World.cells?_some h1
      rw [hC] at hat hlen
      have hj : j < k := by
        have := (List.getElem?_eq_some_iff.1 hu).1
        omega
      have := hat j hj
      rw [← hu, ← this, Go.Deep.add_add])
    have hL : ((List.range len).map V).length = len := by simp
    refine ⟨some a, c, (List.range len).map V, by rw [hL], ?_, ?_, by rw [hL]; omega⟩
    · by_cases h0 : len = 0
      · subst h0
        exact .inl rfl
      · right
        obtain ⟨g, o, spot⟩ := a
        have hw0 := hcell _ (hV 0 (by omega)).1
        have h00 := (hV 0 (by omega)).2 0 _ (List.getElem?_eq_getElem hw0)
        rw [Nat.zero_mul, Nat.zero_add] at h00
        have hspot : spot = none := by simpa [Addr.add] using World.cell?_spot h00
        subst hspot
        refine ⟨g, o, rfl, ?_, fun i hi j u hu => ?_⟩
        · have := World.block_lt_of_cell? w _ h00
          simpa [Addr.add] using this
        · rw [hL] at hi
          have := (hV i hi).2 j u (by simpa using hu)
          rw [show (⟨g, o, none⟩ : Addr).add (i * k + j) = ⟨g, o + i * k + j, none⟩ by unfold Addr.add; split <;> simp_all <;> omega] at this
          exact this
    · intro x hx
      rw [List.mem_map] at hx
      obtain ⟨i, hi, rfl⟩ := hx
      exact (hV i (List.mem_range.1 hi)).1
end
end Go.Proofs.YtoihkbanmnagkaaGreat
