/-
  The program's level in memory, how it is kept, and what New hands back. No condition but that words are words.
-/
import Derived.Test.YtoihkbanmnagkaaGreatRL21b
import Derived.Test.YtoihkbanmnagkaaGreatAppR
import Derived.Test.YtoihkbanmnagkaaGreatFil2b
import Derived.Test.YtoihkbanmnagkaaGreatSort2
import Derived.Test.YtoihkbanmnagkaaGreatRFil2d
/-
  What the reference's Turn leaves of a level: the changes, one by one. No condition but that the level lies in memory apart from the changes, that words are words, and that there are at most 100000 keys.
-/
set_option linter.unusedSimpArgs false
set_option linter.unusedVariables false
namespace Go.Proofs.YtoihkbanmnagkaaGreat
open Go Go.RowKit Go.Sort M

/-- What each operation of the statement that asks the table hands back. -/
def tgD (hv : Int) (hs : Bool) (n : Nat) (i : Nat) (v : Value) (_ : World) : Prop :=
  match i with
  | 9 => ∃ p c, v = .tuple #[.int .i64 hv, .bool hs, .slice p n c]
  | 10 => ∃ p c, v = .tuple #[.int .i64 hv, .bool hs, .slice p n c]
  | 11 => v = .int .i64 hv
  | 12 => v = .bool hs
  | 14 => v = .int .i64 hv
  | 15 => v = .bool hs
  | _ => True
/-- One step of the reference's Turn. -/
def RoundR (w wr : World) (K : Nat → Prop) (t : Nat) (V : Lv) (N : List Rt) : Prop := LvOk V N ∧ ∃ K', RLev wr K' t V ∧ Touch K w wr ∧ ∀ g, K' g → K g ∨ In w.heap.size wr.heap.size g
theorem RoundR.below {w wr w' : World} {K : Nat → Prop} {t : Nat} {V : Lv} {N : List Rt} (h : RoundR w wr K t V N) (hb : Below wr.heap.size wr w') : RoundR w w' K t V N := by
  obtain ⟨h1, K', h2, h3, h4⟩ := h
  refine ⟨h1, K', h2.below hb, h3.trans (.quiet hb), fun g hg => ?_⟩
  rcases h4 g hg with h | h
  · exact .inl h
  · exact .inr ⟨h.1, Nat.lt_of_lt_of_le h.2 hb.size⟩
theorem RoundR.step {w wr w' : World} {K K' K'' : Nat → Prop} {t : Nat} {V V' : Lv} {N' : List Rt} (hV : LvOk V' N') (h3 : Touch K w wr) (h4 : ∀ g, K' g → K g ∨ In w.heap.size wr.heap.size g) (h2 : RLev w' K'' t V') (hT : Touch K' wr w') (hK : ∀ g, K'' g → K' g ∨ In wr.heap.size w'.heap.size g) : RoundR w w' K t V' N' := by
  refine ⟨hV, K'', h2, ⟨hT.os.trans h3.os, hT.tape.trans h3.tape, hT.output.trans h3.output, Nat.le_trans h3.size hT.size, fun i hi hn => ?_⟩, fun g hg => ?_⟩
  · refine (hT.block i (Nat.lt_of_lt_of_le hi h3.size) (fun hk => ?_)).trans (h3.block i hi hn)
    rcases h4 i hk with h | h
    · exact hn h
    · have := h.1
      omega
  · rcases hK g hg with h | h
    · rcases h4 g h with h | h
      · exact .inl h
      · exact .inr ⟨h.1, Nat.lt_of_lt_of_le h.2 hT.size⟩
    · exact .inr ⟨Nat.le_trans h3.size h.1, h.2⟩
theorem touch_then {a b c : World} {K K1 : Nat → Prop} (h : Touch K a b) (hs : ∀ g, K1 g → K g ∨ a.heap.size ≤ g) (k : Touch K1 b c) : Touch K a c :=
  ⟨k.os.trans h.os, k.tape.trans h.tape, k.output.trans h.output, Nat.le_trans h.size k.size, fun i hi hn => (k.block i (Nat.lt_of_lt_of_le hi h.size) (fun x => by
    rcases hs i x with h | h
    · exact hn h
    · omega)).trans (h.block i hi hn)⟩
set_option maxRecDepth 100000 in
set_option maxHeartbeats 8000000 in
theorem rturn21_any (w : World) (K : Nat → Prop) (t : Nat) (V : Lv) (N : List Rt) (p : Option Addr) (c : Nat) (L : List Ch) (H : RLev w K t V) (HV : LvOk V N) (hg : ∀ x ∈ L, x.k.good) (hl : N.length + L.length ≤ 100000) (hR : Row w p (ccs L)) (hp : 0 < L.length → ∀ a, p = some a → ¬ K a.block) :
    Calls Tryz.prog 10 #[.pointer (some ⟨t, 0, none⟩), .slice p L.length c] w fun e w' => e = .returned (.tuple #[]) ∧ ∃ K', RLev w' K' t (V.turns L) ∧ Touch K w w' ∧ ∀ g, K' g → K g ∨ In w.heap.size w'.heap.size g := by
  have HR := Lib.hid hR
  have HG := Lib.hid hg
  have HP := Lib.hid hp
  have HV0 := Lib.hid HV
  have HI : Hid (RoundR w w K t (V.turns (L.take 0)) (rowsT V.n N (L.take 0))) := Lib.hid ⟨HV, K, H, Touch.refl _ _, fun g h => .inl h⟩
  clear hR hg hp H HV
  go_enter Tryz.func10, Tryz.ntmps10
  go_wp2
  go_loopg [4] L.length (fun kx s4 wr => ∃ i : Nat, s4 = .int .i64 (i : Int) ∧ L.length - i ≤ kx ∧ i ≤ L.length ∧ Hid (RoundR w wr K t (V.turns (L.take i)) (rowsT V.n N (L.take i))))
  case atStart => exact ⟨0, rfl, by omega, by omega, HI⟩
  case round =>
    clear HI
    obtain ⟨i, rfl, k1, k2, HI⟩ := hrel
    by_cases hi : i < L.length
    · obtain ⟨g0, o0, rfl, hg0, x0, x1, x2, -, x4⟩ := HR.out.ch hi
      have hng : ¬ K g0 := HP.out (by omega) _ rfl
      obtain ⟨hV, K1, ⟨lo, hi1, f, gg, u, b, v, hB⟩, hT, hK⟩ := HI.out
      have hsn : L.take (i + 1) = L.take i ++ [L[i]] := List.take_succ_eq_append_getElem hi
      have hgd := HG.out _ (List.getElem_mem hi)
      have hlen := (HV0.out.turns (L.take i) (fun x hx => HG.out x (List.mem_of_mem_take hx))).2
      rw [List.length_take] at hlen
      have hnn := turns_n V (L.take i)
      have hng1 : ¬ K1 g0 := fun h => by
        rcases hK g0 h with h | h
        · exact hng h
        · have := h.1
          omega
      have z0 := hT.cell x0 hng
      have z1 := hT.cell x1 hng
      have z2 := hT.cell x2 hng
      have z4 := hT.cell x4 hng
      have hgl := Nat.lt_of_lt_of_le hg0 hT.size
      have hzw := hT.size
      have i1 : (0 : Int) ≤ (i : Int) := by omega
      have i2 : (i : Int) < (L.length : Int) := by omega
      have hlast : ∀ wx, RoundR w wx K t ((V.turns (L.take i)).turn L[i]) (rowT V.n (rowsT V.n N (L.take i)) L[i]) → RoundR w wx K t (V.turns (L.take (i + 1))) (rowsT V.n N (L.take (i + 1))) := fun wx h => by
        rw [hsn, Lv.turns_snoc, rowsT_snoc]
        exact h
      have hVn := hV.turn L[i] hgd
      rw [hnn] at hVn
      have hM : (rowsT V.n N (L.take i)).length ≤ 100000 := by omega
      generalize L[i] = x at *
      obtain ⟨V1, hV1⟩ : ∃ V1, V1 = V.turns (L.take i) := ⟨_, rfl⟩
      obtain ⟨N1, hN1⟩ : ∃ N1, N1 = rowsT V.n N (L.take i) := ⟨_, rfl⟩
      rw [← hV1] at hV hB hlast hVn hnn
      rw [← hN1] at hV hlast hM
      rw [← hN1] at hVn
      obtain ⟨⟨kh, kl, kn⟩, xo, nw⟩ := x
      simp only at z0 z1 z2 z4 hgd
      have HB := Lib.hid hB
      have HVI := Lib.hid hV
      have HVN := Lib.hid hVn
      have HLA := Lib.hid hlast
      have HTT := Lib.hid hT
      have HKK := Lib.hid hK
      have HK2 : Hid (∀ g, K1 g → K g ∨ w.heap.size ≤ g) := Lib.hid fun g h => by
        rcases hK g h with h | h
        · exact .inl h
        · exact .inr h.1
      have hz : wr.heap.size ≤ wr.heap.size := Nat.le_refl _
      clear HI hV hB hT hK x0 x1 x2 x4 hsn hlast hVn hV1 hN1 hlen
      have d0 := HB.out.c0
      change _ = some (Value.int .i64 V1.n) at d0
      have d1 := HB.out.c1
      have d2 := HB.out.c2
      have dl := HB.out.lt
      by_cases hkn : kn = V1.n
      · have nq : (kn != V1.n) = false := by simpa using hkn
        have hst := HVI.out.st
        have hnum := HVI.out.kept.inv.num
        have hget := fun W (h : Tb RBk W u b v V1.T) => rget12_any u b v V1.T ⟨kh, kl, kn⟩ W h hnum hgd (by omega)
        unfold kyV at hget
        simp only at hget
        have HGET := Lib.hid hget
        have hhas : V1.has ⟨kh, kl, kn⟩ = (getT V1.T ⟨kh, kl, kn⟩).isSome := rfl
        obtain ⟨hs, hhs⟩ : ∃ hs, hs = V1.has ⟨kh, kl, kn⟩ := ⟨_, rfl⟩
        rw [← hhas, ← hhs] at HGET
        have HTE : Hid ((0 ≤ nw → (hs = true → V1.turn ⟨⟨kh, kl, kn⟩, xo, nw⟩ = { V1 with T := putF 16 V1.T ⟨⟨kh, kl, kn⟩, nw⟩ }) ∧ (hs = false → V1.turn ⟨⟨kh, kl, kn⟩, xo, nw⟩ = { V1 with C := addL V1.C (plc V1.s kh kl kn V1.k V1.C.length), T := putF 16 V1.T ⟨⟨kh, kl, kn⟩, nw⟩ })) ∧
            (¬ 0 ≤ nw → (hs = true → V1.turn ⟨⟨kh, kl, kn⟩, xo, nw⟩ = { V1 with C := remL V1.C (plc V1.s kh kl kn V1.k V1.C.length), T := (delT V1.T ⟨kh, kl, kn⟩).1 }) ∧ (hs = false → V1.turn ⟨⟨kh, kl, kn⟩, xo, nw⟩ = V1))) := by
          refine Lib.hid ⟨fun h0 => ⟨fun h => ?_, fun h => ?_⟩, fun h0 => ⟨fun h => ?_, fun h => ?_⟩⟩
          · unfold Lv.turn
            rw [if_pos (show (⟨⟨kh, kl, kn⟩, xo, nw⟩ : Ch).k.n = V1.n from hkn), if_pos h0]
            rw [show V1.has (⟨⟨kh, kl, kn⟩, xo, nw⟩ : Ch).k = true from hhs.symm.trans h, if_pos rfl]
          · unfold Lv.turn
            rw [if_pos (show (⟨⟨kh, kl, kn⟩, xo, nw⟩ : Ch).k.n = V1.n from hkn), if_pos h0]
            rw [show V1.has (⟨⟨kh, kl, kn⟩, xo, nw⟩ : Ch).k = false from hhs.symm.trans h, if_neg (by simp)]
            rfl
          · unfold Lv.turn
            rw [if_pos (show (⟨⟨kh, kl, kn⟩, xo, nw⟩ : Ch).k.n = V1.n from hkn), if_neg h0]
            rw [show V1.has (⟨⟨kh, kl, kn⟩, xo, nw⟩ : Ch).k = true from hhs.symm.trans h, if_pos rfl]
            rfl
          · unfold Lv.turn
            rw [if_pos (show (⟨⟨kh, kl, kn⟩, xo, nw⟩ : Ch).k.n = V1.n from hkn), if_neg h0]
            rw [show V1.has (⟨⟨kh, kl, kn⟩, xo, nw⟩ : Ch).k = false from hhs.symm.trans h, if_neg (by simp)]
        have hinv := HVI.out.kept.inv
        have hcl := HVI.out.kept.len
        have hlo := hinv.lo
        have hput := fun W (h : Tb RBk W u b v V1.T) => rput_any 16 u b v V1.T ⟨⟨kh, kl, kn⟩, nw⟩ W h hinv hgd (by omega) (by omega)
        have hdel := fun W (h : Tb RBk W u b v V1.T) => rdelete12_any u b v V1.T ⟨kh, kl, kn⟩ W h hnum hgd (by omega)
        unfold kyV at hput hdel
        simp only at hput hdel
        have hadd := fun W (h : RFil W lo hi1 f gg V1.s V1.k V1.C) => radd_any lo hi1 f gg V1.s V1.k V1.C kh kl kn W h hgd.1 hgd.2
        have hrem := fun W (h : RFil W lo hi1 f gg V1.s V1.k V1.C) => rrem_any lo hi1 f gg V1.s V1.k V1.C kh kl kn W h hgd.1 hgd.2
        have HPUT := Lib.hid hput
        have HDEL := Lib.hid hdel
        have HADD := Lib.hid hadd
        have HREM := Lib.hid hrem
        clear hget hhas hhs hnum hinv hcl hlo hput hdel hadd hrem hst hkn hnn
        go_wp2_with fail
        have kg := cell_grow
        refine region_whole (by kernel_rfl) (by kernel_rfl) ?_
        repeat (any_goals (first | go_big_quiet_step (fail) | quiet_step (fail)))
        refine wpQuiet_nil ?_
        clear kg
        intro w3 hb3
        obtain ⟨hc3, hf3⟩ := bcell hb3
        have HB := Lib.hid (HB.out.below hb3)
        have z0 := (hc3 _ _ hgl).trans z0
        have z1 := (hc3 _ _ hgl).trans z1
        have z2 := (hc3 _ _ hgl).trans z2
        have z4 := (hc3 _ _ hgl).trans z4
        have hgl := Nat.lt_of_lt_of_le hgl (hb3).size
        have HTT := Lib.hid (HTT.out.trans (.quiet hb3))
        have hz := Nat.le_trans hz (hb3).size
        clear d0 d1 d2 dl
        have d0 := HB.out.c0
        change _ = some (Value.int .i64 V1.n) at d0
        have d1 := HB.out.c1
        have d2 := HB.out.c2
        have dl := HB.out.lt
        clear hb3 hc3 hf3
        go_wp2_with fail
        have kg := cell_grow
        refine wp_region_noPanic ?_
        generalize hNQ : NoPanic _ = NQ
        refine region_eff9 [0, 1, 2, 4, 5, 6, 7] [3, 8] [(9, 35, []), (10, 25, [(9, 35)]), (11, 36, [(10, 25)]), (12, 37, [(10, 25)]), (13, 38, [(10, 25)]), (14, 5, [(11, 36)]), (15, 6, [(12, 37)]), (16, 7, [(13, 38)])] [] (tgD ((getT V1.T ⟨kh, kl, kn⟩).getD 0) hs (readT V1.T ⟨kh, kl, kn⟩).length) (fun i v W W' _ h => h) (by kernel_rfl) (by rw [← hNQ]; exact fun _ _ _ h => h) (by kernel_rfl) (by kernel_rfl) (by kernel_rfl) ?_
        simp only [pickL, List.filterMap_cons, List.filterMap_nil, List.getElem?_toArray, List.getElem?_cons_succ, List.getElem?_cons_zero]
        repeat (any_goals (quiet_step (fail)))
        refine wpQuiet_nil ?_
        clear kg
        refine ⟨by rfl, ⟨?_, ?_, ?_, ?_, ?_, ?_, ?_, ?_, trivial⟩, ?_⟩
        · intro W4 hW4 K9 hK9 o9 ho
          injection ho with ho
          subst ho
          go_simp
          go_at_call 30
          have htb4 := HB.out.tab.below bk_rbk hW4
          refine (HGET.out _ htb4).mono ?_
          rintro e w5 ⟨p5, c5, rfl, -, hb5⟩
          exact hK9 _ _ hb5 ⟨p5, c5, rfl⟩
        · intro W4 hW4 v5 h5 K9
          obtain ⟨p6, c6, rfl⟩ := h5
          go_simp
          intro hK9 o9 ho
          injection ho with ho
          subst ho
          go_simp
          exact hK9 _ _ (Below.refl _ _) ⟨p6, c6, rfl⟩
        · intro W4 hW4 v5 h5 K9
          obtain ⟨p6, c6, rfl⟩ := h5
          go_simp
          intro hK9 o9 ho
          injection ho with ho
          subst ho
          go_simp
          exact hK9 _ _ (Below.refl _ _) rfl
        · intro W4 hW4 v5 h5 K9
          obtain ⟨p6, c6, rfl⟩ := h5
          go_simp
          intro hK9 o9 ho
          injection ho with ho
          subst ho
          go_simp
          exact hK9 _ _ (Below.refl _ _) rfl
        · intro W4 hW4 v5 h5 K9
          obtain ⟨p6, c6, rfl⟩ := h5
          go_simp
          intro hK9 o9 ho
          injection ho with ho
          subst ho
          go_simp
          exact hK9 _ _ (Below.refl _ _) trivial
        · intro W4 hW4 v7 h7 K9
          obtain rfl : v7 = _ := h7
          go_simp
          intro hK9 o9 ho
          injection ho with ho
          subst ho
          go_simp
          exact hK9 _ _ (Below.refl _ _) rfl
        · intro W4 hW4 v8 h8 K9
          obtain rfl : v8 = _ := h8
          go_simp
          intro hK9 o9 ho
          injection ho with ho
          subst ho
          go_simp
          exact hK9 _ _ (Below.refl _ _) rfl
        · intro W4 hW4 v9 h9 K9
          clear h9
          go_simp
          intro hK9 o9 ho
          injection ho with ho
          subst ho
          go_simp
          exact hK9 _ _ (Below.refl _ _) trivial
        · intro w4 hb4 v5 h5 v6 h6 v7 h7 v8 h8 v9 h9 v10 h10 v11 h11 v12 h12
          obtain ⟨p5, c5, rfl⟩ := h5
          obtain ⟨p6, c6, rfl⟩ := h6
          obtain rfl : v7 = _ := h7
          obtain rfl : v8 = _ := h8
          obtain rfl : v10 = _ := h10
          obtain rfl : v11 = _ := h11
          show wpList _ _ _ _ _ _
          simp only [pickL, List.filterMap_nil]
          subst hNQ
          obtain ⟨hc4, -⟩ := bcell hb4
          have HB := Lib.hid (HB.out.below hb4)
          have z0 := (hc4 _ _ hgl).trans z0
          have z1 := (hc4 _ _ hgl).trans z1
          have z2 := (hc4 _ _ hgl).trans z2
          have z4 := (hc4 _ _ hgl).trans z4
          have hgl := Nat.lt_of_lt_of_le hgl (hb4).size
          have HTT := Lib.hid (HTT.out.trans (.quiet hb4))
          have hz := Nat.le_trans hz (hb4).size
          clear d0 d1 d2 dl
          have d0 := HB.out.c0
          change _ = some (Value.int .i64 V1.n) at d0
          have d1 := HB.out.c1
          have d2 := HB.out.c2
          have dl := HB.out.lt
          clear h9 h12 HGET hb4 hc4
          generalize (getT V1.T ⟨kh, kl, kn⟩).getD 0 = hv at *
          generalize (readT V1.T ⟨kh, kl, kn⟩).length = rl at *
          go_wp2_with fail
          refine NoPanic.normal ?_
          by_cases h0 : 0 ≤ nw
          · have HT1 := Lib.hid (HTE.out.1 h0)
            go_wp2_with fail
            have kg := cell_grow
            refine region_tail 14 (by kernel_rfl) (by kernel_rfl) ?_
            simp only [List.take_succ_cons, List.take_zero, List.drop_succ_cons, List.drop_zero]
            repeat (any_goals (first | go_big_quiet_step (fail) | quiet_step (fail)))
            refine wpQuiet_nil ?_
            clear kg
            intro w6 hb6
            obtain ⟨hc6, hf6⟩ := bcell hb6
            have HB := Lib.hid (HB.out.below hb6)
            have z0 := (hc6 _ _ hgl).trans z0
            have z1 := (hc6 _ _ hgl).trans z1
            have z2 := (hc6 _ _ hgl).trans z2
            have z4 := (hc6 _ _ hgl).trans z4
            have hgl := Nat.lt_of_lt_of_le hgl (hb6).size
            have HTT := Lib.hid (HTT.out.trans (.quiet hb6))
            have hz := Nat.le_trans hz (hb6).size
            clear d0 d1 d2 dl
            have d0 := HB.out.c0
            change _ = some (Value.int .i64 V1.n) at d0
            have d1 := HB.out.c1
            have d2 := HB.out.c2
            have dl := HB.out.lt
            clear hb6 hc6 hf6
            go_wp2_with fail
            refine (HPUT.out _ HB.out.tab).mono ?_
            rintro e w7 ⟨rfl, hst⟩
            obtain ⟨b2, v2, hB7, hT7⟩ := HB.out.tab_step hst
            have hz7 := hT7.size
            have hz := Nat.le_trans hz hz7
            have HTT := Lib.hid (touch_then HTT.out HK2.out hT7)
            have z0 := (hT7).cell z0 hng1
            have z1 := (hT7).cell z1 hng1
            have z2 := (hT7).cell z2 hng1
            have z4 := (hT7).cell z4 hng1
            have hgl := Nat.lt_of_lt_of_le hgl (hT7).size
            have HB := Lib.hid hB7
            clear d0 d1 d2 dl hst hB7
            have d0 := HB.out.c0
            change _ = some (Value.int .i64 V1.n) at d0
            have d1 := HB.out.c1
            have d2 := HB.out.c2
            have dl := HB.out.lt
            cases hs with
            | true =>
              have hte := HT1.out.1 rfl
              go_wp2
              go_roundg (L.length - (i + 1))
              case measure => omega
              case rel =>
                refine ⟨i + 1, by go_num, by omega, by omega, Lib.hid (HLA.out _ ⟨HVN.out, _, by rw [hte]; exact ⟨lo, hi1, f, gg, u, b2, v2, HB.out⟩, HTT.out, fun g hg => ?_⟩)⟩
                rcases hg with hg | hg
                · rcases HKK.out g hg with h | h
                  · exact .inl h
                  · exact .inr ⟨h.1, by have := h.2; omega⟩
                · exact .inr ⟨by have := hg.1; omega, hg.2⟩
            | false =>
              have hte := HT1.out.2 rfl
              go_wp2_with fail
              have kg := cell_grow
              refine region_tail 9 (by kernel_rfl) (by kernel_rfl) ?_
              simp only [List.take_succ_cons, List.take_zero, List.drop_succ_cons, List.drop_zero]
              repeat (any_goals (first | go_big_quiet_step (fail) | quiet_step (fail)))
              refine wpQuiet_nil ?_
              clear kg
              intro w8 hb8
              obtain ⟨hc8, hf8⟩ := bcell hb8
              have HB := Lib.hid (HB.out.below hb8)
              have z0 := (hc8 _ _ hgl).trans z0
              have z1 := (hc8 _ _ hgl).trans z1
              have z2 := (hc8 _ _ hgl).trans z2
              have z4 := (hc8 _ _ hgl).trans z4
              have hgl := Nat.lt_of_lt_of_le hgl (hb8).size
              have HTT := Lib.hid (HTT.out.trans (.quiet hb8))
              have hz := Nat.le_trans hz (hb8).size
              clear d0 d1 d2 dl
              have d0 := HB.out.c0
              change _ = some (Value.int .i64 V1.n) at d0
              have d1 := HB.out.c1
              have d2 := HB.out.c2
              have dl := HB.out.lt
              have hz8 := hb8.size
              clear hb8 hc8 hf8
              go_wp2_with fail
              refine (HADD.out _ HB.out.fil).mono ?_
              rintro e w9 ⟨rfl, hf9, hT9⟩
              obtain ⟨hB9, hT9'⟩ := HB.out.fil_step hf9 hT9
              have hz9 := hT9.size
              have HTT := Lib.hid (touch_then HTT.out (fun g hg => by
                rcases hg with hg | hg
                · exact HK2.out g hg
                · exact .inr (by have := hg.1; omega)) hT9')
              have HB := Lib.hid hB9
              clear hB9 hT9 hT9' hf9 d0 d1 d2 dl
              go_wp2
              go_roundg (L.length - (i + 1))
              case measure => omega
              case rel =>
                refine ⟨i + 1, by go_num, by omega, by omega, Lib.hid (HLA.out _ ⟨HVN.out, _, by rw [hte]; exact ⟨lo, hi1, f, gg, u, b2, v2, HB.out⟩, HTT.out, fun g hg => ?_⟩)⟩
                rcases hg with hg | hg
                · rcases HKK.out g hg with h | h
                  · exact .inl h
                  · exact .inr ⟨h.1, by have := h.2; omega⟩
                · exact .inr ⟨by have := hg.1; omega, by have := hg.2; omega⟩
          · have HT2 := Lib.hid (HTE.out.2 (by omega))
            cases hs with
            | true =>
              have hte := HT2.out.1 rfl
              go_wp2_with fail
              have kg := cell_grow
              refine region_tail 9 (by kernel_rfl) (by kernel_rfl) ?_
              simp only [List.take_succ_cons, List.take_zero, List.drop_succ_cons, List.drop_zero]
              repeat (any_goals (first | go_big_quiet_step (fail) | quiet_step (fail)))
              refine wpQuiet_nil ?_
              clear kg
              intro w10 hb10
              obtain ⟨hc10, hf10⟩ := bcell hb10
              have HB := Lib.hid (HB.out.below hb10)
              have z0 := (hc10 _ _ hgl).trans z0
              have z1 := (hc10 _ _ hgl).trans z1
              have z2 := (hc10 _ _ hgl).trans z2
              have z4 := (hc10 _ _ hgl).trans z4
              have hgl := Nat.lt_of_lt_of_le hgl (hb10).size
              have HTT := Lib.hid (HTT.out.trans (.quiet hb10))
              have hz := Nat.le_trans hz (hb10).size
              clear d0 d1 d2 dl
              have d0 := HB.out.c0
              change _ = some (Value.int .i64 V1.n) at d0
              have d1 := HB.out.c1
              have d2 := HB.out.c2
              have dl := HB.out.lt
              clear hb10 hc10 hf10
              go_wp2_with fail
              refine (HDEL.out _ HB.out.tab).mono ?_
              rintro e w7 ⟨rfl, hst⟩
              obtain ⟨b2, v2, hB7, hT7⟩ := HB.out.tab_step hst
              have hz7 := hT7.size
              have hz := Nat.le_trans hz hz7
              have HTT := Lib.hid (touch_then HTT.out HK2.out hT7)
              have z0 := (hT7).cell z0 hng1
              have z1 := (hT7).cell z1 hng1
              have z2 := (hT7).cell z2 hng1
              have z4 := (hT7).cell z4 hng1
              have hgl := Nat.lt_of_lt_of_le hgl (hT7).size
              have HB := Lib.hid hB7
              clear d0 d1 d2 dl hst hB7
              have d0 := HB.out.c0
              change _ = some (Value.int .i64 V1.n) at d0
              have d1 := HB.out.c1
              have d2 := HB.out.c2
              have dl := HB.out.lt
              go_wp2_with fail
              have kg := cell_grow
              refine region_tail 9 (by kernel_rfl) (by kernel_rfl) ?_
              simp only [List.take_succ_cons, List.take_zero, List.drop_succ_cons, List.drop_zero]
              repeat (any_goals (first | go_big_quiet_step (fail) | quiet_step (fail)))
              refine wpQuiet_nil ?_
              clear kg
              intro w11 hb11
              obtain ⟨hc11, hf11⟩ := bcell hb11
              have HB := Lib.hid (HB.out.below hb11)
              have z0 := (hc11 _ _ hgl).trans z0
              have z1 := (hc11 _ _ hgl).trans z1
              have z2 := (hc11 _ _ hgl).trans z2
              have z4 := (hc11 _ _ hgl).trans z4
              have hgl := Nat.lt_of_lt_of_le hgl (hb11).size
              have HTT := Lib.hid (HTT.out.trans (.quiet hb11))
              have hz := Nat.le_trans hz (hb11).size
              clear d0 d1 d2 dl
              have d0 := HB.out.c0
              change _ = some (Value.int .i64 V1.n) at d0
              have d1 := HB.out.c1
              have d2 := HB.out.c2
              have dl := HB.out.lt
              have hz8 := hb11.size
              clear hb11 hc11 hf11
              go_wp2_with fail
              refine (HREM.out _ HB.out.fil).mono ?_
              rintro e w9 ⟨rfl, hf9, hT9⟩
              obtain ⟨hB9, hT9'⟩ := HB.out.fil_step hf9 hT9
              have hz9 := hT9.size
              have HTT := Lib.hid (touch_then HTT.out (fun g hg => by
                rcases hg with hg | hg
                · exact HK2.out g hg
                · exact .inr (by have := hg.1; omega)) hT9')
              have HB := Lib.hid hB9
              clear hB9 hT9 hT9' hf9 d0 d1 d2 dl
              go_wp2
              go_roundg (L.length - (i + 1))
              case measure => omega
              case rel =>
                refine ⟨i + 1, by go_num, by omega, by omega, Lib.hid (HLA.out _ ⟨HVN.out, _, by rw [hte]; exact ⟨lo, hi1, f, gg, u, b2, v2, HB.out⟩, HTT.out, fun g hg => ?_⟩)⟩
                rcases hg with hg | hg
                · rcases HKK.out g hg with h | h
                  · exact .inl h
                  · exact .inr ⟨h.1, by have := h.2; omega⟩
                · exact .inr ⟨by have := hg.1; omega, by have := hg.2; omega⟩
            | false =>
              have hte := HT2.out.2 rfl
              go_wp2
              go_roundg (L.length - (i + 1))
              case measure => omega
              case rel =>
                refine ⟨i + 1, by go_num, by omega, by omega, Lib.hid (HLA.out _ ⟨HVN.out, _, by rw [hte]; exact ⟨lo, hi1, f, gg, u, b, v, HB.out⟩, HTT.out, fun g hg => ?_⟩)⟩
                rcases HKK.out g hg with h | h
                · exact .inl h
                · exact .inr ⟨h.1, by have := h.2; omega⟩
      · have nq : (kn != V1.n) = true := by simpa using hkn
        have hte : V1.turn ⟨⟨kh, kl, kn⟩, xo, nw⟩ = V1 := if_neg hkn
        have HTN := Lib.hid hte
        clear hte hnn hkn
        go_wp2_with fail
        have kg := cell_grow
        refine region_whole (by kernel_rfl) (by kernel_rfl) ?_
        repeat (any_goals (first | go_big_quiet_step (fail) | quiet_step (fail)))
        refine wpQuiet_nil ?_
        clear kg
        intro w3 hb3
        obtain ⟨hc3, hf3⟩ := bcell hb3
        have HB := Lib.hid (HB.out.below hb3)
        have z0 := (hc3 _ _ hgl).trans z0
        have z1 := (hc3 _ _ hgl).trans z1
        have z2 := (hc3 _ _ hgl).trans z2
        have z4 := (hc3 _ _ hgl).trans z4
        have hgl := Nat.lt_of_lt_of_le hgl (hb3).size
        have HTT := Lib.hid (HTT.out.trans (.quiet hb3))
        have hz := Nat.le_trans hz (hb3).size
        clear d0 d1 d2 dl
        have d0 := HB.out.c0
        change _ = some (Value.int .i64 V1.n) at d0
        have d1 := HB.out.c1
        have d2 := HB.out.c2
        have dl := HB.out.lt
        clear hb3 hc3 hf3
        go_wp2
        go_roundg (L.length - (i + 1))
        case measure => omega
        case rel =>
          refine ⟨i + 1, by go_num, by omega, by omega, Lib.hid (HLA.out _ ⟨HVN.out, _, by rw [HTN.out]; exact ⟨lo, hi1, f, gg, u, b, v, HB.out⟩, HTT.out, fun g hg => ?_⟩)⟩
          rcases HKK.out g hg with h | h
          · exact .inl h
          · exact .inr ⟨h.1, by have := h.2; omega⟩
    · have HE : Hid (RoundR w wr K t (V.turns L) (rowsT V.n N L)) := by
        have := HI.out
        rw [List.take_of_length_le (by omega)] at this
        exact Lib.hid this
      clear HI
      go_wp2
      go_end0
      obtain ⟨-, K', h2, h3, h4⟩ := HE.out
      exact ⟨rfl, K', h2, h3, h4⟩
end Go.Proofs.YtoihkbanmnagkaaGreat
/-
  The program's level in memory, how it is kept, and what New hands back. No condition but that words are words.
-/
set_option linter.unusedSimpArgs false
set_option linter.unusedVariables false
namespace Go.Proofs.YtoihkbanmnagkaaGreat
open Go Go.RowKit Go.Sort M

/-- The program's level: its struct at block t, its filter, its table, all in blocks that K allows, apart from each other. -/
structure LevB (w : World) (K : Nat → Prop) (t : Nat) (V : Lv) (lo hi f u : Nat) : Prop where
  lt : t < w.heap.size
  c0 : w.cell? ⟨t, 0, none⟩ = some (.int .i64 V.n)
  c1 : w.cell? ⟨t, 1, none⟩ = some (.pointer (some ⟨f, 0, none⟩))
  c2 : w.cell? ⟨t, 2, none⟩ = some (.pointer (some ⟨u, 0, none⟩))
  fil : Fil w lo hi f V.s V.k V.C
  tab : Seat (fun j => K j ∧ ¬ In lo hi j ∧ j ≠ t) w u V.T
  kt : K t
  kf : ∀ j, In lo hi j → K j
  tf : ¬ In lo hi t
  pos : 1 ≤ V.C.length
def LevP (w : World) (K : Nat → Prop) (t : Nat) (V : Lv) : Prop := ∃ lo hi f u, LevB w K t V lo hi f u
section
variable {w w' : World} {K S : Nat → Prop} {t : Nat} {V : Lv} {lo hi f u : Nat}
theorem LevB.top (H : LevB w K t V lo hi f u) : hi ≤ w.heap.size := by
  obtain ⟨_, _, _, _, h⟩ := H.fil
  exact h.top
theorem LevB.touched (H : LevB w K t V lo hi f u) (ht : Touch S w w') (hn : ∀ j, K j → ¬ S j) : LevB w' K t V lo hi f u :=
  ⟨Nat.lt_of_lt_of_le H.lt ht.size, ht.cell H.c0 (hn _ H.kt), ht.cell H.c1 (hn _ H.kt), ht.cell H.c2 (hn _ H.kt), H.fil.touched ht (fun j h1 h2 => hn _ (H.kf j ⟨h1, h2⟩)), H.tab.touched ht (fun j hj => hn _ hj.1), H.kt, H.kf, H.tf, H.pos⟩
theorem LevB.below (H : LevB w K t V lo hi f u) (hb : Below w.heap.size w w') : LevB w' K t V lo hi f u := H.touched (S := fun _ => False) (Touch.quiet hb) (fun _ _ x => x)
theorem LevB.old (H : LevB w K t V lo hi f u) : LevB w (fun j => K j ∧ j < w.heap.size) t V lo hi f u :=
  ⟨H.lt, H.c0, H.c1, H.c2, H.fil, H.tab.mono fun _ hj h => ⟨⟨h.1, hj⟩, h.2⟩, ⟨H.kt, H.lt⟩, fun j hj => ⟨H.kf j hj, Nat.lt_of_lt_of_le hj.2 H.top⟩, H.tf, H.pos⟩
/-- Which blocks the table may write: its own, and new ones. -/
def SeatOf (w : World) (K : Nat → Prop) (t lo hi : Nat) (j : Nat) : Prop := (K j ∨ w.heap.size ≤ j) ∧ ¬ In lo hi j ∧ j ≠ t
theorem LevB.seat (H : LevB w K t V lo hi f u) : Seat (SeatOf w K t lo hi) w u V.T := H.tab.mono fun _ _ h => ⟨.inl h.1, h.2⟩
theorem LevB.fresh (H : LevB w K t V lo hi f u) : ∀ j, w.heap.size ≤ j → SeatOf w K t lo hi j := fun j hj => ⟨.inr hj, fun h => by
  have := h.2
  have := H.top
  omega, fun h => by
  have := H.lt
  omega⟩
/-- Its table is written. -/
theorem LevB.tab_step {T' : Tab} (H : LevB w K t V lo hi f u) (hs : Seat (SeatOf w K t lo hi) w' u T') (ht : Touch (SeatOf w K t lo hi) w w') :
    LevB w' (fun j => K j ∨ In w.heap.size w'.heap.size j) t { V with T := T' } lo hi f u ∧ Touch K w w' := by
  refine ⟨⟨Nat.lt_of_lt_of_le H.lt ht.size, ht.cell H.c0 (fun h => h.2.2 rfl), ht.cell H.c1 (fun h => h.2.2 rfl), ht.cell H.c2 (fun h => h.2.2 rfl), H.fil.touched ht (fun j h1 h2 h => h.2.1 ⟨h1, h2⟩), hs.mono fun j hj h => ⟨?_, h.2⟩, .inl H.kt, fun j hj => .inl (H.kf j hj), H.tf, H.pos⟩, ht.mono fun j hj h => ?_⟩
  · rcases h.1 with h | h
    · exact .inl h
    · exact .inr ⟨h, hj⟩
  · rcases h.1 with h | h
    · exact h
    · omega
/-- Its filter is written. -/
theorem LevB.fil_step {C' : List Nat} (H : LevB w K t V lo hi f u) (hf : Fil w' lo hi f V.s V.k C') (ht : Touch (In lo hi) w w') (hl : C'.length = V.C.length) :
    LevB w' K t { V with C := C' } lo hi f u ∧ Touch K w w' :=
  ⟨⟨Nat.lt_of_lt_of_le H.lt ht.size, ht.cell H.c0 H.tf, ht.cell H.c1 H.tf, ht.cell H.c2 H.tf, hf, H.tab.touched ht (fun j hj hn => hj.2.1 hn), H.kt, H.kf, H.tf, by show 1 ≤ C'.length; have := H.pos; omega⟩, ht.mono fun k _ hk => H.kf k hk⟩
end
theorem LevP.touched {w w' : World} {K S : Nat → Prop} {t : Nat} {V : Lv} (H : LevP w K t V) (ht : Touch S w w') (hn : ∀ j, K j → ¬ S j) : LevP w' K t V := by
  obtain ⟨lo, hi, f, u, H⟩ := H
  exact ⟨lo, hi, f, u, H.touched ht hn⟩
theorem LevP.below {w w' : World} {K : Nat → Prop} {t : Nat} {V : Lv} (H : LevP w K t V) (hb : Below w.heap.size w w') : LevP w' K t V := H.touched (S := fun _ => False) (Touch.quiet hb) (fun _ _ x => x)
set_option maxRecDepth 100000 in
set_option maxHeartbeats 2000000 in
theorem plevel_bad (n k m b : Int) (s : Nat) (w : World) (ws : W64 s) (h : badV n k m b) :
    Calls Tryz.prog 6 #[.int .i64 n, .int .u64 (s : Int), .int .i64 k, .int .i64 m, .int .i64 b] w fun e w' => e = .returned (.tuple #[.pointer none, .int .i64 1]) ∧ Below w.heap.size w w' := by
  unfold badV at h
  by_cases h1 : n < 1
  · go_enter Tryz.func6, Tryz.ntmps6
    go_wp2
    go_ret2
    exact ⟨rfl, by go_grown⟩
  · by_cases h2 : 128 < n
    · go_enter Tryz.func6, Tryz.ntmps6
      go_wp2
      go_ret2
      exact ⟨rfl, by go_grown⟩
    · by_cases hf : 1 ≤ k ∧ k ≤ 16 ∧ 1 ≤ m ∧ m ≤ 65536
      · have hF := Lib.hid (fnew_any s k m ws hf.1 hf.2.1 hf.2.2.1 hf.2.2.2 w)
        have hX := Lib.hid (pmix_at s ws)
        have hB := Lib.hid (fun W => new_bad (mixN s) b W (by omega))
        clear h hf
        go_enter Tryz.func6, Tryz.ntmps6
        go_wp2_with fail
        refine hF.out.mono ?_
        rintro e w1 ⟨f, rfl, -, hb1⟩
        clear hF
        go_wp2_with fail
        refine (hX.out _).mono ?_
        rintro e w2 ⟨rfl, hb2⟩
        have hw2 := hb1.trans (hb2.mono hb1.size)
        clear hX hb1 hb2
        go_wp2_with fail
        refine (hB.out _).mono ?_
        rintro e w3 ⟨rfl, hb3⟩
        have hw3 := hw2.trans (hb3.mono hw2.size)
        clear hB hb3 hw2
        go_wp2
        go_ret2
        exact ⟨rfl, hw3⟩
      · have hF := Lib.hid (fnew_bad s k m hf w)
        clear h hf
        go_enter Tryz.func6, Tryz.ntmps6
        go_wp2_with fail
        refine hF.out.mono ?_
        rintro e w1 ⟨rfl, hb1⟩
        clear hF
        go_wp2
        go_ret2
        exact ⟨rfl, hb1⟩
set_option maxRecDepth 100000 in
set_option maxHeartbeats 2000000 in
theorem plevel_new (n k : Int) (s m b : Nat) (w : World) (ws : W64 s) (h : ¬ badV n k m b) :
    Calls Tryz.prog 6 #[.int .i64 n, .int .u64 (s : Int), .int .i64 k, .int .i64 (m : Int), .int .i64 (b : Int)] w fun e w' =>
      ∃ t, e = .returned (.tuple #[.pointer (some ⟨t, 0, none⟩), .int .i64 0]) ∧ LevP w' (In w.heap.size w'.heap.size) t (newV n s k m b) ∧ Below w.heap.size w w' := by
  unfold badV at h
  obtain ⟨h1, h2, hf, h3, h4⟩ := Classical.not_not.1 h
  have hF := Lib.hid (fnew_any s k m ws hf.1 hf.2.1 (by omega) (by omega) w)
  have hX := Lib.hid (pmix_at s ws)
  have hB := Lib.hid (fun W => Seat.new (mixN s) b W (by omega) (by omega))
  have HM : Hid (1 ≤ m) := Lib.hid (by omega)
  have n1 : ¬ n < 1 := by omega
  have n2 : ¬ 128 < n := by omega
  clear h hf h1 h2 h3 h4
  go_enter Tryz.func6, Tryz.ntmps6
  go_wp2_with fail
  refine hF.out.mono ?_
  rintro e w1 ⟨f, rfl, hfil, hb1⟩
  have HF := Lib.hid hfil
  clear hF hfil
  go_wp2_with fail
  refine (hX.out _).mono ?_
  rintro e w2 ⟨rfl, hb2⟩
  have hw2 := hb1.trans (hb2.mono hb1.size)
  have HF2 := Lib.hid (HF.out.below hb2)
  clear hX HF
  go_wp2_with fail
  refine (hB.out _).mono ?_
  rintro e w3 ⟨u, rfl, htb, hb3⟩
  have hw3 := hw2.trans (hb3.mono hw2.size)
  have HF3 := Lib.hid (HF2.out.below hb3)
  have HT := Lib.hid htb
  have hz1 := hb1.size
  have hz2 := hb2.size
  have hz3 := hb3.size
  clear hB hw2 HF2 htb
  go_wp2
  go_ret2
  refine ⟨w3.heap.size, rfl, ⟨w.heap.size, w1.heap.size, f, u, ?_⟩, by go_grown⟩
  have hbl : Below w3.heap.size w3 (w3.alloc (.cells #[.int .i64 n, .pointer (some ⟨f, 0, none⟩), .pointer (some ⟨u, 0, none⟩)] 71)) := by go_grown
  have hsz : (w3.alloc (.cells #[.int .i64 n, .pointer (some ⟨f, 0, none⟩), .pointer (some ⟨u, 0, none⟩)] 71)).heap.size = w3.heap.size + 1 := by simp
  have hfl := HF3.out.below hbl
  rw [Int.toNat_natCast] at hfl
  refine ⟨by simp, by simp [go_sem, newV], by simp [go_sem], by simp [go_sem], hfl, ?_, ⟨by omega, by omega⟩, fun j hj => ⟨hj.1, by have := hj.2; omega⟩, fun hj => by have := hj.2; omega, by simpa [newV] using HM.out⟩
  refine ((HT.out.mono (Q := fun j => w2.heap.size ≤ j ∧ j < w3.heap.size) fun j hj h => ⟨h, hj⟩).below hbl).mono fun j hj h => ⟨⟨by omega, by omega⟩, fun x => ?_, ?_⟩
  · have := x.2
    omega
  · omega
end Go.Proofs.YtoihkbanmnagkaaGreat
