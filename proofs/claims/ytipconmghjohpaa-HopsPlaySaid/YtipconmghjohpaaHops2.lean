/-
  Counts of next hops: one use more, one less. No condition but those that stand in each.
-/
import Derived.Test.YtipconmghjohpaaHops
set_option linter.unusedSimpArgs false
set_option linter.unusedVariables false
namespace Go.Proofs.Ytipconmghjohpaa
open Go.RowKit Go.Sort Go.Maps M

/-- Does a number come to one use more; and what the uses are then, and how many have some. -/
def hupB (U : Int → Nat) (c : Nat) (most x : Int) : Bool := decide (0 ≤ x) && (decide (0 < U x) || decide ((c : Int) < most))
def hupU (U : Int → Nat) (c : Nat) (most x : Int) : Int → Nat := if hupB U c most x then updU U x (U x + 1) else U
def hupC (U : Int → Nat) (c : Nat) (most x : Int) : Nat := if hupB U c most x then (if 0 < U x then c else c + 1) else c
theorem updU_id (U : Int → Nat) (x : Int) : updU U x (U x) = U := by
  funext y
  unfold updU
  split
  · subst_vars
    rfl
  · rfl
theorem updU_le {U : Int → Nat} {x : Int} {v m m' : Nat} (h : ∀ y, U y ≤ m) (hm : m ≤ m') (hv : v ≤ m') : ∀ y, updU U x v y ≤ m' := by
  intro y
  unfold updU
  split
  · exact hv
  · exact Nat.le_trans (h y) hm
set_option maxHeartbeats 1000000 in
theorem hup_any (B g b : Nat) (most : Int) (U : Int → Nat) (c m : Nat) (x : Int) (hx : (Lit.int .i64 x).wf = true) (hm : m ≤ 1000000) (w : World) (H : Hps w B g b most U c m) :
    Calls Try.prog 7 #[.pointer (some ⟨g, 0, none⟩), .int .i64 x] w fun e w' => e = .returned (.bool (hupB U c most x)) ∧ Hps w' B g b most (hupU U c most x) (hupC U c most x) (m + 1) ∧ w.grownBy w' (some b) := by
  obtain ⟨bx0, bx1⟩ := bounds_i64 hx
  by_cases h0 : x < 0
  · have hu : hupB U c most x = false := by unfold hupB; simp; omega
    rw [show hupU U c most x = U by simp [hupU, hu], show hupC U c most x = c by simp [hupC, hu], hu]
    have HC := Lib.hid (H.more (Nat.le_succ m))
    clear hu H
    go_enter Try.func7, Try.ntmps7
    go_wp2
    go_ret
    have hb : Below w.heap.size w w := by go_grown
    exact ⟨rfl, HC.out, (grown_below hb).but _⟩
  · have HU := Lib.hid (huses_any B g b most U c m x hx w H)
    have hkey := keyOf_int_mk Try.underlying3 hx
    have hne := H.ne
    by_cases hz : U x = 0
    · rw [hz] at HU
      by_cases hr : (c : Int) < most
      · have hu : hupB U c most x = true := by unfold hupB; simp [hr]; omega
        rw [show hupU U c most x = updU U x (0 + 1) by simp [hupU, hu, hz], show hupC U c most x = c + 1 by simp [hupC, hu, hz], hu]
        have HR : Hid (∀ w, Hps w B g b most U c m → Calls Try.prog 11 #[.pointer (some ⟨g, 0, none⟩)] w fun e w' => e = .returned (.bool true) ∧ Below w.heap.size w w') := Lib.hid (fun w H => by have := room_any B g b most U c m w H; rwa [decide_eq_true hr] at this)
        have HC := Lib.hid H
        clear hu hr H
        go_enter Try.func7, Try.ntmps7
        go_wp2_with fail
        refine HU.out.mono ?_
        rintro e w1 ⟨rfl, hw1⟩
        go_wp2_with fail
        refine (HR.out _ (HC.out.below hw1)).mono ?_
        rintro e w2 ⟨rfl, hb2⟩
        have hw2 := hw1.trans (hb2.mono hw1.size)
        have H2 := HC.out.below hw2
        obtain ⟨D, hown, hT⟩ := H2.own
        have c0 := H2.map
        have hl := H2.lt
        have HT := Lib.hid hT
        have H2 := Lib.hid H2
        clear hT
        have hat2 : D.atKey (.int .i64 x) (.lit (.int .i64 0)) = .lit (.int .i64 0) := (HT.out.at' x).trans (by rw [hz]; rfl)
        have HAT := Lib.hid hat2
        clear hat2
        go_wp2_with (first
          | (at_lookup; refine wpList_lookup_own_int _ rfl _ _ 34 rfl 3 3 .i64 lawI Try.underlying34 Try.underlying3 (zeroI _) b m D rfl hown _ _ rfl hkey ?_; intro k hat hwk)
          | (at_mapUpdate; refine wpList_mapUpdate_own _ rfl _ _ _ 34 rfl 3 3 lawI Try.underlying34 _ b m D rfl hown (by unfold maxLen; omega) _ _ _ rfl rfl hkey _ [] (plainElem_int Try.underlying3 (wrap64_wf _)) ?_; intro wy hown1 hgrow1)
          | go_in)
        go_ret
        have hk := hat.symm.trans HAT.out
        simp only [DataW.lit.injEq, Lit.int.injEq, true_and] at hk
        subst hk
        have hP := HT.out.put x (0 + 1) (by omega)
        rw [if_neg (by omega)] at hP
        rw [show wrap64 (0 + 1) = ((0 + 1 : Nat) : Int) by rw [IntWalk.wrap64_in _ (by omega)]; rfl] at hown1
        exact ⟨rfl, H2.out.turn hown1 hP hgrow1 (updU_le HC.out.top (by omega) (by omega)), ((grown_below hw2).but _).trans hgrow1⟩
      · have hu : hupB U c most x = false := by unfold hupB; simp [hr, hz]
        rw [show hupU U c most x = U by simp [hupU, hu], show hupC U c most x = c by simp [hupC, hu], hu]
        have HR : Hid (∀ w, Hps w B g b most U c m → Calls Try.prog 11 #[.pointer (some ⟨g, 0, none⟩)] w fun e w' => e = .returned (.bool false) ∧ Below w.heap.size w w') := Lib.hid (fun w H => by have := room_any B g b most U c m w H; rwa [decide_eq_false hr] at this)
        have HC := Lib.hid H
        clear hu hr H
        go_enter Try.func7, Try.ntmps7
        go_wp2_with fail
        refine HU.out.mono ?_
        rintro e w1 ⟨rfl, hw1⟩
        go_wp2_with fail
        refine (HR.out _ (HC.out.below hw1)).mono ?_
        rintro e w2 ⟨rfl, hb2⟩
        have hw2 := hw1.trans (hb2.mono hw1.size)
        go_wp2
        go_ret
        exact ⟨rfl, (HC.out.below hw2).more (Nat.le_succ m), (grown_below hw2).but _⟩
    · have hu : hupB U c most x = true := by unfold hupB; simp; omega
      have hlt : 0 < U x := by omega
      have htop := H.top x
      rw [show hupU U c most x = updU U x (U x + 1) by simp [hupU, hu], show hupC U c most x = c by simp [hupC, hu, hlt], hu]
      obtain ⟨v, hv⟩ : ∃ v, v = U x := ⟨_, rfl⟩
      rw [← hv] at HU hlt htop ⊢
      have hz0 : ((v : Int) == 0) = false := by simp; omega
      have HV := Lib.hid hv
      have HC := Lib.hid H
      clear hu hz H hv
      go_enter Try.func7, Try.ntmps7
      go_wp2_with fail
      refine HU.out.mono ?_
      rintro e w1 ⟨rfl, hw1⟩
      have H2 := HC.out.below hw1
      obtain ⟨D, hown, hT⟩ := H2.own
      have c0 := H2.map
      have hl := H2.lt
      have HT := Lib.hid hT
      have H2 := Lib.hid H2
      clear hT
      have HAT : Hid (D.atKey (.int .i64 x) (.lit (.int .i64 0)) = .lit (.int .i64 (v : Int))) := Lib.hid ((HT.out.at' x).trans (by rw [HV.out]))
      go_wp2_with (first
        | (at_lookup; refine wpList_lookup_own_int _ rfl _ _ 34 rfl 3 3 .i64 lawI Try.underlying34 Try.underlying3 (zeroI _) b m D rfl hown _ _ rfl hkey ?_; intro k hat hwk)
        | (at_mapUpdate; refine wpList_mapUpdate_own _ rfl _ _ _ 34 rfl 3 3 lawI Try.underlying34 _ b m D rfl hown (by unfold maxLen; omega) _ _ _ rfl rfl hkey _ [] (plainElem_int Try.underlying3 (wrap64_wf _)) ?_; intro wy hown1 hgrow1)
        | go_in)
      go_ret
      have hk := hat.symm.trans HAT.out
      simp only [DataW.lit.injEq, Lit.int.injEq, true_and] at hk
      subst hk
      have hP := HT.out.put x (v + 1) (by omega)
      rw [if_pos (by rw [← HV.out]; exact hlt)] at hP
      rw [show wrap64 ((v : Int) + 1) = ((v + 1 : Nat) : Int) by rw [IntWalk.wrap64_in _ (by omega)]; rfl] at hown1
      exact ⟨rfl, H2.out.turn hown1 hP hgrow1 (updU_le HC.out.top (by omega) (by omega)), ((grown_below hw1).but _).trans hgrow1⟩
def hdnC (U : Int → Nat) (c : Nat) (x : Int) : Nat := if U x = 1 then c - 1 else c
set_option maxHeartbeats 1000000 in
theorem hdown_any (B g b : Nat) (most : Int) (U : Int → Nat) (c m : Nat) (x : Int) (hx : (Lit.int .i64 x).wf = true) (hm : m ≤ 1000000) (w : World) (H : Hps w B g b most U c m) :
    Calls Try.prog 8 #[.pointer (some ⟨g, 0, none⟩), .int .i64 x] w fun e w' => e = .returned (.bool (decide (0 < U x))) ∧ Hps w' B g b most (updU U x (U x - 1)) (hdnC U c x) (m + 1) ∧ w.grownBy w' (some b) := by
  have HU := Lib.hid (huses_any B g b most U c m x hx w H)
  have hkey := keyOf_int_mk Try.underlying3 hx
  have hne := H.ne
  have htop := H.top x
  by_cases hz : U x = 0
  · rw [show updU U x (U x - 1) = U by rw [show U x - 1 = U x by omega, updU_id], show hdnC U c x = c by simp [hdnC, hz], show decide (0 < U x) = false by simp [hz]]
    rw [hz] at HU
    have HC := Lib.hid H
    clear H htop
    go_enter Try.func8, Try.ntmps8
    go_wp2_with fail
    refine HU.out.mono ?_
    rintro e w1 ⟨rfl, hw1⟩
    go_wp2
    go_ret
    exact ⟨rfl, (HC.out.below hw1).more (Nat.le_succ m), (grown_below hw1).but _⟩
  · rw [show decide (0 < U x) = true by simp; omega]
    have HC := Lib.hid H
    by_cases h1 : U x = 1
    · rw [show hdnC U c x = c - 1 by simp [hdnC, h1], show updU U x (U x - 1) = updU U x 0 by rw [h1]]
      rw [h1] at HU
      clear H htop hz
      go_enter Try.func8, Try.ntmps8
      go_wp2_with fail
      refine HU.out.mono ?_
      rintro e w1 ⟨rfl, hw1⟩
      have H2 := HC.out.below hw1
      obtain ⟨D, hown, hT⟩ := H2.own
      have c0 := H2.map
      have hl := H2.lt
      have HT := Lib.hid hT
      have H2 := Lib.hid H2
      clear hT
      go_wp2_with (first
        | (at_delete; refine wpList_delete_own _ rfl _ _ 34 3 rfl 3 lawI Try.underlying34 _ b m D rfl hown _ _ rfl hkey ?_; intro wy hown1 hturn1)
        | go_in)
      go_ret
      have hP := HT.out.del x (by omega)
      have hgrow1 := hturn1.grown
      exact ⟨rfl, (H2.out.turn hown1 hP hgrow1 (updU_le HC.out.top (Nat.le_refl _) (by omega))).more (Nat.le_succ m), ((grown_below hw1).but _).trans hgrow1⟩
    · rw [show hdnC U c x = c by simp [hdnC, h1]]
      obtain ⟨v, hv⟩ : ∃ v, v = U x := ⟨_, rfl⟩
      rw [← hv] at HU htop hz h1 ⊢
      have hz0 : ((v : Int) == 0) = false := by simp; omega
      have hz1 : ((v : Int) == 1) = false := by simp; omega
      have HV := Lib.hid hv
      have HZ : Hid (2 ≤ v) := by show 2 ≤ v; omega
      clear hz h1 H hv
      go_enter Try.func8, Try.ntmps8
      go_wp2_with fail
      refine HU.out.mono ?_
      rintro e w1 ⟨rfl, hw1⟩
      have H2 := HC.out.below hw1
      obtain ⟨D, hown, hT⟩ := H2.own
      have c0 := H2.map
      have hl := H2.lt
      have HT := Lib.hid hT
      have H2 := Lib.hid H2
      clear hT
      have HAT : Hid (D.atKey (.int .i64 x) (.lit (.int .i64 0)) = .lit (.int .i64 (v : Int))) := Lib.hid ((HT.out.at' x).trans (by rw [HV.out]))
      go_wp2_with (first
        | (at_lookup; refine wpList_lookup_own_int _ rfl _ _ 34 rfl 3 3 .i64 lawI Try.underlying34 Try.underlying3 (zeroI _) b m D rfl hown _ _ rfl hkey ?_; intro k hat hwk)
        | (at_mapUpdate; refine wpList_mapUpdate_own _ rfl _ _ _ 34 rfl 3 3 lawI Try.underlying34 _ b m D rfl hown (by unfold maxLen; omega) _ _ _ rfl rfl hkey _ [] (plainElem_int Try.underlying3 (wrap64_wf _)) ?_; intro wy hown1 hgrow1)
        | go_in)
      go_ret
      have h2v := HZ.out
      have hk := hat.symm.trans HAT.out
      simp only [DataW.lit.injEq, Lit.int.injEq, true_and] at hk
      subst hk
      have hP := HT.out.put x (v - 1) (by omega)
      rw [if_pos (by rw [← HV.out]; omega)] at hP
      rw [show wrap64 ((v : Int) - 1) = ((v - 1 : Nat) : Int) by rw [IntWalk.wrap64_in _ (by omega)]; omega] at hown1
      exact ⟨rfl, H2.out.turn hown1 hP hgrow1 (updU_le HC.out.top (by omega) (by omega)), ((grown_below hw1).but _).trans hgrow1⟩
end Go.Proofs.Ytipconmghjohpaa
