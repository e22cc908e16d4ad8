/-
  Which of two ways is below, and the cheapest way from a length: what levels.below and levels.cheapest hand back. No condition but that the rows lie in memory, and bounds.
-/
import Derived.Test.YtnmcgboafdglbaaW17
import Derived.Test.YtnmcgboafdglbaaM17c
set_option linter.unusedSimpArgs false
set_option linter.unusedVariables false
namespace Go.Proofs.Ytnmcgboafdglbaa
open Go Go.RowKit Go.Sort M

/-- A way as a value. -/
abbrev wyV (x : Wc) : Value := .agg #[.int .i64 (x.c : Int), .int .i64 (x.f : Int), .bool x.t]
theorem below_any (x y : Wc) : Gives Try.prog 17 #[wyV x, wyV y] (.bool (chW x y)) := by
  intro w
  obtain ⟨xc, xf, xt⟩ := x
  obtain ⟨yc, yf, yt⟩ := y
  unfold wyV chW
  cases xt with
  | false =>
    go_enter Try.func17, Try.ntmps17
    go_wp2
    go_ret
    exact ⟨rfl, by go_grown⟩
  | true =>
    cases yt with
    | false =>
      go_enter Try.func17, Try.ntmps17
      go_wp2
      go_ret
      exact ⟨rfl, by go_grown⟩
    | true =>
      by_cases h : xc < yc
      · have h2 : (xc : Int) < (yc : Int) := by omega
        go_enter Try.func17, Try.ntmps17
        go_wp2
        go_ret
        exact ⟨ret_bool (by simp [h]), by go_grown⟩
      · have h2 : ¬ (xc : Int) < (yc : Int) := by omega
        go_enter Try.func17, Try.ntmps17
        go_wp2
        go_ret
        exact ⟨ret_bool (by simp [h]), by go_grown⟩
/-- A row of ways at q, from place lo to wd. -/
def WRow (w : World) (q : Option Addr) (lo wd : Nat) (F : Nat → Wc) : Prop := ∃ g, q = some ⟨g, 0, none⟩ ∧ g < w.heap.size ∧ ∀ j, lo ≤ j → j ≤ wd →
  w.cell? ⟨g, j * 3, none⟩ = some (.int .i64 ((F j).c : Int)) ∧ w.cell? ⟨g, j * 3 + 1, none⟩ = some (.int .i64 ((F j).f : Int)) ∧ w.cell? ⟨g, j * 3 + 2, none⟩ = some (.bool (F j).t)
theorem WRow.below {w w' : World} {q : Option Addr} {lo wd : Nat} {F : Nat → Wc} (h : WRow w q lo wd F) (hb : Below w.heap.size w w') : WRow w' q lo wd F := by
  obtain ⟨g, e, hg, hc⟩ := h
  exact ⟨g, e, Nat.lt_of_lt_of_le hg hb.size, fun j h1 h2 => ⟨(hb.cell (p := ⟨g, j * 3, none⟩) hg).trans (hc j h1 h2).1, (hb.cell (p := ⟨g, j * 3 + 1, none⟩) hg).trans (hc j h1 h2).2.1, (hb.cell (p := ⟨g, j * 3 + 2, none⟩) hg).trans (hc j h1 h2).2.2⟩⟩
/-- A row of costs. -/
def pcL (pc : Nat → Nat) (K : Nat) : List Int := (List.range K).map fun j => ((pc j : Nat) : Int)
theorem pcL_len (pc : Nat → Nat) (K : Nat) : (pcL pc K).length = K := by simp [pcL]
theorem pcL_at (pc : Nat → Nat) (K i : Nat) (h : i < (pcL pc K).length) : (pcL pc K)[i] = ((pc i : Nat) : Int) := by simp [pcL]
theorem pcL_snoc (pc : Nat → Nat) (K : Nat) : pcL pc (K + 1) = pcL pc K ++ [((pc K : Nat) : Int)] := by simp [pcL, List.range_succ]
set_option maxHeartbeats 2000000 in
set_option maxRecDepth 100000 in
theorem cheapest_any (p q : Option Addr) (c d a wd K : Nat) (pc : Nat → Nat) (F E : Nat → Wc) (w : World) (hP : IRow w p (pcL pc K)) (hQ : WRow w q (a + 1) wd F) (hK : a + K ≤ wd) (hwd : wd ≤ 128)
    (hpc : ∀ i, i < K → pc i ≤ 141836999983104) (hF : ∀ j, (F j).c ≤ 141836999983104) (hE0 : E 0 = ⟨0, 0, false⟩)
    (hE : ∀ i, i < K → E (i + 1) = if chW (canW (pc i) (a + 1 + i) (F (a + 1 + i))) (E i) then canW (pc i) (a + 1 + i) (F (a + 1 + i)) else E i) :
    Calls Try.prog 24 #[.int .i64 (a : Int), .slice p K c, .slice q (wd + 1) d] w fun e w' => e = .returned (wyV (E K)) ∧ Below w.heap.size w w' := by
  obtain ⟨h, rfl, hh, hc⟩ := hQ
  have HP := Lib.hid hP
  have HC := Lib.hid hc
  have HPC := Lib.hid hpc
  have HF := Lib.hid hF
  have HE0 := Lib.hid hE0
  have HE := Lib.hid hE
  clear hP hc hpc hF hE0 hE
  go_enter Try.func24, Try.ntmps24
  go_wp2
  go_loopg [15] K (fun kx s15 wr => ∃ (i : Nat) (x : Wc), s15 = .int .i64 (i : Int) ∧ K - i ≤ kx ∧ i ≤ K ∧ Hid (x = E i) ∧
    wr.cell? ⟨w.heap.size, 0, none⟩ = some (.int .i64 0) ∧ wr.cell? ⟨w.heap.size, 1, none⟩ = some (.int .i64 0) ∧ wr.cell? ⟨w.heap.size, 2, none⟩ = some (.bool false) ∧
    wr.cell? ⟨w.heap.size + 1, 0, none⟩ = some (.int .i64 (x.c : Int)) ∧ wr.cell? ⟨w.heap.size + 1, 1, none⟩ = some (.int .i64 (x.f : Int)) ∧ wr.cell? ⟨w.heap.size + 1, 2, none⟩ = some (.bool x.t) ∧
    (∀ j, wr.frozen? ⟨w.heap.size, j, none⟩ = false) ∧ (∀ j, wr.frozen? ⟨w.heap.size + 1, j, none⟩ = false) ∧ w.heap.size + 1 < wr.heap.size ∧ Below w.heap.size w wr)
  case atStart =>
    refine ⟨0, ⟨0, 0, false⟩, rfl, by omega, by omega, Lib.hid HE0.out.symm, ?_, ?_, ?_, ?_, ?_, ?_, ?_, ?_, ?_, by go_grown⟩
    all_goals simp [go_sem]
  case round =>
    obtain ⟨i, x, rfl, h1, h2, HX, r0, r1, r2, b0, b1, b2, fr, fb, hz, hb⟩ := hrel
    by_cases hi : i < K
    · have hpl := pcL_len pc K
      obtain ⟨g, o, rfl, hg, x0⟩ := (HP.out.below hb).at (k := i) (by omega)
      rw [pcL_at] at x0
      have hcc := HC.out (a + 1 + i) (by omega) (by omega)
      have y0 := (hb.cell (p := ⟨h, (a + 1 + i) * 3, none⟩) hh).trans hcc.1
      have y1 := (hb.cell (p := ⟨h, (a + 1 + i) * 3 + 1, none⟩) hh).trans hcc.2.1
      have y2 := (hb.cell (p := ⟨h, (a + 1 + i) * 3 + 2, none⟩) hh).trans hcc.2.2
      have hpc := HPC.out i hi
      have hF := HF.out (a + 1 + i)
      have hE := HE.out i hi
      rw [← HX.out] at hE
      obtain ⟨u, hu⟩ : ∃ u, u = pc i := ⟨_, rfl⟩
      obtain ⟨y, hy⟩ : ∃ y, y = F (a + 1 + i) := ⟨_, rfl⟩
      rw [← hu] at x0 hpc hE
      rw [← hy] at y0 y1 y2 hF hE
      have hbw := below_any (canW u (a + 1 + i) y) x
      have i1 : (0 : Int) ≤ (i : Int) := by omega
      have i2 : (i : Int) < (K : Int) := by omega
      obtain ⟨yc, yf, yt⟩ := y
      obtain ⟨xc, xf, xt⟩ := x
      have hcan : canW u (a + 1 + i) ⟨yc, yf, yt⟩ = ⟨u + yc, a + 1 + i, yt⟩ := rfl
      rw [hcan] at hE hbw
      simp only at y0 y1 y2 hF b0 b1 b2
      unfold wyV at hbw
      simp only at hbw
      have hh2 := Nat.lt_of_lt_of_le hh hb.size
      clear hu hy hcc hpl hcan HX
      have HBW := Lib.hid hbw
      have HEN := Lib.hid hE
      clear hbw hE
      have hz' : w.heap.size < wr.heap.size := by omega
      have s1 : wrap64 ((u : Int) + (yc : Int)) = (u : Int) + (yc : Int) := IntWalk.wrap64_in _ (by omega)
      go_wp2_with fail
      refine (HBW.out _).mono ?_
      rintro e w1 ⟨rfl, hb1⟩
      obtain ⟨hc1, hf1⟩ := bcell hb1
      have t0 := (hc1 (wr.heap.size + 1) 0 (by simp)).trans (show _ = some (Value.int .i64 ((u : Int) + (yc : Int))) by simp [go_sem])
      have t1 := (hc1 (wr.heap.size + 1) 1 (by simp)).trans (show _ = some (Value.int .i64 ((a : Int) + 1 + (i : Int))) by simp [go_sem])
      have t2 := (hc1 (wr.heap.size + 1) 2 (by simp)).trans (show _ = some (Value.bool yt) by simp [go_sem])
      have hw1 : Below wr.heap.size wr w1 := (((Below.refl _ _).alloc (Nat.le_refl _) _).alloc (by simp) _).trans (hb1.mono (by simp; omega))
      have hz1 : wr.heap.size + 1 < w1.heap.size := by have := hb1.size; simp at this; omega
      obtain ⟨kc1, kf1⟩ := bcell hw1
      have r0 := (kc1 _ _ hz').trans r0
      have r1 := (kc1 _ _ hz').trans r1
      have r2 := (kc1 _ _ hz').trans r2
      have b0 := (kc1 _ _ hz).trans b0
      have b1 := (kc1 _ _ hz).trans b1
      have b2 := (kc1 _ _ hz).trans b2
      have fr := fun j => (kf1 _ j hz').trans (fr j)
      have fb := fun j => (kf1 _ j hz).trans (fb j)
      have hb := hb.trans (hw1.mono hb.size)
      have hz2 : w.heap.size + 1 < w1.heap.size := by omega
      clear hc1 hf1 kc1 kf1 hb1 hw1 HBW x0 y0 y1 y2
      cases hch : chW ⟨u + yc, a + 1 + i, yt⟩ ⟨xc, xf, xt⟩ with
      | true =>
        have HEN2 := HEN.out
        rw [hch, if_pos rfl] at HEN2
        have HEN := Lib.hid HEN2
        clear HEN2 hch
        go_wp2
        go_roundg (K - (i + 1))
        case measure => omega
        case rel =>
          refine ⟨i + 1, ⟨u + yc, a + 1 + i, yt⟩, by go_num, by omega, by omega, Lib.hid HEN.out.symm, ?_, ?_, ?_, ?_, ?_, ?_, ?_, ?_, by simpa [go_sem] using hz2, by go_grown⟩
          all_goals simp [go_sem, r0, r1, r2, b0, b1, b2, fr, fb]
      | false =>
        have HEN2 := HEN.out
        rw [hch, if_neg (by decide)] at HEN2
        have HEN := Lib.hid HEN2
        clear HEN2 hch
        go_wp2
        go_roundg (K - (i + 1))
        case measure => omega
        case rel => exact ⟨i + 1, ⟨xc, xf, xt⟩, by go_num, by omega, by omega, Lib.hid HEN.out.symm, r0, r1, r2, b0, b1, b2, fr, fb, hz2, hb⟩
    · have hik : i = K := by omega
      have hx : x = E K := by rw [← hik]; exact HX.out
      have HXK := Lib.hid hx
      have hz' : w.heap.size < wr.heap.size := by omega
      clear hx HX hik
      go_wp2
      refine bodyPost_ret (by simp [results, Try.results24, go_sem, r0, r1, r2]; try rfl) rfl ?_
      exact ⟨by rw [← HXK.out], by go_grown⟩
end Go.Proofs.Ytnmcgboafdglbaa
