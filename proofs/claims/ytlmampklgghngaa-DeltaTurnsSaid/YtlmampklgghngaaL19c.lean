/-
  DeltaFew as a walk: it hands back true, for every input, if the program's Of, Level and Set hand back what they should. No condition besides.
-/
import Derived.Test.YtlmampklgghngaaL18
set_option linter.unusedSimpArgs false
set_option linter.unusedVariables false
namespace Go.Proofs.Ytlmampklgghngaa
open Go Go.RowKit Go.Sort M

theorem ofS_len (A B : List Rt) : (ofS A B).length ≤ A.length + B.length := by
  have e3 := nodup_le (M := keysR (A ++ B)) (of_nodup A B) fun k hk => by
    obtain ⟨x, hx, rfl⟩ := List.mem_map.1 hk
    exact turn_keys ((mem_of _ _ _).1 hx).1
  unfold keysR at e3
  simp only [List.length_map, List.length_append] at e3
  exact e3
theorem ofS_good {A B : List Rt} (hA : ∀ r ∈ A, r.k.good) (hB : ∀ r ∈ B, r.k.good) : ∀ c ∈ ofS A B, c.k.good := by
  intro c hc
  have := turn_keys ((mem_of _ _ _).1 hc).1
  unfold keysR at this
  obtain ⟨r, hr, e⟩ := List.mem_map.1 this
  rw [← e]
  rcases List.mem_append.1 hr with h | h
  · exact hA r h
  · exact hB r h
theorem setS_good {N : List Rt} (hg : ∀ r ∈ N, r.k.good) (low high : Int) : ∀ r ∈ setS N low high, r.k.good := by
  intro r hr
  obtain ⟨j, hj, -, -, hk⟩ := mem_keysS.1 ((mem_setS _ _ _ _).1 hr).2.1
  exact spr_good (keysR_good hg hj) high hk
set_option maxHeartbeats 4000000 in
set_option maxRecDepth 100000 in
theorem dfew_walk (HO : OfC) (HL : LevelC) (HSC : SetC) (q : Option Addr) (c : Nat) (L : List Rt) (kh kl : Nat) (kn hop low high : Int) (w : World) (hR : Row w q (rcs L)) (hg : ∀ x ∈ L, x.k.good) (ha : W64 kh) (hb : W64 kl) (hcap : L.length ≤ c) (hnil : q = none → c = 0) (hL : L.length ≤ maxLen) :
    Calls Try.prog 5 #[.slice q L.length c, .agg #[.int .u64 (kh : Int), .int .u64 (kl : Int), .int .i64 kn], .int .i64 hop, .int .i64 low, .int .i64 high] w fun e w' => e = .returned (.bool true) ∧ Below w.heap.size w w' := by
  have HA := Lib.hid (fun w => alive19_any HO w)
  unfold maxLen at hL
  by_cases g1 : L.length ≤ 30
  · by_cases g2 : wrap64 (high - low) ≤ 8
    · by_cases g3 : low < -1
      · skip
        clear hR hg
        go_enter Try.func5, Try.ntmps5
        go_wp2_with fail
        refine (HA.out _).mono ?_
        rintro e w1 ⟨rfl, hb1⟩
        have hw1 : Below w.heap.size w w1 := Below.trans (by go_grown) (hb1.mono (by simp))
        go_wp2
        go_ret
        exact ⟨rfl, hw1⟩
      by_cases g4 : 128 < high
      · skip
        clear hR hg
        go_enter Try.func5, Try.ntmps5
        go_wp2_with fail
        refine (HA.out _).mono ?_
        rintro e w1 ⟨rfl, hb1⟩
        have hw1 : Below w.heap.size w w1 := Below.trans (by go_grown) (hb1.mono (by simp))
        go_wp2
        go_ret
        exact ⟨rfl, hw1⟩
      by_cases g5 : high ≤ low
      · skip
        clear hR hg
        go_enter Try.func5, Try.ntmps5
        go_wp2_with fail
        refine (HA.out _).mono ?_
        rintro e w1 ⟨rfl, hb1⟩
        have hw1 : Below w.heap.size w w1 := Below.trans (by go_grown) (hb1.mono (by simp))
        go_wp2
        go_ret
        exact ⟨rfl, hw1⟩
      have hr := rright_any kh kl kn ha hb
      have hwe : wrap64 (high - low) = high - low := IntWalk.wrap64_in _ (by omega)
      rw [hwe] at g2
      have i0 : high - low ≤ 9223372036854775807 := by omega
      have i00 : -9223372036854775808 ≤ high - low := by omega
      cases hrb : rightB kh kl kn with
      | false =>
        rw [hrb] at hr
        have HR0 := Lib.hid hr
        clear hR hg hr hrb hwe
        go_enter Try.func5, Try.ntmps5
        go_wp2_with fail
        refine (HA.out _).mono ?_
        rintro e w1 ⟨rfl, hb1⟩
        have hw1 : Below w.heap.size w w1 := Below.trans (by go_grown) (hb1.mono (by simp))
        have b0 : w1.cell? ⟨w.heap.size, 0, none⟩ = some (.int .u64 (kh : Int)) := by
          rw [hb1.cell (by simp <;> omega)]
          first | assumption | (simp [go_sem]; done) | (simp [go_sem, *]; done)
        have b1 : w1.cell? ⟨w.heap.size, 1, none⟩ = some (.int .u64 (kl : Int)) := by
          rw [hb1.cell (by simp <;> omega)]
          first | assumption | (simp [go_sem]; done) | (simp [go_sem, *]; done)
        have b2 : w1.cell? ⟨w.heap.size, 2, none⟩ = some (.int .i64 kn) := by
          rw [hb1.cell (by simp <;> omega)]
          first | assumption | (simp [go_sem]; done) | (simp [go_sem, *]; done)
        clear hb1
        go_wp2_with fail
        refine (HR0.out _).mono ?_
        rintro e w2 ⟨rfl, hb2⟩
        have hw2 := hw1.trans (hb2.mono hw1.size)
        go_wp2
        go_ret
        exact ⟨rfl, hw2⟩
      | true =>
        rw [hrb] at hr
        have hkg : (⟨kh, kl, kn⟩ : Ky).good := ⟨ha, hb⟩
        have hR0 : Hid (∀ W, Below w.heap.size w W → Row W q (rcs L)) := Lib.hid fun W h => hR.below h
        have hgs : ∀ x ∈ sortR L, x.k.good := fun x hx => hg x (sortR_sub hx)
        have hsrt := (sortR_mem L).1
        have hfew := fun c (hc : c ∈ ofS (setS (sortR L) low high) (setS (lvlM (sortR L) ⟨kh, kl, kn⟩ hop) low high)) => few hsrt hgs hkg hop (by omega : low < high) hc
        have hlen := few_len hsrt hgs hkg hop (by omega : low < high) (by omega : high - low ≤ 8)
        have hxg := ofS_good (setS_good hgs low high) (setS_good (lvl_good hgs hkg hsrt hop) low high)
        have h3 := fun W (e2 : Below w.heap.size w W) => HL q c L ⟨kh, kl, kn⟩ hop low high W (hR.below e2) hg hkg hnil hcap (by omega)
        have h4 := fun W (e2 : Below w.heap.size w W) => HSC q c L low high W (hR.below e2) hg hnil hcap (by omega)
        have hSl : (setS (sortR L) low high).length < 1048576 := by
          have e0 := sortR_len L
          have e1 := setS_len (sortR L) low high hgs
          omega
        obtain ⟨X, hX⟩ : ∃ X, X = ofS (setS (sortR L) low high) (setS (lvlM (sortR L) ⟨kh, kl, kn⟩ hop) low high) := ⟨_, rfl⟩
        obtain ⟨S, hS⟩ : ∃ S, S = setS (sortR L) low high := ⟨_, rfl⟩
        rw [← hS] at h4 hSl
        rw [← hX] at h3 hfew hlen hxg
        unfold kyA at h3
        simp only at h3 hfew
        have hX0 : Hid (0 < X.length → low < kn ∧ kn ≤ high) := Lib.hid fun h => by
          have := hfew X[0] (List.getElem_mem h)
          exact ⟨this.2.2.1, this.2.2.2.1⟩
        have HFEW : Hid (∀ j (h : j < X.length), X[j].k.n = high ∧ hasB kh kl kn X[j].k.h X[j].k.l = true ∧ X[j].k.good) := Lib.hid fun j h => by
          have := hfew X[j] (List.getElem_mem h)
          exact ⟨this.1, this.2.1, hxg _ (List.getElem_mem h)⟩
        have H0 := Lib.hid hr
        have H3 := Lib.hid h3
        have H4 := Lib.hid h4
        have HAB := Lib.hid (And.intro ha hb)
        clear hR hg hr hrb hwe hgs hsrt hfew hxg h3 h4 hX hS hkg ha hb hnil hcap
        have hmain : Hid (∀ w2, Below w.heap.size w w2 → True) := Lib.hid fun _ _ => trivial
        clear hmain
        go_enter Try.func5, Try.ntmps5
        go_wp2_with fail
        refine (HA.out _).mono ?_
        rintro e w1 ⟨rfl, hb1⟩
        have hw1 : Below w.heap.size w w1 := Below.trans (by go_grown) (hb1.mono (by simp))
        have b0 : w1.cell? ⟨w.heap.size, 0, none⟩ = some (.int .u64 (kh : Int)) := by
          rw [hb1.cell (by simp <;> omega)]
          first | assumption | (simp [go_sem]; done) | (simp [go_sem, *]; done)
        have b1 : w1.cell? ⟨w.heap.size, 1, none⟩ = some (.int .u64 (kl : Int)) := by
          rw [hb1.cell (by simp <;> omega)]
          first | assumption | (simp [go_sem]; done) | (simp [go_sem, *]; done)
        have b2 : w1.cell? ⟨w.heap.size, 2, none⟩ = some (.int .i64 kn) := by
          rw [hb1.cell (by simp <;> omega)]
          first | assumption | (simp [go_sem]; done) | (simp [go_sem, *]; done)
        have hz1 : w.heap.size < w1.heap.size := by have := hb1.size; simp at this; omega
        clear hb1
        go_wp2_with fail
        refine (H0.out _).mono ?_
        rintro e w2 ⟨rfl, hb2⟩
        have hw2 := hw1.trans (hb2.mono hw1.size)
        have b0 := (hb2.cell (p := ⟨w.heap.size, 0, none⟩) hz1).trans b0
        have b1 := (hb2.cell (p := ⟨w.heap.size, 1, none⟩) hz1).trans b1
        have b2 := (hb2.cell (p := ⟨w.heap.size, 2, none⟩) hz1).trans b2
        have hz2 := Nat.lt_of_lt_of_le hz1 hb2.size
        clear hb2
        go_wp2_with fail
        refine (H3.out _ hw2).mono ?_
        rintro e w3 ⟨p3, c3, rfl, ho3, hb3⟩
        have hw3 := hw2.trans (hb3.mono hw2.size)
        have b0 := (hb3.cell (p := ⟨w.heap.size, 0, none⟩) hz2).trans b0
        have b1 := (hb3.cell (p := ⟨w.heap.size, 1, none⟩) hz2).trans b1
        have b2 := (hb3.cell (p := ⟨w.heap.size, 2, none⟩) hz2).trans b2
        have hz3 := Nat.lt_of_lt_of_le hz2 hb3.size
        have HX := Lib.hid (Row.of_own ho3)
        clear ho3 hb3
        by_cases e1 : kn ≤ low
        · have hxl : ¬ (0 : Int) < (X.length : Int) := fun h => by
            have := (hX0.out (by omega)).1
            omega
          have d1 : decide (kn ≤ low) = true := decide_eq_true e1
          have d3 : decide ((0 : Int) < (X.length : Int)) = false := decide_eq_false hxl
          have d4 : decide (0 < X.length) = false := decide_eq_false (by omega)
          clear e1
          go_wp2_with fail
          go_loopg [13] X.length (fun kx s13 wr => ∃ j : Nat, s13 = .int .i64 (j : Int) ∧ X.length - j ≤ kx ∧ j ≤ X.length ∧ wr.cell? ⟨w.heap.size, 0, none⟩ = some (.int .u64 (kh : Int)) ∧ wr.cell? ⟨w.heap.size, 1, none⟩ = some (.int .u64 (kl : Int)) ∧ wr.cell? ⟨w.heap.size, 2, none⟩ = some (.int .i64 kn) ∧ w.heap.size < wr.heap.size ∧ Below w3.heap.size w3 wr)
          case atStart => exact ⟨0, rfl, by omega, by omega, b0, b1, b2, hz3, Below.refl _ _⟩
          case round =>
            clear b0 b1 b2
            obtain ⟨j, rfl, k1, k2, b0, b1, b2, hz, hb⟩ := hrel
            by_cases hj : j < X.length
            · obtain ⟨g, o, rfl, hgr, x0, x1, x2, x3, x4⟩ := (HX.out.below hb).ch hj
              obtain ⟨f1, f2, f3⟩ := HFEW.out j hj
              have hh := rhas_any kh kl kn X[j].k.h X[j].k.l HAB.out.1 HAB.out.2 f3.1 f3.2
              rw [f2] at hh
              rw [f1] at x2
              generalize X[j] = x at *
              obtain ⟨⟨xh, xl, xn⟩, xo, xw⟩ := x
              simp only at x0 x1 x2 hh
              have HH := Lib.hid hh
              have i1 : (0 : Int) ≤ (j : Int) := by omega
              have i2 : (j : Int) < (X.length : Int) := by omega
              clear f1 f2 f3 hh x3 x4
              go_wp2_with fail
              have kg := cell_grow
              refine region_whole (by kernel_rfl) (by kernel_rfl) ?_
              repeat (any_goals (first | go_big_quiet_step ((exact HH.out.at _ _ _)) | quiet_step ((exact HH.out.at _ _ _))))
              refine wpQuiet_nil ?_
              clear kg
              intro w10 hb10
              obtain ⟨hc10, hf10⟩ := bcell hb10
              have b0 := (hc10 _ _ hz).trans b0
              have b1 := (hc10 _ _ hz).trans b1
              have b2 := (hc10 _ _ hz).trans b2
              have hz10 := Nat.lt_of_lt_of_le hz hb10.size
              have hb11 := hb.trans (hb10.mono hb.size)
              clear hc10 hf10 hb10
              go_wp2
              go_roundg (X.length - (j + 1))
              case measure => omega
              case rel => exact ⟨j + 1, by go_num, by omega, by omega, b0, b1, b2, hz10, hb11⟩
            · have hw4 := hw3.trans (hb.mono hw3.size)
              have hx256 : (X.length : Int) ≤ 256 := by omega
              clear b0 b1 b2
              go_wp2_with fail
              refine (H4.out _ hw4).mono ?_
              rintro e w5 ⟨p5, c5, rfl, ho5, hb5⟩
              have hw5 := hw4.trans (hb5.mono hw4.size)
              clear ho5
              have hs0 : (0 : Int) ≤ (S.length : Int) := by omega
              go_wp2
              go_ret
              exact ⟨ret_bool (by simp [hx256, hs0]), hw5⟩
        · by_cases e2 : high < kn
          · have hxl : ¬ (0 : Int) < (X.length : Int) := fun h => by
              have := (hX0.out (by omega)).2
              omega
            have d1 : decide (kn ≤ low) = false := decide_eq_false e1
            have d2 : decide (high < kn) = true := decide_eq_true e2
            have d3 : decide ((0 : Int) < (X.length : Int)) = false := decide_eq_false hxl
            have d4 : decide (0 < X.length) = false := decide_eq_false (by omega)
            clear e1 e2
            go_wp2_with fail
            go_loopg [13] X.length (fun kx s13 wr => ∃ j : Nat, s13 = .int .i64 (j : Int) ∧ X.length - j ≤ kx ∧ j ≤ X.length ∧ wr.cell? ⟨w.heap.size, 0, none⟩ = some (.int .u64 (kh : Int)) ∧ wr.cell? ⟨w.heap.size, 1, none⟩ = some (.int .u64 (kl : Int)) ∧ wr.cell? ⟨w.heap.size, 2, none⟩ = some (.int .i64 kn) ∧ w.heap.size < wr.heap.size ∧ Below w3.heap.size w3 wr)
            case atStart => exact ⟨0, rfl, by omega, by omega, b0, b1, b2, hz3, Below.refl _ _⟩
            case round =>
              clear b0 b1 b2
              obtain ⟨j, rfl, k1, k2, b0, b1, b2, hz, hb⟩ := hrel
              by_cases hj : j < X.length
              · obtain ⟨g, o, rfl, hgr, x0, x1, x2, x3, x4⟩ := (HX.out.below hb).ch hj
                obtain ⟨f1, f2, f3⟩ := HFEW.out j hj
                have hh := rhas_any kh kl kn X[j].k.h X[j].k.l HAB.out.1 HAB.out.2 f3.1 f3.2
                rw [f2] at hh
                rw [f1] at x2
                generalize X[j] = x at *
                obtain ⟨⟨xh, xl, xn⟩, xo, xw⟩ := x
                simp only at x0 x1 x2 hh
                have HH := Lib.hid hh
                have i1 : (0 : Int) ≤ (j : Int) := by omega
                have i2 : (j : Int) < (X.length : Int) := by omega
                clear f1 f2 f3 hh x3 x4
                go_wp2_with fail
                have kg := cell_grow
                refine region_whole (by kernel_rfl) (by kernel_rfl) ?_
                repeat (any_goals (first | go_big_quiet_step ((exact HH.out.at _ _ _)) | quiet_step ((exact HH.out.at _ _ _))))
                refine wpQuiet_nil ?_
                clear kg
                intro w10 hb10
                obtain ⟨hc10, hf10⟩ := bcell hb10
                have b0 := (hc10 _ _ hz).trans b0
                have b1 := (hc10 _ _ hz).trans b1
                have b2 := (hc10 _ _ hz).trans b2
                have hz10 := Nat.lt_of_lt_of_le hz hb10.size
                have hb11 := hb.trans (hb10.mono hb.size)
                clear hc10 hf10 hb10
                go_wp2
                go_roundg (X.length - (j + 1))
                case measure => omega
                case rel => exact ⟨j + 1, by go_num, by omega, by omega, b0, b1, b2, hz10, hb11⟩
              · have hw4 := hw3.trans (hb.mono hw3.size)
                have hx256 : (X.length : Int) ≤ 256 := by omega
                clear b0 b1 b2
                go_wp2_with fail
                refine (H4.out _ hw4).mono ?_
                rintro e w5 ⟨p5, c5, rfl, ho5, hb5⟩
                have hw5 := hw4.trans (hb5.mono hw4.size)
                clear ho5
                have hs0 : (0 : Int) ≤ (S.length : Int) := by omega
                go_wp2
                go_ret
                exact ⟨ret_bool (by simp [hx256, hs0]), hw5⟩
          · have d1 : decide (kn ≤ low) = false := decide_eq_false e1
            have d2 : decide (high < kn) = false := decide_eq_false e2
            clear e1 e2
            go_wp2_with fail
            go_loopg [13] X.length (fun kx s13 wr => ∃ j : Nat, s13 = .int .i64 (j : Int) ∧ X.length - j ≤ kx ∧ j ≤ X.length ∧ wr.cell? ⟨w.heap.size, 0, none⟩ = some (.int .u64 (kh : Int)) ∧ wr.cell? ⟨w.heap.size, 1, none⟩ = some (.int .u64 (kl : Int)) ∧ wr.cell? ⟨w.heap.size, 2, none⟩ = some (.int .i64 kn) ∧ w.heap.size < wr.heap.size ∧ Below w3.heap.size w3 wr)
            case atStart => exact ⟨0, rfl, by omega, by omega, b0, b1, b2, hz3, Below.refl _ _⟩
            case round =>
              clear b0 b1 b2
              obtain ⟨j, rfl, k1, k2, b0, b1, b2, hz, hb⟩ := hrel
              by_cases hj : j < X.length
              · obtain ⟨g, o, rfl, hgr, x0, x1, x2, x3, x4⟩ := (HX.out.below hb).ch hj
                obtain ⟨f1, f2, f3⟩ := HFEW.out j hj
                have hh := rhas_any kh kl kn X[j].k.h X[j].k.l HAB.out.1 HAB.out.2 f3.1 f3.2
                rw [f2] at hh
                rw [f1] at x2
                generalize X[j] = x at *
                obtain ⟨⟨xh, xl, xn⟩, xo, xw⟩ := x
                simp only at x0 x1 x2 hh
                have HH := Lib.hid hh
                have i1 : (0 : Int) ≤ (j : Int) := by omega
                have i2 : (j : Int) < (X.length : Int) := by omega
                clear f1 f2 f3 hh x3 x4
                go_wp2_with fail
                have kg := cell_grow
                refine region_whole (by kernel_rfl) (by kernel_rfl) ?_
                repeat (any_goals (first | go_big_quiet_step ((exact HH.out.at _ _ _)) | quiet_step ((exact HH.out.at _ _ _))))
                refine wpQuiet_nil ?_
                clear kg
                intro w10 hb10
                obtain ⟨hc10, hf10⟩ := bcell hb10
                have b0 := (hc10 _ _ hz).trans b0
                have b1 := (hc10 _ _ hz).trans b1
                have b2 := (hc10 _ _ hz).trans b2
                have hz10 := Nat.lt_of_lt_of_le hz hb10.size
                have hb11 := hb.trans (hb10.mono hb.size)
                clear hc10 hf10 hb10
                go_wp2
                go_roundg (X.length - (j + 1))
                case measure => omega
                case rel => exact ⟨j + 1, by go_num, by omega, by omega, b0, b1, b2, hz10, hb11⟩
              · have hw4 := hw3.trans (hb.mono hw3.size)
                have hx256 : (X.length : Int) ≤ 256 := by omega
                clear b0 b1 b2
                go_wp2_with fail
                refine (H4.out _ hw4).mono ?_
                rintro e w5 ⟨p5, c5, rfl, ho5, hb5⟩
                have hw5 := hw4.trans (hb5.mono hw4.size)
                clear ho5
                have hs0 : (0 : Int) ≤ (S.length : Int) := by omega
                go_wp2
                go_ret
                exact ⟨ret_bool (by simp [hx256, hs0]), hw5⟩
    · skip
      clear hR hg
      go_enter Try.func5, Try.ntmps5
      go_wp2_with fail
      refine (HA.out _).mono ?_
      rintro e w1 ⟨rfl, hb1⟩
      have hw1 : Below w.heap.size w w1 := Below.trans (by go_grown) (hb1.mono (by simp))
      go_wp2
      go_ret
      exact ⟨rfl, hw1⟩
  · skip
    clear hR hg
    go_enter Try.func5, Try.ntmps5
    go_wp2_with fail
    refine (HA.out _).mono ?_
    rintro e w1 ⟨rfl, hb1⟩
    have hw1 : Below w.heap.size w w1 := Below.trans (by go_grown) (hb1.mono (by simp))
    go_wp2
    go_ret
    exact ⟨rfl, hw1⟩
end Go.Proofs.Ytlmampklgghngaa
