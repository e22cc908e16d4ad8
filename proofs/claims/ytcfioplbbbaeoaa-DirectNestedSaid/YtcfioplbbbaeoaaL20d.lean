/-
  DirectNested as a walk: it hands back true, for every input, if the program's array does what is asked of it. No condition besides.
-/
import Derived.Test.YtcfioplbbbaeoaaL20c
set_option linter.unusedSimpArgs false
set_option linter.unusedVariables false
namespace Go.Proofs.Ytcfioplbbbaeoaa
open Go Go.RowKit Go.Sort M

set_option maxHeartbeats 4000000 in
set_option maxRecDepth 100000 in
theorem dirnest_walk {A : World → (Nat → Prop) → Nat → Nat → List Rt → Prop} (D : DirC A) (n : Int) (ah al : Nat) (q : Option Addr) (c : Nat) (X : List Int) (w : World) (ha : W64 ah) (hb : W64 al) (hX : IRow w q X) (hL : X.length ≤ maxLen) :
    Calls Try.prog 4 #[.int .i64 n, .agg #[.int .u64 (ah : Int), .int .u64 (al : Int)], .slice q X.length c] w fun e w' => e = .returned (.bool true) ∧ Below w.heap.size w w' := by
  have HAL := Lib.hid (fun w => alive20_any D w)
  unfold maxLen at hL
  by_cases g1 : n < 0
  · skip
    clear hX
    go_enter Try.func4, Try.ntmps4
    go_wp2_with fail
    refine (HAL.out _).mono ?_
    rintro e w0 ⟨rfl, hb0⟩
    have hw0 : Below w.heap.size w w0 := Below.trans (by go_grown) (hb0.mono (by simp))
    go_wp2
    go_ret
    exact ⟨rfl, hw0⟩
  by_cases g2 : 8 < n
  · skip
    clear hX
    go_enter Try.func4, Try.ntmps4
    go_wp2_with fail
    refine (HAL.out _).mono ?_
    rintro e w0 ⟨rfl, hb0⟩
    have hw0 : Below w.heap.size w w0 := Below.trans (by go_grown) (hb0.mono (by simp))
    go_wp2
    go_ret
    exact ⟨rfl, hw0⟩
  by_cases g3 : X.length ≤ 20
  · obtain ⟨m, rfl⟩ := Int.eq_ofNat_of_zero_le (show 0 ≤ n by omega)
    have HX := Lib.hid hX
    have hbm : bitsA (m : Int) = m := by unfold bitsA; split <;> (try split) <;> omega
    have h1 := D.new (m : Int)
    rw [hbm] at h1
    have hz : ∀ x, (rtI ah al x).k.good := fun x => ⟨ha.cut _, hb.cut _⟩
    have h2 := fun W K t L0 p c (h : A W K t m L0) (hr : Row W p (rcs (X.map (rtI ah al)))) (hn : p = none → c = 0) (hc : (X.map (rtI ah al)).length ≤ c) => D.fill W K t m L0 (X.map (rtI ah al)) p c h hr (fun x hx => by obtain ⟨y, -, rfl⟩ := List.mem_map.1 hx; exact hz y) hn hc (by rw [List.length_map]; omega)
    have h20 := fun W K t L0 (h : A W K t m L0) => D.fill W K t m L0 [] none 0 h (.inl rfl) (fun x hx => by cases hx) (fun _ => rfl) (Nat.le_refl _) (by simp)
    have h3 := fun W K t (h : A W K t m (X.map (rtI ah al))) => D.get W K t m _ ah al h ha hb
    have h30 := fun W K t (h : A W K t m []) => D.get W K t m [] ah al h ha hb
    rw [dirA_nil] at h30
    have hbest := dir_best ah al m X
    unfold dirA at h3
    rw [hbest.1, hbest.2] at h3
    have hcut := fun k : Nat => rcut_any ah al (k : Int) ha hb
    simp only [Int.toNat_natCast] at hcut
    have H1 := Lib.hid h1
    have H2 := Lib.hid h2
    have H20 : Hid (∀ W K t L0, A W K t m L0 → Calls Try.prog 10 #[.pointer (some ⟨t, 0, none⟩), .slice none 0 0] W fun e w' => e = .returned (.tuple #[]) ∧ ∃ K', A w' K' t m [] ∧ Touch K W w' ∧ ∀ g, K' g → K g ∨ In W.heap.size w'.heap.size g) := Lib.hid h20
    have H3 := Lib.hid h3
    have H30 := Lib.hid h30
    have HCUT := Lib.hid hcut
    have HD := Lib.hid D
    have hmp : X.length = (X.map (rtI ah al)).length := by rw [List.length_map]
    have HMP := Lib.hid hmp
    clear hX hbm h1 h2 h20 h3 h30 hbest hcut hz D hmp ha hb
    go_enter Try.func4, Try.ntmps4
    go_wp2_with fail
    refine (HAL.out _).mono ?_
    rintro e w0 ⟨rfl, hb0⟩
    have hw0 : Below w.heap.size w w0 := Below.trans (by go_grown) (hb0.mono (by simp))
    have b0 : w0.cell? ⟨w.heap.size, 0, none⟩ = some (.int .u64 (ah : Int)) := by
      rw [hb0.cell (by simp <;> omega)]
      first | assumption | (simp [go_sem]; done) | (simp [go_sem, *]; done)
    have b1 : w0.cell? ⟨w.heap.size, 1, none⟩ = some (.int .u64 (al : Int)) := by
      rw [hb0.cell (by simp <;> omega)]
      first | assumption | (simp [go_sem]; done) | (simp [go_sem, *]; done)
    have hz0 : w.heap.size < w0.heap.size := by have := hb0.size; simp at this; omega
    clear hb0
    go_wp2_with fail
    refine (H1.out _).mono ?_
    rintro e w1 ⟨t, rfl, hb1, ha1⟩
    have hw1 := hw0.trans (hb1.mono hw0.size)
    have b0 := (hb1.cell (p := ⟨w.heap.size, 0, none⟩) hz0).trans b0
    have b1 := (hb1.cell (p := ⟨w.heap.size, 1, none⟩) hz0).trans b1
    have hz1 := Nat.lt_of_lt_of_le hz0 hb1.size
    have hz01 := hb1.size
    have HA1 := Lib.hid ha1
    clear ha1 hb1
    go_wp2_with fail
    go_loopg [9, 10, 11, 12] X.length (fun kx s9 s10 s11 s12 wr => ∃ (i : Nat) (b : Int) (q' : Option Addr) (cq : Nat), s11 = .int .i64 (i : Int) ∧ s10 = .int .i64 b ∧ s9 = .slice q' i cq ∧ X.length - i ≤ kx ∧ i ≤ X.length ∧ Hid (b = bestI m (X.take i)) ∧
      Hid (wr.ownsRow w1.heap.size 43 4 (.slice q' i cq) i (rcs ((X.take i).map (rtI ah al)))) ∧ Below w1.heap.size w1 wr)
    case atStart => exact ⟨0, -1, none, 0, rfl, rfl, rfl, by omega, by omega, Lib.hid rfl, Lib.hid (World.ownsRow_nil _ _ _ _), Below.refl _ _⟩
    case round =>
      obtain ⟨i, b, q', cq, rfl, rfl, rfl, k1, k2, HB, HO, hbr⟩ := hrel
      have b0 := (hbr.cell (p := ⟨w.heap.size, 0, none⟩) hz1).trans b0
      have b1 := (hbr.cell (p := ⟨w.heap.size, 1, none⟩) hz1).trans b1
      have hzr := Nat.lt_of_lt_of_le hz1 hbr.size
      by_cases hi : i < X.length
      · obtain ⟨g, o, rfl, hgr, x0⟩ := IRow.at (HX.out.below (hw1.trans (hbr.mono hw1.size))) hi
        have hbs : bestI m (X.take (i + 1)) = bestS m b X[i] := by rw [List.take_succ_eq_append_getElem hi, bestI_snoc, ← HB.out]
        have hrs : (X.take (i + 1)).map (rtI ah al) = (X.take i).map (rtI ah al) ++ [⟨cutK ah al (nI X[i]), (nI X[i] : Int)⟩] := by rw [List.take_succ_eq_append_getElem hi, List.map_append]; rfl
        have hmk := mask15 X[i]
        have hnl := nI_le X[i]
        have i1 : (0 : Int) ≤ (i : Int) := by omega
        have i2 : (i : Int) < (X.length : Int) := by omega
        unfold bestS at hbs
        generalize X[i] = x at *
        generalize nI x = k at *
        have hlen : i = ((X.take i).map (rtI ah al)).length := by rw [List.length_map, List.length_take]; omega
        have hlen9 : ((X.take (i + 1)).map (rtI ah al)).length = i + 1 := by rw [List.length_map, List.length_take]; omega
        obtain ⟨Ln, hLn⟩ : ∃ Ln, Ln = (X.take (i + 1)).map (rtI ah al) := ⟨_, rfl⟩
        obtain ⟨Li, hLi⟩ : ∃ Li, Li = (X.take i).map (rtI ah al) := ⟨_, rfl⟩
        rw [← hLi] at HO hlen hrs
        rw [← hLn] at hrs hlen9
        have HLEN := Lib.hid hlen
        have HLEN9 := Lib.hid hlen9
        have HLN := Lib.hid hLn
        obtain ⟨R, hR⟩ : ∃ R : Rt, R = ⟨cutK ah al k, (k : Int)⟩ := ⟨_, rfl⟩
        have hrs2 : Ln = Li ++ [R] := by rw [hR]; exact hrs
        have HRS := Lib.hid hrs2
        have HRe : Hid (rcell R = [.int .u64 (cutW ah k : Nat), .int .u64 (cutW al (k - 64) : Nat), .int .i64 (k : Int), .int .i64 (k : Int)]) := by rw [hR]; exact Lib.hid rfl
        have HBS := Lib.hid hbs
        clear hbs hrs hrs2 hlen hlen9 hR hLn hLi
        go_wp2_with fail
        refine (HCUT.out k _).mono ?_
        rintro e w5 ⟨rfl, hb5⟩
        have hbr5 := hbr.trans (hb5.mono hbr.size)
        have hz5 := hbr5.size
        have HO5 := Lib.hid ((own_below HO.out hb5).alloc (.cells #[.int .u64 (cutW ah k : Nat), .int .u64 (cutW al (k - 64) : Nat), .int .i64 (k : Int), .int .i64 (k : Int)] 43))
        have hown2 : Hid ((w5.alloc (.cells #[.int .u64 (cutW ah k : Nat), .int .u64 (cutW al (k - 64) : Nat), .int .i64 (k : Int), .int .i64 (k : Int)] 43)).ownsRow w1.heap.size 43 4 (.slice q' i cq) Li.length (rcs Li)) := by
          have h := HO5.out
          rw [← HLEN.out]
          exact Lib.hid h
        have hsrc : Hid (∀ j u, (rcs [R])[j]? = some u → (w5.alloc (.cells #[.int .u64 (cutW ah k : Nat), .int .u64 (cutW al (k - 64) : Nat), .int .i64 (k : Int), .int .i64 (k : Int)] 43)).cell? ((⟨w5.heap.size, 0, none⟩ : Addr).add j) = some u) := by
          rw [rcs_one, HRe.out]
          exact Lib.hid (four_new (by simp [go_sem]) (by simp [go_sem]) (by simp [go_sem]) (by simp [go_sem]))
        clear HO hb5 HO5 x0 hmk b0 b1
        go_wp2_with (at_builtin; go_loud (refine wpList_append_row20 rfl (.tmp 49) (.tmp 57) rfl w1.heap.size _ Li [R] Ln HRS.out rfl ⟨w5.heap.size, 0, none⟩ 1 rfl hown2.out hsrc.out (by have := HLEN.out; simp; omega) (by simp; omega) ?_))
        intro v9 w9 hown9 hg9 _
        obtain ⟨p9, c9, rfl⟩ := own_slice hown9
        have hb9 : Below w1.heap.size w1 w9 := (hbr5.alloc hz5 _).grown hg9 (by simp; omega) (fun j hj => (hown2.out.lt j hj).1)
        rw [HLEN9.out] at hown9 ⊢
        rw [HLN.out] at hown9
        have HO9 := Lib.hid hown9
        clear hown9 hg9 hown2 hsrc
        by_cases hkm : (k : Int) ≤ (m : Int)
        · by_cases hbk : b < (k : Int)
          · have HB9 : Hid ((k : Int) = bestI m (X.take (i + 1))) := by rw [HBS.out, if_pos ⟨hkm, hbk⟩]; exact Lib.hid rfl
            go_wp2
            go_roundg (X.length - (i + 1))
            case measure => omega
            case rel => exact ⟨i + 1, (k : Int), p9, c9, by go_num, rfl, rfl, by omega, by omega, HB9, HO9, hb9⟩
          · have HB9 : Hid (b = bestI m (X.take (i + 1))) := by rw [HBS.out, if_neg (fun h => hbk h.2)]; exact Lib.hid rfl
            go_wp2
            go_roundg (X.length - (i + 1))
            case measure => omega
            case rel => exact ⟨i + 1, b, p9, c9, by go_num, rfl, rfl, by omega, by omega, HB9, HO9, hb9⟩
        · have HB9 : Hid (b = bestI m (X.take (i + 1))) := by rw [HBS.out, if_neg (fun h => hkm h.1)]; exact Lib.hid rfl
          go_wp2
          go_roundg (X.length - (i + 1))
          case measure => omega
          case rel => exact ⟨i + 1, b, p9, c9, by go_num, rfl, rfl, by omega, by omega, HB9, HO9, hb9⟩
      · have hiX : i = X.length := by omega
        have hall : X.take i = X := List.take_of_length_le (by omega)
        have hbx := HB.out
        rw [hall] at hbx HO
        have HAr : Hid (A wr (In w0.heap.size w1.heap.size) t m []) := Lib.hid (HD.out.touched w1 wr _ (fun g => w1.heap.size ≤ g) t m [] HA1.out (Touch.of_below hbr (fun _ _ h => h)) (fun g hg => by have := hg.2; omega))
        have hfl := H2.out wr _ t [] q' cq HAr.out (by have h := Row.of_own HO.out; exact h) (fun e => own_nil20 HO.out e) (by rw [← HMP.out, ← hiX]; exact own_cap18 HO.out)
        rw [← HMP.out, ← hiX] at hfl
        have HFL := Lib.hid hfl
        have h3 := H3.out
        rw [← hbx] at h3
        have H3b := Lib.hid h3
        have hwr := hw1.trans (hbr.mono hw1.size)
        have hzr1 := hbr.size
        clear hfl h3 hall hiX hbx HB HO
        by_cases hb0 : 0 ≤ b
        · have H3c := H3b.out
          rw [if_pos hb0, decide_eq_true hb0] at H3c
          have H3d := Lib.hid H3c
          clear H3c
          go_wp2_with fail
          refine HFL.out.mono ?_
          rintro e w2 ⟨rfl, K2, ha2, ht2, hk2⟩
          have n0 : ¬ In w0.heap.size w1.heap.size w.heap.size := fun h => by have := h.1; omega
          have b0 := ht2.cell b0 n0
          have b1 := ht2.cell b1 n0
          have hw2 := hwr.trans (ht2.below hwr.size (fun g h => by have := h.1; omega))
          have hz2 := Nat.lt_of_lt_of_le hzr ht2.size
          have HK2 : Hid (∀ g, K2 g → w.heap.size < g) := Lib.hid fun g h => by
            rcases hk2 g h with h | h
            · have := h.1; omega
            · have := h.1; omega
          have HA2 := Lib.hid ha2
          clear ha2 ht2 hk2 n0
          go_wp2_with fail
          refine (H3d.out _ _ _ HA2.out).mono ?_
          rintro e w3 ⟨rfl, hb3⟩
          have b0 := (hb3.cell (p := ⟨w.heap.size, 0, none⟩) hz2).trans b0
          have b1 := (hb3.cell (p := ⟨w.heap.size, 1, none⟩) hz2).trans b1
          have hw3 := hw2.trans (hb3.mono hw2.size)
          have hz3 := Nat.lt_of_lt_of_le hz2 hb3.size
          have HA3 := Lib.hid (HD.out.below HA2.out hb3)
          clear hb3 HA2
          go_wp2_with fail
          refine (H20.out _ _ _ _ HA3.out).mono ?_
          rintro e w4 ⟨rfl, K4, ha4, ht4, -⟩
          have n0 : ¬ K2 w.heap.size := fun h => by have := HK2.out _ h; omega
          have b0 := ht4.cell b0 n0
          have b1 := ht4.cell b1 n0
          have hw4 := hw3.trans (ht4.below hw3.size (fun g h => Nat.le_of_lt (HK2.out g h)))
          have HA4 := Lib.hid ha4
          clear ha4 ht4 n0
          go_wp2_with fail
          refine (H30.out _ _ _ HA4.out).mono ?_
          rintro e w5 ⟨rfl, hb5⟩
          have hw5 := hw4.trans (hb5.mono hw4.size)
          clear hb5
          go_wp2
          go_ret
          exact ⟨ret_bool (by simp [hb0]), hw5⟩
        · have H3c := H3b.out
          rw [if_neg hb0, decide_eq_false hb0] at H3c
          have H3d := Lib.hid H3c
          clear H3c
          go_wp2_with fail
          refine HFL.out.mono ?_
          rintro e w2 ⟨rfl, K2, ha2, ht2, hk2⟩
          have n0 : ¬ In w0.heap.size w1.heap.size w.heap.size := fun h => by have := h.1; omega
          have b0 := ht2.cell b0 n0
          have b1 := ht2.cell b1 n0
          have hw2 := hwr.trans (ht2.below hwr.size (fun g h => by have := h.1; omega))
          have hz2 := Nat.lt_of_lt_of_le hzr ht2.size
          have HK2 : Hid (∀ g, K2 g → w.heap.size < g) := Lib.hid fun g h => by
            rcases hk2 g h with h | h
            · have := h.1; omega
            · have := h.1; omega
          have HA2 := Lib.hid ha2
          clear ha2 ht2 hk2 n0
          go_wp2_with fail
          refine (H3d.out _ _ _ HA2.out).mono ?_
          rintro e w3 ⟨rfl, hb3⟩
          have b0 := (hb3.cell (p := ⟨w.heap.size, 0, none⟩) hz2).trans b0
          have b1 := (hb3.cell (p := ⟨w.heap.size, 1, none⟩) hz2).trans b1
          have hw3 := hw2.trans (hb3.mono hw2.size)
          have hz3 := Nat.lt_of_lt_of_le hz2 hb3.size
          have HA3 := Lib.hid (HD.out.below HA2.out hb3)
          clear hb3 HA2
          go_wp2_with fail
          refine (H20.out _ _ _ _ HA3.out).mono ?_
          rintro e w4 ⟨rfl, K4, ha4, ht4, -⟩
          have n0 : ¬ K2 w.heap.size := fun h => by have := HK2.out _ h; omega
          have b0 := ht4.cell b0 n0
          have b1 := ht4.cell b1 n0
          have hw4 := hw3.trans (ht4.below hw3.size (fun g h => Nat.le_of_lt (HK2.out g h)))
          have HA4 := Lib.hid ha4
          clear ha4 ht4 n0
          go_wp2_with fail
          refine (H30.out _ _ _ HA4.out).mono ?_
          rintro e w5 ⟨rfl, hb5⟩
          have hw5 := hw4.trans (hb5.mono hw4.size)
          clear hb5
          go_wp2
          go_ret
          exact ⟨ret_bool (by simp [hb0]), hw5⟩
  · skip
    clear hX
    go_enter Try.func4, Try.ntmps4
    go_wp2_with fail
    refine (HAL.out _).mono ?_
    rintro e w0 ⟨rfl, hb0⟩
    have hw0 : Below w.heap.size w w0 := Below.trans (by go_grown) (hb0.mono (by simp))
    go_wp2
    go_ret
    exact ⟨rfl, hw0⟩
end Go.Proofs.Ytcfioplbbbaeoaa
