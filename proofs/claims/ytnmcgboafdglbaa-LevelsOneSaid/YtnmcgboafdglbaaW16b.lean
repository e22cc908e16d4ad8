/-
  What histo.Cost hands back. No condition but that the rows lie in memory and are short of a million.
-/
import Derived.Test.YtnmcgboafdglbaaW16
set_option linter.unusedSimpArgs false
set_option linter.unusedVariables false
namespace Go.Proofs.Ytnmcgboafdglbaa
open Go Go.RowKit Go.Sort M

/-- The levels that are left, M, at q: from length n on they do as L does. -/
structure Lev (w : World) (q : Option Addr) (m d : Nat) (M L : List Int) (n : Nat) : Prop where
  len : M.length = m
  le : m ≤ d
  top : m ≤ 1000000
  row : IRow w q M
  near : near M n = near L n
theorem Lev.more {w : World} {q : Option Addr} {m d : Nat} {M L : List Int} {n : Nat} (H : Lev w q m d M L n) : Lev w q m d M L (n + 1) :=
  ⟨H.len, H.le, H.top, H.row, by rw [← near_near M n (n + 1) (by omega), H.near, near_near L n (n + 1) (by omega)]⟩
theorem Lev.head {w : World} {q : Option Addr} {m d : Nat} {M L : List Int} {n : Nat} (H : Lev w q m d M L n) (h : 0 < m) :
    ∃ g o a N, q = some ⟨g, o, none⟩ ∧ g < w.heap.size ∧ (∀ wx, Below w.heap.size w wx → wx.cell? ⟨g, o, none⟩ = some (.int .i64 a)) ∧ M = a :: N ∧
      (a < (n : Int) → Lev w (some ⟨g, o + 1, none⟩) (m - 1) (d - 1) N L n ∧ (d = 1 → Lev w (some ⟨g, o, none⟩) (m - 1) 0 N L n)) := by
  have hl := H.len
  rcases M with _ | ⟨a, N⟩
  · simp at hl; omega
  rcases H.row with h0 | ⟨g, o, e, hg, hc⟩
  · cases h0
  refine ⟨g, o, a, N, e, hg, fun wx hb => (hb.cell (p := ⟨g, o, none⟩) hg).trans (hc 0 _ rfl), rfl, fun ha => ?_⟩
  have hn := H.near
  rw [near_cons, if_pos ha] at hn
  have hN : N.length = m - 1 := by simp at hl; omega
  have hle := H.le
  have htop := H.top
  refine ⟨⟨hN, by omega, by omega, .inr ⟨g, o + 1, rfl, hg, fun j u hu => ?_⟩, hn⟩, fun hd => ⟨by omega, by omega, by omega, .inl (List.length_eq_zero_iff.1 (by omega)), hn⟩⟩
  rw [show o + 1 + j = o + (j + 1) by omega]
  exact hc (j + 1) u (by simpa [ics] using hu)
theorem Lev.stop {w : World} {q : Option Addr} {m d : Nat} {M L N : List Int} {n : Nat} {a : Int} (H : Lev w q m d M L n) (e : M = a :: N) (h : ¬ a < (n : Int)) : _root_.Go.Proofs.Ytnmcgboafdglbaa.near L n = a :: N := by
  rw [← H.near, e, near_cons, if_neg h]
theorem Lev.none {w : World} {q : Option Addr} {m d : Nat} {M L : List Int} {n : Nat} (H : Lev w q m d M L n) (h : m = 0) : _root_.Go.Proofs.Ytnmcgboafdglbaa.near L n = [] := by
  rw [← H.near, List.length_eq_zero_iff.1 (H.len.trans h)]
  rfl
theorem sum_shift (s x t n : Nat) (a : Int) (hn : (n : Int) ≤ a) (ha : a - (n : Int) ≤ 20) (ht : x * 2 ^ (a - (n : Int)).toNat = t) (hs : s ≤ 141836999983104) (htt : t ≤ 1099511627776) :
    wrap64 ((s : Int) + wrap64 ((x : Int) * 2 ^ (a.toNat - n))) = ((s + t : Nat) : Int) := by
  have h : (x : Int) * 2 ^ (a.toNat - n) = ((t : Nat) : Int) := by
    rw [← ht, show (a - (n : Int)).toNat = a.toNat - n by omega, Int.natCast_mul, Int.natCast_pow]
    rfl
  rw [h, IntWalk.wrap64_in (t : Int) (by omega), IntWalk.wrap64_in _ (by omega)]
  omega
set_option maxHeartbeats 2000000 in
set_option maxRecDepth 100000 in
theorem cost_any (p q : Option Addr) (c d : Nat) (C L : List Int) (low : Int) (w : World) (hC : IRow w p C) (hL : IRow w q L) (hd : L.length ≤ d) (h1 : C.length ≤ 1000000) (h2 : L.length ≤ 1000000) :
    Calls Try.prog 25 #[.slice p C.length c, .slice q L.length d, .int .i64 low] w fun e w' => e = .returned (ansV (costK C L low)) ∧ Below w.heap.size w w' := by
  by_cases h0 : low < 0
  · have hc : costK C L low = none := by unfold costK; rw [if_neg (by omega)]
    rw [hc]
    clear hc hC hL
    go_enter Try.func25, Try.ntmps25
    go_wp2
    go_ret2
    exact ⟨rfl, by go_grown⟩
  · have hr := rise_any q d L low w hL h2
    by_cases hri : riseB low L = true
    · have hT := fun n hn w' (hb : Below w.heap.size w w') => taken_any p c C n w' (hC.below hb) h1 hn
      have hle := fun n => atC_le C n
      have hm := rise_mem L low hri
      obtain ⟨R, hR⟩ : ∃ R, R = costK C L low := ⟨_, rfl⟩
      have hR2 : sumK C L low 129 0 0 = R := by rw [hR]; unfold costK; rw [if_pos ⟨by omega, hri⟩]
      rw [← hR]
      rw [hri] at hr
      have HR := Lib.hid hR2
      have HRI := Lib.hid hr
      have HT := Lib.hid hT
      have HLE := Lib.hid hle
      have HM := Lib.hid hm
      have HV0 : Hid (Lev w q L.length d L L 0) := Lib.hid ⟨rfl, hd, h2, hL, rfl⟩
      clear hR hR2 hri hr hT hle hm hC hL h1 h2 hd
      go_enter Try.func25, Try.ntmps25
      go_wp2_with fail
      refine HRI.out.mono ?_
      rintro e w1 ⟨rfl, hb1⟩
      clear HRI
      go_wp2
      go_loopg [1, 8, 19] 129 (fun kx s1 s8 s19 wr => ∃ (n s m dd : Nat) (qq : Option Addr) (M : List Int), s19 = .int .i64 (n : Int) ∧ 129 - n ≤ kx ∧ n ≤ 129 ∧ s8 = .int .i64 (s : Int) ∧ Hid (s ≤ capS n) ∧ s1 = .slice qq m dd ∧ Hid (Lev w qq m dd M L n) ∧ Hid (sumK C L low (129 - n) n s = R) ∧ Below w.heap.size w wr)
      case atStart => exact ⟨0, 0, _, d, q, L, rfl, by omega, by omega, rfl, Lib.hid (Nat.zero_le _), rfl, HV0, HR, hb1⟩
      case round =>
        clear HV0 HR hb1
        obtain ⟨n, s, m, dd, qq, M, rfl, h1, h2, rfl, h3, rfl, HV, HS, hb⟩ := hrel
        by_cases hn : n < 129
        · have hTT := HT.out n (by omega) wr hb
          have hx := HLE.out n
          have hsk := sumK_skip C L low n s hn
          have hno := sumK_none C L low n s hn
          have hso := sumK_some C L low n s
          have htl : ∀ t, termH (near L n) n (atC C n) = some t → t ≤ 1099511627776 := fun t h => termH_le h hx
          obtain ⟨x, hxx⟩ : ∃ x, x = atC C n := ⟨_, rfl⟩
          rw [← hxx] at hTT hx hsk hno hso htl
          rw [HS.out] at hsk hno hso
          have HTT := Lib.hid hTT
          have HSK := Lib.hid hsk
          have HNO := Lib.hid hno
          have HSO := Lib.hid hso
          have HTL := Lib.hid htl
          clear hTT hsk hno hso htl hxx HS
          by_cases hs1 : (n : Int) ≤ low
          · have HS2 := Lib.hid (HSK.out (.inl hs1)).symm
            go_wp2_with fail
            refine HTT.out.mono ?_
            rintro e w2 ⟨rfl, hb2⟩
            have hb2 := hb.trans (hb2.mono hb.size)
            go_wp2
            go_roundg (129 - (n + 1))
            case measure => omega
            case rel => exact ⟨n + 1, s, m, dd, qq, M, by go_num, by omega, by omega, rfl, Lib.hid (capS_same h3.out), rfl, Lib.hid HV.out.more, HS2, hb2⟩
          · by_cases hx0 : x = 0
            · have HS2 := Lib.hid (HSK.out (.inr hx0)).symm
              subst hx0
              go_wp2_with fail
              refine HTT.out.mono ?_
              rintro e w2 ⟨rfl, hb2⟩
              have hb2 := hb.trans (hb2.mono hb.size)
              go_wp2
              go_roundg (129 - (n + 1))
              case measure => omega
              case rel => exact ⟨n + 1, s, m, dd, qq, M, by go_num, by omega, by omega, rfl, Lib.hid (capS_same h3.out), rfl, Lib.hid HV.out.more, HS2, hb2⟩
            · have hx1 : ((x : Int) == 0) = false := by simp; omega
              go_wp2_with fail
              refine HTT.out.mono ?_
              rintro e w2 ⟨rfl, hb2⟩
              have hb2 := hb.trans (hb2.mono hb.size)
              clear HTT hb
              go_wp2
              rename World => wo
              go_loopg [1] m (fun kx s1 wr => ∃ (m dd : Nat) (qq : Option Addr) (M : List Int), s1 = .slice qq m dd ∧ m ≤ kx ∧ Hid (Lev w qq m dd M L n) ∧ Below w.heap.size w wr)
              case atStart => exact ⟨m, dd, qq, M, rfl, by omega, HV, hb2⟩
              case round =>
                clear HV hb2
                obtain ⟨m, dd, qq, M, rfl, h4, HV, hb⟩ := hrel
                by_cases hm0 : m = 0
                · have HNN := Lib.hid (HNO.out (by omega) (by rw [HV.out.none hm0]; rfl))
                  subst hm0
                  go_wp2
                  go_ret2
                  exact ⟨by rw [HNN.out]; rfl, hb⟩
                · obtain ⟨g, o, a, N, rfl, hg, hcell, hM, hnx⟩ := HV.out.head (by omega)
                  have x0 := hcell wr hb
                  have hg2 := Nat.lt_of_lt_of_le hg hb.size
                  have m1 : (0 : Int) < (m : Int) := by omega
                  by_cases ha : a < (n : Int)
                  · have HNX := Lib.hid (hnx ha)
                    clear hnx hcell hM HV
                    by_cases hd1 : dd = 1
                    · subst hd1
                      go_wp2
                      go_roundg (m - 1)
                      case measure => omega
                      case rel => exact ⟨m - 1, 0, _, N, rfl, by omega, Lib.hid (HNX.out.2 trivial), hb⟩
                    · go_wp2
                      go_roundg (m - 1)
                      case measure => omega
                      case rel => exact ⟨m - 1, dd - 1, _, N, rfl, by omega, Lib.hid HNX.out.1, hb⟩
                  · have hnr := HV.out.stop hM ha
                    have hnd := near_head L n a N hnr
                    have hm2 := HM.out a hnd.2
                    by_cases h20 : 20 < a - (n : Int)
                    · have HNN := Lib.hid (HNO.out (by omega) (by rw [hnr]; simp only [termH]; rw [if_pos h20]))
                      clear hnx hcell hM HV hnr hnd
                      go_wp2
                      go_ret2
                      exact ⟨by rw [HNN.out]; rfl, hb⟩
                    · obtain ⟨t, ht⟩ : ∃ t, termH (near L n) n x = some t := ⟨_, by rw [hnr]; simp only [termH]; rw [if_neg h20]⟩
                      have HSN := Lib.hid (HSO.out t hn (by omega) ht)
                      have htt := HTL.out t ht
                      have HQ : Hid ((n : Int) ≤ a ∧ x * 2 ^ (a - (n : Int)).toNat = t) := by
                        rw [hnr] at ht
                        simp only [termH] at ht
                        rw [if_neg h20] at ht
                        injection ht with ht
                        exact Lib.hid ⟨hnd.1, ht⟩
                      have HV2 := HV
                      clear ht hnx hcell hM HV
                      go_wp2
                      go_roundg (129 - (n + 1))
                      case measure => omega
                      case rel => exact ⟨n + 1, s + t, m, dd, _, M, by go_num, by omega, by omega, by rw [sum_shift s x t n a HQ.out.1 (by omega) HQ.out.2 (capS_top h3.out (by omega)) htt], Lib.hid (capS_next h3.out htt), rfl, Lib.hid HV2.out.more, Lib.hid HSN.out.symm, hb⟩
        · go_wp2
          go_ret2
          have := HS.out
          rw [show 129 - n = 0 by omega] at this
          exact ⟨by rw [← this]; rfl, hb⟩
    · have hc : costK C L low = none := by unfold costK; rw [if_neg (fun h => hri h.2)]
      have hri2 : riseB low L = false := by simpa using hri
      rw [hc]
      rw [hri2] at hr
      have HRI := Lib.hid hr
      clear hr hri hri2 hc hC hL
      go_enter Try.func25, Try.ntmps25
      go_wp2_with fail
      refine HRI.out.mono ?_
      rintro e w1 ⟨rfl, hb1⟩
      go_wp2
      go_ret2
      exact ⟨rfl, by go_grown⟩
end Go.Proofs.Ytnmcgboafdglbaa
