/-
  What the reference's ShowColons hands back. No condition but those that stand in each.
-/
import Derived.Test.YtegaeifmikfpcaaDoorW3p
set_option linter.unusedSimpArgs false
set_option linter.unusedVariables false
namespace Go.Proofs.YtegaeifmikfpcaaDoor
open Go.RowKit Go.Sort M

theorem runB_drop {bs : List Bool} {j : Nat} (h : j < bs.length) : runB (bs.drop j) = if bs[j] = true then runB (bs.drop (j + 1)) + 1 else 0 := by
  rw [List.drop_eq_getElem_cons h, runB]
theorem rGo_more {a m i : Nat} {l : List Bool} {Z : Nat × Nat} (h0 : l ≠ []) (h : Hid (rGo a m i l = Z)) (hm : m < runB l) : Hid (rGo i (runB l) (i + 1) l.tail = Z) := by
  cases l with
  | nil => exact absurd rfl h0
  | cons b l => have h := h.out; rw [rGo, if_pos hm] at h; exact Lib.hid h
theorem rGo_less {a m i : Nat} {l : List Bool} {Z : Nat × Nat} (h0 : l ≠ []) (h : Hid (rGo a m i l = Z)) (hm : ¬ m < runB l) : Hid (rGo a m (i + 1) l.tail = Z) := by
  cases l with
  | nil => exact absurd rfl h0
  | cons b l => have h := h.out; rw [rGo, if_neg hm] at h; exact Lib.hid h
def atV (a : Nat) : Int := if a = 9 then -1 else (a : Int)
theorem atV_of {k : Nat} (h : k < 8) : atV k = (k : Int) := by unfold atV; rw [if_neg (by omega)]
theorem bool_zero (W : List Nat) (j : Nat) (h : j < (W.map (fun x => decide (x = 0))).length) : (W.map (fun x => decide (x = 0)))[j] = decide (W[j]'(by simpa using h) = 0) := by simp
theorem drop_ne {bs : List Bool} {k : Nat} (h : k < bs.length) : bs.drop k ≠ [] := by
  intro e
  have := congrArg List.length e
  simp at this; omega
theorem last_of (sb : ByteArray) (j : Nat) (h : sb.size = j + 1) : sb.data.toList.getLast? = some (sb[j]'(by omega)) := by
  rw [List.getLast?_eq_getElem?]
  have hl : sb.data.toList.length = sb.size := by simp
  have e : sb.data.toList.length - 1 = j := by omega
  rw [e, List.getElem?_eq_getElem (by omega)]
  rfl
theorem ba_list (a b : ByteArray) : (a ++ b).data.toList = a.data.toList ++ b.data.toList := by simp
theorem app_hex (a : ByteArray) (l : List UInt8) : (a ++ ⟨l.toArray⟩).data.toList = a.data.toList ++ l := by rw [ba_list]
set_option maxHeartbeats 4000000 in
set_option maxRecDepth 100000 in
theorem rshow_go (hi lo : Nat) (n : Int) (ha : W64 hi) (hb : W64 lo) (hr : rightB hi lo n = true) :
    Gives Tryd.prog 12 #[.agg #[.int .u64 hi, .int .u64 lo, .int .i64 n]] (.string ⟨(showW (wordsL hi lo) ++ 47 :: Lib.decDigits n.toNat).toArray⟩) := by
  intro w
  obtain ⟨n0, n128, -, -⟩ := (rightB_iff hi lo n).1 hr
  have hrr := rright_any hi lo n ha hb
  rw [hr] at hrr
  have hW := fun w' => rwords_any hi lo ha hb w'
  have h16 := words_lt hi lo
  have hl8 : (wordsL hi lo).length = 8 := rfl
  generalize wordsL hi lo = W at hW h16 hl8 ⊢
  have hsp := zrow_spec hl8
  have hend := shS_end hl8
  have hD := rdec_any n.toNat (by omega)
  rw [show ((n.toNat : Nat) : Int) = n by omega] at hD
  have hDl := dec_len n.toNat (by omega)
  obtain ⟨bs, hbs⟩ : ∃ bs, bs = W.map (fun x => decide (x = 0)) := ⟨_, rfl⟩
  have hbl : bs.length = 8 := by rw [hbs]; simpa using hl8
  have hbz : ∀ j (h : j < 8), bs[j]'(by omega) = decide (W[j]'(by omega) = 0) := by
    intro j h
    subst hbs
    exact bool_zero W j (by simp; omega)
  rw [← hbs] at hsp
  obtain ⟨Z, hZ⟩ : ∃ Z, rGo 9 1 0 bs = Z := ⟨_, rfl⟩
  have h0 : Hid (rGo 9 1 0 (bs.drop 0) = Z) := Lib.hid (by rw [List.drop_zero]; exact hZ)
  rw [hZ] at hsp
  have HR := Lib.hid hrr
  have HW := Lib.hid hW
  have HD := Lib.hid hD
  have HSP := Lib.hid hsp
  have HEND := Lib.hid hend
  have H16 := Lib.hid h16
  have HBZ := Lib.hid hbz
  have HL := Lib.hid (And.intro hl8 hbl)
  clear hrr hr hW h16 hsp hend hD hbs hbz hZ ha hb
  go_enter Tryd.func12, Tryd.ntmps12
  go_wp2_with fail
  refine (HR.out _).mono ?_
  rintro e w1 ⟨rfl, hb1⟩
  have hw0 : Below w.heap.size w w1 := Below.trans (by go_grown) (hb1.mono (by go_size))
  have hz : w.heap.size < w1.heap.size := by have := hb1.size; simp at this; omega
  have c0 : w1.cell? ⟨w.heap.size, 0, none⟩ = some (.int .u64 hi) := by
    rw [hb1.cell (by simp <;> omega)]
    first | assumption | (simp [go_sem]; done) | (simp [go_sem, *]; done)
  have c1 : w1.cell? ⟨w.heap.size, 1, none⟩ = some (.int .u64 lo) := by
    rw [hb1.cell (by simp <;> omega)]
    first | assumption | (simp [go_sem]; done) | (simp [go_sem, *]; done)
  have c2 : w1.cell? ⟨w.heap.size, 2, none⟩ = some (.int .i64 n) := by
    rw [hb1.cell (by simp <;> omega)]
    first | assumption | (simp [go_sem]; done) | (simp [go_sem, *]; done)
  clear hb1
  go_wp2_with fail
  refine (HW.out _).mono ?_
  rintro e w2 ⟨v, rfl, hown, hb2⟩
  obtain ⟨hc2, hf2⟩ := bcell hb2
  have c0 := (hc2 _ _ (by omega)).trans c0
  have c1 := (hc2 _ _ (by omega)).trans c1
  have c2 := (hc2 _ _ (by omega)).trans c2
  have hw0 := Below.trans hw0 (hb2.mono (by omega))
  have hz := Nat.lt_of_lt_of_le hz hb2.size
  clear hc2 hf2 hb2
  obtain ⟨g, cap, rfl, hg, hgs, hnc, hcm, hcells⟩ := own_form hown (by omega)
  have HC : Hid (∀ j (h : j < 8), w2.cell? ⟨g, j, none⟩ = some (.int .i64 ((W[j]'(by have := HL.out.1; omega) : Nat) : Int))) := Lib.hid (fun j h => by
    refine hcells j _ ?_
    rw [List.getElem?_map, List.getElem?_eq_getElem (by have := HL.out.1; omega)]; rfl)
  clear hown hcells c0 c1
  go_wp2
  go_loop [4, 5, 6] (fun va vm vi => ∃ (k a m : Nat), k ≤ 8 ∧ vi = .int .i64 k ∧ vm = .int .i64 m ∧ va = .int .i64 (atV a) ∧ m ≤ 8 ∧ Hid (rGo a m k (bs.drop k) = Z)) (fun _ _ vi => 8 - (intOf vi).toNat)
  case atStart => exact ⟨0, 9, 1, by omega, rfl, rfl, rfl, by omega, h0⟩
  case round =>
    clear h0
    obtain ⟨k, a, m, hk, rfl, rfl, rfl, hm8, hrest⟩ := hrel
    by_cases hlt : k < 8
    · go_wp2
      go_loop [7] (fun vn => ∃ j : Nat, k + j ≤ 8 ∧ vn = .int .i64 j ∧ Hid (runB (bs.drop k) = j + runB (bs.drop (k + j)))) (fun vn => 8 - (intOf vn).toNat)
      case atStart => exact ⟨0, by omega, rfl, Lib.hid (by simp)⟩
      case round =>
        obtain ⟨j, hj, rfl, hrun⟩ := hrel
        by_cases hlj : k + j < 8
        · have hcell := HC.out (k + j) hlj
          have hbj := HBZ.out (k + j) hlj
          have hrd := runB_drop (bs := bs) (j := k + j) (by have := HL.out.2; omega)
          have hx16 := H16.out (W[k + j]'(by have := HL.out.1; omega)) (List.getElem_mem _)
          rw [hbj] at hrd
          generalize W[k + j]'(by have := HL.out.1; omega) = x at hcell hbj hrd hx16
          by_cases hx : x = 0
          · have hxz : ((x : Int) == 0) = true := by simp; omega
            have hn : Hid (runB (bs.drop k) = (j + 1) + runB (bs.drop (k + (j + 1)))) := Lib.hid (by
              rw [hrun.out, hrd, if_pos (by simpa using hx)]
              rw [show k + (j + 1) = k + j + 1 by omega]; omega)
            clear hrd hbj hx hrun
            go_wp2
            go_round
            case rel => exact ⟨j + 1, by omega, by go_num, hn⟩
            case measure => simp [intOf]; omega
          · have hxz : ((x : Int) == 0) = false := by simp; omega
            have hn : runB (bs.drop k) = j := by rw [hrun.out, hrd, if_neg (by simpa using hx)]; rfl
            clear hrd hbj hx
            have hdn := drop_ne (bs := bs) (k := k) (by have := HL.out.2; omega)
            by_cases hmj : m < j
            · have hq := (rGo_more hdn hrest (by rw [hn]; exact hmj)).out
              rw [hn, List.tail_drop] at hq
              have HN := Lib.hid hq
              clear hq hn hrest hrun hdn
              go_wp2
              go_round
              case rel => exact ⟨k + 1, k, j, by omega, by go_num, rfl, by rw [atV_of hlt], by omega, HN⟩
              case measure => simp [intOf]; omega
            · have hq := (rGo_less hdn hrest (by rw [hn]; exact hmj)).out
              rw [List.tail_drop] at hq
              have HN := Lib.hid hq
              clear hq hn hrest hrun hdn
              go_wp2
              go_round
              case rel => exact ⟨k + 1, a, m, by omega, by go_num, rfl, rfl, hm8, HN⟩
              case measure => simp [intOf]; omega
        · have hn : runB (bs.drop k) = j := by
            have hnil : bs.drop (k + j) = [] := List.drop_eq_nil_of_le (by have := HL.out.2; omega)
            rw [hrun.out, hnil]; rfl
          have hdn := drop_ne (bs := bs) (k := k) (by have := HL.out.2; omega)
          by_cases hmj : m < j
          · have hq := (rGo_more hdn hrest (by rw [hn]; exact hmj)).out
            rw [hn, List.tail_drop] at hq
            have HN := Lib.hid hq
            clear hq hn hrest hrun hdn
            go_wp2
            go_round
            case rel => exact ⟨k + 1, k, j, by omega, by go_num, rfl, by rw [atV_of hlt], by omega, HN⟩
            case measure => simp [intOf]; omega
          · have hq := (rGo_less hdn hrest (by rw [hn]; exact hmj)).out
            rw [List.tail_drop] at hq
            have HN := Lib.hid hq
            clear hq hn hrest hrun hdn
            go_wp2
            go_round
            case rel => exact ⟨k + 1, a, m, by omega, by go_num, rfl, rfl, hm8, HN⟩
            case measure => simp [intOf]; omega
    · have hZZ : Z = (a, m) := by
        have hq := hrest.out
        rw [show bs.drop k = [] from List.drop_eq_nil_of_le (by have := HL.out.2; omega), rGo] at hq
        exact hq.symm
      rw [hZZ] at HSP
      obtain ⟨f, hf⟩ : ∃ f, f = (zrow W).1 := ⟨_, rfl⟩
      obtain ⟨t, ht⟩ : ∃ t, t = (zrow W).2 := ⟨_, rfl⟩
      have hsp2 := HSP.out
      have hend2 := HEND.out
      rw [← hf, ← ht] at hsp2 hend2
      have hm : (f < t ∧ a = f ∧ m + f = t ∧ t ≤ 8 ∧ f + 2 ≤ t) ∨ (¬ f < t ∧ a = 9) := by
        rcases hsp2 with ⟨h1, h2, h3, h4, -⟩ | ⟨h1, h2⟩
        · left
          injection h2 with h5 h6
          exact ⟨h1, h5, by omega, h3, h4⟩
        · right; exact ⟨h1, h2⟩
      have HM := Lib.hid hm
      have HE2 := Lib.hid hend2
      clear hsp2 hend2 hm hf ht hZZ HSP HEND hrest
      go_wp2
      go_loopw [8, 9] (fun vs vi wr => ∃ (k : Nat) (sb : ByteArray), k ≤ 8 ∧ vi = .int .i64 k ∧ vs = .string sb ∧ sb.size ≤ 6 * k ∧ Hid (sb.data.toList = shS W f t k) ∧ Hid (f < t → k ≤ f ∨ t ≤ k) ∧ Below w2.heap.size w2 wr) (fun _ vi _ => 8 - (intOf vi).toNat)
      case atStart => exact ⟨0, ⟨#[]⟩, by omega, rfl, rfl, by decide, Lib.hid (by unfold shS; rw [if_neg (by omega)]; simp [joinH]), Lib.hid (fun _ => by omega), Below.refl _ _⟩
      case round =>
        obtain ⟨k, sb, hk, rfl, rfl, hsz, HS, HG, hw5⟩ := hrel
        by_cases hlt : k < 8
        · by_cases hgap : f < t ∧ k = f
          · obtain ⟨hft, rfl⟩ := hgap
            obtain ⟨ham, hmt, ht8, hf2⟩ : a = k ∧ m + k = t ∧ t ≤ 8 ∧ k + 2 ≤ t := by
              rcases HM.out with ⟨h1, h2, h3, h4, h5⟩ | ⟨h1, -⟩
              · exact ⟨h2, h3, h4, h5⟩
              · exact absurd hft h1
            have he : ((k : Int) == atV a) = true := by rw [ham, atV_of hlt]; simp
            have HQ : Hid ((sb ++ ⟨#[58, 58]⟩).data.toList = shS W k t t) := Lib.hid (by
              rw [shS_gap hft (by have := HL.out.1; omega), ← HS.out, ba_list])
            clear HG ham
            go_wp2
            go_roundw
            case rel => exact ⟨t, sb ++ ⟨#[58, 58]⟩, ht8, by go_num, rfl, by simp only [ByteArray.size_append]; show sb.size + 2 ≤ _; omega, HQ, Lib.hid (fun _ => Or.inr (Nat.le_refl _)), hw5⟩
            case measure => simp [intOf]; omega
          · have hkl : k < W.length := by have := HL.out.1; omega
            have he : ((k : Int) == atV a) = false := by
              rcases HM.out with ⟨h1, h2, -⟩ | ⟨h1, h2⟩
              · rw [h2]
                have : k ≠ f := fun e => hgap ⟨h1, e⟩
                unfold atV
                split
                · first | (simp; done) | (simp; omega)
                · first | (simp; done) | (simp; omega)
              · rw [h2]
                show ((k : Int) == -1) = false
                first | (simp; done) | (simp; omega)
            have hst := shS_step (f := f) (t := t) H16.out hkl (fun h => by
              rcases HG.out h with h1 | h1
              · left
                have : k ≠ f := fun e => hgap ⟨h, e⟩
                omega
              · right; exact h1)
            have HG' : Hid (f < t → k < f ∨ t ≤ k) := Lib.hid (fun h => by
              rcases HG.out h with h1 | h1
              · left
                have : k ≠ f := fun e => hgap ⟨h, e⟩
                omega
              · right; exact h1)
            clear HG hgap
            have hcell : wr.cell? ⟨g, k, none⟩ = some (.int .i64 ((W[k] : Nat) : Int)) := by
              rw [hw5.cell (by simpa using hgs)]; exact HC.out k hlt
            have hx16 := H16.out W[k] (List.getElem_mem hkl)
            generalize W[k] = x at hst hcell hx16
            have hX := rhex_any x hx16
            obtain ⟨-, -, hxl, -⟩ := hexS_get x hx16
            have HX := Lib.hid hX
            have HST := Lib.hid hst
            clear hX hst
            rcases Nat.eq_zero_or_pos sb.size with hs0 | hs0
            · have hnil : sb.data.toList = [] := List.eq_nil_of_length_eq_zero (by simpa using hs0)
              have he0 : sb.toList.isEmpty = true := by rw [Lib.toList_data, hnil]; rfl
              have HCB : Hid (colonB (shS W f t k) = false) := Lib.hid (by rw [← HS.out, hnil]; rfl)
              clear hnil
              go_wp2_with fail
              refine (HX.out _).mono ?_
              rintro e w4 ⟨rfl, hb4⟩
              have hw4 := hw5.trans (hb4.mono hw5.size)
              go_wp2
              go_roundw
              case rel =>
                refine ⟨k + 1, sb ++ ⟨(hexS x).toArray⟩, by omega, by go_num, rfl, ?_, Lib.hid ?_, Lib.hid (fun h => by have := HG'.out h; omega), hw4⟩
                · simp only [ByteArray.size_append]
                  show sb.size + (hexS x).toArray.size ≤ 6 * (k + 1)
                  rw [List.size_toArray]; omega
                · rw [HST.out, HCB.out]
                  simp only [app_hex, ba_list, HS.out]
                  simp
              case measure => simp [intOf]; omega
            · obtain ⟨j, hj⟩ : ∃ j, sb.size = j + 1 := ⟨sb.size - 1, by omega⟩
              have hlast := last_of sb j hj
              have hne : sb.data.toList ≠ [] := by
                intro e
                rw [e] at hlast; cases hlast
              have he0 : sb.toList.isEmpty = false := by
                rw [Lib.toList_data]
                cases hh : sb.data.toList with
                | nil => exact absurd hh hne
                | cons _ _ => rfl
              have hjl : j < sb.size := by omega
              have hj1 : (sb.size : Int) - 1 = (j : Int) := by omega
              by_cases h58 : sb[j] = 58
              · have hc : ((sb[j].toNat : Int) != 58) = false := by rw [h58]; rfl
                have HCB : Hid (colonB (shS W f t k) = false) := Lib.hid (by rw [← HS.out]; unfold colonB; rw [hlast, h58]; simp)
                clear hlast hne h58 hj
                go_wp2_with fail
                refine (HX.out _).mono ?_
                rintro e w4 ⟨rfl, hb4⟩
                have hw4 := hw5.trans (hb4.mono hw5.size)
                go_wp2
                go_roundw
                case rel =>
                  refine ⟨k + 1, sb ++ ⟨(hexS x).toArray⟩, by omega, by go_num, rfl, ?_, Lib.hid ?_, Lib.hid (fun h => by have := HG'.out h; omega), hw4⟩
                  · simp only [ByteArray.size_append]
                    show sb.size + (hexS x).toArray.size ≤ 6 * (k + 1)
                    rw [List.size_toArray]; omega
                  · rw [HST.out, HCB.out]
                    simp only [app_hex, ba_list, HS.out]
                    simp
                case measure => simp [intOf]; omega
              · have hc : ((sb[j].toNat : Int) != 58) = true := by
                  have : sb[j].toNat ≠ 58 := fun e => h58 (u8_ext e)
                  simp; omega
                have HCB : Hid (colonB (shS W f t k) = true) := Lib.hid (by rw [← HS.out]; unfold colonB; rw [hlast]; simp only [ne_eq, Option.some.injEq, h58, not_false_eq_true, decide_true, Bool.and_true]; cases hh : sb.data.toList with | nil => exact absurd hh hne | cons _ _ => rfl)
                clear hlast hne h58 hj
                go_wp2_with fail
                refine (HX.out _).mono ?_
                rintro e w4 ⟨rfl, hb4⟩
                have hw4 := hw5.trans (hb4.mono hw5.size)
                go_wp2
                go_roundw
                case rel =>
                  refine ⟨k + 1, sb ++ ⟨#[58]⟩ ++ ⟨(hexS x).toArray⟩, by omega, by go_num, rfl, ?_, Lib.hid ?_, Lib.hid (fun h => by have := HG'.out h; omega), hw4⟩
                  · simp only [ByteArray.size_append]
                    show sb.size + 1 + (hexS x).toArray.size ≤ 6 * (k + 1)
                    rw [List.size_toArray]; omega
                  · rw [HST.out, HCB.out]
                    simp only [app_hex, ba_list, HS.out]
                    simp
                case measure => simp [intOf]; omega
        · obtain rfl : k = 8 := by omega
          have hS : sb.data.toList = showW W := HS.out.trans HE2.out
          have hc2 : wr.cell? ⟨w.heap.size, 2, none⟩ = some (.int .i64 n) := by rw [hw5.cell (by simpa using hz)]; exact c2
          have hwW := hw0.trans (hw5.mono hw0.size)
          have HSS := Lib.hid hS
          clear hS HS c2
          go_wp2_with fail
          refine (HD.out _).mono ?_
          rintro e w6 ⟨rfl, hb6⟩
          go_wp2
          go_ret
          refine ⟨ret_str ?_, hwW.trans (hb6.mono hwW.size)⟩
          apply ByteArray.ext
          apply Array.toList_inj.1
          simp only [app_hex, ba_list, HSS.out]
          simp
end Go.Proofs.YtegaeifmikfpcaaDoor
