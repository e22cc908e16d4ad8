/-
  What levels.allowed, levels.Right, and the reference's able and RightLevels hand back; which of two ways is below. No condition but that the row lies in memory and is short of a million.
-/
import Derived.Test.YtnmcgboafdglbaaW16b
import Derived.Test.YtnmcgboafdglbaaM17b
set_option linter.unusedSimpArgs false
set_option linter.unusedVariables false
namespace Go.Proofs.Ytnmcgboafdglbaa
open Go Go.RowKit Go.Sort M

/-- The numbers are such that there may be levels. -/
def ablB (wd lo mo st : Int) : Bool := decide (1 ≤ wd ∧ wd ≤ 128 ∧ 0 ≤ lo ∧ lo ≤ wd ∧ 0 ≤ mo ∧ mo ≤ 128 ∧ 1 ≤ st ∧ st ≤ 20)
theorem allowed_any (a b c d : Int) : Gives Try.prog 15 #[.int .i64 a, .int .i64 b, .int .i64 c, .int .i64 d] (.bool (ablB a b c d)) := by
  intro w
  by_cases h : ablB a b c d = true
  · rw [h]
    unfold ablB at h
    obtain ⟨h1, h2, h3, h4, h5, h6, h7, h8⟩ := of_decide_eq_true h
    clear h
    go_enter Try.func15, Try.ntmps15
    go_wp2
    go_ret
    exact ⟨rfl, by go_grown⟩
  · have hf : ablB a b c d = false := by simpa using h
    rw [hf]
    unfold ablB at h
    have h0 := fun e => h (decide_eq_true e)
    clear h hf
    by_cases h1 : 1 ≤ a
    · by_cases h2 : a ≤ 128
      · by_cases h3 : 0 ≤ b
        · by_cases h4 : b ≤ a
          · by_cases h5 : 0 ≤ c
            · by_cases h6 : c ≤ 128
              · by_cases h7 : 1 ≤ d
                · have h8 : ¬ d ≤ 20 := fun h8 => h0 ⟨h1, h2, h3, h4, h5, h6, h7, h8⟩
                  clear h0
                  go_enter Try.func15, Try.ntmps15
                  go_wp2
                  go_ret
                  exact ⟨rfl, by go_grown⟩
                · clear h0
                  go_enter Try.func15, Try.ntmps15
                  go_wp2
                  go_ret
                  exact ⟨rfl, by go_grown⟩
              · clear h0
                go_enter Try.func15, Try.ntmps15
                go_wp2
                go_ret
                exact ⟨rfl, by go_grown⟩
            · clear h0
              go_enter Try.func15, Try.ntmps15
              go_wp2
              go_ret
              exact ⟨rfl, by go_grown⟩
          · clear h0
            go_enter Try.func15, Try.ntmps15
            go_wp2
            go_ret
            exact ⟨rfl, by go_grown⟩
        · clear h0
          go_enter Try.func15, Try.ntmps15
          go_wp2
          go_ret
          exact ⟨rfl, by go_grown⟩
      · clear h0
        go_enter Try.func15, Try.ntmps15
        go_wp2
        go_ret
        exact ⟨rfl, by go_grown⟩
    · clear h0
      go_enter Try.func15, Try.ntmps15
      go_wp2
      go_ret
      exact ⟨rfl, by go_grown⟩
theorem able_any (a b c d : Int) : Gives Try.prog 18 #[.int .i64 a, .int .i64 b, .int .i64 c, .int .i64 d] (.bool (ablB a b c d)) := by
  intro w
  by_cases h : ablB a b c d = true
  · rw [h]
    unfold ablB at h
    obtain ⟨h1, h2, h3, h4, h5, h6, h7, h8⟩ := of_decide_eq_true h
    clear h
    go_enter Try.func18, Try.ntmps18
    go_wp2
    go_ret
    exact ⟨rfl, by go_grown⟩
  · have hf : ablB a b c d = false := by simpa using h
    rw [hf]
    unfold ablB at h
    have h0 := fun e => h (decide_eq_true e)
    clear h hf
    by_cases h1 : 1 ≤ a
    · by_cases h2 : a ≤ 128
      · by_cases h3 : 0 ≤ b
        · by_cases h4 : b ≤ a
          · by_cases h5 : 0 ≤ c
            · by_cases h6 : c ≤ 128
              · by_cases h7 : 1 ≤ d
                · have h8 : ¬ d ≤ 20 := fun h8 => h0 ⟨h1, h2, h3, h4, h5, h6, h7, h8⟩
                  clear h0
                  go_enter Try.func18, Try.ntmps18
                  go_wp2
                  go_ret
                  exact ⟨rfl, by go_grown⟩
                · clear h0
                  go_enter Try.func18, Try.ntmps18
                  go_wp2
                  go_ret
                  exact ⟨rfl, by go_grown⟩
              · clear h0
                go_enter Try.func18, Try.ntmps18
                go_wp2
                go_ret
                exact ⟨rfl, by go_grown⟩
            · clear h0
              go_enter Try.func18, Try.ntmps18
              go_wp2
              go_ret
              exact ⟨rfl, by go_grown⟩
          · clear h0
            go_enter Try.func18, Try.ntmps18
            go_wp2
            go_ret
            exact ⟨rfl, by go_grown⟩
        · clear h0
          go_enter Try.func18, Try.ntmps18
          go_wp2
          go_ret
          exact ⟨rfl, by go_grown⟩
      · clear h0
        go_enter Try.func18, Try.ntmps18
        go_wp2
        go_ret
        exact ⟨rfl, by go_grown⟩
    · clear h0
      go_enter Try.func18, Try.ntmps18
      go_wp2
      go_ret
      exact ⟨rfl, by go_grown⟩
/-- Levels from a on, each at most st above the one ahead, the last one wd. -/
def rgB (st wd : Int) : Int → List Int → Bool
  | a, [] => decide (a = wd)
  | a, b :: L => decide (a < b) && decide (b - a ≤ st) && rgB st wd b L
def rightI (wd lo mo st : Int) (L : List Int) : Bool := ablB wd lo mo st && decide ((L.length : Int) ≤ mo) && rgB st wd lo L
theorem rgB_nat {st wd : Nat} : ∀ (L : List Int) (a : Nat), rgB st wd a L = true → ∃ M : List Nat, L = toI M ∧ okC st wd a M = true
  | [], a, h => ⟨[], rfl, okC_nil.2 (by have h2 : (a : Int) = (wd : Int) := of_decide_eq_true h; omega)⟩
  | b :: L, a, h => by
    simp only [rgB, Bool.and_eq_true, decide_eq_true_eq] at h
    obtain ⟨c, hc⟩ := Int.eq_ofNat_of_zero_le (show (0 : Int) ≤ b by omega)
    subst hc
    obtain ⟨M, rfl, hM⟩ := rgB_nat L c h.2
    exact ⟨c :: M, rfl, okC_cons.2 ⟨by omega, by omega, hM⟩⟩
theorem nat_rgB {st wd : Nat} : ∀ (M : List Nat) (a : Nat), okC st wd a M = true → rgB st wd a (toI M) = true
  | [], a, h => by
    rw [okC_nil] at h
    subst h
    exact decide_eq_true rfl
  | b :: M, a, h => by
    rw [okC_cons] at h
    show rgB (st : Int) (wd : Int) (a : Int) ((b : Int) :: toI M) = true
    simp only [rgB, Bool.and_eq_true, decide_eq_true_eq]
    exact ⟨⟨by omega, by omega⟩, nat_rgB M b h.2.2⟩
theorem rgB_drop (st wd lo : Int) (L : List Int) (i : Nat) (hi : i < L.length) : rgB st wd lo (L.drop i) = (decide (lo < L[i]) && decide (L[i] - lo ≤ st) && rgB st wd L[i] (L.drop (i + 1))) := by
  rw [List.drop_eq_getElem_cons hi]
  rfl
set_option maxHeartbeats 1000000 in
theorem right_any (q : Option Addr) (d : Nat) (L : List Int) (wd lo mo st : Int) (w : World) (hL : IRow w q L) (hl : L.length ≤ 1000000) (hW : ∀ x ∈ L, x ≤ 9223372036854775807) :
    Calls Try.prog 12 #[.int .i64 wd, .int .i64 lo, .int .i64 mo, .int .i64 st, .slice q L.length d] w fun e w' => e = .returned (.bool (rightI wd lo mo st L)) ∧ Below w.heap.size w w' := by
  have hA := allowed_any wd lo mo st
  by_cases hok : ablB wd lo mo st = true ∧ (L.length : Int) ≤ mo
  · have hab := hok.1
    have hlm := hok.2
    have hR : rightI wd lo mo st L = rgB st wd lo L := by unfold rightI; rw [hab, decide_eq_true hlm]; rfl
    rw [hR]
    rw [hab] at hA
    unfold ablB at hab
    obtain ⟨h1, h2, h3, h4, h5, h6, h7, h8⟩ := of_decide_eq_true hab
    obtain ⟨R, hR2⟩ : ∃ R, R = rgB st wd lo L := ⟨_, rfl⟩
    rw [← hR2]
    have HL := Lib.hid hL
    have HW := Lib.hid hW
    have HR := Lib.hid hR2.symm
    have HA := Lib.hid hA
    clear hR hA hab hok hL hR2 hW
    go_enter Try.func12, Try.ntmps12
    go_wp2_with fail
    refine (HA.out _).mono ?_
    rintro e w1 ⟨rfl, hb1⟩
    go_wp2
    go_loopg [1, 27] L.length (fun kx s1 s27 wr => ∃ (i : Nat) (a : Int), s27 = .int .i64 (i : Int) ∧ L.length - i ≤ kx ∧ i ≤ L.length ∧ s1 = .int .i64 a ∧ 0 ≤ a ∧ Hid (rgB st wd a (L.drop i) = R) ∧ Below w.heap.size w wr)
    case atStart => exact ⟨0, lo, rfl, by omega, by omega, rfl, h3, HR, hb1⟩
    case round =>
      clear HR hb1 h3 h4
      obtain ⟨i, a, rfl, h9, h10, rfl, h11, HI, hb⟩ := hrel
      by_cases hi : i < L.length
      · obtain ⟨g, o, rfl, hg, x0⟩ := (HL.out.below hb).at hi
        have hs := rgB_drop st wd a L i hi
        rw [HI.out] at hs
        have hWb := HW.out L[i] (List.getElem_mem hi)
        obtain ⟨b, hbb⟩ : ∃ b, b = L[i] := ⟨_, rfl⟩
        rw [← hbb] at x0 hs hWb
        have i1 : (0 : Int) ≤ (i : Int) := by omega
        have i2 : (i : Int) < (L.length : Int) := by omega
        clear hbb
        by_cases c1 : b ≤ a
        · have HF : Hid (false = R) := by rw [decide_eq_false (by omega : ¬ a < b)] at hs; exact Lib.hid hs.symm
          clear hs
          go_wp2
          go_ret
          exact ⟨ret_bool HF.out, hb⟩
        · by_cases c2 : st < b - a
          · have HF : Hid (false = R) := by rw [decide_eq_false (by omega : ¬ b - a ≤ st)] at hs; simp at hs; exact Lib.hid hs.symm
            clear hs
            go_wp2
            go_ret
            exact ⟨ret_bool HF.out, hb⟩
          · have HN : Hid (rgB st wd b (L.drop (i + 1)) = R) := by rw [decide_eq_true (by omega : a < b), decide_eq_true (by omega : b - a ≤ st)] at hs; simp at hs; exact Lib.hid hs.symm
            clear hs
            go_wp2
            go_roundg (L.length - (i + 1))
            case measure => omega
            case rel => exact ⟨i + 1, b, by go_num, by omega, by omega, rfl, by omega, HN, hb⟩
      · have HE : Hid (decide (a = wd) = R) := by
          have := HI.out
          rw [List.drop_eq_nil_of_le (by omega)] at this
          exact Lib.hid this
        by_cases he : a = wd
        · subst he
          go_wp2
          go_ret
          exact ⟨ret_bool (by have := HE.out; simpa using this), hb⟩
        · have he2 : (a == wd) = false := by simpa using he
          go_wp2
          go_ret
          exact ⟨ret_bool (by have := HE.out; rw [decide_eq_false he] at this; exact this), hb⟩
  · have hR : rightI wd lo mo st L = false := by
      unfold rightI
      cases h : ablB wd lo mo st with
      | false => rfl
      | true => rw [decide_eq_false (fun e => hok ⟨h, e⟩)]; rfl
    rw [hR]
    clear hR
    by_cases hab : ablB wd lo mo st = true
    · rw [hab] at hA
      have hlm : ¬ (L.length : Int) ≤ mo := fun h => hok ⟨hab, h⟩
      have HA := Lib.hid hA
      clear hA hab hL hok hW
      go_enter Try.func12, Try.ntmps12
      go_wp2_with fail
      refine (HA.out _).mono ?_
      rintro e w1 ⟨rfl, hb1⟩
      go_wp2
      go_ret
      exact ⟨rfl, by go_grown⟩
    · have hab : ablB wd lo mo st = false := by simpa using hab
      rw [hab] at hA
      have HA := Lib.hid hA
      clear hA hab hL hok hW
      go_enter Try.func12, Try.ntmps12
      go_wp2_with fail
      refine (HA.out _).mono ?_
      rintro e w1 ⟨rfl, hb1⟩
      go_wp2
      go_ret
      exact ⟨rfl, by go_grown⟩
set_option maxHeartbeats 1000000 in
theorem rright_any (q : Option Addr) (d : Nat) (L : List Int) (wd lo mo st : Int) (w : World) (hL : IRow w q L) (hl : L.length ≤ 1000000) (hW : ∀ x ∈ L, x ≤ 9223372036854775807) :
    Calls Try.prog 13 #[.int .i64 wd, .int .i64 lo, .int .i64 mo, .int .i64 st, .slice q L.length d] w fun e w' => e = .returned (.bool (rightI wd lo mo st L)) ∧ Below w.heap.size w w' := by
  have hA := able_any wd lo mo st
  by_cases hok : ablB wd lo mo st = true ∧ (L.length : Int) ≤ mo
  · have hab := hok.1
    have hlm := hok.2
    have hR : rightI wd lo mo st L = rgB st wd lo L := by unfold rightI; rw [hab, decide_eq_true hlm]; rfl
    rw [hR]
    rw [hab] at hA
    unfold ablB at hab
    obtain ⟨h1, h2, h3, h4, h5, h6, h7, h8⟩ := of_decide_eq_true hab
    obtain ⟨R, hR2⟩ : ∃ R, R = rgB st wd lo L := ⟨_, rfl⟩
    rw [← hR2]
    have HL := Lib.hid hL
    have HW := Lib.hid hW
    have HR := Lib.hid hR2.symm
    have HA := Lib.hid hA
    clear hR hA hab hok hL hR2 hW
    go_enter Try.func13, Try.ntmps13
    go_wp2_with fail
    refine (HA.out _).mono ?_
    rintro e w1 ⟨rfl, hb1⟩
    go_wp2
    go_loopg [11, 12] L.length (fun kx s1 s27 wr => ∃ (i : Nat) (a : Int), s27 = .int .i64 (i : Int) ∧ L.length - i ≤ kx ∧ i ≤ L.length ∧ s1 = .int .i64 a ∧ 0 ≤ a ∧ Hid (rgB st wd a (L.drop i) = R) ∧ Below w.heap.size w wr)
    case atStart => exact ⟨0, lo, rfl, by omega, by omega, rfl, h3, HR, hb1⟩
    case round =>
      clear HR hb1
      obtain ⟨i, a, rfl, h9, h10, rfl, h11, HI, hb⟩ := hrel
      by_cases hi : i < L.length
      · obtain ⟨g, o, rfl, hg, x0⟩ := (HL.out.below hb).at hi
        have hs := rgB_drop st wd a L i hi
        rw [HI.out] at hs
        have hWb := HW.out L[i] (List.getElem_mem hi)
        obtain ⟨b, hbb⟩ : ∃ b, b = L[i] := ⟨_, rfl⟩
        rw [← hbb] at x0 hs hWb
        have i1 : (0 : Int) ≤ (i : Int) := by omega
        have i2 : (i : Int) < (L.length : Int) := by omega
        clear hbb
        by_cases c1 : b ≤ a
        · have HF : Hid (false = R) := by rw [decide_eq_false (by omega : ¬ a < b)] at hs; exact Lib.hid hs.symm
          clear hs
          go_wp2
          go_ret
          exact ⟨ret_bool HF.out, hb⟩
        · by_cases c2 : st < b - a
          · have HF : Hid (false = R) := by rw [decide_eq_false (by omega : ¬ b - a ≤ st)] at hs; simp at hs; exact Lib.hid hs.symm
            clear hs
            go_wp2
            go_ret
            exact ⟨ret_bool HF.out, hb⟩
          · have HN : Hid (rgB st wd b (L.drop (i + 1)) = R) := by rw [decide_eq_true (by omega : a < b), decide_eq_true (by omega : b - a ≤ st)] at hs; simp at hs; exact Lib.hid hs.symm
            clear hs
            go_wp2
            go_roundg (L.length - (i + 1))
            case measure => omega
            case rel => exact ⟨i + 1, b, by go_num, by omega, by omega, rfl, by omega, HN, hb⟩
      · have HE : Hid (decide (a = wd) = R) := by
          have := HI.out
          rw [List.drop_eq_nil_of_le (by omega)] at this
          exact Lib.hid this
        by_cases he : a = wd
        · subst he
          go_wp2
          go_ret
          exact ⟨ret_bool (by have := HE.out; simpa using this), hb⟩
        · have he2 : (a == wd) = false := by simpa using he
          go_wp2
          go_ret
          exact ⟨ret_bool (by have := HE.out; rw [decide_eq_false he] at this; exact this), hb⟩
  · have hR : rightI wd lo mo st L = false := by
      unfold rightI
      cases h : ablB wd lo mo st with
      | false => rfl
      | true => rw [decide_eq_false (fun e => hok ⟨h, e⟩)]; rfl
    rw [hR]
    clear hR
    by_cases hab : ablB wd lo mo st = true
    · rw [hab] at hA
      have hlm : ¬ (L.length : Int) ≤ mo := fun h => hok ⟨hab, h⟩
      have HA := Lib.hid hA
      clear hA hab hL hok hW
      go_enter Try.func13, Try.ntmps13
      go_wp2_with fail
      refine (HA.out _).mono ?_
      rintro e w1 ⟨rfl, hb1⟩
      go_wp2
      go_ret
      exact ⟨rfl, by go_grown⟩
    · have hab : ablB wd lo mo st = false := by simpa using hab
      rw [hab] at hA
      have HA := Lib.hid hA
      clear hA hab hL hok hW
      go_enter Try.func13, Try.ntmps13
      go_wp2_with fail
      refine (HA.out _).mono ?_
      rintro e w1 ⟨rfl, hb1⟩
      go_wp2
      go_ret
      exact ⟨rfl, by go_grown⟩
end Go.Proofs.Ytnmcgboafdglbaa
