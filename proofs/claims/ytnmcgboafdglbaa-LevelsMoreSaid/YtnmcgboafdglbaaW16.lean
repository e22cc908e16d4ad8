/-
  What histo.rise and histo.taken hand back. No condition but that the rows lie in memory and are short of a million.
-/
import Derived.Test.YtnmcgboafdglbaaInts
import Derived.Deep.LoopGhost
import Derived.Test.YtnmcgboafdglbaaM16
set_option linter.unusedSimpArgs false
set_option linter.unusedVariables false
namespace Go.Proofs.Ytnmcgboafdglbaa
open Go Go.RowKit Go.Sort M

/-- What Cost hands back. -/
def ansV (o : Option Nat) : Value := .tuple #[.int .i64 ((o.getD 0 : Nat) : Int), .bool o.isSome]
theorem riseB_drop (lo : Int) (L : List Int) (i : Nat) (hi : i < L.length) : riseB lo (L.drop i) = (decide (lo < L[i]) && decide (L[i] ≤ 128) && riseB L[i] (L.drop (i + 1))) := by
  rw [List.drop_eq_getElem_cons hi]
  rfl
set_option maxHeartbeats 1000000 in
theorem rise_any (q : Option Addr) (d : Nat) (L : List Int) (low : Int) (w : World) (hL : IRow w q L) (hl : L.length ≤ 1000000) :
    Calls Try.prog 26 #[.slice q L.length d, .int .i64 low] w fun e w' => e = .returned (.bool (riseB low L)) ∧ Below w.heap.size w w' := by
  have HL := Lib.hid hL
  obtain ⟨R, hR⟩ : ∃ R, R = riseB low L := ⟨_, rfl⟩
  rw [← hR]
  have HR := Lib.hid hR
  clear hR hL
  go_enter Try.func26, Try.ntmps26
  go_wp2
  go_loopg [1, 9] L.length (fun kx s1 s9 wr => ∃ (i : Nat) (lo : Int), s9 = .int .i64 (i : Int) ∧ L.length - i ≤ kx ∧ i ≤ L.length ∧ s1 = .int .i64 lo ∧ Hid (riseB lo (L.drop i) = R) ∧ Below w.heap.size w wr)
  case atStart => exact ⟨0, low, rfl, by omega, by omega, rfl, Lib.hid HR.out.symm, by go_grown⟩
  case round =>
    obtain ⟨i, lo, rfl, h1, h2, rfl, HI, hb⟩ := hrel
    by_cases hi : i < L.length
    · obtain ⟨g, o, rfl, hg, x0⟩ := (HL.out.below hb).at hi
      have hs := riseB_drop lo L i hi
      rw [HI.out] at hs
      obtain ⟨a, ha⟩ : ∃ a, a = L[i] := ⟨_, rfl⟩
      rw [← ha] at x0 hs
      have i1 : (0 : Int) ≤ (i : Int) := by omega
      have i2 : (i : Int) < (L.length : Int) := by omega
      clear ha
      by_cases h3 : a ≤ lo
      · have HF : Hid (false = R) := by rw [decide_eq_false (by omega : ¬ lo < a)] at hs; exact Lib.hid hs.symm
        clear hs
        go_wp2
        go_ret
        exact ⟨ret_bool HF.out, hb⟩
      · by_cases h4 : (129 : Int) ≤ a
        · have HF : Hid (false = R) := by rw [decide_eq_false (by omega : ¬ a ≤ 128)] at hs; simp at hs; exact Lib.hid hs.symm
          clear hs
          go_wp2
          go_ret
          exact ⟨ret_bool HF.out, hb⟩
        · have HN : Hid (riseB a (L.drop (i + 1)) = R) := by rw [decide_eq_true (by omega : lo < a), decide_eq_true (by omega : a ≤ 128)] at hs; simp at hs; exact Lib.hid hs.symm
          clear hs
          go_wp2
          go_roundg (L.length - (i + 1))
          case measure => omega
          case rel => exact ⟨i + 1, a, by go_num, by omega, by omega, rfl, HN, hb⟩
    · go_wp2
      go_ret
      have := HI.out
      rw [List.drop_eq_nil_of_le (by omega)] at this
      exact ⟨ret_bool this, hb⟩
theorem taken_any (p : Option Addr) (c : Nat) (C : List Int) (n : Nat) (w : World) (hC : IRow w p C) (hl : C.length ≤ 1000000) (hn : n ≤ 1000000) :
    Calls Try.prog 27 #[.slice p C.length c, .int .i64 (n : Int)] w fun e w' => e = .returned (.int .i64 (atC C n : Nat)) ∧ Below w.heap.size w w' := by
  by_cases hi : n < C.length
  · obtain ⟨g, o, rfl, hg, x0⟩ := hC.at hi
    have he := atC_at C n hi
    obtain ⟨a, ha⟩ : ∃ a, a = C[n] := ⟨_, rfl⟩
    rw [← ha] at x0 he
    have i1 : (0 : Int) ≤ (n : Int) := by omega
    have i2 : (n : Int) < (C.length : Int) := by omega
    have HE := Lib.hid he
    clear ha he hC
    by_cases h1 : a ≤ 0
    · by_cases h0 : 0 < a
      · omega
      · have h2 : ¬ (1048576 : Int) < a := by omega
        go_enter Try.func27, Try.ntmps27
        go_wp2
        go_ret
        exact ⟨ret_num (by have := HE.out; omega), by go_grown⟩
    · by_cases h2 : (1048576 : Int) < a
      · have h0 : 0 < a := by omega
        go_enter Try.func27, Try.ntmps27
        go_wp2
        go_ret
        exact ⟨ret_num (by have := HE.out; omega), by go_grown⟩
      · have h0 : 0 < a := by omega
        go_enter Try.func27, Try.ntmps27
        go_wp2
        go_ret
        exact ⟨ret_num (by have := HE.out; omega), by go_grown⟩
  · have HE := Lib.hid (atC_past C n (by omega))
    clear hC
    go_enter Try.func27, Try.ntmps27
    go_wp2
    go_ret
    exact ⟨ret_num (by rw [HE.out]; rfl), by go_grown⟩
end Go.Proofs.Ytnmcgboafdglbaa
