/-
  What the program's reader of a length hands back; strings.Cut at two colons. It asks what Kit tells of the library's variables.
-/
import Derived.Test.YtegaeifmikfpcaaDoorW3c
set_option linter.unusedSimpArgs false
set_option linter.unusedVariables false
namespace Go.Proofs.YtegaeifmikfpcaaDoor
open Go.RowKit Go.Sort M

theorem sitoa_any (v : Int) (h0 : 0 ≤ v) (h1 : v ≤ 128) : GivesK 35 #[.int .i64 v] (.string ⟨(Lib.itoa v).toArray⟩) := by
  intro w hk
  refine (Tryd.strconv_Itoa v (by omega) (by omega) w hk.tens.here).mono ?_
  rintro e w' ⟨rfl, k, os, rfl⟩
  exact ⟨rfl, below_regrown w (w.drawn + k) os⟩
theorem satoi_ok {l : List UInt8} {v : Int} (hl : l.length ≤ 1000000) (h : Lib.atoiAll l = .ok v) : Gives Tryd.prog 34 #[.string ⟨l.toArray⟩] (.tuple #[.int .i64 v, .nilIface]) := by
  intro w
  have hs : l.toArray.size ≤ 1000000 := by rw [List.size_toArray]; exact hl
  refine (Tryd.strconv_Atoi_ok ⟨l.toArray⟩ (by show l.toArray.size ≤ _; omega) v (by simpa using h) w).mono ?_
  rintro e w' ⟨rfl, rfl | ⟨t, rfl⟩⟩
  · exact ⟨rfl, Below.refl _ _⟩
  · exact ⟨rfl, Joins.below_bytesWorld _ _ _ _ (Nat.le_refl _)⟩
theorem satoi_bad {l : List UInt8} (hl : l.length ≤ 1000000) (h : Lib.atoiAll l = .«syntax» ∨ Lib.atoiAll l = .range) (w : World) (hk : Kit w.heap.size w) :
    Calls Tryd.prog 34 #[.string ⟨l.toArray⟩] w fun e w' => (∃ N v, e = .returned (.tuple #[.int .i64 v, .iface 86 (.pointer (some ⟨N, 0, none⟩))])) ∧ Below w.heap.size w w' := by
  have hs : l.toArray.size ≤ 1000000 := by rw [List.size_toArray]; exact hl
  rcases h with h | h
  · obtain ⟨te, pe, hc⟩ := hk.eSyn w (Below.refl _ _)
    exact (Tryd.strconv_Atoi_syntax ⟨l.toArray⟩ (by show l.toArray.size ≤ _; omega) (by simpa using h) _ w hc (Or.inr ⟨te, pe, rfl⟩)).mono fun e w' ⟨N, h1, _, _, h4⟩ => ⟨⟨N, 0, h1⟩, h4⟩
  · obtain ⟨te, pe, hc⟩ := hk.eRan w (Below.refl _ _)
    exact (Tryd.strconv_Atoi_range ⟨l.toArray⟩ (by show l.toArray.size ≤ _; omega) (by simpa using h) _ w hc (Or.inr ⟨te, pe, rfl⟩)).mono fun e w' ⟨N, h1, _, _, h4⟩ => ⟨⟨N, _, h1⟩, h4⟩
set_option maxHeartbeats 1000000 in
theorem clength_some {l : List UInt8} {n : Nat} (hl : l.length ≤ 1000000) (h : numC 128 l = some n) : GivesK 15 #[.string ⟨l.toArray⟩] (.tuple #[.int .i64 n, .bool true]) := by
  intro w hk
  obtain ⟨ha, hi, h128⟩ := len_some h
  have hA := satoi_ok hl ha
  have hI := sitoa_any (n : Int) (by omega) (by omega)
  rw [hi] at hI
  have HA := Lib.hid hA
  have HI := Lib.hid hI
  have HK := Lib.hid hk
  clear hA hI hk ha hi h hl
  go_enter Tryd.func15, Tryd.ntmps15
  go_wp2_with fail
  refine (HA.out _).mono ?_
  rintro e w1 ⟨rfl, hb1⟩
  go_wp2_with fail
  refine (HI.out _ (HK.out.up hb1)).mono ?_
  rintro e w2 ⟨rfl, hb2⟩
  have hw2 := hb1.trans (hb2.mono hb1.size)
  go_wp2
  go_ret2
  exact ⟨rfl, hw2⟩
set_option maxHeartbeats 1000000 in
theorem clength_none {l : List UInt8} (hl : l.length ≤ 1000000) (h : numC 128 l = none) : GivesK 15 #[.string ⟨l.toArray⟩] (.tuple #[.int .i64 0, .bool false]) := by
  intro w hk
  have HK := Lib.hid hk
  clear hk
  cases ha : Lib.atoiAll l with
  | ok v =>
    have hA := satoi_ok hl ha
    have HA := Lib.hid hA
    by_cases h0 : v < 0
    · clear hA ha h hl
      go_enter Tryd.func15, Tryd.ntmps15
      go_wp2_with fail
      refine (HA.out _).mono ?_
      rintro e w1 ⟨rfl, hb1⟩
      go_wp2
      go_ret2
      exact ⟨rfl, hb1⟩
    · by_cases h1 : 128 < v
      · clear hA ha h hl
        go_enter Tryd.func15, Tryd.ntmps15
        go_wp2_with fail
        refine (HA.out _).mono ?_
        rintro e w1 ⟨rfl, hb1⟩
        go_wp2
        go_ret2
        exact ⟨rfl, hb1⟩
      · have hne := len_none h (by omega) (by omega : v ≤ 128)
        have hI := sitoa_any v (by omega) (by omega)
        have hnq : (Lib.itoa v == l) = false := by simpa using hne
        generalize Lib.itoa v = D at hI hnq
        have HI := Lib.hid hI
        clear hA ha h hl hI hne
        go_enter Tryd.func15, Tryd.ntmps15
        go_wp2_with fail
        refine (HA.out _).mono ?_
        rintro e w1 ⟨rfl, hb1⟩
        go_wp2_with fail
        refine (HI.out _ (HK.out.up hb1)).mono ?_
        rintro e w2 ⟨rfl, hb2⟩
        have hw2 := hb1.trans (hb2.mono hb1.size)
        go_wp2
        go_ret2
        exact ⟨rfl, hw2⟩
  | «syntax» =>
    have hA := satoi_bad hl (Or.inl ha)
    have HA := Lib.hid hA
    clear hA ha h hl
    go_enter Tryd.func15, Tryd.ntmps15
    go_wp2_with fail
    refine (HA.out _ HK.out).mono ?_
    rintro e w1 ⟨⟨N, v, rfl⟩, hb1⟩
    go_wp2
    go_ret2
    exact ⟨rfl, hb1⟩
  | range =>
    have hA := satoi_bad hl (Or.inr ha)
    have HA := Lib.hid hA
    clear hA ha h hl
    go_enter Tryd.func15, Tryd.ntmps15
    go_wp2_with fail
    refine (HA.out _ HK.out).mono ?_
    rintro e w1 ⟨⟨N, v, rfl⟩, hb1⟩
    go_wp2
    go_ret2
    exact ⟨rfl, hb1⟩
/-- strings.Cut at two colons. -/
theorem scut2_any {l : List UInt8} (hl : l.length ≤ 1000000) (w : World) (hk : Kit w.heap.size w) :
    Calls Tryd.prog 14 #[.string ⟨l.toArray⟩, .string ⟨#[58, 58]⟩] w fun e w' => e = .returned (.tuple #[.string ⟨(Lib.cut l [58, 58]).1.toArray⟩, .string ⟨(Lib.cut l [58, 58]).2.1.toArray⟩, .bool (Lib.cut l [58, 58]).2.2]) ∧ Below w.heap.size w w' := by
  obtain ⟨m, hm⟩ := hk.most w (Below.refl _ _)
  have hs : l.toArray.size ≤ 1000000 := by rw [List.size_toArray]; exact hl
  refine (Tryd.strings_Cut ⟨l.toArray⟩ ⟨#[58, 58]⟩ m w (by show l.toArray.size < _; omega) hm).mono ?_
  rintro e w' ⟨rfl, n, rfl⟩
  exact ⟨rfl, ⟨rfl, rfl, rfl, Nat.le_refl _, fun _ _ => rfl⟩⟩
end Go.Proofs.YtegaeifmikfpcaaDoor
