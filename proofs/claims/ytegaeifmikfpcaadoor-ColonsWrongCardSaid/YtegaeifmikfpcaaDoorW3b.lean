/-
  What the program's reader of a number of one to four digits hands back. No condition but those that stand in each.
-/
import Derived.Test.YtegaeifmikfpcaaDoorW3
import Derived.Lib.IfaceEq
set_option linter.unusedSimpArgs false
set_option linter.unusedVariables false
namespace Go.Proofs.YtegaeifmikfpcaaDoor
open Go.RowKit Go.Sort M

theorem hexV_none {l : List UInt8} (h : hexV l = none) (h0 : l ≠ []) (h4 : l.length ≤ 4) : hexGo 0 l = none := by
  unfold hexV at h
  rw [if_neg] at h
  · exact h
  · intro hh
    rcases hh with hh | hh
    · exact h0 (by simpa using hh)
    · omega
theorem hexV_some {l : List UInt8} {n : Nat} (h : hexV l = some n) : hexGo 0 l = some n ∧ l ≠ [] ∧ l.length ≤ 4 ∧ n < 65536 := by
  have hn := hexV_lt h
  unfold hexV at h
  split at h
  · cases h
  · rename_i hh
    refine ⟨h, ?_, by omega, hn⟩
    intro e
    exact hh (Or.inl (by rw [e]; rfl))
set_option maxHeartbeats 1000000 in
theorem sparse_ok {l : List UInt8} {n : Nat} (h : hexV l = some n) : Gives Tryd.prog 61 #[.string ⟨l.toArray⟩, .int .i64 16, .int .i64 16] (.tuple #[.int .u64 n, .nilIface]) := by
  intro w
  obtain ⟨hg, h0, h4, -⟩ := hexV_some h
  have hi := iparse16 ⟨l.toArray⟩ (by show l.toArray.size ≠ 0; simpa using h0) (by show l.toArray.size ≤ 4; simpa using h4) w
  have hi : Calls Tryd.prog 68 #[.string ⟨l.toArray⟩, .int .i64 16, .int .i64 16] w fun e w' => e = .returned (.tuple #[.int .u64 n, .nilIface]) ∧ Below w.heap.size w w' := by
    refine hi.mono ?_
    rintro e w' ⟨rfl, rfl⟩
    refine ⟨?_, Joins.below_bytesWorld _ _ _ _ (Nat.le_refl _)⟩
    show Ending.returned (pv16 (hexGo 0 l.toArray.toList)) = _
    rw [show l.toArray.toList = l by simp, hg]; rfl
  have HI := Lib.hid hi
  clear hi hg h0 h4 h
  go_enter Tryd.func61, Tryd.ntmps61
  go_wp2_with fail
  refine HI.out.mono ?_
  rintro e w1 ⟨rfl, hb1⟩
  go_wp2
  go_ret2
  exact ⟨rfl, hb1⟩
set_option maxHeartbeats 1000000 in
theorem sparse_bad {l : List UInt8} (h : hexV l = none) (h4 : l.length ≤ 4) (w : World) (hk : Kit w.heap.size w) :
    Calls Tryd.prog 61 #[.string ⟨l.toArray⟩, .int .i64 16, .int .i64 16] w fun e w' => (∃ N, e = .returned (.tuple #[.int .u64 0, .iface 86 (.pointer (some ⟨N, 0, none⟩))])) ∧ Below w.heap.size w w' := by
  have hi : Calls Tryd.prog 68 #[.string ⟨l.toArray⟩, .int .i64 16, .int .i64 16] w fun e w' => e = .returned (.tuple #[.int .u64 0, .iface 83 (.int .i64 2)]) ∧ Below w.heap.size w w' := by
    by_cases h0 : l = []
    · subst h0
      exact (Tryd.internal_strconv_ParseUint_empty 16 16 w).mono fun e w' ⟨h1, h2⟩ => ⟨h1, h2 ▸ Below.refl _ _⟩
    · have hi := iparse16 ⟨l.toArray⟩ (by show l.toArray.size ≠ 0; simpa using h0) (by show l.toArray.size ≤ 4; simpa using h4) w
      refine hi.mono ?_
      rintro e w' ⟨rfl, rfl⟩
      refine ⟨?_, Joins.below_bytesWorld _ _ _ _ (Nat.le_refl _)⟩
      show Ending.returned (pv16 (hexGo 0 l.toArray.toList)) = _
      rw [show l.toArray.toList = l by simp, hexV_none h h0 h4]; rfl
  have HI := Lib.hid hi
  have hl : l.toArray.size ≤ 4 := by simpa using h4
  have hte' : ∀ w1, Below w.heap.size w w1 → Calls Tryd.prog 45 #[.string ⟨#[80, 97, 114, 115, 101, 85, 105, 110, 116]⟩, .string ⟨l.toArray⟩, .int .i64 16, .int .i64 16, .iface 83 (.int .i64 2)] w1 fun e w' =>
      ∃ N, e = .returned (.iface 86 (.pointer (some ⟨N, 0, none⟩))) ∧ Below w1.heap.size w1 w' := by
    intro w1 hb
    obtain ⟨te, pe, hc⟩ := hk.eSyn w1 hb
    exact (Tryd.strconv_toError_syntax ⟨#[80, 97, 114, 115, 101, 85, 105, 110, 116]⟩ ⟨l.toArray⟩ 16 16 _ w1 (by show l.toArray.size ≤ _; omega) hc (Or.inr ⟨te, pe, rfl⟩)).mono fun e w' ⟨N, h1, _, _, h4⟩ => ⟨N, h1, h4⟩
  have HTE := Lib.hid hte'
  clear hi hte' h h4 hl hk
  go_enter Tryd.func61, Tryd.ntmps61
  go_wp2_with fail
  refine HI.out.mono ?_
  rintro e w1 ⟨rfl, hb1⟩
  have z1 := hb1.size
  go_wp2_with fail
  refine (HTE.out _ hb1).mono ?_
  rintro e w2 ⟨N, rfl, hb2⟩
  go_wp2
  go_ret2
  exact ⟨⟨N, rfl⟩, hb1.trans (hb2.mono z1)⟩
def opt16 (x : Option Nat) : Value := match x with | none => .tuple #[.int .u16 0, .bool false] | some n => .tuple #[.int .u16 n, .bool true]
set_option maxHeartbeats 1000000 in
theorem number_ok {l : List UInt8} {n : Nat} (h : hexV l = some n) : Gives Tryd.prog 47 #[.string ⟨l.toArray⟩] (.tuple #[.int .u16 n, .bool true]) := by
  intro w
  have hp := sparse_ok h
  obtain ⟨-, -, h4, hn⟩ := hexV_some h
  have hl : l.toArray.size ≤ 4 := by simpa using h4
  have HP := Lib.hid hp
  clear hp h
  go_enter Tryd.func47, Tryd.ntmps47
  go_wp2_with fail
  refine (HP.out _).mono ?_
  rintro e w1 ⟨rfl, hb1⟩
  have z1 := hb1.size
  go_wp2_with fail
  have kg := cell_grow
  refine region_whole (by kernel_rfl) (by kernel_rfl) ?_
  repeat (any_goals (first | go_big_quiet_step (fail) | quiet_step (fail)))
  refine wpQuiet_nil ?_
  clear kg
  intro w9 hb9
  obtain ⟨hc9, hf9⟩ := bcell hb9
  have hw9 : Below w.heap.size w w9 := by
    refine Below.trans ?_ (hb9.mono ?_)
    · go_grown
    · first | omega | go_size
  go_wp2
  go_ret2
  exact ⟨rfl, by go_grown⟩
set_option maxHeartbeats 1000000 in
theorem number_bad {l : List UInt8} (h : hexV l = none) (hl : l.length ≤ 1000000) : GivesK 47 #[.string ⟨l.toArray⟩] (.tuple #[.int .u16 0, .bool false]) := by
  intro w hk
  by_cases h4 : l.length ≤ 4
  · have hp := sparse_bad h h4
    have hl4 : l.toArray.size ≤ 4 := by simpa using h4
    have HP := Lib.hid hp
    have HK := Lib.hid hk
    clear hp h hl hk
    go_enter Tryd.func47, Tryd.ntmps47
    go_wp2_with fail
    refine (HP.out _ HK.out).mono ?_
    rintro e w1 ⟨⟨N, rfl⟩, hb1⟩
    have z1 := hb1.size
    go_wp2_with fail
    have kg := cell_grow
    refine region_whole (by kernel_rfl) (by kernel_rfl) ?_
    repeat (any_goals (first | go_big_quiet_step (fail) | quiet_step (fail)))
    refine wpQuiet_nil ?_
    clear kg
    intro w9 hb9
    obtain ⟨hc9, hf9⟩ := bcell hb9
    have hw9 : Below w.heap.size w w9 := by
      refine Below.trans ?_ (hb9.mono ?_)
      · go_grown
      · first | omega | go_size
    go_wp2
    go_ret2
    exact ⟨rfl, by go_grown⟩
  · have hl4 : 4 < l.toArray.size := by rw [List.size_toArray]; omega
    have hl5 : l.toArray.size ≤ 1000000 := by rw [List.size_toArray]; omega
    have h4' : 4 < l.length := by omega
    clear h h4 hk
    go_enter Tryd.func47, Tryd.ntmps47
    go_wp2
    go_ret2
    exact ⟨rfl, by go_grown⟩
end Go.Proofs.YtegaeifmikfpcaaDoor
