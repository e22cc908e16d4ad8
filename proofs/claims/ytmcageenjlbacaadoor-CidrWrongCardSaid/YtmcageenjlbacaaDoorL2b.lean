/-
  CidrWrong as a walk: each call hands back true, for every input. It asks that the library's table of powers of ten reads as its initialiser lays it.
-/
import Derived.Test.YtmcageenjlbacaaDoorL2
set_option linter.unusedSimpArgs false
set_option linter.unusedVariables false
namespace Go.Proofs.YtmcageenjlbacaaDoor
open Go.RowKit Go.Sort M

/-- The texts, and what each is told. -/
def wrongs : List (List UInt8) := [[48, 46, 48, 46, 48, 46, 48, 47, 48], [50, 53, 53, 46, 50, 53, 53, 46, 50, 53, 53, 46, 50, 53, 53, 47, 51, 50], [49, 46, 50, 46, 51, 46, 52, 47, 51, 49], [49, 46, 50, 46, 51, 46, 53, 47, 51, 49], [49, 46, 50, 46, 51, 46, 52, 47, 51, 51], [49, 46, 50, 46, 51, 47, 56], [49, 46, 50, 46, 51, 46, 52, 46, 53, 47, 56], [48, 49, 46, 48, 46, 48, 46, 48, 47, 56], [49, 46, 48, 46, 48, 46, 48, 47, 48, 56], [50, 53, 54, 46, 48, 46, 48, 46, 48, 47, 56], [49, 46, 48, 46, 48, 46, 48], [49, 46, 48, 46, 48, 46, 48, 47], [47, 56], [], [32, 49, 46, 48, 46, 48, 46, 48, 47, 56], [49, 46, 48, 46, 48, 46, 48, 47, 56, 47, 56], [49, 46, 46, 48, 46, 48, 47, 56], [49, 50, 56, 46, 48, 46, 48, 46, 48, 47, 48], [49, 48, 46, 48, 46, 48, 46, 48, 47, 55], [97, 46, 48, 46, 48, 46, 48, 47, 56]]
def wrongErr : List Nat := [0, 0, 0, 3, 2, 2, 2, 2, 2, 2, 2, 2, 2, 2, 2, 2, 2, 3, 0, 2]
theorem wrongs_at (k : Nat) (h : k < 20) : ∀ h', ([.string ⟨#[48, 46, 48, 46, 48, 46, 48, 47, 48]⟩, .string ⟨#[50, 53, 53, 46, 50, 53, 53, 46, 50, 53, 53, 46, 50, 53, 53, 47, 51, 50]⟩, .string ⟨#[49, 46, 50, 46, 51, 46, 52, 47, 51, 49]⟩, .string ⟨#[49, 46, 50, 46, 51, 46, 53, 47, 51, 49]⟩, .string ⟨#[49, 46, 50, 46, 51, 46, 52, 47, 51, 51]⟩, .string ⟨#[49, 46, 50, 46, 51, 47, 56]⟩, .string ⟨#[49, 46, 50, 46, 51, 46, 52, 46, 53, 47, 56]⟩, .string ⟨#[48, 49, 46, 48, 46, 48, 46, 48, 47, 56]⟩, .string ⟨#[49, 46, 48, 46, 48, 46, 48, 47, 48, 56]⟩, .string ⟨#[50, 53, 54, 46, 48, 46, 48, 46, 48, 47, 56]⟩, .string ⟨#[49, 46, 48, 46, 48, 46, 48]⟩, .string ⟨#[49, 46, 48, 46, 48, 46, 48, 47]⟩, .string ⟨#[47, 56]⟩, .string ⟨#[]⟩, .string ⟨#[32, 49, 46, 48, 46, 48, 46, 48, 47, 56]⟩, .string ⟨#[49, 46, 48, 46, 48, 46, 48, 47, 56, 47, 56]⟩, .string ⟨#[49, 46, 46, 48, 46, 48, 47, 56]⟩, .string ⟨#[49, 50, 56, 46, 48, 46, 48, 46, 48, 47, 48]⟩, .string ⟨#[49, 48, 46, 48, 46, 48, 46, 48, 47, 55]⟩, .string ⟨#[97, 46, 48, 46, 48, 46, 48, 47, 56]⟩] : List Value)[k]'h' = .string ⟨(wrongs.getD k []).toArray⟩ := by
  intro h'
  match k, h, h' with
  | 0, _, _ => rfl
  | 1, _, _ => rfl
  | 2, _, _ => rfl
  | 3, _, _ => rfl
  | 4, _, _ => rfl
  | 5, _, _ => rfl
  | 6, _, _ => rfl
  | 7, _, _ => rfl
  | 8, _, _ => rfl
  | 9, _, _ => rfl
  | 10, _, _ => rfl
  | 11, _, _ => rfl
  | 12, _, _ => rfl
  | 13, _, _ => rfl
  | 14, _, _ => rfl
  | 15, _, _ => rfl
  | 16, _, _ => rfl
  | 17, _, _ => rfl
  | 18, _, _ => rfl
  | 19, _, _ => rfl
  | k + 20, h, _ => exact absurd h (by omega)
theorem wrongErr_at (k : Nat) (h : k < 20) : ∀ h', ([.int .i64 0, .int .i64 0, .int .i64 0, .int .i64 3, .int .i64 2, .int .i64 2, .int .i64 2, .int .i64 2, .int .i64 2, .int .i64 2, .int .i64 2, .int .i64 2, .int .i64 2, .int .i64 2, .int .i64 2, .int .i64 2, .int .i64 2, .int .i64 3, .int .i64 0, .int .i64 2] : List Value)[k]'h' = .int .i64 ((wrongErr.getD k 0 : Nat) : Int) := by
  intro h'
  match k, h, h' with
  | 0, _, _ => rfl
  | 1, _, _ => rfl
  | 2, _, _ => rfl
  | 3, _, _ => rfl
  | 4, _, _ => rfl
  | 5, _, _ => rfl
  | 6, _, _ => rfl
  | 7, _, _ => rfl
  | 8, _, _ => rfl
  | 9, _, _ => rfl
  | 10, _, _ => rfl
  | 11, _, _ => rfl
  | 12, _, _ => rfl
  | 13, _, _ => rfl
  | 14, _, _ => rfl
  | 15, _, _ => rfl
  | 16, _, _ => rfl
  | 17, _, _ => rfl
  | 18, _, _ => rfl
  | 19, _, _ => rfl
  | k + 20, h, _ => exact absurd h (by omega)
theorem wrong_all : (List.range 20).all (fun k => decide ((readC (wrongs.getD k [])).2.2 = wrongErr.getD k 0) && decide ((wrongs.getD k []).length ≤ 1000)) = true := by decide +kernel
theorem wrong_one (k : Nat) (h : k < 20) : (readC (wrongs.getD k [])).2.2 = wrongErr.getD k 0 ∧ (wrongs.getD k []).length ≤ 1000 := by
  have := List.all_eq_true.1 wrong_all k (List.mem_range.2 h)
  simpa using this
set_option maxHeartbeats 1000000 in
theorem cwrong_walk (i : Int) (w : World) (ht : Tens w.heap.size w) :
    Calls Tryd.prog 5 #[.int .i64 i] w fun e w' => e = .returned (.bool true) ∧ Below w.heap.size w w' := by
  have HT := Lib.hid ht
  clear ht
  by_cases hin : 0 ≤ i ∧ i < 20
  · obtain ⟨i0, i1⟩ := hin
    obtain ⟨k, rfl⟩ := Int.eq_ofNat_of_zero_le i0
    have hk : k < 20 := by omega
    have hs := wrongs_at k hk
    have he := wrongErr_at k hk
    obtain ⟨h1, h2⟩ := wrong_one k hk
    have hR := cread_any (wrongs.getD k []) (by unfold maxLen; omega)
    generalize wrongs.getD k [] = s at hs h1 hR
    generalize wrongErr.getD k 0 = z at he h1
    obtain ⟨⟨x, y, zz⟩, hx⟩ : ∃ p, p = readC s := ⟨_, rfl⟩
    rw [← hx] at hR h1
    obtain rfl : zz = z := h1
    have hR' : Gives Tryd.prog 7 #[.string ⟨s.toArray⟩] (.tuple #[.agg #[.int .u64 x, .int .u64 0, .int .i64 y], .int .i64 zz]) := hR
    have HR := Lib.hid hR'
    clear hR hR' hx h2
    go_enter Tryd.func5, Tryd.ntmps5
    go_wp2_with fail
    refine (alive2_any _ (Tens.up HT.out (by go_grown))).mono ?_
    rintro e w0 ⟨rfl, hw0⟩
    have z0 := hw0.size
    go_wp2_with fail
    refine (HR.out _).mono ?_
    rintro e w1 ⟨rfl, hb1⟩
    have hk1 : Below w0.heap.size w0 w1 := Below.trans (by go_grown) (hb1.mono (by go_size))
    have c0 : w1.cell? ⟨w0.heap.size + 1, k, none⟩ = some (.int .i64 zz) := by
      rw [hb1.cell (by simp <;> omega)]
      first | assumption | (simp [go_sem]; done) | (simp [go_sem, *]; done)
    have z1 : w0.heap.size + 1 < w1.heap.size := by have := hb1.size; simp at this; omega
    have z2 : w0.heap.size < w1.heap.size := by omega
    have hk2 : Below w.heap.size w w1 := hw0.trans (hk1.mono z0)
    have z3 := hk2.size
    clear hb1 hk1 hw0
    go_wp2_with fail
    have kg := cell_grow
    refine region_whole (by kernel_rfl) (by kernel_rfl) ?_
    repeat (any_goals (first | go_big_quiet_step (first | (go_at_call 9; exact Calls.regrown_of ((num2_any _ _).mono fun _ _ ⟨h1, h2⟩ => ⟨h1, h2 ▸ Below.refl _ _⟩))) | quiet_step (first | (go_at_call 9; exact Calls.regrown_of ((num2_any _ _).mono fun _ _ ⟨h1, h2⟩ => ⟨h1, h2 ▸ Below.refl _ _⟩)))))
    refine wpQuiet_nil ?_
    clear kg
    intro w2 hb2
    obtain ⟨hc2, hf2⟩ := bcell hb2
    have hw2 : Below w.heap.size w w2 := by
      refine Below.trans ?_ (hb2.mono ?_)
      · go_grown
      · go_size
    go_wp2
    go_ret
    exact ⟨rfl, by go_grown⟩
  · go_enter Tryd.func5, Tryd.ntmps5
    go_wp2_with fail
    refine (alive2_any _ (Tens.up HT.out (by go_grown))).mono ?_
    rintro e w0 ⟨rfl, hw0⟩
    have z0 := hw0.size
    go_wp2_with fail
    all_goals first
      | (exfalso; omega)
      | (go_ret; exact ⟨rfl, by go_grown⟩)
end Go.Proofs.YtmcageenjlbacaaDoor
