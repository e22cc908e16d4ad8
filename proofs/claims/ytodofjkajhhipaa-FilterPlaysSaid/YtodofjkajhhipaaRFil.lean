/-
  The reference's filter in memory: its struct and its row of numbers; what its calls hand back, and what is kept of it while other blocks are written. No condition but those that stand in each.
-/
import Derived.Test.YtodofjkajhhipaaFil
set_option linter.unusedSimpArgs false
set_option linter.unusedVariables false
namespace Go.Proofs.Ytodofjkajhhipaa
open Go.RowKit Go.Sort M

/-- A filter at block f, its numbers C at block g, both from lo on and below hi. -/
structure RFil (w : World) (lo hi f g s : Nat) (k : Int) (C : List Nat) : Prop where
  c0 : w.cell? ⟨f, 0, none⟩ = some (.int .u64 (s : Int))
  c1 : w.cell? ⟨f, 1, none⟩ = some (.int .i64 k)
  c2 : w.cell? ⟨f, 2, none⟩ = some (.slice (some ⟨g, 0, none⟩) C.length C.length)
  own : w.ownsRow lo 3 1 (.slice (some ⟨g, 0, none⟩) C.length C.length) C.length (iC C)
  small : ∀ c ∈ C, c ≤ 15
  len : C.length ≤ 65536
  top : hi ≤ w.heap.size
  fin : lo ≤ f ∧ f < hi
  gin : g < hi
  ne : f ≠ g
  ws : W64 s
section
variable {w w' : World} {lo hi f g s : Nat} {k : Int} {C : List Nat} {S : Nat → Prop}
theorem RFil.low (H : RFil w lo hi f g s k C) : lo ≤ g := (H.own.lt g rfl).1
theorem RFil.touched (H : RFil w lo hi f g s k C) (ht : Touch S w w') (hn : ∀ j, lo ≤ j → j < hi → ¬ S j) : RFil w' lo hi f g s k C :=
  ⟨ht.cell H.c0 (hn _ H.fin.1 H.fin.2), ht.cell H.c1 (hn _ H.fin.1 H.fin.2), ht.cell H.c2 (hn _ H.fin.1 H.fin.2), Touch.own H.own ht (fun j e => by cases e; exact hn _ H.low H.gin), H.small, H.len, Nat.le_trans H.top ht.size, H.fin, H.gin, H.ne, H.ws⟩
theorem RFil.below (H : RFil w lo hi f g s k C) (hb : Below w.heap.size w w') : RFil w' lo hi f g s k C := H.touched (S := fun _ => False) (Touch.quiet hb) (fun _ _ _ h => h)
theorem RFil.lt (H : RFil w lo hi f g s k C) : f < w.heap.size := Nat.lt_of_lt_of_le H.fin.2 H.top
theorem RFil.lt2 (H : RFil w lo hi f g s k C) : g < w.heap.size := Nat.lt_of_lt_of_le H.gin H.top
theorem RFil.store (H : RFil w lo hi f g s k C) (j v : Nat) (hv : v ≤ 15) (x : Int) (hx : x = (v : Int)) :
    RFil (w.setCell ⟨g, j, none⟩ (.int .i64 x)) lo hi f g s k (C.set j v) ∧ Touch (In lo hi) w (w.setCell ⟨g, j, none⟩ (.int .i64 x)) := by
  have hs := H.own.stored j (.int .i64 x)
  rw [iC_set C j v x hx] at hs
  have hn := H.ne
  refine ⟨⟨hs.2.cell H.c0 (by simpa using hn), hs.2.cell H.c1 (by simpa using hn), ?_, ?_, small_set H.small j v hv, by simpa using H.len, Nat.le_trans H.top hs.2.size, H.fin, H.gin, H.ne, H.ws⟩, Touch.of_grown hs.2 (fun j e => by cases e; exact ⟨H.low, H.gin⟩)⟩
  · rw [List.length_set]
    exact hs.2.cell H.c2 (by simpa using hn)
  · rw [List.length_set]
    exact hs.1
end
theorem rfull_any (lo hi f g s : Nat) (k : Int) (C : List Nat) (w : World) (H : RFil w lo hi f g s k C) :
    Calls Try.prog 20 #[.pointer (some ⟨f, 0, none⟩)] w fun e w' => e = .returned (.int .i64 (fullN C : Nat)) ∧ Below w.heap.size w w' := by
  have HC := Lib.hid H
  have c2 := H.c2
  have hl := H.lt
  have hlen := H.len
  clear H
  go_enter Try.func20, Try.ntmps20
  go_wp2
  go_loop [3, 4] (fun t i => ∃ j : Nat, j ≤ C.length ∧ i = .int .i64 j ∧ t = .int .i64 (fullN (C.take j) : Nat)) (fun _ i => C.length - (intOf i).toNat)
  case atStart => exact ⟨0, Nat.zero_le _, rfl, rfl⟩
  case round =>
    obtain ⟨j, hj, rfl, rfl⟩ := hrel
    have hful := fullN_le (C.take j)
    rw [List.length_take] at hful
    by_cases hlt : j < C.length
    · have d0 : w.cell? ⟨g, j, none⟩ = some (.int .i64 (C[j] : Nat)) := (HC.out.own.cellAt j (by omega)).trans (iC_at C j hlt)
      have hr := HC.out.lt2
      have hfs := fullN_snoc C j hlt
      generalize C[j] = c at d0 hfs
      have HFS := Lib.hid hfs
      generalize fullN (C.take j) = t at *
      clear hfs
      by_cases h15 : c = 15
      · subst h15
        rw [if_pos rfl] at HFS
        go_wp2
        go_round
        case rel => exact ⟨j + 1, by omega, by go_num, by rw [HFS.out]; go_num⟩
        case measure => simp [intOf]; omega
      · have hne : ((c : Int) == 15) = false := by simp; omega
        rw [if_neg h15] at HFS
        go_wp2
        go_round
        case rel => exact ⟨j + 1, by omega, by go_num, by rw [HFS.out]; rfl⟩
        case measure => simp [intOf]; omega
    · rw [List.take_of_length_le (by omega)]
      go_wp2
      go_ret
      exact ⟨rfl, by go_grown⟩
end Go.Proofs.Ytodofjkajhhipaa
