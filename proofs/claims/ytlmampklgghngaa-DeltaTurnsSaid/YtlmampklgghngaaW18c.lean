/-
  cover.lay: the keys of a route, laid into the keys that are there. No condition but that those keys lie in memory, in order, and are fewer than a million.
-/
import Derived.Test.YtlmampklgghngaaW18b
set_option linter.unusedSimpArgs false
set_option linter.unusedVariables false
namespace Go.Proofs.Ytlmampklgghngaa
open Go Go.RowKit Go.Sort M

/-- What lay hands back: a row that began where the elder one did, or later; nothing older is turned. -/
def LayR (B : Nat) (w w' : World) (e : Ending) (L : List Rt) : Prop := ∃ p c, e = .returned (.slice p L.length c) ∧ w'.ownsRow B 38 4 (.slice p L.length c) L.length (rcs L) ∧ Below B w w'
set_option maxRecDepth 100000 in
set_option maxHeartbeats 4000000 in
theorem lay_none (B : Nat) (q : Option Addr) (cq : Nat) (K : List Rt) (kh kl : Nat) (kn v high : Int) (w : World) (hO : w.ownsRow B 38 4 (.slice q K.length cq) K.length (rcs K)) (hB : B ≤ w.heap.size)
    (g1 : W64 kh) (g2 : W64 kl) (hU : sprK ⟨kh, kl, kn⟩ high = []) :
    Calls Try.prog 29 #[.slice q K.length cq, .agg #[.int .u64 (kh : Int), .int .u64 (kl : Int), .int .i64 kn, .int .i64 v], .int .i64 high] w fun e w' => LayR B w w' e K := by
  have hV : keysV kh kl kn high = [] := by
    unfold sprK at hU
    exact List.map_eq_nil_iff.1 hU
  have hk := keys_any kh kl kn high g1 g2
  rw [hV] at hk
  have HK : Hid (∀ W, Calls Try.prog 44 #[.agg #[.int .u64 (kh : Int), .int .u64 (kl : Int), .int .i64 kn], .int .i64 high] W fun e w' => ∃ p c, e = .returned (.slice p 0 c) ∧ w'.ownsRow W.heap.size 27 3 (.slice p 0 c) 0 [] ∧ Below W.heap.size W w') := Lib.hid hk
  have HO := Lib.hid hO
  clear hk hV hU hO
  go_enter Try.func29, Try.ntmps29
  go_wp2_with fail
  refine (HK.out _).mono ?_
  rintro e w1 ⟨p1, c1, rfl, ho1, hb1⟩
  have hw1 : Below w.heap.size w w1 := Below.trans (by go_grown) (hb1.mono (by simp; omega))
  obtain ⟨nc, -⟩ := bcell hb1
  have k0 := (nc w.heap.size 0 (by simp; omega)).trans (show _ = some (Value.slice q K.length cq) by simp [go_sem])
  have hz : w.heap.size < w1.heap.size := by have := hb1.size; simp at this; omega
  clear nc ho1 hb1
  go_wp2
  go_ret
  exact ⟨q, cq, rfl, own_below HO.out (by go_grown), Below.mono (by go_grown) hB⟩
end Go.Proofs.Ytlmampklgghngaa
