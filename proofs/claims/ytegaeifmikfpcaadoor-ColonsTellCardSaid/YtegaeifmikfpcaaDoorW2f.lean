/-
  What the reference's ReadDots hands back. It asks that the text is no longer than a million bytes.
-/
import Derived.Test.YtegaeifmikfpcaaDoorW2e
set_option linter.unusedSimpArgs false
set_option linter.unusedVariables false
namespace Go.Proofs.YtegaeifmikfpcaaDoor
open Go.RowKit Go.Sort M

theorem own_form {w : World} {B n : Nat} {e : TypeId} {v : Value} {xs : List Value} (h : w.ownsRow B e 1 v n xs) (hn : 0 < n) :
    ∃ g cap, v = .slice (some ⟨g, 0, none⟩) n cap ∧ B ≤ g ∧ g < w.heap.size ∧ n ≤ cap ∧ cap ≤ maxLen ∧ ∀ j u, xs[j]? = some u → w.cell? ⟨g, j, none⟩ = some u := by
  have hc := fun g hg => h.cells (g := g) hg
  have hl := h.lt
  rcases h.2 with ⟨rfl, h0⟩ | ⟨g, cap, cur, rfl, hB, -, h1, h2, -, -⟩
  · omega
  · refine ⟨g, cap, rfl, hB, (hl g rfl).2, h1, h2, fun j u hu => ?_⟩
    have := hc g rfl j u hu
    rwa [show (⟨g, 0, none⟩ : Addr).add j = ⟨g, j, none⟩ by unfold Addr.add; split <;> simp_all] at this

def wholeV (hi lo : Nat) (n : Int) : Value := if rightB hi lo n = true then .tuple #[.agg #[.int .u64 hi, .int .u64 lo, .int .i64 n], .int .i64 0] else .tuple #[.agg #[.int .u64 0, .int .u64 0, .int .i64 0], .int .i64 3]
set_option maxHeartbeats 400000 in
theorem whole_any (hi lo : Nat) (n : Int) (ha : W64 hi) (hb : W64 lo) : Gives Tryd.prog 21 #[.agg #[.int .u64 hi, .int .u64 lo], .int .i64 n] (wholeV hi lo n) := by
  intro w
  have hr := rright_any hi lo n ha hb
  cases hB : rightB hi lo n
  all_goals
    rw [hB] at hr
    unfold wholeV
    rw [hB]
    have HR := Lib.hid hr
    clear hr hB
    go_enter Tryd.func21, Tryd.ntmps21
    go_wp2_with fail
    refine (HR.out _).mono ?_
    rintro e w1 ⟨rfl, hb1⟩
    have hk1 : Below w.heap.size w w1 := Below.trans (by go_grown) (hb1.mono (by go_size))
    have hz1 : w.heap.size + 2 < w1.heap.size := by have := hb1.size; simp at this; omega
    have c0 : w1.cell? ⟨w.heap.size + 1, 0, none⟩ = some (.int .u64 0) := by
      rw [hb1.cell (by simp <;> omega)]
      first | assumption | (simp [go_sem]; done) | (simp [go_sem, *]; done)
    have c1 : w1.cell? ⟨w.heap.size + 1, 1, none⟩ = some (.int .u64 0) := by
      rw [hb1.cell (by simp <;> omega)]
      first | assumption | (simp [go_sem]; done) | (simp [go_sem, *]; done)
    have c2 : w1.cell? ⟨w.heap.size + 1, 2, none⟩ = some (.int .i64 0) := by
      rw [hb1.cell (by simp <;> omega)]
      first | assumption | (simp [go_sem]; done) | (simp [go_sem, *]; done)
    have d0 : w1.cell? ⟨w.heap.size + 2, 0, none⟩ = some (.int .u64 hi) := by
      rw [hb1.cell (by simp <;> omega)]
      first | assumption | (simp [go_sem]; done) | (simp [go_sem, *]; done)
    have d1 : w1.cell? ⟨w.heap.size + 2, 1, none⟩ = some (.int .u64 lo) := by
      rw [hb1.cell (by simp <;> omega)]
      first | assumption | (simp [go_sem]; done) | (simp [go_sem, *]; done)
    have d2 : w1.cell? ⟨w.heap.size + 2, 2, none⟩ = some (.int .i64 n) := by
      rw [hb1.cell (by simp <;> omega)]
      first | assumption | (simp [go_sem]; done) | (simp [go_sem, *]; done)
    obtain ⟨-, hf⟩ := bcell hb1
    have f0 : w1.frozen? ⟨w.heap.size + 1, 0, none⟩ = false := by rw [hf _ _ (by simp)]; simp [go_sem]
    have f1 : w1.frozen? ⟨w.heap.size + 1, 1, none⟩ = false := by rw [hf _ _ (by simp)]; simp [go_sem]
    have f2 : w1.frozen? ⟨w.heap.size + 1, 2, none⟩ = false := by rw [hf _ _ (by simp)]; simp [go_sem]
    clear hb1 hf
    go_wp2
    refine bodyPost_ret (by simp [results, Tryd.results21, go_sem, c0, c1, c2, d0, d1, d2, f0, f1, f2]; try rfl) rfl ?_
    exact ⟨rfl, by go_grown⟩

/-- The numbers one behind the other. -/
def quadGo : Nat → List (List UInt8) → Option Nat
  | wd, [] => some wd
  | wd, d :: r => match numR 255 d with | none => none | some x => quadGo (wd * 256 + x) r
theorem quadGo_some {wd x : Nat} {d : List UInt8} {r : List (List UInt8)} (h : numR 255 d = some x) : quadGo wd (d :: r) = quadGo (wd * 256 + x) r := by rw [quadGo, h]
theorem quadGo_none {wd : Nat} {d : List UInt8} {r : List (List UInt8)} (h : numR 255 d = none) : quadGo wd (d :: r) = none := by rw [quadGo, h]
theorem quadR_go (a b c d : List UInt8) : quadR [a, b, c, d] = quadGo 0 [a, b, c, d] := by
  cases h1 : numR 255 a <;> cases h2 : numR 255 b <;> cases h3 : numR 255 c <;> cases h4 : numR 255 d <;> simp [quadR, quadGo, h1, h2, h3, h4]
theorem or_place (a x j : Nat) (hx : x ≤ 255) (hb : (a * 256 + x) * 2 ^ j < 2 ^ 64) : bits BinOp.or IntKind.u64 ((a * 2 ^ (j + 8) : Nat) : Int) ((x * 2 ^ j : Nat) : Int) = (((a * 256 + x) * 2 ^ j : Nat) : Int) := by
  have e1 : a * 2 ^ (j + 8) + x * 2 ^ j = (a * 256 + x) * 2 ^ j := by rw [Nat.add_mul, Nat.mul_assoc, Nat.pow_add, Nat.mul_comm (2 ^ j)]
  have h1 : a * 2 ^ (j + 8) < 2 ^ 64 := by omega
  have h2 : x * 2 ^ j < 2 ^ 64 := by omega
  rw [bits_or_u64_nat _ _ h1 h2]
  have h3 : x * 2 ^ j < 2 ^ (j + 8) := by
    rw [Nat.pow_add, Nat.mul_comm (2 ^ j)]
    exact Nat.mul_lt_mul_of_pos_right (by omega) (Nat.two_pow_pos j)
  have := Nat.two_pow_add_eq_or_of_lt h3 a
  rw [Nat.mul_comm] at this
  rw [← this, e1]
theorem orz0 (wd : Nat) (hw : wd = 0) (x : Nat) (hx : x ≤ 255) : bits BinOp.or IntKind.u64 ((wd * 2 ^ 64 : Nat) : Int) ((x : Int) * 72057594037927936) = (((wd * 256 + x) * 2 ^ 56 : Nat) : Int) := by
  subst hw
  have := or_place 0 x 56 hx (by omega)
  rw [show (x : Int) * 72057594037927936 = ((x * 2 ^ 56 : Nat) : Int) by omega]
  simpa using this
theorem orz1 (a x : Nat) (ha : a < 256) (hx : x ≤ 255) : bits BinOp.or IntKind.u64 ((a * 2 ^ 56 : Nat) : Int) ((x : Int) * 281474976710656) = (((a * 256 + x) * 2 ^ 48 : Nat) : Int) := by
  have := or_place a x 48 hx (by omega)
  rw [show (x : Int) * 281474976710656 = ((x * 2 ^ 48 : Nat) : Int) by omega]
  exact this
theorem orz2 (a x : Nat) (ha : a < 65536) (hx : x ≤ 255) : bits BinOp.or IntKind.u64 ((a * 2 ^ 48 : Nat) : Int) ((x : Int) * 1099511627776) = (((a * 256 + x) * 2 ^ 40 : Nat) : Int) := by
  have := or_place a x 40 hx (by omega)
  rw [show (x : Int) * 1099511627776 = ((x * 2 ^ 40 : Nat) : Int) by omega]
  exact this
theorem orz3 (a x : Nat) (ha : a < 16777216) (hx : x ≤ 255) : bits BinOp.or IntKind.u64 ((a * 2 ^ 40 : Nat) : Int) ((x : Int) * 4294967296) = (((a * 256 + x) * 2 ^ 32 : Nat) : Int) := by
  have := or_place a x 32 hx (by omega)
  rw [show (x : Int) * 4294967296 = ((x * 2 ^ 32 : Nat) : Int) by omega]
  exact this

theorem split4_len {a q0 q1 q2 q3 : List UInt8} (h : splitB 46 a = [q0, q1, q2, q3]) : q0.length ≤ a.length ∧ q1.length ≤ a.length ∧ q2.length ≤ a.length ∧ q3.length ≤ a.length := by
  obtain ⟨a1, rfl, -, hs⟩ := splitB_cons h
  obtain ⟨a2, rfl, -, hs⟩ := splitB_cons hs
  obtain ⟨a3, rfl, -, hs⟩ := splitB_cons hs
  obtain ⟨rfl, -⟩ := splitB_one hs
  simp; omega
theorem cells4 {w : World} {g : Nat} {q0 q1 q2 q3 : List UInt8} (h : ∀ j u, (([q0, q1, q2, q3] : List (List UInt8)).map strV)[j]? = some u → w.cell? ⟨g, j, none⟩ = some u) :
    w.cell? ⟨g, 0, none⟩ = some (.string ⟨q0.toArray⟩) ∧ w.cell? ⟨g, 1, none⟩ = some (.string ⟨q1.toArray⟩) ∧ w.cell? ⟨g, 2, none⟩ = some (.string ⟨q2.toArray⟩) ∧ w.cell? ⟨g, 3, none⟩ = some (.string ⟨q3.toArray⟩) :=
  ⟨h 0 _ rfl, h 1 _ rfl, h 2 _ rfl, h 3 _ rfl⟩
end Go.Proofs.YtegaeifmikfpcaaDoor
