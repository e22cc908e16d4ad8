/-
  What the reference's ReadDots hands back. It asks that the text is no longer than a million bytes.
-/
import Derived.Test.YtmcageenjlbacaaDoorW2e
set_option linter.unusedSimpArgs false
set_option linter.unusedVariables false
namespace Go.Proofs.YtmcageenjlbacaaDoor
open Go.RowKit Go.Sort M

theorem own_form {w : World} {B n : Nat} {e : TypeId} {v : Value} {xs : List Value} (h : w.ownsRow B e 1 v n xs) (hn : 0 < n) :
    ∃ g cap, v = .slice (some ⟨g, 0, none⟩) n cap ∧ B ≤ g ∧ g < w.heap.size ∧ n ≤ cap ∧ cap ≤ maxLen ∧ ∀ j u, xs[j]? = some u → w.cell? ⟨g, j, none⟩ = some u := by
  have hc := fun g hg => h.cells (g := g) hg
  have hl := h.lt
  rcases h.2 with ⟨rfl, h0⟩ | ⟨g, cap, cur, rfl, hB, -, h1, h2, -, -⟩
  · omega
  · refine ⟨g, cap, rfl, hB, (hl g rfl).2, h1, h2, fun j u hu => ?_⟩
    have := hc g rfl j u hu
    rwa [show (⟨g, 0, none⟩ : Addr).add j = ⟨g, j, none⟩ by unfold Addr.add; split <;> simp_all] at this

def wholeV (hi lo : Nat) (n : Int) : Value := if rightB hi lo n = true then .tuple #[.agg #[.int .u64 hi, .int .u64 lo, .int .i64 n], .int .i64 0] else .tuple #[.agg #[.int .u64 0, .int .u64 0, .int .i64 0], .int .i64 3]
set_option maxHeartbeats 400000 in
theorem whole_any (hi lo : Nat) (n : Int) (ha : W64 hi) (hb : W64 lo) : Gives Tryd.prog 19 #[.agg #[.int .u64 hi, .int .u64 lo], .int .i64 n] (wholeV hi lo n) := by
  intro w
  have hr := rright_any hi lo n ha hb
  cases hB : rightB hi lo n
  all_goals
    rw [hB] at hr
    unfold wholeV
    rw [hB]
    have HR := Lib.hid hr
    clear hr hB
    go_enter Tryd.func19, Tryd.ntmps19
    go_wp2_with fail
    refine (HR.out _).mono ?_
    rintro e w1 ⟨rfl, hb1⟩
    have hk1 : Below w.heap.size w w1 := Below.trans (by go_grown) (hb1.mono (by go_size))
    have hz1 : w.heap.size + 2 < w1.heap.size := by have := hb1.size; simp at this; omega
    have c0 : w1.cell? ⟨w.heap.size + 1, 0, none⟩ = some (.int .u64 0) := by
      rw [hb1.cell (by simp <;> omega)]
      first | assumption | (simp [go_sem]; done) | (simp [go_sem, *]; done)
    have c1 : w1.cell? ⟨w.heap.size + 1, 1, none⟩ = some (.int .u64 0) := by
      rw [hb1.cell (by simp <;> omega)]
      first | assumption | (simp [go_sem]; done) | (simp [go_sem, *]; done)
    have c2 : w1.cell? ⟨w.heap.size + 1, 2, none⟩ = some (.int .i64 0) := by
      rw [hb1.cell (by simp <;> omega)]
      first | assumption | (simp [go_sem]; done) | (simp [go_sem, *]; done)
    have d0 : w1.cell? ⟨w.heap.size + 2, 0, none⟩ = some (.int .u64 hi) := by
      rw [hb1.cell (by simp <;> omega)]
      first | assumption | (simp [go_sem]; done) | (simp [go_sem, *]; done)
    have d1 : w1.cell? ⟨w.heap.size + 2, 1, none⟩ = some (.int .u64 lo) := by
      rw [hb1.cell (by simp <;> omega)]
      first | assumption | (simp [go_sem]; done) | (simp [go_sem, *]; done)
    have d2 : w1.cell? ⟨w.heap.size + 2, 2, none⟩ = some (.int .i64 n) := by
      rw [hb1.cell (by simp <;> omega)]
      first | assumption | (simp [go_sem]; done) | (simp [go_sem, *]; done)
    obtain ⟨-, hf⟩ := bcell hb1
    have f0 : w1.frozen? ⟨w.heap.size + 1, 0, none⟩ = false := by rw [hf _ _ (by simp)]; simp [go_sem]
    have f1 : w1.frozen? ⟨w.heap.size + 1, 1, none⟩ = false := by rw [hf _ _ (by simp)]; simp [go_sem]
    have f2 : w1.frozen? ⟨w.heap.size + 1, 2, none⟩ = false := by rw [hf _ _ (by simp)]; simp [go_sem]
    clear hb1 hf
    go_wp2
    refine bodyPost_ret (by simp [results, Tryd.results19, go_sem, c0, c1, c2, d0, d1, d2, f0, f1, f2]; try rfl) rfl ?_
    exact ⟨rfl, by go_grown⟩

/-- The numbers one behind the other. -/
def quadGo : Nat → List (List UInt8) → Option Nat
  | wd, [] => some wd
  | wd, d :: r => match numR 255 d with | none => none | some x => quadGo (wd * 256 + x) r
theorem quadGo_some {wd x : Nat} {d : List UInt8} {r : List (List UInt8)} (h : numR 255 d = some x) : quadGo wd (d :: r) = quadGo (wd * 256 + x) r := by rw [quadGo, h]
theorem quadGo_none {wd : Nat} {d : List UInt8} {r : List (List UInt8)} (h : numR 255 d = none) : quadGo wd (d :: r) = none := by rw [quadGo, h]
theorem quadR_go (a b c d : List UInt8) : quadR [a, b, c, d] = quadGo 0 [a, b, c, d] := by
  cases h1 : numR 255 a <;> cases h2 : numR 255 b <;> cases h3 : numR 255 c <;> cases h4 : numR 255 d <;> simp [quadR, quadGo, h1, h2, h3, h4]
theorem or_place (a x j : Nat) (hx : x ≤ 255) (hb : (a * 256 + x) * 2 ^ j < 2 ^ 64) : bits BinOp.or IntKind.u64 ((a * 2 ^ (j + 8) : Nat) : Int) ((x * 2 ^ j : Nat) : Int) = (((a * 256 + x) * 2 ^ j : Nat) : Int) := by
  have e1 : a * 2 ^ (j + 8) + x * 2 ^ j = (a * 256 + x) * 2 ^ j := by rw [Nat.add_mul, Nat.mul_assoc, Nat.pow_add, Nat.mul_comm (2 ^ j)]
  have h1 : a * 2 ^ (j + 8) < 2 ^ 64 := by omega
  have h2 : x * 2 ^ j < 2 ^ 64 := by omega
  rw [bits_or_u64_nat _ _ h1 h2]
  have h3 : x * 2 ^ j < 2 ^ (j + 8) := by
    rw [Nat.pow_add, Nat.mul_comm (2 ^ j)]
    exact Nat.mul_lt_mul_of_pos_right (by omega) (Nat.two_pow_pos j)
  have := Nat.two_pow_add_eq_or_of_lt h3 a
  rw [Nat.mul_comm] at this
  rw [← this, e1]
theorem orz0 (wd : Nat) (hw : wd = 0) (x : Nat) (hx : x ≤ 255) : bits BinOp.or IntKind.u64 ((wd * 2 ^ 64 : Nat) : Int) ((x : Int) * 72057594037927936) = (((wd * 256 + x) * 2 ^ 56 : Nat) : Int) := by
  subst hw
  have := or_place 0 x 56 hx (by omega)
  rw [show (x : Int) * 72057594037927936 = ((x * 2 ^ 56 : Nat) : Int) by omega]
  simpa using this
theorem orz1 (a x : Nat) (ha : a < 256) (hx : x ≤ 255) : bits BinOp.or IntKind.u64 ((a * 2 ^ 56 : Nat) : Int) ((x : Int) * 281474976710656) = (((a * 256 + x) * 2 ^ 48 : Nat) : Int) := by
  have := or_place a x 48 hx (by omega)
  rw [show (x : Int) * 281474976710656 = ((x * 2 ^ 48 : Nat) : Int) by omega]
  exact this
theorem orz2 (a x : Nat) (ha : a < 65536) (hx : x ≤ 255) : bits BinOp.or IntKind.u64 ((a * 2 ^ 48 : Nat) : Int) ((x : Int) * 1099511627776) = (((a * 256 + x) * 2 ^ 40 : Nat) : Int) := by
  have := or_place a x 40 hx (by omega)
  rw [show (x : Int) * 1099511627776 = ((x * 2 ^ 40 : Nat) : Int) by omega]
  exact this
theorem orz3 (a x : Nat) (ha : a < 16777216) (hx : x ≤ 255) : bits BinOp.or IntKind.u64 ((a * 2 ^ 40 : Nat) : Int) ((x : Int) * 4294967296) = (((a * 256 + x) * 2 ^ 32 : Nat) : Int) := by
  have := or_place a x 32 hx (by omega)
  rw [show (x : Int) * 4294967296 = ((x * 2 ^ 32 : Nat) : Int) by omega]
  exact this

theorem split4_len {a q0 q1 q2 q3 : List UInt8} (h : splitB 46 a = [q0, q1, q2, q3]) : q0.length ≤ a.length ∧ q1.length ≤ a.length ∧ q2.length ≤ a.length ∧ q3.length ≤ a.length := by
  obtain ⟨a1, rfl, -, hs⟩ := splitB_cons h
  obtain ⟨a2, rfl, -, hs⟩ := splitB_cons hs
  obtain ⟨a3, rfl, -, hs⟩ := splitB_cons hs
  obtain ⟨rfl, -⟩ := splitB_one hs
  simp; omega
theorem cells4 {w : World} {g : Nat} {q0 q1 q2 q3 : List UInt8} (h : ∀ j u, (([q0, q1, q2, q3] : List (List UInt8)).map strV)[j]? = some u → w.cell? ⟨g, j, none⟩ = some u) :
    w.cell? ⟨g, 0, none⟩ = some (.string ⟨q0.toArray⟩) ∧ w.cell? ⟨g, 1, none⟩ = some (.string ⟨q1.toArray⟩) ∧ w.cell? ⟨g, 2, none⟩ = some (.string ⟨q2.toArray⟩) ∧ w.cell? ⟨g, 3, none⟩ = some (.string ⟨q3.toArray⟩) :=
  ⟨h 0 _ rfl, h 1 _ rfl, h 2 _ rfl, h 3 _ rfl⟩
set_option maxHeartbeats 2000000 in
theorem rread_any (l : List UInt8) (hl : l.length ≤ 1000000) :
    Gives Tryd.prog 8 #[.string ⟨l.toArray⟩] (preV (readR l)) := by
  intro w
  have hsp := fun w' => rsplit_any ⟨l.toArray⟩ 47 (by show l.toArray.size ≤ _; simpa using hl) w'
  have HSP : Hid (∀ w', Calls Tryd.prog 17 #[.string ⟨l.toArray⟩, .int .u8 47] w' fun e w'' => ∃ v, e = .returned v ∧ w''.ownsRow w'.heap.size 9 1 v (splitB 47 l).length ((splitB 47 l).map strV) ∧ Below w'.heap.size w' w'') := hsp
  clear hsp
  have hne := List.length_pos_iff.2 (splitB_ne 47 l)
  by_cases h2 : (splitB 47 l).length = 2
  · obtain ⟨a, b, hab⟩ : ∃ a b, splitB 47 l = [a, b] := by
      match splitB 47 l, h2 with
      | [a, b], _ => exact ⟨a, b, rfl⟩
    obtain ⟨t, hlt, -, hsb⟩ := splitB_cons hab
    obtain ⟨rfl, -⟩ := splitB_one hsb
    have hla : a.length ≤ 1000000 := by rw [hlt] at hl; simp at hl; omega
    have hlb : t.length ≤ 1000000 := by rw [hlt] at hl; simp at hl; omega
    have hrd : readR l = finV (numR 32 t) (quadR (splitB 46 a)) := by unfold readR; rw [hab]
    rw [hab] at HSP
    clear hne h2 hsb hlt hab hl
    have hne := List.length_pos_iff.2 (splitB_ne 46 a)
    have hS2 : ∀ w', Calls Tryd.prog 17 #[.string ⟨a.toArray⟩, .int .u8 46] w' fun e w'' => ∃ v, e = .returned v ∧ w''.ownsRow w'.heap.size 9 1 v (splitB 46 a).length ((splitB 46 a).map strV) ∧ Below w'.heap.size w' w'' :=
      fun w' => rsplit_any ⟨a.toArray⟩ 46 (by show a.toArray.size ≤ _; simpa using hla) w'
    have hN : Gives Tryd.prog 18 #[.string ⟨t.toArray⟩, .int .i64 32] (.int .i64 (numI (numR 32 t))) :=
      rnum_any ⟨t.toArray⟩ 32 (by omega) (by show t.toArray.size ≤ _; unfold maxLen; simp; omega)
    cases hn : numR 32 t with
    | none =>
      rw [hn] at hN hrd
      have HN : Hid (Gives Tryd.prog 18 #[.string ⟨t.toArray⟩, .int .i64 32] (.int .i64 (-1))) := hN
      have HS2 := Lib.hid hS2
      have hrd2 : readR l = (0, 0, 2) := hrd
      rw [hrd2]
      clear hrd hrd2 hN hS2 hn
      generalize splitB 46 a = Q at HS2 hne
      go_enter Tryd.func8, Tryd.ntmps8
      go_wp2_with fail
      refine (HSP.out _).mono ?_
      rintro e w1 ⟨v, rfl, hown, hb1⟩
      obtain ⟨g, cap, rfl, hg, hgs, hnc, hcm, hcells⟩ := own_form hown (by simp)
      have a0 : w1.cell? ⟨g, 0, none⟩ = some (.string ⟨a.toArray⟩) := hcells 0 _ rfl
      have a1 : w1.cell? ⟨g, 1, none⟩ = some (.string ⟨t.toArray⟩) := hcells 1 _ rfl
      have hw0 : Below w.heap.size w w1 := Below.trans (by go_grown) (hb1.mono (by go_size))
      have hz : w.heap.size < w1.heap.size := by have := hb1.size; simp at this; omega
      have c0 : w1.cell? ⟨w.heap.size, 0, none⟩ = some (.int .u64 0) := by
        rw [hb1.cell (by simp <;> omega)]
        first | assumption | (simp [go_sem]; done) | (simp [go_sem, *]; done)
      have c1 : w1.cell? ⟨w.heap.size, 1, none⟩ = some (.int .u64 0) := by
        rw [hb1.cell (by simp <;> omega)]
        first | assumption | (simp [go_sem]; done) | (simp [go_sem, *]; done)
      have c2 : w1.cell? ⟨w.heap.size, 2, none⟩ = some (.int .i64 0) := by
        rw [hb1.cell (by simp <;> omega)]
        first | assumption | (simp [go_sem]; done) | (simp [go_sem, *]; done)
      have f0 : w1.frozen? ⟨w.heap.size, 0, none⟩ = false := by
        rw [hb1.frozen (by simp <;> omega)]
        first | assumption | (simp [go_sem]; done) | (simp [go_sem, *]; done)
      have f1 : w1.frozen? ⟨w.heap.size, 1, none⟩ = false := by
        rw [hb1.frozen (by simp <;> omega)]
        first | assumption | (simp [go_sem]; done) | (simp [go_sem, *]; done)
      have f2 : w1.frozen? ⟨w.heap.size, 2, none⟩ = false := by
        rw [hb1.frozen (by simp <;> omega)]
        first | assumption | (simp [go_sem]; done) | (simp [go_sem, *]; done)
      clear hb1 hown hcells
      go_wp2_with fail
      refine (HN.out _).mono ?_
      rintro e w2 ⟨rfl, hb2⟩
      have hgs2 := Nat.lt_of_lt_of_le hgs hb2.size
      obtain ⟨hc2, hf2⟩ := bcell hb2
      have a0 := (hc2 _ _ (by omega)).trans a0
      have c0 := (hc2 _ _ (by omega)).trans c0
      have c1 := (hc2 _ _ (by omega)).trans c1
      have c2 := (hc2 _ _ (by omega)).trans c2
      have f0 := (hf2 _ _ (by omega)).trans f0
      have f1 := (hf2 _ _ (by omega)).trans f1
      have f2 := (hf2 _ _ (by omega)).trans f2
      have hw0 := Below.trans hw0 (hb2.mono (by omega))
      have hz := Nat.lt_of_lt_of_le hz hb2.size
      clear hc2 hf2 hb2
      clear hgs
      go_wp2_with fail
      refine (HS2.out _).mono ?_
      rintro e w3 ⟨v2, rfl, hown, hb3⟩
      have hgs3 := Nat.lt_of_lt_of_le hgs2 hb3.size
      obtain ⟨hc3, hf3⟩ := bcell hb3
      have c0 := (hc3 _ _ (by omega)).trans c0
      have c1 := (hc3 _ _ (by omega)).trans c1
      have c2 := (hc3 _ _ (by omega)).trans c2
      have f0 := (hf3 _ _ (by omega)).trans f0
      have f1 := (hf3 _ _ (by omega)).trans f1
      have f2 := (hf3 _ _ (by omega)).trans f2
      have hw0 := Below.trans hw0 (hb3.mono (by omega))
      have hz := Nat.lt_of_lt_of_le hz hb3.size
      clear hc3 hf3 hb3
      obtain ⟨g2, cap2, rfl, hg2, hgs4, hnc2, hcm2, hcells⟩ := own_form hown hne
      clear hgs2
      go_wp2
      refine bodyPost_ret (by simp [results, Tryd.results8, go_sem, c0, c1, c2, f0, f1, f2]; try rfl) rfl ?_
      exact ⟨rfl, by go_grown⟩
    | some n =>
      have hn32 : n ≤ 32 := by
        have := hn; rw [← numC_eq _ (by omega)] at this; exact numC_le this
      rw [hn] at hN hrd
      have HN : Hid (Gives Tryd.prog 18 #[.string ⟨t.toArray⟩, .int .i64 32] (.int .i64 (n : Int))) := hN
      have HS2 := Lib.hid hS2
      clear hN hS2 hn
      by_cases h4 : (splitB 46 a).length = 4
      · obtain ⟨q0, q1, q2, q3, hq⟩ : ∃ q0 q1 q2 q3, splitB 46 a = [q0, q1, q2, q3] := by
          match splitB 46 a, h4 with
          | [a, b, c, d], _ => exact ⟨a, b, c, d, rfl⟩
        have hlq := split4_len hq
        rw [hq] at HS2 hrd
        rw [quadR_go] at hrd
        generalize hR : quadGo 0 [q0, q1, q2, q3] = R at hrd
        have HR0 := Lib.hid hR
        have HRD := Lib.hid hrd
        have hne : 0 < [q0, q1, q2, q3].length := by simp
        clear hq h4 hR hrd
        go_enter Tryd.func8, Tryd.ntmps8
        go_wp2_with fail
        refine (HSP.out _).mono ?_
        rintro e w1 ⟨v, rfl, hown, hb1⟩
        obtain ⟨g, cap, rfl, hg, hgs, hnc, hcm, hcells⟩ := own_form hown (by simp)
        have a0 : w1.cell? ⟨g, 0, none⟩ = some (.string ⟨a.toArray⟩) := hcells 0 _ rfl
        have a1 : w1.cell? ⟨g, 1, none⟩ = some (.string ⟨t.toArray⟩) := hcells 1 _ rfl
        have hw0 : Below w.heap.size w w1 := Below.trans (by go_grown) (hb1.mono (by go_size))
        have hz : w.heap.size < w1.heap.size := by have := hb1.size; simp at this; omega
        have c0 : w1.cell? ⟨w.heap.size, 0, none⟩ = some (.int .u64 0) := by
          rw [hb1.cell (by simp <;> omega)]
          first | assumption | (simp [go_sem]; done) | (simp [go_sem, *]; done)
        have c1 : w1.cell? ⟨w.heap.size, 1, none⟩ = some (.int .u64 0) := by
          rw [hb1.cell (by simp <;> omega)]
          first | assumption | (simp [go_sem]; done) | (simp [go_sem, *]; done)
        have c2 : w1.cell? ⟨w.heap.size, 2, none⟩ = some (.int .i64 0) := by
          rw [hb1.cell (by simp <;> omega)]
          first | assumption | (simp [go_sem]; done) | (simp [go_sem, *]; done)
        have f0 : w1.frozen? ⟨w.heap.size, 0, none⟩ = false := by
          rw [hb1.frozen (by simp <;> omega)]
          first | assumption | (simp [go_sem]; done) | (simp [go_sem, *]; done)
        have f1 : w1.frozen? ⟨w.heap.size, 1, none⟩ = false := by
          rw [hb1.frozen (by simp <;> omega)]
          first | assumption | (simp [go_sem]; done) | (simp [go_sem, *]; done)
        have f2 : w1.frozen? ⟨w.heap.size, 2, none⟩ = false := by
          rw [hb1.frozen (by simp <;> omega)]
          first | assumption | (simp [go_sem]; done) | (simp [go_sem, *]; done)
        clear hb1 hown hcells
        go_wp2_with fail
        refine (HN.out _).mono ?_
        rintro e w2 ⟨rfl, hb2⟩
        have hgs2 := Nat.lt_of_lt_of_le hgs hb2.size
        obtain ⟨hc2, hf2⟩ := bcell hb2
        have a0 := (hc2 _ _ (by omega)).trans a0
        have c0 := (hc2 _ _ (by omega)).trans c0
        have c1 := (hc2 _ _ (by omega)).trans c1
        have c2 := (hc2 _ _ (by omega)).trans c2
        have f0 := (hf2 _ _ (by omega)).trans f0
        have f1 := (hf2 _ _ (by omega)).trans f1
        have f2 := (hf2 _ _ (by omega)).trans f2
        have hw0 := Below.trans hw0 (hb2.mono (by omega))
        have hz := Nat.lt_of_lt_of_le hz hb2.size
        clear hc2 hf2 hb2
        clear hgs
        go_wp2_with fail
        refine (HS2.out _).mono ?_
        rintro e w3 ⟨v2, rfl, hown, hb3⟩
        have hgs3 := Nat.lt_of_lt_of_le hgs2 hb3.size
        obtain ⟨hc3, hf3⟩ := bcell hb3
        have c0 := (hc3 _ _ (by omega)).trans c0
        have c1 := (hc3 _ _ (by omega)).trans c1
        have c2 := (hc3 _ _ (by omega)).trans c2
        have f0 := (hf3 _ _ (by omega)).trans f0
        have f1 := (hf3 _ _ (by omega)).trans f1
        have f2 := (hf3 _ _ (by omega)).trans f2
        have hw0 := Below.trans hw0 (hb3.mono (by omega))
        have hz := Nat.lt_of_lt_of_le hz hb3.size
        clear hc3 hf3 hb3
        obtain ⟨g2, cap2, rfl, hg2, hgs4, hnc2, hcm2, hcells⟩ := own_form hown hne
        clear hgs2
        have HQ := Lib.hid (cells4 hcells)
        have HLQ := Lib.hid hlq
        clear hown hcells hlq hne
        go_wp2
        go_loopw [8] (fun i wr => ∃ k wd h : Nat, k ≤ 4 ∧ i = .int .i64 k ∧ wd < 256 ^ k ∧ Hid (h = wd * 2 ^ (64 - 8 * k)) ∧ Hid (quadGo wd ([q0, q1, q2, q3].drop k) = R) ∧ Below w.heap.size w wr ∧ w3.heap.size < wr.heap.size ∧
            wr.cell? ⟨w3.heap.size, 0, none⟩ = some (.int .u64 h) ∧ wr.cell? ⟨w3.heap.size, 1, none⟩ = some (.int .u64 0) ∧ wr.frozen? ⟨w3.heap.size, 0, none⟩ = false ∧ wr.frozen? ⟨w3.heap.size, 1, none⟩ = false ∧
            wr.cell? ⟨w.heap.size, 0, none⟩ = some (.int .u64 0) ∧ wr.cell? ⟨w.heap.size, 1, none⟩ = some (.int .u64 0) ∧ wr.cell? ⟨w.heap.size, 2, none⟩ = some (.int .i64 0) ∧
            wr.frozen? ⟨w.heap.size, 0, none⟩ = false ∧ wr.frozen? ⟨w.heap.size, 1, none⟩ = false ∧ wr.frozen? ⟨w.heap.size, 2, none⟩ = false ∧
            wr.cell? ⟨g2, 0, none⟩ = some (.string ⟨q0.toArray⟩) ∧ wr.cell? ⟨g2, 1, none⟩ = some (.string ⟨q1.toArray⟩) ∧ wr.cell? ⟨g2, 2, none⟩ = some (.string ⟨q2.toArray⟩) ∧ wr.cell? ⟨g2, 3, none⟩ = some (.string ⟨q3.toArray⟩)) (fun i _ => 4 - (intOf i).toNat)
        case atStart =>
          obtain ⟨e0, e1, e2, e3⟩ := HQ.out
          refine ⟨0, 0, 0, by omega, rfl, by decide, Lib.hid rfl, HR0, by go_grown, by go_size, ?_⟩
          simp [go_sem, c0, c1, c2, f0, f1, f2, e0, e1, e2, e3, hgs4, hz]
        case round =>
          clear hw0 hz c0 c1 c2 f0 f1 f2 HR0
          obtain ⟨k, wd, h, hk, rfl, hwd, HH, HRR, hw0, hz, x0, x1, fy0, fy1, c0, c1, c2, f0, f1, f2, e0, e1, e2, e3⟩ := hrel
          by_cases hlt : k < 4
          · obtain rfl | rfl | rfl | rfl : k = 0 ∨ k = 1 ∨ k = 2 ∨ k = 3 := by omega
            ·
              have hN : Gives Tryd.prog 18 #[.string ⟨q0.toArray⟩, .int .i64 255] (.int .i64 (numI (numR 255 q0))) :=
                rnum_any ⟨q0.toArray⟩ 255 (by omega) (by show q0.toArray.size ≤ _; have := HLQ.out.1; unfold maxLen; simp; omega)
              have hrr : quadGo wd (q0 :: [q1, q2, q3]) = R := HRR.out
              cases hx : numR 255 q0 with
              | none =>
                have hn : R = none := hrr.symm.trans (quadGo_none hx)
                rw [hx] at hN
                have HN2 : Hid (Gives Tryd.prog 18 #[.string ⟨q0.toArray⟩, .int .i64 255] (.int .i64 (-1))) := hN
                have HX := Lib.hid hn
                clear hN hrr hx hn
                go_wp2_with fail
                refine (HN2.out _).mono ?_
                rintro e w4 ⟨rfl, hb4⟩
                obtain ⟨hc4, hf4⟩ := bcell hb4
                have c0 := (hc4 _ _ (by omega)).trans c0
                have c1 := (hc4 _ _ (by omega)).trans c1
                have c2 := (hc4 _ _ (by omega)).trans c2
                have f0 := (hf4 _ _ (by omega)).trans f0
                have f1 := (hf4 _ _ (by omega)).trans f1
                have f2 := (hf4 _ _ (by omega)).trans f2
                have hw0 := Below.trans hw0 (hb4.mono (by omega))
                have hz := Nat.lt_of_lt_of_le hz hb4.size
                clear hc4 hf4 hb4
                go_wp2
                refine bodyPost_ret (by simp [results, Tryd.results8, go_sem, c0, c1, c2, f0, f1, f2]; try rfl) rfl ?_
                refine ⟨?_, by go_grown⟩
                rw [HRD.out, HX.out]
                rfl
              | some x =>
                have hn : quadGo (wd * 256 + x) [q1, q2, q3] = R := (quadGo_some hx).symm.trans hrr
                have hx255 : x ≤ 255 := by
                  have := hx; rw [← numC_eq _ (by omega)] at this; exact numC_le this
                rw [hx] at hN
                have HN2 : Hid (Gives Tryd.prog 18 #[.string ⟨q0.toArray⟩, .int .i64 255] (.int .i64 (x : Int))) := hN
                have HX := Lib.hid hn
                clear hN hrr hx hn
                go_wp2_with fail
                refine (HN2.out _).mono ?_
                rintro e w4 ⟨rfl, hb4⟩
                obtain ⟨hc4, hf4⟩ := bcell hb4
                have x0 := (hc4 _ _ (by omega)).trans x0
                have x1 := (hc4 _ _ (by omega)).trans x1
                have fy0 := (hf4 _ _ (by omega)).trans fy0
                have fy1 := (hf4 _ _ (by omega)).trans fy1
                have c0 := (hc4 _ _ (by omega)).trans c0
                have c1 := (hc4 _ _ (by omega)).trans c1
                have c2 := (hc4 _ _ (by omega)).trans c2
                have f0 := (hf4 _ _ (by omega)).trans f0
                have f1 := (hf4 _ _ (by omega)).trans f1
                have f2 := (hf4 _ _ (by omega)).trans f2
                have e0 := (hc4 _ _ (by omega)).trans e0
                have e1 := (hc4 _ _ (by omega)).trans e1
                have e2 := (hc4 _ _ (by omega)).trans e2
                have e3 := (hc4 _ _ (by omega)).trans e3
                have hw0 := Below.trans hw0 (hb4.mono (by omega))
                have hz := Nat.lt_of_lt_of_le hz hb4.size
                clear hc4 hf4 hb4
                have HO : bits BinOp.or IntKind.u64 (h : Int) ((x : Int) * 72057594037927936) = (((wd * 256 + x) * 2 ^ (64 - 8 * (0 + 1)) : Nat) : Int) := by
                  rw [HH.out]
                  exact orz0 wd (by simpa using hwd) x hx255
                have HWD : Hid (wd * 256 + x < 256 ^ (0 + 1)) := Lib.hid (by rw [Nat.pow_succ]; omega)
                clear hwd
                go_wp2
                go_roundw
                case rel =>
                  refine ⟨0 + 1, wd * 256 + x, (wd * 256 + x) * 2 ^ (64 - 8 * (0 + 1)), by omega, by go_num, HWD.out, Lib.hid rfl, HX, by go_grown, by go_size, ?_⟩
                  simp [go_sem, x0, x1, fy0, fy1, c0, c1, c2, f0, f1, f2, e0, e1, e2, e3, hgs4, hz]
                case measure => simp [intOf]
            ·
              have hN : Gives Tryd.prog 18 #[.string ⟨q1.toArray⟩, .int .i64 255] (.int .i64 (numI (numR 255 q1))) :=
                rnum_any ⟨q1.toArray⟩ 255 (by omega) (by show q1.toArray.size ≤ _; have := HLQ.out.2.1; unfold maxLen; simp; omega)
              have hrr : quadGo wd (q1 :: [q2, q3]) = R := HRR.out
              cases hx : numR 255 q1 with
              | none =>
                have hn : R = none := hrr.symm.trans (quadGo_none hx)
                rw [hx] at hN
                have HN2 : Hid (Gives Tryd.prog 18 #[.string ⟨q1.toArray⟩, .int .i64 255] (.int .i64 (-1))) := hN
                have HX := Lib.hid hn
                clear hN hrr hx hn
                go_wp2_with fail
                refine (HN2.out _).mono ?_
                rintro e w4 ⟨rfl, hb4⟩
                obtain ⟨hc4, hf4⟩ := bcell hb4
                have c0 := (hc4 _ _ (by omega)).trans c0
                have c1 := (hc4 _ _ (by omega)).trans c1
                have c2 := (hc4 _ _ (by omega)).trans c2
                have f0 := (hf4 _ _ (by omega)).trans f0
                have f1 := (hf4 _ _ (by omega)).trans f1
                have f2 := (hf4 _ _ (by omega)).trans f2
                have hw0 := Below.trans hw0 (hb4.mono (by omega))
                have hz := Nat.lt_of_lt_of_le hz hb4.size
                clear hc4 hf4 hb4
                go_wp2
                refine bodyPost_ret (by simp [results, Tryd.results8, go_sem, c0, c1, c2, f0, f1, f2]; try rfl) rfl ?_
                refine ⟨?_, by go_grown⟩
                rw [HRD.out, HX.out]
                rfl
              | some x =>
                have hn : quadGo (wd * 256 + x) [q2, q3] = R := (quadGo_some hx).symm.trans hrr
                have hx255 : x ≤ 255 := by
                  have := hx; rw [← numC_eq _ (by omega)] at this; exact numC_le this
                rw [hx] at hN
                have HN2 : Hid (Gives Tryd.prog 18 #[.string ⟨q1.toArray⟩, .int .i64 255] (.int .i64 (x : Int))) := hN
                have HX := Lib.hid hn
                clear hN hrr hx hn
                go_wp2_with fail
                refine (HN2.out _).mono ?_
                rintro e w4 ⟨rfl, hb4⟩
                obtain ⟨hc4, hf4⟩ := bcell hb4
                have x0 := (hc4 _ _ (by omega)).trans x0
                have x1 := (hc4 _ _ (by omega)).trans x1
                have fy0 := (hf4 _ _ (by omega)).trans fy0
                have fy1 := (hf4 _ _ (by omega)).trans fy1
                have c0 := (hc4 _ _ (by omega)).trans c0
                have c1 := (hc4 _ _ (by omega)).trans c1
                have c2 := (hc4 _ _ (by omega)).trans c2
                have f0 := (hf4 _ _ (by omega)).trans f0
                have f1 := (hf4 _ _ (by omega)).trans f1
                have f2 := (hf4 _ _ (by omega)).trans f2
                have e0 := (hc4 _ _ (by omega)).trans e0
                have e1 := (hc4 _ _ (by omega)).trans e1
                have e2 := (hc4 _ _ (by omega)).trans e2
                have e3 := (hc4 _ _ (by omega)).trans e3
                have hw0 := Below.trans hw0 (hb4.mono (by omega))
                have hz := Nat.lt_of_lt_of_le hz hb4.size
                clear hc4 hf4 hb4
                have HO : bits BinOp.or IntKind.u64 (h : Int) ((x : Int) * 281474976710656) = (((wd * 256 + x) * 2 ^ (64 - 8 * (1 + 1)) : Nat) : Int) := by
                  rw [HH.out]
                  exact orz1 wd x (by simpa using hwd) hx255
                have HWD : Hid (wd * 256 + x < 256 ^ (1 + 1)) := Lib.hid (by rw [Nat.pow_succ]; omega)
                clear hwd
                go_wp2
                go_roundw
                case rel =>
                  refine ⟨1 + 1, wd * 256 + x, (wd * 256 + x) * 2 ^ (64 - 8 * (1 + 1)), by omega, by go_num, HWD.out, Lib.hid rfl, HX, by go_grown, by go_size, ?_⟩
                  simp [go_sem, x0, x1, fy0, fy1, c0, c1, c2, f0, f1, f2, e0, e1, e2, e3, hgs4, hz]
                case measure => simp [intOf]
            ·
              have hN : Gives Tryd.prog 18 #[.string ⟨q2.toArray⟩, .int .i64 255] (.int .i64 (numI (numR 255 q2))) :=
                rnum_any ⟨q2.toArray⟩ 255 (by omega) (by show q2.toArray.size ≤ _; have := HLQ.out.2.2.1; unfold maxLen; simp; omega)
              have hrr : quadGo wd (q2 :: [q3]) = R := HRR.out
              cases hx : numR 255 q2 with
              | none =>
                have hn : R = none := hrr.symm.trans (quadGo_none hx)
                rw [hx] at hN
                have HN2 : Hid (Gives Tryd.prog 18 #[.string ⟨q2.toArray⟩, .int .i64 255] (.int .i64 (-1))) := hN
                have HX := Lib.hid hn
                clear hN hrr hx hn
                go_wp2_with fail
                refine (HN2.out _).mono ?_
                rintro e w4 ⟨rfl, hb4⟩
                obtain ⟨hc4, hf4⟩ := bcell hb4
                have c0 := (hc4 _ _ (by omega)).trans c0
                have c1 := (hc4 _ _ (by omega)).trans c1
                have c2 := (hc4 _ _ (by omega)).trans c2
                have f0 := (hf4 _ _ (by omega)).trans f0
                have f1 := (hf4 _ _ (by omega)).trans f1
                have f2 := (hf4 _ _ (by omega)).trans f2
                have hw0 := Below.trans hw0 (hb4.mono (by omega))
                have hz := Nat.lt_of_lt_of_le hz hb4.size
                clear hc4 hf4 hb4
                go_wp2
                refine bodyPost_ret (by simp [results, Tryd.results8, go_sem, c0, c1, c2, f0, f1, f2]; try rfl) rfl ?_
                refine ⟨?_, by go_grown⟩
                rw [HRD.out, HX.out]
                rfl
              | some x =>
                have hn : quadGo (wd * 256 + x) [q3] = R := (quadGo_some hx).symm.trans hrr
                have hx255 : x ≤ 255 := by
                  have := hx; rw [← numC_eq _ (by omega)] at this; exact numC_le this
                rw [hx] at hN
                have HN2 : Hid (Gives Tryd.prog 18 #[.string ⟨q2.toArray⟩, .int .i64 255] (.int .i64 (x : Int))) := hN
                have HX := Lib.hid hn
                clear hN hrr hx hn
                go_wp2_with fail
                refine (HN2.out _).mono ?_
                rintro e w4 ⟨rfl, hb4⟩
                obtain ⟨hc4, hf4⟩ := bcell hb4
                have x0 := (hc4 _ _ (by omega)).trans x0
                have x1 := (hc4 _ _ (by omega)).trans x1
                have fy0 := (hf4 _ _ (by omega)).trans fy0
                have fy1 := (hf4 _ _ (by omega)).trans fy1
                have c0 := (hc4 _ _ (by omega)).trans c0
                have c1 := (hc4 _ _ (by omega)).trans c1
                have c2 := (hc4 _ _ (by omega)).trans c2
                have f0 := (hf4 _ _ (by omega)).trans f0
                have f1 := (hf4 _ _ (by omega)).trans f1
                have f2 := (hf4 _ _ (by omega)).trans f2
                have e0 := (hc4 _ _ (by omega)).trans e0
                have e1 := (hc4 _ _ (by omega)).trans e1
                have e2 := (hc4 _ _ (by omega)).trans e2
                have e3 := (hc4 _ _ (by omega)).trans e3
                have hw0 := Below.trans hw0 (hb4.mono (by omega))
                have hz := Nat.lt_of_lt_of_le hz hb4.size
                clear hc4 hf4 hb4
                have HO : bits BinOp.or IntKind.u64 (h : Int) ((x : Int) * 1099511627776) = (((wd * 256 + x) * 2 ^ (64 - 8 * (2 + 1)) : Nat) : Int) := by
                  rw [HH.out]
                  exact orz2 wd x (by simpa using hwd) hx255
                have HWD : Hid (wd * 256 + x < 256 ^ (2 + 1)) := Lib.hid (by rw [Nat.pow_succ]; omega)
                clear hwd
                go_wp2
                go_roundw
                case rel =>
                  refine ⟨2 + 1, wd * 256 + x, (wd * 256 + x) * 2 ^ (64 - 8 * (2 + 1)), by omega, by go_num, HWD.out, Lib.hid rfl, HX, by go_grown, by go_size, ?_⟩
                  simp [go_sem, x0, x1, fy0, fy1, c0, c1, c2, f0, f1, f2, e0, e1, e2, e3, hgs4, hz]
                case measure => simp [intOf]
            ·
              have hN : Gives Tryd.prog 18 #[.string ⟨q3.toArray⟩, .int .i64 255] (.int .i64 (numI (numR 255 q3))) :=
                rnum_any ⟨q3.toArray⟩ 255 (by omega) (by show q3.toArray.size ≤ _; have := HLQ.out.2.2.2; unfold maxLen; simp; omega)
              have hrr : quadGo wd (q3 :: []) = R := HRR.out
              cases hx : numR 255 q3 with
              | none =>
                have hn : R = none := hrr.symm.trans (quadGo_none hx)
                rw [hx] at hN
                have HN2 : Hid (Gives Tryd.prog 18 #[.string ⟨q3.toArray⟩, .int .i64 255] (.int .i64 (-1))) := hN
                have HX := Lib.hid hn
                clear hN hrr hx hn
                go_wp2_with fail
                refine (HN2.out _).mono ?_
                rintro e w4 ⟨rfl, hb4⟩
                obtain ⟨hc4, hf4⟩ := bcell hb4
                have c0 := (hc4 _ _ (by omega)).trans c0
                have c1 := (hc4 _ _ (by omega)).trans c1
                have c2 := (hc4 _ _ (by omega)).trans c2
                have f0 := (hf4 _ _ (by omega)).trans f0
                have f1 := (hf4 _ _ (by omega)).trans f1
                have f2 := (hf4 _ _ (by omega)).trans f2
                have hw0 := Below.trans hw0 (hb4.mono (by omega))
                have hz := Nat.lt_of_lt_of_le hz hb4.size
                clear hc4 hf4 hb4
                go_wp2
                refine bodyPost_ret (by simp [results, Tryd.results8, go_sem, c0, c1, c2, f0, f1, f2]; try rfl) rfl ?_
                refine ⟨?_, by go_grown⟩
                rw [HRD.out, HX.out]
                rfl
              | some x =>
                have hn : quadGo (wd * 256 + x) [] = R := (quadGo_some hx).symm.trans hrr
                have hx255 : x ≤ 255 := by
                  have := hx; rw [← numC_eq _ (by omega)] at this; exact numC_le this
                rw [hx] at hN
                have HN2 : Hid (Gives Tryd.prog 18 #[.string ⟨q3.toArray⟩, .int .i64 255] (.int .i64 (x : Int))) := hN
                have HX := Lib.hid hn
                clear hN hrr hx hn
                go_wp2_with fail
                refine (HN2.out _).mono ?_
                rintro e w4 ⟨rfl, hb4⟩
                obtain ⟨hc4, hf4⟩ := bcell hb4
                have x0 := (hc4 _ _ (by omega)).trans x0
                have x1 := (hc4 _ _ (by omega)).trans x1
                have fy0 := (hf4 _ _ (by omega)).trans fy0
                have fy1 := (hf4 _ _ (by omega)).trans fy1
                have c0 := (hc4 _ _ (by omega)).trans c0
                have c1 := (hc4 _ _ (by omega)).trans c1
                have c2 := (hc4 _ _ (by omega)).trans c2
                have f0 := (hf4 _ _ (by omega)).trans f0
                have f1 := (hf4 _ _ (by omega)).trans f1
                have f2 := (hf4 _ _ (by omega)).trans f2
                have e0 := (hc4 _ _ (by omega)).trans e0
                have e1 := (hc4 _ _ (by omega)).trans e1
                have e2 := (hc4 _ _ (by omega)).trans e2
                have e3 := (hc4 _ _ (by omega)).trans e3
                have hw0 := Below.trans hw0 (hb4.mono (by omega))
                have hz := Nat.lt_of_lt_of_le hz hb4.size
                clear hc4 hf4 hb4
                have HO : bits BinOp.or IntKind.u64 (h : Int) ((x : Int) * 4294967296) = (((wd * 256 + x) * 2 ^ (64 - 8 * (3 + 1)) : Nat) : Int) := by
                  rw [HH.out]
                  exact orz3 wd x (by simpa using hwd) hx255
                have HWD : Hid (wd * 256 + x < 256 ^ (3 + 1)) := Lib.hid (by rw [Nat.pow_succ]; omega)
                clear hwd
                go_wp2
                go_roundw
                case rel =>
                  refine ⟨3 + 1, wd * 256 + x, (wd * 256 + x) * 2 ^ (64 - 8 * (3 + 1)), by omega, by go_num, HWD.out, Lib.hid rfl, HX, by go_grown, by go_size, ?_⟩
                  simp [go_sem, x0, x1, fy0, fy1, c0, c1, c2, f0, f1, f2, e0, e1, e2, e3, hgs4, hz]
                case measure => simp [intOf]
          · obtain rfl : k = 4 := by omega
            have hwd4 : wd < 4294967296 := by simpa using hwd
            have hR : R = some wd := HRR.out.symm
            have hh : h = wd * 2 ^ 32 := HH.out
            have hwh := whole_any h 0 (n : Int) (W64.mk (by omega)) (W64.mk (by decide))
            have hfin : preV (readR l) = wholeV h 0 (n : Int) := by
              rw [HRD.out, hR, hh]
              unfold finV wholeV preV
              by_cases hb : rightB (wd * 2 ^ 32) 0 (n : Int) = true
              · simp only [hb, if_true]; rfl
              · simp only [hb, if_false]; rfl
            have HF := Lib.hid hfin
            clear hfin hR hh hwd hwd4 HRD HRR HH
            cases hB : rightB h 0 (n : Int)
            all_goals
              unfold wholeV at hwh
              rw [hB] at hwh
              have HW := Lib.hid hwh
              have HB := Lib.hid hB
              clear hwh hB
              go_wp2_with fail
              refine (HW.out _).mono ?_
              rintro e w4 ⟨rfl, hb4⟩
              obtain ⟨hc4, hf4⟩ := bcell hb4
              have c0 := (hc4 _ _ (by omega)).trans c0
              have c1 := (hc4 _ _ (by omega)).trans c1
              have c2 := (hc4 _ _ (by omega)).trans c2
              have f0 := (hf4 _ _ (by omega)).trans f0
              have f1 := (hf4 _ _ (by omega)).trans f1
              have f2 := (hf4 _ _ (by omega)).trans f2
              have hw0 := Below.trans hw0 (hb4.mono (by omega))
              have hz := Nat.lt_of_lt_of_le hz hb4.size
              clear hc4 hf4 hb4
              go_wp2
              refine bodyPost_ret (by simp [results, Tryd.results8, go_sem, c0, c1, c2, f0, f1, f2]; try rfl) rfl ?_
              refine ⟨?_, by go_grown⟩
              rw [HF.out, wholeV, HB.out]
              rfl
      · have h4' : (((splitB 46 a).length : Int) != 4) = true := by simp; omega
        have hq : quadR (splitB 46 a) = none := by
          unfold quadR
          split
          · rename_i h; rw [h] at h4; simp at h4
          · rfl
        rw [hq] at hrd
        have hrd2 : readR l = (0, 0, 2) := hrd
        rw [hrd2]
        clear hrd hrd2 hq h4
        generalize splitB 46 a = Q at HS2 hne h4'
        go_enter Tryd.func8, Tryd.ntmps8
        go_wp2_with fail
        refine (HSP.out _).mono ?_
        rintro e w1 ⟨v, rfl, hown, hb1⟩
        obtain ⟨g, cap, rfl, hg, hgs, hnc, hcm, hcells⟩ := own_form hown (by simp)
        have a0 : w1.cell? ⟨g, 0, none⟩ = some (.string ⟨a.toArray⟩) := hcells 0 _ rfl
        have a1 : w1.cell? ⟨g, 1, none⟩ = some (.string ⟨t.toArray⟩) := hcells 1 _ rfl
        have hw0 : Below w.heap.size w w1 := Below.trans (by go_grown) (hb1.mono (by go_size))
        have hz : w.heap.size < w1.heap.size := by have := hb1.size; simp at this; omega
        have c0 : w1.cell? ⟨w.heap.size, 0, none⟩ = some (.int .u64 0) := by
          rw [hb1.cell (by simp <;> omega)]
          first | assumption | (simp [go_sem]; done) | (simp [go_sem, *]; done)
        have c1 : w1.cell? ⟨w.heap.size, 1, none⟩ = some (.int .u64 0) := by
          rw [hb1.cell (by simp <;> omega)]
          first | assumption | (simp [go_sem]; done) | (simp [go_sem, *]; done)
        have c2 : w1.cell? ⟨w.heap.size, 2, none⟩ = some (.int .i64 0) := by
          rw [hb1.cell (by simp <;> omega)]
          first | assumption | (simp [go_sem]; done) | (simp [go_sem, *]; done)
        have f0 : w1.frozen? ⟨w.heap.size, 0, none⟩ = false := by
          rw [hb1.frozen (by simp <;> omega)]
          first | assumption | (simp [go_sem]; done) | (simp [go_sem, *]; done)
        have f1 : w1.frozen? ⟨w.heap.size, 1, none⟩ = false := by
          rw [hb1.frozen (by simp <;> omega)]
          first | assumption | (simp [go_sem]; done) | (simp [go_sem, *]; done)
        have f2 : w1.frozen? ⟨w.heap.size, 2, none⟩ = false := by
          rw [hb1.frozen (by simp <;> omega)]
          first | assumption | (simp [go_sem]; done) | (simp [go_sem, *]; done)
        clear hb1 hown hcells
        go_wp2_with fail
        refine (HN.out _).mono ?_
        rintro e w2 ⟨rfl, hb2⟩
        have hgs2 := Nat.lt_of_lt_of_le hgs hb2.size
        obtain ⟨hc2, hf2⟩ := bcell hb2
        have a0 := (hc2 _ _ (by omega)).trans a0
        have c0 := (hc2 _ _ (by omega)).trans c0
        have c1 := (hc2 _ _ (by omega)).trans c1
        have c2 := (hc2 _ _ (by omega)).trans c2
        have f0 := (hf2 _ _ (by omega)).trans f0
        have f1 := (hf2 _ _ (by omega)).trans f1
        have f2 := (hf2 _ _ (by omega)).trans f2
        have hw0 := Below.trans hw0 (hb2.mono (by omega))
        have hz := Nat.lt_of_lt_of_le hz hb2.size
        clear hc2 hf2 hb2
        clear hgs
        go_wp2_with fail
        refine (HS2.out _).mono ?_
        rintro e w3 ⟨v2, rfl, hown, hb3⟩
        have hgs3 := Nat.lt_of_lt_of_le hgs2 hb3.size
        obtain ⟨hc3, hf3⟩ := bcell hb3
        have c0 := (hc3 _ _ (by omega)).trans c0
        have c1 := (hc3 _ _ (by omega)).trans c1
        have c2 := (hc3 _ _ (by omega)).trans c2
        have f0 := (hf3 _ _ (by omega)).trans f0
        have f1 := (hf3 _ _ (by omega)).trans f1
        have f2 := (hf3 _ _ (by omega)).trans f2
        have hw0 := Below.trans hw0 (hb3.mono (by omega))
        have hz := Nat.lt_of_lt_of_le hz hb3.size
        clear hc3 hf3 hb3
        obtain ⟨g2, cap2, rfl, hg2, hgs4, hnc2, hcm2, hcells⟩ := own_form hown hne
        clear hgs2
        go_wp2
        refine bodyPost_ret (by simp [results, Tryd.results8, go_sem, c0, c1, c2, f0, f1, f2]; try rfl) rfl ?_
        exact ⟨rfl, by go_grown⟩
  · have h2' : (((splitB 47 l).length : Int) != 2) = true := by simp; omega
    have hrd : readR l = (0, 0, 2) := by
      unfold readR
      split
      · rename_i a b h; rw [h] at h2; simp at h2
      · rfl
    rw [hrd]
    clear hrd h2
    generalize splitB 47 l = R at HSP hne h2'
    go_enter Tryd.func8, Tryd.ntmps8
    go_wp2_with fail
    refine (HSP.out _).mono ?_
    rintro e w1 ⟨v, rfl, hown, hb1⟩
    obtain ⟨g, cap, rfl, hg, hgs, hnc, hcm, hcells⟩ := own_form hown hne
    have hk1 : Below w.heap.size w w1 := Below.trans (by go_grown) (hb1.mono (by go_size))
    have c0 : w1.cell? ⟨w.heap.size, 0, none⟩ = some (.int .u64 0) := by
      rw [hb1.cell (by simp <;> omega)]
      first | assumption | (simp [go_sem]; done) | (simp [go_sem, *]; done)
    have c1 : w1.cell? ⟨w.heap.size, 1, none⟩ = some (.int .u64 0) := by
      rw [hb1.cell (by simp <;> omega)]
      first | assumption | (simp [go_sem]; done) | (simp [go_sem, *]; done)
    have c2 : w1.cell? ⟨w.heap.size, 2, none⟩ = some (.int .i64 0) := by
      rw [hb1.cell (by simp <;> omega)]
      first | assumption | (simp [go_sem]; done) | (simp [go_sem, *]; done)
    obtain ⟨-, hf⟩ := bcell hb1
    have f0 : w1.frozen? ⟨w.heap.size, 0, none⟩ = false := by rw [hf _ _ (by simp)]; simp [go_sem]
    have f1 : w1.frozen? ⟨w.heap.size, 1, none⟩ = false := by rw [hf _ _ (by simp)]; simp [go_sem]
    have f2 : w1.frozen? ⟨w.heap.size, 2, none⟩ = false := by rw [hf _ _ (by simp)]; simp [go_sem]
    clear hb1 hf hown hcells
    go_wp2
    refine bodyPost_ret (by simp [results, Tryd.results8, go_sem, c0, c1, c2, f0, f1, f2]; try rfl) rfl ?_
    exact ⟨rfl, by go_grown⟩
end Go.Proofs.YtmcageenjlbacaaDoor
