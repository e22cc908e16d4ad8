/-
  What All of a bucket hands back: a new row of routes, by place. No condition but that the bucket's cells lie in memory.
-/
import Derived.Test.YtlglppfkpieabaaBkt
import Derived.Test.YtlglppfkpieabaaRts
import Derived.Deep.MidRow
/-
  What the calls of a bucket hand back, and what they leave in memory: the first place of a key, the first empty one. No condition but that the bucket's cells lie in memory, and that words are words of 64 bits.
-/
set_option linter.unusedSimpArgs false
set_option linter.unusedVariables false
namespace Go.Proofs.Ytlglppfkpieabaa
open Go.RowKit Go.Sort M

/-- The cells of four places. -/
def bcs (C : List Pl) : List Value := C.flatMap x5
theorem bcs_at : ∀ (C : List Pl) (i : Nat) (hi : i < C.length) (j : Nat), j < 5 → (bcs C)[i * 5 + j]? = (x5 C[i])[j]?
  | x :: C, 0, _, j, hj => by
    show (x5 x ++ bcs C)[0 * 5 + j]? = _
    rw [List.getElem?_append_left (by simp [x5]; omega)]
    simp
  | x :: C, i + 1, hi, j, hj => by
    show (x5 x ++ bcs C)[(i + 1) * 5 + j]? = _
    rw [List.getElem?_append_right (by simp [x5]; omega), show (i + 1) * 5 + j - (x5 x).length = i * 5 + j by simp [x5]; omega, bcs_at C i (by simpa using hi) j hj]
    simp
theorem bcs_len (C : List Pl) : (bcs C).length = C.length * 5 := by
  unfold bcs
  induction C with
  | nil => rfl
  | cons x C ih => rw [List.flatMap_cons, List.length_append, ih]; simp [x5]; omega
theorem Bkt.range {w : World} {g o : Nat} {C : List Pl} (H : Bkt w g o C) : w.rangeAt g o (bcs C) := by
  intro j v hv
  have hl : (bcs C).length = 20 := by rw [bcs_len, H.four]
  have hj : j < 20 := by
    have := (List.getElem?_eq_some_iff.1 hv).1
    omega
  have h5 : j / 5 < C.length := by rw [H.four]; omega
  have e := bcs_at C (j / 5) h5 (j % 5) (by omega)
  rw [show j / 5 * 5 + j % 5 = j by omega] at e
  have := H.cell (j / 5) h5 (j % 5) v (e ▸ hv)
  rwa [show o + j / 5 * 5 + j % 5 = o + j by omega] at this
/-- The whole array is read: as the walk meets it. -/
theorem wpList_load_arr {ops : Array Oper} {rest : List Oper} {op : Oper} {a : Act} {w : World} {Q : Exit → Act → World → Prop} (x : Operand) (g o : Nat) (L : List Value) (hgd : op.guard = none) (ho : op.op = .load 71 x)
    (hx : a.eval x = .pointer (some ⟨g, o, none⟩)) (hc : w.rangeAt g o L) (hl : L.length = 20) (h : wpList Try.prog ops Q rest (a.put op.dst (.agg L.toArray)) w) : wpList Try.prog ops Q (op :: rest) a w :=
  wpList_load_mid hgd 71 x ho g o hx L _ hc Try.underlying71 rfl (by rw [hl]; kernel_rfl) h
/-- One of its elements. -/
theorem wpList_index_arr {ops : Array Oper} {rest : List Oper} {op : Oper} {a : Act} {w : World} {Q : Exit → Act → World → Prop} (x y : Operand) (X : Array Value) (i : Int) (v : Value) (hgd : op.guard = none) (ho : op.op = .index 71 x y)
    (hx : a.eval x = .agg X) (hy : a.eval y = .int .i64 i) (hr : ∀ w, (Instr.index 71 (.agg X) (.int .i64 i)).run Try.prog w = .ok v w) (h : wpList Try.prog ops Q rest (a.put op.dst v) w) : wpList Try.prog ops Q (op :: rest) a w :=
  wpList_plain hgd fun _ hK => by
    unfold Oper.wp execOp
    simp only [ho, hx, hy, Sem.run_bind, hr, Result.andThen_ok, Sem.run_pure]
    exact hK _ _ h
set_option maxRecDepth 100000 in
theorem index_arr {C : List Pl} (h4 : C.length = 4) (i : Nat) (hi : i < C.length) (w : World) :
    (Instr.index 71 (.agg (bcs C).toArray) (.int .i64 (i : Int))).run Try.prog w = .ok (.agg #[.int .u64 (xh C[i] : Int), .int .u64 (xl C[i] : Int), .int .i64 (xn C[i]), .int .i64 (xv C[i]), .bool C[i].isSome]) w := by
  obtain ⟨a, b, c, d, rfl⟩ : ∃ a b c d, C = [a, b, c, d] := by
    match C, h4 with
    | [a, b, c, d], _ => exact ⟨a, b, c, d, rfl⟩
  simp only [List.length_cons, List.length_nil] at hi
  rcases (show i = 0 ∨ i = 1 ∨ i = 2 ∨ i = 3 by omega) with rfl | rfl | rfl | rfl <;> rfl
theorem eqlK (a b : Nat) (n : Int) (c d : Nat) (m : Int) (w : World) : (binOp .eql 27 (.agg #[.int .u64 a, .int .u64 b, .int .i64 n]) (.agg #[.int .u64 c, .int .u64 d, .int .i64 m])).run Try.prog w =
    .ok (.bool (decide (a = c ∧ b = d ∧ n = m))) w := by
  have e1 : decide (a = c ∧ b = d ∧ n = m) = (decide ((a : Int) = c) && (decide ((b : Int) = d) && decide (n = m))) := by
    rw [← Bool.decide_and, ← Bool.decide_and, decide_eq_decide]; omega
  rw [e1]
  by_cases h1 : (a : Int) = c <;> by_cases h2 : (b : Int) = d <;> by_cases h3 : n = m <;> simp [go_sem, h1, h2, h3]
set_option maxHeartbeats 1000000 in
theorem find_any (g o : Nat) (C : List Pl) (k : Ky) (w : World) (H : Bkt w g o C) :
    Calls Try.prog 53 #[.pointer (some ⟨g, o, none⟩), kyV k] w fun e w' => e = .returned (.int .i64 (idxI (hasK k) C)) ∧ Below w.heap.size w w' := by
  have hld := (H.below (w' := w.alloc (.cells #[.int .u64 (k.h : Int), .int .u64 (k.l : Int), .int .i64 k.n] 27)) (by go_grown)).range
  have hll : (bcs C).length = 20 := by rw [bcs_len, H.four]
  have HI := Lib.hid (fun i hi => index_arr H.four i hi)
  have h4 := H.four
  have hg := H.lt
  generalize bcs C = X at hld hll HI
  clear H
  unfold kyV
  go_enter Try.func53, Try.ntmps53
  go_wp2_with (refine wpList_load_arr _ g o X rfl rfl rfl hld hll ?_)
  clear hld hll
  go_loopw [5, 6, 13] (fun s5 s6 i wr => ∃ (j : Nat), j ≤ 4 ∧ i = .int .i64 (j : Int) ∧ (∀ x (hx : x < C.length), x < j → hasK k C[x] = false) ∧ wr.cell? ⟨w.heap.size, 0, none⟩ = some (.int .u64 (k.h : Int)) ∧ wr.cell? ⟨w.heap.size, 1, none⟩ = some (.int .u64 (k.l : Int)) ∧ wr.cell? ⟨w.heap.size, 2, none⟩ = some (.int .i64 k.n) ∧ w.heap.size < wr.heap.size ∧ Below w.heap.size w wr) (fun _ _ i _ => 4 - (intOf i).toNat)
  case atStart => exact ⟨0, by omega, rfl, fun x _ h => absurd h (by omega), by simp [go_sem], by simp [go_sem], by simp [go_sem], by simp, by go_grown⟩
  case round =>
    obtain ⟨j, hj, rfl, hno, k0, k1, k2, hz, hb⟩ := hrel
    by_cases hlt : j < 4
    · have hi := HI.out j (by omega)
      have hK := Lib.hid (hasK_eq k (C[j]'(by omega)))
      have hno' := Lib.hid hno
      clear hno
      generalize hx : (C[j]'(by omega)) = x at hi hK
      have HX := Lib.hid hx
      clear hx
      have hE := eqlK (xh x) (xl x) (xn x) k.h k.l k.n
      by_cases hs : x.isSome = true
      · rw [hs] at hi
        by_cases he : xh x = k.h ∧ xl x = k.l ∧ xn x = k.n
        · rw [decide_eq_true he] at hE
          have hm : Hid (hasK k x = true) := by show hasK k x = true; rw [hK.out, hs, decide_eq_true he]; rfl
          clear hs hK he
          go_wp2_with (refine wpList_index_arr _ _ _ _ _ rfl rfl rfl rfl hi ?_)
          go_ret
          refine ⟨ret_num (idxI_hit (by omega) (by rw [HX.out]; exact hm.out) hno'.out).symm, by go_grown⟩
        · rw [decide_eq_false he] at hE
          have hm : Hid (hasK k x = false) := by show hasK k x = false; rw [hK.out, hs, decide_eq_false he]; rfl
          clear hs hK he
          go_wp2_with (refine wpList_index_arr _ _ _ _ _ rfl rfl rfl rfl hi ?_)
          go_roundw
          case rel =>
            refine ⟨j + 1, by omega, by go_num, fun y hy hlt2 => ?_, (World.cell?_alloc_lt wr _ ⟨w.heap.size, 0, none⟩ hz).trans k0, (World.cell?_alloc_lt wr _ ⟨w.heap.size, 1, none⟩ hz).trans k1, (World.cell?_alloc_lt wr _ ⟨w.heap.size, 2, none⟩ hz).trans k2, by simp; omega, by go_grown⟩
            by_cases e : y = j
            · subst e; rw [HX.out]; exact hm.out
            · exact hno'.out y hy (by omega)
          case measure => simp [intOf]; omega
      · rw [Bool.not_eq_true] at hs
        rw [hs] at hi
        have hm : Hid (hasK k x = false) := by show hasK k x = false; rw [hK.out, hs]; rfl
        clear hs hK hE
        go_wp2_with (refine wpList_index_arr _ _ _ _ _ rfl rfl rfl rfl hi ?_)
        go_roundw
        case rel =>
          refine ⟨j + 1, by omega, by go_num, fun y hy hlt2 => ?_, (World.cell?_alloc_lt wr _ ⟨w.heap.size, 0, none⟩ hz).trans k0, (World.cell?_alloc_lt wr _ ⟨w.heap.size, 1, none⟩ hz).trans k1, (World.cell?_alloc_lt wr _ ⟨w.heap.size, 2, none⟩ hz).trans k2, by simp; omega, by go_grown⟩
          by_cases e : y = j
          · subst e; rw [HX.out]; exact hm.out
          · exact hno'.out y hy (by omega)
        case measure => simp [intOf]; omega
    · go_wp2
      go_ret
      exact ⟨ret_num (idxI_miss (fun x hx => hno x hx (by omega))).symm, hb⟩
set_option maxHeartbeats 1000000 in
theorem empty_any (g o : Nat) (C : List Pl) (w : World) (H : Bkt w g o C) :
    Calls Try.prog 58 #[.pointer (some ⟨g, o, none⟩)] w fun e w' => e = .returned (.int .i64 (idxI Option.isNone C)) ∧ Below w.heap.size w w' := by
  have hld := H.range
  have hll : (bcs C).length = 20 := by rw [bcs_len, H.four]
  have HI := Lib.hid (fun i hi => index_arr H.four i hi)
  have h4 := H.four
  have hg := H.lt
  generalize bcs C = X at hld hll HI
  clear H
  go_enter Try.func58, Try.ntmps58
  go_wp2_with (refine wpList_load_arr _ g o X rfl rfl rfl hld hll ?_)
  clear hld hll
  go_loopw [3, 4, 11] (fun s3 s4 i wr => ∃ (j : Nat), j ≤ 4 ∧ i = .int .i64 (j : Int) ∧ (∀ x (hx : x < C.length), x < j → Option.isNone C[x] = false) ∧ w.heap.size ≤ wr.heap.size ∧ Below w.heap.size w wr) (fun _ _ i _ => 4 - (intOf i).toNat)
  case atStart => exact ⟨0, by omega, rfl, fun x _ h => absurd h (by omega), Nat.le_refl _, by go_grown⟩
  case round =>
    obtain ⟨j, hj, rfl, hno, hz, hb⟩ := hrel
    by_cases hlt : j < 4
    · have hi := HI.out j (by omega)
      have hno' := Lib.hid hno
      clear hno
      generalize hx : (C[j]'(by omega)) = x at hi
      have HX := Lib.hid hx
      clear hx
      by_cases hs : x.isSome = true
      · rw [hs] at hi
        have hm : Hid (Option.isNone x = false) := by show Option.isNone x = false; cases x <;> simp_all
        clear hs
        go_wp2_with (refine wpList_index_arr _ _ _ _ _ rfl rfl rfl rfl hi ?_)
        go_roundw
        case rel =>
          refine ⟨j + 1, by omega, by go_num, fun y hy hlt2 => ?_, by simp; omega, by go_grown⟩
          by_cases e : y = j
          · subst e; rw [HX.out]; exact hm.out
          · exact hno'.out y hy (by omega)
        case measure => simp [intOf]; omega
      · rw [Bool.not_eq_true] at hs
        rw [hs] at hi
        have hm : Hid (Option.isNone x = true) := by show Option.isNone x = true; cases x <;> simp_all
        clear hs
        go_wp2_with (refine wpList_index_arr _ _ _ _ _ rfl rfl rfl rfl hi ?_)
        go_ret
        refine ⟨ret_num (idxI_hit (by omega) (by rw [HX.out]; exact hm.out) hno'.out).symm, by go_grown⟩
    · go_wp2
      go_ret
      exact ⟨ret_num (idxI_miss (fun x hx => hno x hx (by omega))).symm, hb⟩
end Go.Proofs.Ytlglppfkpieabaa
/-
  What All of a bucket hands back: a new row of routes, by place. No condition but that the bucket's cells lie in memory.
-/
set_option linter.unusedSimpArgs false
set_option linter.unusedVariables false
namespace Go.Proofs.Ytlglppfkpieabaa
open Go.RowKit Go.Sort M

set_option maxHeartbeats 1000000 in
set_option maxRecDepth 100000 in
theorem all11_any (g o : Nat) (C : List Pl) (w : World) (H : Bkt w g o C) :
    Calls Try.prog 67 #[.pointer (some ⟨g, o, none⟩)] w fun e w' => NewRts w w' e (allC C) := by
  have hld := H.range
  have hll : (bcs C).length = 20 := by rw [bcs_len, H.four]
  have HI := Lib.hid (fun i hi => index_arr H.four i hi)
  have h4 := H.four
  have hg := H.lt
  have HS := Lib.hid (fun i h => allC_snoc C i h)
  have HA := Lib.hid (allC_len C)
  obtain ⟨i0, hi0, iz0, iz1, iz2⟩ := info_parts infoR
  generalize bcs C = X at hld hll HI
  clear H
  go_enter Try.func67, Try.ntmps67
  go_wp2_with (refine wpList_load_arr _ g o X rfl rfl rfl hld hll ?_)
  clear hld hll
  go_loopw [3, 5, 12] (fun s3 s5 i wr => ∃ (j : Nat) (p : Option Addr) (c : Nat) (L : List Rt), j ≤ 4 ∧ i = .int .i64 (j : Int) ∧ s3 = .slice p L.length c ∧ L.length ≤ 4 ∧ Hid (L = allC (C.take j)) ∧ wr.ownsRow w.heap.size 48 4 (.slice p L.length c) L.length (rcs L) ∧ Below w.heap.size w wr) (fun _ _ i _ => 4 - (intOf i).toNat)
  case atStart => exact ⟨0, none, 0, [], by omega, rfl, rfl, by simp, Lib.hid rfl, World.ownsRow_nil _ _ _ _, by go_grown⟩
  case round =>
    obtain ⟨j, p, c, L, hj, rfl, rfl, hL, hLe, hown, hb⟩ := hrel
    have hz := hb.size
    by_cases hlt : j < 4
    · have hi := HI.out j (by omega)
      have hs := HS.out j (by omega)
      rw [← hLe.out] at hs
      have hle := allC_len (C.take (j + 1))
      rw [hs] at hle
      have hle2 : (C.take (j + 1)).length ≤ 4 := by simp; omega
      have HLE : Hid ((L ++ (C[j]'(by omega)).toList).length ≤ 4) := by show _ ≤ 4; omega
      clear hle hle2
      have HN := Lib.hid hs
      clear hs hLe
      generalize hx : (C[j]'(by omega)) = x at hi HN HLE
      clear hx
      cases x with
      | none =>
        simp only [xh, xl, xn, xv, Option.isSome_none] at hi
        have HN' : Hid (L = allC (C.take (j + 1))) := by show L = _; rw [HN.out]; simp
        clear HN
        go_wp2_with (refine wpList_index_arr _ _ _ _ _ rfl rfl rfl rfl hi ?_)
        go_roundw
        case rel => exact ⟨j + 1, p, c, L, by omega, by go_num, rfl, hL, HN', hown.alloc _, by go_grown⟩
        case measure => simp [intOf]; omega
      | some r =>
        simp only [xh, xl, xn, xv, Option.isSome_some] at hi
        have HN' : Hid (L ++ [r] = allC (C.take (j + 1))) := by show L ++ [r] = _; rw [HN.out]; simp
        have HL' : Hid ((L ++ [r]).length ≤ 4) := by show _ ≤ 4; exact HLE.out
        have hLl : L.length ≤ 3 := by have := HL'.out; simp at this; omega
        clear HN HLE
        go_wp2_with (first
          | (refine wpList_index_arr _ _ _ _ _ rfl rfl rfl rfl hi ?_)
          | (at_builtin; go_loud (refine wpList_append_own _ rfl (.tmp 17) (.tmp 23) 43 rfl w.heap.size 48 i0 _ 4 32 Try.underlying43 hi0 iz0 iz1 iz2 rfl (by decide) _ _ _ rfl ((hown.alloc _).alloc _) ⟨wr.heap.size + 1, 0, none⟩ 1 1 (rcell r) rfl rfl (four_new (by simp [go_sem]) (by simp [go_sem]) (by simp [go_sem]) (by simp [go_sem])) (by simp [rcell, Value.oneCell']) (by unfold maxLen; omega) (by omega) (by simp; omega) ?_)))
        intro v3 w3 hown3 hg3 _
        have hown4 := own_rsnoc hown3 rfl
        have hw3 : Below w.heap.size w w3 := ((hb.alloc hz _).alloc (by simp; omega) _).grown hg3 (by simp; omega) (fun j hj => (hown.lt j hj).1)
        obtain ⟨p3, c3, rfl⟩ := own_slice hown4
        clear hown3 hg3 hown hb
        go_wp2
        go_roundw
        case rel => exact ⟨j + 1, p3, c3, L ++ [r], by omega, by go_num, rfl, HL'.out, HN', hown4, hw3⟩
        case measure => simp [intOf]; omega
    · go_wp2
      go_ret
      have he : L = allC C := by have := hLe.out; rwa [List.take_of_length_le (by omega)] at this
      subst he
      exact ⟨p, c, rfl, hown, hb⟩
end Go.Proofs.Ytlglppfkpieabaa
