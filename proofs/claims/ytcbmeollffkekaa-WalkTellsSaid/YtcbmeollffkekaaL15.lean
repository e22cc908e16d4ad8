/-
  flocculuslaw15's alive as a walk, and an append of an argument to nil. No condition but those that stand in each.
-/
import Derived.Test.YtcbmeollffkekaaW15b
import Derived.Test.YtcbmeollffkekaaSort
import Derived.Test.YtcbmeollffkekaaReg5
import Derived.Test.YtcbmeollffkekaaCopy
import Derived.Test.YtcbmeollffkekaaRef12
/-
  walk.Start, Left and Next: a cursor is a struct at a block, and a row elsewhere. No condition but that rows lie in memory and are short of 2^20.
-/
set_option linter.unusedSimpArgs false
set_option linter.unusedVariables false
namespace Go.Proofs.Ytcbmeollffkekaa
open Go Go.RowKit Go.Sort M

structure Cur (w : World) (t : Nat) (R : List Rt) : Prop where
  lt : t < w.heap.size
  f : w.frozen? ⟨t, 0, none⟩ = false
  at' : ∃ p c, w.cell? ⟨t, 0, none⟩ = some (.slice p R.length c) ∧ R.length ≤ c ∧ (R = [] ∨ ∃ g o, p = some ⟨g, o, none⟩ ∧ g ≠ t ∧ g < w.heap.size ∧ ∀ j u, (rcs R)[j]? = some u → w.cell? ⟨g, o + j, none⟩ = some u)
theorem Cur.below {w w' : World} {t : Nat} {R : List Rt} (h : Cur w t R) (hb : Below w.heap.size w w') : Cur w' t R := by
  obtain ⟨p, c, h1, h2, h3⟩ := h.at'
  refine ⟨Nat.lt_of_lt_of_le h.lt hb.size, (hb.frozen (p := ⟨t, 0, none⟩) h.lt).trans h.f, p, c, (hb.cell (p := ⟨t, 0, none⟩) h.lt).trans h1, h2, ?_⟩
  rcases h3 with h3 | ⟨g, o, e, hne, hg, hc⟩
  · exact .inl h3
  · exact .inr ⟨g, o, e, hne, Nat.lt_of_lt_of_le hg hb.size, fun j u hu => (hb.cell (p := ⟨g, o + j, none⟩) hg).trans (hc j u hu)⟩
set_option maxHeartbeats 1000000 in
set_option maxRecDepth 100000 in
theorem start_any (p : Option Addr) (c : Nat) (L : List Rt) (w : World) (hR : Row w p (rcs L)) (hp : p = none → c = 0) (hl : L.length < 1048576) :
    Calls Try.prog 8 #[.slice p L.length c] w fun e w' => ∃ t, e = .returned (.pointer (some ⟨t, 0, none⟩)) ∧ w.heap.size ≤ t ∧ Cur w' t (sortR L) ∧ Below w.heap.size w w' := by
  have HS := Lib.hid (wsorted_any p c L w hR hp hl)
  clear hR hp hl
  go_enter Try.func8, Try.ntmps8
  go_wp2_with fail
  refine HS.out.mono ?_
  rintro e w1 ⟨p1, c1, rfl, hown, hb1⟩
  have HO := Lib.hid hown
  have hz1 := hb1.size
  clear hown HS
  go_wp2
  go_ret
  have hb2 : Below w1.heap.size w1 (w1.alloc (.cells #[.slice p1 (sortR L).length c1] 45)) := by go_grown
  refine ⟨w1.heap.size, rfl, hz1, ⟨by simp, by simp [go_sem], p1, c1, by simp [go_sem], ?_, ?_⟩, hb1.trans (hb2.mono hz1)⟩
  · rcases HO.out.2 with ⟨e, h0⟩ | ⟨g, cap, cur, e, -, -, h, -⟩
    · omega
    · injection e with e1 e2 e3
      omega
  · rcases Row.of_own HO.out with h | ⟨g, o, e, hg, hc⟩
    · left
      have := rcs_len (sortR L)
      rw [h] at this
      exact List.length_eq_zero_iff.1 (by simp at this; omega)
    · exact .inr ⟨g, o, e, by omega, by simp; omega, fun j u hu => (hb2.cell (p := ⟨g, o + j, none⟩) hg).trans (hc j u hu)⟩
set_option maxHeartbeats 1000000 in
set_option maxRecDepth 100000 in
theorem left_any (t : Nat) (R : List Rt) (w : World) (H : Cur w t R) :
    Calls Try.prog 10 #[.pointer (some ⟨t, 0, none⟩)] w fun e w' => e = .returned (.int .i64 (R.length : Int)) ∧ Below w.heap.size w w' := by
  obtain ⟨p, c, h1, h2, -⟩ := H.at'
  have hl := H.lt
  clear H
  go_enter Try.func10, Try.ntmps10
  go_wp2
  go_ret
  exact ⟨rfl, by go_grown⟩
theorem touch_set (w : World) (t : Nat) (v : Value) : Touch (· = t) w (w.setCell ⟨t, 0, none⟩ v) :=
  ⟨rfl, rfl, rfl, by rw [World.size_setCell]; exact Nat.le_refl _, fun k _ hk => Below.heap_setCell w ⟨t, 0, none⟩ _ k hk⟩
theorem cur_set {w : World} {t c : Nat} {p : Option Addr} {u : Value} {R : List Rt} (hl : t < w.heap.size) (f0 : w.frozen? ⟨t, 0, none⟩ = false) (c0 : w.cell? ⟨t, 0, none⟩ = some u) (hc : R.length ≤ c)
    (hp : R = [] ∨ ∃ g o, p = some ⟨g, o, none⟩ ∧ g ≠ t ∧ g < w.heap.size ∧ ∀ j u, (rcs R)[j]? = some u → w.cell? ⟨g, o + j, none⟩ = some u) : Cur (w.setCell ⟨t, 0, none⟩ (.slice p R.length c)) t R := by
  refine ⟨by rw [World.size_setCell]; exact hl, by rw [World.frozen?_setCell]; exact f0, p, c, World.cell?_setCell_same _ _ _ c0, hc, ?_⟩
  rcases hp with hp | ⟨g, o, e, hne, hg, h⟩
  · exact .inl hp
  · exact .inr ⟨g, o, e, hne, by rw [World.size_setCell]; exact hg, fun j u hu => (touch_set w t _).cell (h j u hu) hne⟩
/-- How many come. -/
def cutN (n : Int) (k : Nat) : Nat := (max 0 (min n (k : Int))).toNat
set_option maxHeartbeats 1000000 in
set_option maxRecDepth 100000 in
theorem next_any (t : Nat) (R : List Rt) (n : Int) (w : World) (H : Cur w t R) (hl : R.length < 1048576) (b1 : -9223372036854775808 ≤ n) (b2 : n < 9223372036854775808) :
    Calls Try.prog 11 #[.pointer (some ⟨t, 0, none⟩), .int .i64 n] w fun e w' =>
      ∃ p c, e = .returned (.slice p (R.take (cutN n R.length)).length c) ∧ w'.ownsRow w.heap.size 39 4 (.slice p (R.take (cutN n R.length)).length c) (R.take (cutN n R.length)).length (rcs (R.take (cutN n R.length))) ∧ Touch (· = t) w w' ∧ Cur w' t (R.drop (cutN n R.length)) := by
  obtain ⟨K, hK⟩ : ∃ K, K = cutN n R.length := ⟨_, rfl⟩
  have hk : max 0 (min n (R.length : Int)) = (K : Int) := by rw [hK]; unfold cutN; omega
  have hKl : K ≤ R.length := by rw [hK]; unfold cutN; omega
  rw [← hK]
  clear hK
  have HL := Lib.hid (left_any t R w H)
  have HH := Lib.hid H
  clear H
  go_enter Try.func11, Try.ntmps11
  go_wp2_with fail
  refine HL.out.mono ?_
  rintro e w1 ⟨rfl, hb1⟩
  have H1 := Lib.hid (HH.out.below hb1)
  have hz1 := hb1.size
  clear HL HH
  by_cases h0 : K = 0
  · subst h0
    have hk : max 0 (min n (R.length : Int)) = 0 := hk
    go_wp2
    go_ret
    exact ⟨none, 0, rfl, World.ownsRow_nil _ _ _ _, .quiet hb1, H1.out⟩
  · obtain ⟨p, c, c0, h2, h3⟩ := H1.out.at'
    have hl1 := H1.out.lt
    have hf1 := H1.out.f
    have hKc : K ≤ c := by omega
    have lT : (R.take K).length = K := by rw [List.length_take]; omega
    obtain ⟨g, o, rfl, hne, hg, hc⟩ : ∃ g o, p = some ⟨g, o, none⟩ ∧ g ≠ t ∧ g < w1.heap.size ∧ ∀ j u, (rcs R)[j]? = some u → w1.cell? ⟨g, o + j, none⟩ = some u := by
      rcases h3 with h3 | h3
      · rw [h3] at hKl
        simp at hKl
        omega
      · exact h3
    have hC := clone_any (some ⟨g, o, none⟩) c (R.take K) w1 (.inr ⟨g, o, rfl, hg, fun j u hu => hc j u (by
      rw [← List.take_append_drop K R, rcs_append, List.getElem?_append_left (List.getElem?_eq_some_iff.1 hu).1]
      exact hu)⟩) (fun e => by cases e) (by rw [lT]; omega)
    rw [lT] at hC
    have HC := Lib.hid hC
    have HR := Lib.hid hc
    clear hC hc h3
    go_wp2_with fail
    refine HC.out.mono ?_
    rintro e w2 ⟨p2, c2, rfl, hown, hb2⟩
    rw [lT] at hown
    have HO := Lib.hid hown
    have c0 := (hb2.cell (p := ⟨t, 0, none⟩) hl1).trans c0
    have f0 := (hb2.frozen (p := ⟨t, 0, none⟩) hl1).trans hf1
    have hl2 := Nat.lt_of_lt_of_le hl1 hb2.size
    clear hown HC hf1
    have hfin : ∀ (p' : Option Addr) (c' : Nat), R.length - K ≤ c' → (R.drop K = [] ∨ p' = some ⟨g, o + K * 4, none⟩) →
        w.heap.size ≤ w1.heap.size → Below w.heap.size w w1 → (∃ p c, Ending.returned (Value.slice p2 K c2) = .returned (.slice p K c) ∧ (w2.setCell ⟨t, 0, none⟩ (.slice p' (R.length - K) c')).ownsRow w.heap.size 39 4 (.slice p K c) K (rcs (R.take K)) ∧ Touch (· = t) w (w2.setCell ⟨t, 0, none⟩ (.slice p' (R.length - K) c')) ∧ Cur (w2.setCell ⟨t, 0, none⟩ (.slice p' (R.length - K) c')) t (R.drop K)) := by
      intro p' c' hc' hp' _ _
      have lD : (R.drop K).length = R.length - K := by rw [List.length_drop]
      refine ⟨p2, c2, rfl, own_le (Touch.own HO.out (touch_set w2 t _) (fun j e ht => ?_)) hz1, ((Touch.quiet hb1).trans (.quiet hb2)).trans (touch_set w2 t _), ?_⟩
      · have := (HO.out.lt j e).1
        omega
      · have := cur_set (p := p') (c := c') (R := R.drop K) hl2 f0 c0 (by rw [lD]; exact hc') (by
          rcases hp' with h | h
          · exact .inl h
          · refine .inr ⟨g, o + K * 4, h, hne, Nat.lt_of_lt_of_le hg hb2.size, fun j u hu => (hb2.cell (p := ⟨g, o + K * 4 + j, none⟩) hg).trans ?_⟩
            have := HR.out (K * 4 + j) u (by rw [← rcs_drop, List.getElem?_drop] at hu; exact hu)
            rwa [← Nat.add_assoc] at this)
        rw [lD] at this
        exact this
    have HFIN := Lib.hid hfin
    clear hfin
    by_cases hcK : c = K
    · subst hcK
      have hD : R.drop c = [] := List.drop_eq_nil_of_le (by omega)
      have HD := Lib.hid hD
      clear hD
      go_wp2
      go_ret
      simp only [lT]
      have hfin := HFIN.out (some ⟨g, o, none⟩) 0 (by omega) (.inl HD.out) hz1 hb1
      rw [show R.length - c = 0 from by omega] at hfin
      exact hfin
    · have hcK2 : ¬ c - K = 0 := by omega
      go_wp2
      go_ret
      simp only [lT]
      exact HFIN.out _ (c - K) (by omega) (.inr rfl) hz1 hb1
end Go.Proofs.Ytcbmeollffkekaa
/-
  The reference's Sorted: Into, route by route. No condition but that the row lies in memory and is short of 2^20.
-/
set_option linter.unusedSimpArgs false
set_option linter.unusedVariables false
namespace Go.Proofs.Ytcbmeollffkekaa
open Go Go.RowKit Go.Sort M

theorem sortR_len : ∀ (l : List Rt), (sortR l).length ≤ l.length := by
  intro l
  suffices H : ∀ (n : Nat) (l : List Rt), l.length = n → (sortR l).length ≤ l.length from H l.length l rfl
  intro n
  induction n with
  | zero =>
    intro l hl
    obtain rfl := List.eq_nil_of_length_eq_zero hl
    simp [sortR]
  | succ n ih =>
    intro l hl
    obtain ⟨l, r, rfl⟩ : ∃ l' r, l = l' ++ [r] := ⟨l.dropLast, l.getLast (by intro e; simp [e] at hl), (List.dropLast_concat_getLast _).symm⟩
    have := ih l (by simpa using hl)
    rw [sortR_snoc]
    have h1 := (intoS_perm r (sortR_mem l).1).length_eq
    have h2 : (outS (sortR l) r.k).length ≤ (sortR l).length := List.length_filter_le _ _
    simp only [List.length_cons] at h1
    simp
    omega
theorem sortR_take (L : List Rt) (j : Nat) (h : j < L.length) : intoS (sortR (L.take j)) L[j] = sortR (L.take (j + 1)) := by
  rw [← sortR_snoc, List.take_succ_eq_append_getElem h]
set_option maxHeartbeats 1000000 in
set_option maxRecDepth 100000 in
theorem rsorted_any (p : Option Addr) (c : Nat) (L : List Rt) (w : World) (hR : Row w p (rcs L)) (hl : L.length < 1048576) :
    Calls Try.prog 5 #[.slice p L.length c] w fun e w' => NewRts w w' e (sortR L) := by
  have HR := Lib.hid hR
  clear hR
  go_enter Try.func5, Try.ntmps5
  go_wp2
  go_loopg [3, 4] L.length (fun kx s3 s4 wr => ∃ (j : Nat) (N : List Rt) (p3 : Option Addr) (c3 : Nat), s4 = .int .i64 (j : Int) ∧ L.length - j ≤ kx ∧ j ≤ L.length ∧ s3 = .slice p3 N.length c3 ∧ Hid (N = sortR (L.take j)) ∧ Hid (wr.ownsRow w.heap.size 39 4 (.slice p3 N.length c3) N.length (rcs N)) ∧ Below w.heap.size w wr)
  case atStart => exact ⟨0, [], none, 0, rfl, by omega, by omega, rfl, Lib.hid rfl, Lib.hid (World.ownsRow_nil _ _ _ _), by go_grown⟩
  case round =>
    obtain ⟨j, N, p3, c3, rfl, h1, h2, rfl, HN, HO, hb⟩ := hrel
    by_cases hi : j < L.length
    · obtain ⟨g, o, rfl, hg, x0, x1, x2, x3⟩ := HR.out.rt hi
      have x0 := (hb.cell (p := ⟨g, o + j * 4, none⟩) hg).trans x0
      have x1 := (hb.cell (p := ⟨g, o + j * 4 + 1, none⟩) hg).trans x1
      have x2 := (hb.cell (p := ⟨g, o + j * 4 + 2, none⟩) hg).trans x2
      have x3 := (hb.cell (p := ⟨g, o + j * 4 + 3, none⟩) hg).trans x3
      have hg2 := Nat.lt_of_lt_of_le hg hb.size
      have hz0 := hb.size
      have i1 : (0 : Int) ≤ (j : Int) := by omega
      have i2 : (j : Int) < (L.length : Int) := by omega
      have HI := Lib.hid (into_any w.heap.size p3 c3 N L[j] wr HO.out (by have := sortR_len (L.take j); rw [← HN.out, List.length_take] at this; omega))
      have HN2 : Hid (intoS N L[j] = sortR (L.take (j + 1))) := Lib.hid (by rw [HN.out]; exact sortR_take L j hi)
      unfold rtA at HI
      generalize L[j] = r at *
      go_wp2_with fail
      refine HI.out.mono ?_
      rintro e w2 ⟨p5, c5, rfl, hown, hb2⟩
      have hw2 := hb.trans (hb2.mono hb.size)
      have HO2 := Lib.hid (own_le hown hb.size)
      clear hown hb2
      go_wp2
      go_roundg (L.length - (j + 1))
      case measure => omega
      case rel => exact ⟨j + 1, _, p5, c5, by go_num, by omega, by omega, rfl, HN2, HO2, hw2⟩
    · go_wp2
      go_ret
      have := HN.out
      rw [List.take_of_length_le (by omega)] at this
      rw [← this]
      exact ⟨p3, c3, rfl, HO.out, hb⟩
end Go.Proofs.Ytcbmeollffkekaa
/-
  flocculuslaw15's alive as a walk, and an append of an argument to nil. No condition but those that stand in each.
-/
set_option linter.unusedSimpArgs false
set_option linter.unusedVariables false
namespace Go.Proofs.Ytcbmeollffkekaa
open Go Go.RowKit Go.Sort M

theorem run_append_none_any (w : World) (t ty e : TypeId) (i : TypeInfo) (c : Nat) (ht : Try.prog.underlying t = some (.slice e)) (hi : Try.prog.info? e = some i) :
    (Builtin.append_ #[t, t] ty #[.slice none 0 0, .slice none 0 c]).run Try.prog w = .ok (.slice none 0 0) w := by
  simp [Builtin.append_, run_underlying ht, sizeOf, typeInfo, hi, Builtin.lenOf, Builtin.firstCells]
/-- An append of an argument to nil. -/
theorem wpList_append_arg15 {ops : Array Oper} {rest : List Oper} {o : Oper} {a : Act} {w : World} {Q : Exit → Act → World → Prop} (hgd : o.guard = none) (x : Operand)
    (ho : o.op = .call { callee := .builtin .append, args := #[.const (.slice none 0 0), x], argTypes := #[22, 22] }) (B : Nat) (M : List Rt) (q : Option Addr) (c : Nat) (hx : a.eval x = .slice q M.length c)
    (hsrc : Row w q (rcs M)) (hlen : M.length ≤ 1099511627776) (hB : B ≤ w.heap.size)
    (h : ∀ p' c' w', w'.ownsRow B 39 4 (.slice p' M.length c') M.length (rcs M) → (p' = none → c' = 0) → w.grownBy w' none → wpList Try.prog ops Q rest (a.put o.dst (.slice p' M.length c')) w') : wpList Try.prog ops Q (o :: rest) a w := by
  cases q with
  | none =>
    have hM : M = [] := by
      rcases hsrc with h | ⟨g, o, h, -⟩
      · have := rcs_len M
        rw [h] at this
        exact List.length_eq_zero_iff.1 (by simp at this; omega)
      · cases h
    subst hM
    obtain ⟨i0, hi0, iz0, iz1, iz2⟩ := info_parts infoR
    refine wpList_plain hgd fun K hK => ?_
    have hrun := run_append_none_any w 22 o.type 39 i0 c Try.underlying22 hi0
    have hx : a.eval x = .slice none 0 c := hx
    have hs : a.eval (.const (.slice none 0 0)) = .slice none 0 0 := rfl
    unfold Oper.wp
    simp [execOp, ho, resolve, invoke, builtin, hs, hx, hrun, Result.andThen]
    exact hK _ _ (h none 0 w (World.ownsRow_nil _ _ _ _) (fun _ => rfl) ⟨rfl, rfl, rfl, Nat.le_refl _, fun _ _ _ => rfl⟩)
  | some ad =>
    refine wpList_append_row hgd (.const (.slice none 0 0)) x ho B (.slice none 0 0) [] M M rfl rfl ad c hx (World.ownsRow_nil _ _ _ _) ?_ (by simp; omega) hB ?_
    · intro j u hu
      rcases hsrc with h | ⟨g, o, h, hg, hc⟩
      · rw [h] at hu
        cases hu
      · injection h with h
        subst h
        rw [add_at]
        exact hc j u hu
    · intro v' w' h1 h2 _
      obtain ⟨p', c', rfl⟩ := own_slice h1
      refine h p' c' w' h1 (fun e => ?_) h2
      subst e
      rcases h1.2 with ⟨e, -⟩ | ⟨g, cap, cur, e, -⟩
      · injection e
      · cases e
set_option maxHeartbeats 1000000 in
set_option maxRecDepth 100000 in
theorem alive15_any (w : World) : Calls Try.prog 4 #[] w fun e w' => e = .returned (.bool true) ∧ Below w.heap.size w w' := by
  have hw0 : Below w.heap.size w (w.alloc (.cells #[.int .u64 0, .int .u64 0, .int .i64 0, .int .i64 3] 39)) := by go_grown
  have hr0 : Row (w.alloc (.cells #[.int .u64 0, .int .u64 0, .int .i64 0, .int .i64 3] 39)) (some ⟨w.heap.size, 0, none⟩) (rcs [⟨⟨0, 0, 0⟩, 3⟩]) := by
    refine .inr ⟨w.heap.size, 0, rfl, by simp, fun j u hu => ?_⟩
    rw [rcs_one] at hu
    have := four_new (w := w.alloc (.cells #[.int .u64 0, .int .u64 0, .int .i64 0, .int .i64 3] 39)) (g := w.heap.size) (a := .int .u64 0) (b := .int .u64 0) (c := .int .i64 0) (d := .int .i64 3) (by simp [go_sem]) (by simp [go_sem]) (by simp [go_sem]) (by simp [go_sem]) j u hu
    rwa [add_at] at this
  have HS := Lib.hid (start_any (some ⟨w.heap.size, 0, none⟩) 1 [⟨⟨0, 0, 0⟩, 3⟩] _ hr0 (fun e => by cases e) (by simp))
  clear hr0
  go_enter Try.func4, Try.ntmps4
  go_wp2_with fail
  refine HS.out.mono ?_
  rintro e w1 ⟨t1, rfl, ht1, hc1, hb1⟩
  have hw1 := hw0.trans (hb1.mono hw0.size)
  have ht1 : w.heap.size ≤ t1 := Nat.le_trans hw0.size ht1
  have HC1 : Hid (Cur w1 t1 [⟨⟨0, 0, 0⟩, 3⟩]) := Lib.hid hc1
  have HS2 := Lib.hid (start_any none 0 [] w1 (.inl rfl) (fun _ => rfl) (by simp))
  clear HS hc1 hb1 hw0
  go_wp2_with fail
  refine HS2.out.mono ?_
  rintro e w2 ⟨t2, rfl, ht2, hc2, hb2⟩
  have hw2 := hw1.trans (hb2.mono hw1.size)
  have HC1 := Lib.hid (HC1.out.below hb2)
  have HC2 : Hid (Cur w2 t2 []) := Lib.hid hc2
  clear HS2 hc2 hb2 hw1
  go_wp2_with fail
  refine (left_any t2 [] w2 HC2.out).mono ?_
  rintro e w3 ⟨rfl, hb3⟩
  have hw3 := hw2.trans (hb3.mono hw2.size)
  have HC3 := Lib.hid (HC1.out.below hb3)
  have HN := Lib.hid (next_any t1 [⟨⟨0, 0, 0⟩, 3⟩] 1 w3 HC3.out (by simp) (by decide) (by decide))
  clear hb3 HC1 HC2 hw2
  go_wp2_with fail
  refine HN.out.mono ?_
  rintro e w4 ⟨p, c, rfl, hown, hT, -⟩
  change w4.ownsRow w3.heap.size 39 4 (.slice p 1 c) 1 (rcs [⟨⟨0, 0, 0⟩, 3⟩]) at hown
  have hw4 := hw3.trans (hT.below hw3.size (fun k e => by subst e; exact ht1))
  have hR := Row.of_own hown
  obtain ⟨g, o, rfl, hg, -, -, -, x3⟩ := hR.rt (k := 0) (by simp)
  change w4.cell? _ = some (.int .i64 3) at x3
  simp only [Nat.zero_mul, Nat.add_zero] at x3
  clear hown hT hR
  go_wp2
  go_ret
  exact ⟨rfl, hw4⟩
end Go.Proofs.Ytcbmeollffkekaa
