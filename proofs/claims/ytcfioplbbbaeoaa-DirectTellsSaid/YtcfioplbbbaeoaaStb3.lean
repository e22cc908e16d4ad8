/-
  sort.swapRange_func and sort.rotate_func, at a test that may make blocks of its own. No condition but those that stand in each.
-/
import Derived.Test.YtcfioplbbbaeoaaSort1
import Derived.Test.YtcfioplbbbaeoaaStb2
set_option linter.unusedSimpArgs false
set_option linter.unusedVariables false
namespace Go.Proofs.Ytcfioplbbbaeoaa
open Go.RowKit Go.Sort M

section
variable {α : Type} [Inhabited α] {enc : α → List Value} {k : Nat} {w0 : World} {blk off n : Nat} {lt : α → α → Bool} {g : Nat} {lb : Array Value} {sf : Nat} {sb : Array Value}
set_option maxHeartbeats 1000000 in
set_option maxRecDepth 100000 in
theorem srange_any (hk : ∀ x, (enc x).length = k) (hS : SwapSwapsK Try.prog sf sb enc k blk off n) (hn : n < 4611686018427387904)
    (P X Q Y S : List α) (a b m : Nat) (ha : a = P.length) (hm : m = X.length) (hm2 : m = Y.length) (hb : b = P.length + X.length + Q.length) (hl : P.length + X.length + Q.length + Y.length + S.length = n) (W : World) (H : Srt enc k w0 blk off n (P ++ (X ++ (Q ++ (Y ++ S)))).toArray W) :
    Calls Try.prog 54 #[.agg #[.func (.func g) #[] lb, .func (.func sf) #[] sb], .int .i64 (a : Int), .int .i64 (b : Int), .int .i64 (m : Int)] W fun e w' =>
      e = .returned (.tuple #[]) ∧ Srt enc k w0 blk off n (P ++ (Y ++ (Q ++ (X ++ S)))).toArray w' ∧ Touch (· = blk) W w' := by
  have HSW := Lib.hid hS
  clear hS
  obtain ⟨G, hG⟩ : ∃ G, G = P ++ (Y ++ (Q ++ (X ++ S))) := ⟨_, rfl⟩
  rw [← hG]
  have R0 : ∃ (P' X' Q' Y' S' : List α), Hid (a = P'.length ∧ X'.length = m ∧ Y'.length = m ∧ b = P'.length + X'.length + Q'.length ∧ P' ++ (Y' ++ (Q' ++ (X' ++ S'))) = G ∧ P'.length + X'.length + Q'.length + Y'.length + S'.length = n ∧ Srt enc k w0 blk off n (P' ++ (X' ++ (Q' ++ (Y' ++ S')))).toArray W) :=
    ⟨P, X, Q, Y, S, ha, hm.symm, hm2.symm, hb, hG.symm, hl, H⟩
  clear H hG hl hb hm2 hm ha P X Q Y S
  obtain ⟨P, X, Q, Y, S, HI⟩ := R0
  go_enter Try.func54, Try.ntmps54
  go_wp2_with fail
  have R := Srd.start (x := .func (.func g) #[] lb) (y := .func (.func sf) #[] sb) HI.out.2.2.2.2.2.2 76
  go_loopg [8] m (fun kx s8 wr => ∃ (i : Nat) (P' X' Q' Y' S' : List α), s8 = .int .i64 (i : Int) ∧ m - i ≤ kx ∧ i ≤ m ∧ Hid (a + i = P'.length ∧ X'.length = m - i ∧ Y'.length = m - i ∧ b + i = P'.length + X'.length + Q'.length ∧ P' ++ (Y' ++ (Q' ++ (X' ++ S'))) = G ∧ P'.length + X'.length + Q'.length + Y'.length + S'.length = n) ∧ Hid (Srd enc k w0 blk off n (.func (.func g) #[] lb) (.func (.func sf) #[] sb) W (P' ++ (X' ++ (Q' ++ (Y' ++ S')))).toArray wr))
  case atStart =>
    obtain ⟨i1, i2, i3, i4, i5, i6, -⟩ := HI.out
    exact ⟨0, P, X, Q, Y, S, rfl, by omega, by omega, Lib.hid ⟨by omega, by omega, by omega, by omega, i5, i6⟩, Lib.hid R⟩
  case round =>
    clear R HI P X Q Y S
    obtain ⟨i, P', X', Q', Y', S', rfl, h1, h2, HN, HR⟩ := hrel
    have c1 := HR.out.box.c1
    have hlt := HR.out.box.lt
    by_cases hi : i < m
    · obtain ⟨x, X'', rfl⟩ := List.exists_cons_of_length_pos (l := X') (by have := HN.out.2.1; omega)
      obtain ⟨y, Y'', rfl⟩ := List.exists_cons_of_length_pos (l := Y') (by have := HN.out.2.2.1; omega)
      obtain ⟨w2, hrun, R2, HN2, ha, hb⟩ : ∃ w2, (callFunc sf (#[.int .i64 ((a : Int) + (i : Int)), .int .i64 ((b : Int) + (i : Int))] ++ sb)).run Try.prog wr = .ok (.value (.tuple #[])) w2 ∧ Hid (Srd enc k w0 blk off n (.func (.func g) #[] lb) (.func (.func sf) #[] sb) W ((P' ++ [y]) ++ (X'' ++ ((Q' ++ [x]) ++ (Y'' ++ S')))).toArray w2)
          ∧ Hid (a + (i + 1) = (P' ++ [y]).length ∧ X''.length = m - (i + 1) ∧ Y''.length = m - (i + 1) ∧ b + (i + 1) = (P' ++ [y]).length + X''.length + (Q' ++ [x]).length ∧ (P' ++ [y]) ++ (Y'' ++ ((Q' ++ [x]) ++ (X'' ++ S'))) = G ∧ (P' ++ [y]).length + X''.length + (Q' ++ [x]).length + Y''.length + S'.length = n) ∧ a + i < n ∧ b + i < n := by
        obtain ⟨n1, n2, n3, n4, n5, n6⟩ := HN.out
        simp only [List.length_cons] at n2 n3 n4 n6
        obtain ⟨w2, hrun, hS2, hT2⟩ := HR.out.srt.swap HSW.out hk ((a : Int) + (i : Int)) ((b : Int) + (i : Int)) (a + i) (b + i) (by omega) (by omega) (by omega) (by omega)
        have e2 := range_step (X := X'') (Q := Q') (Y := Y'') (S := S') (x := x) (y := y) (a + i) (b + i) n1 (by omega)
        rw [e2] at hS2
        exact ⟨w2, hrun, Lib.hid (HR.out.next hS2 hT2), Lib.hid ⟨by simp; omega, by omega, by omega, by simp; omega, by simpa using n5, by simp; omega⟩, by omega, by omega⟩
      go_wp2_with fail
      go_roundg (m - (i + 1))
      case measure => omega
      case rel => exact ⟨i + 1, _, _, _, _, _, by go_num, by omega, by omega, HN2, R2⟩
    · go_wp2
      go_end0
      obtain ⟨n1, n2, n3, n4, n5, n6⟩ := HN.out
      obtain rfl := List.eq_nil_of_length_eq_zero (l := X') (by omega)
      obtain rfl := List.eq_nil_of_length_eq_zero (l := Y') (by omega)
      have hr := HR.out.srt
      simp only [List.nil_append] at n5 hr
      rw [n5] at hr
      exact ⟨rfl, hr, HR.out.touch⟩
/-- What rotate_func carries: the two neighbours that are still to be swapped. -/
structure Rot (G : List α) (n m i j : Nat) (P U V S : List α) : Prop where
  p : P.length + i = m
  u : U.length = i
  v : V.length = j
  i0 : 0 < i
  j0 : 0 < j
  e : P ++ (V ++ (U ++ S)) = G
  l : P.length + U.length + V.length + S.length = n
set_option maxHeartbeats 1000000 in
set_option maxRecDepth 100000 in
theorem rotate_any (hk : ∀ x, (enc x).length = k) (hS : SwapSwapsK Try.prog sf sb enc k blk off n) (hn : n < 4611686018427387904)
    (P U V S : List α) (a m b : Nat) (ha : a = P.length) (hm : m = P.length + U.length) (hb : b = m + V.length) (hu : 0 < U.length) (hv : 0 < V.length) (hl : P.length + U.length + V.length + S.length = n) (W : World) (H : Srt enc k w0 blk off n (P ++ (U ++ (V ++ S))).toArray W) :
    Calls Try.prog 52 #[.agg #[.func (.func g) #[] lb, .func (.func sf) #[] sb], .int .i64 (a : Int), .int .i64 (m : Int), .int .i64 (b : Int)] W fun e w' =>
      e = .returned (.tuple #[]) ∧ Srt enc k w0 blk off n (P ++ (V ++ (U ++ S))).toArray w' ∧ Touch (· = blk) W w' := by
  have HSW := Lib.hid hS
  clear hS
  obtain ⟨G, hG⟩ : ∃ G, G = P ++ (V ++ (U ++ S)) := ⟨_, rfl⟩
  rw [← hG]
  have R0 : ∃ (P U V S : List α), Hid (Rot G n m (m - a) (b - m) P U V S ∧ Srt enc k w0 blk off n (P ++ (U ++ (V ++ S))).toArray W) :=
    ⟨P, U, V, S, ⟨by omega, by omega, by omega, by omega, by omega, hG.symm, hl⟩, H⟩
  have b1 : a ≤ m := by omega
  have b2 : m ≤ b := by omega
  have b3 : b ≤ n := by omega
  clear H hG hl hb hm hu hv ha P U V S
  obtain ⟨P, U, V, S, HI⟩ := R0
  go_enter Try.func52, Try.ntmps52
  go_wp2_with fail
  have R := Srd.start (x := .func (.func g) #[] lb) (y := .func (.func sf) #[] sb) HI.out.2 76
  go_loopg [8, 9] (b - a) (fun kx s8 s9 wr => ∃ (i j : Nat) (P' U' V' S' : List α), s8 = .int .i64 (i : Int) ∧ s9 = .int .i64 (j : Int) ∧ i + j ≤ kx ∧ i ≤ m ∧ m + j ≤ n ∧ Hid (Rot G n m i j P' U' V' S') ∧ Hid (Srd enc k w0 blk off n (.func (.func g) #[] lb) (.func (.func sf) #[] sb) W (P' ++ (U' ++ (V' ++ S'))).toArray wr))
  case atStart =>
    exact ⟨m - a, b - m, P, U, V, S, by go_num, by go_num, by omega, by omega, by omega, Lib.hid HI.out.1, Lib.hid R⟩
  case round =>
    clear R HI P U V S
    obtain ⟨i, j, P, U, V, S, rfl, rfl, h1, h2, h3, HN, HR⟩ := hrel
    have c0 := HR.out.box.c0
    have c1 := HR.out.box.c1
    have hlt := HR.out.box.lt
    rcases Nat.lt_trichotomy i j with hij | hij | hij
    · have hne : i ≠ j := by omega
      have hng : ¬ j < i := by omega
      obtain ⟨hc, HN2, i0⟩ : Hid (Calls Try.prog 54 #[.agg #[.func (.func g) #[] lb, .func (.func sf) #[] sb], .int .i64 ((m : Int) - (i : Int)), .int .i64 ((m : Int) + (j : Int) - (i : Int)), .int .i64 (i : Int)] wr fun e w' =>
          e = .returned (.tuple #[]) ∧ Srt enc k w0 blk off n (P ++ (V.drop (j - i) ++ (V.take (j - i) ++ (U ++ S)))).toArray w' ∧ Touch (· = blk) wr w') ∧ Hid (Rot G n m i (j - i) P (V.drop (j - i)) (V.take (j - i)) (U ++ S)) ∧ 0 < i := by
        obtain ⟨n1, n2, n3, n4, n5, n6, n7⟩ := HN.out
        have l1 : (V.drop (j - i)).length = i := by rw [List.length_drop]; omega
        have l2 : (V.take (j - i)).length = j - i := by rw [List.length_take]; omega
        have e1 : V.take (j - i) ++ V.drop (j - i) = V := List.take_append_drop _ _
        have e2 : P ++ (U ++ (V ++ S)) = P ++ (U ++ (V.take (j - i) ++ (V.drop (j - i) ++ S))) := by rw [← List.append_assoc (V.take (j - i)), e1]
        have hr := HR.out.srt
        rw [e2] at hr
        have := srange_any (g := g) (lb := lb) hk HSW.out hn P U (V.take (j - i)) (V.drop (j - i)) S (m - i) (m + j - i) i (by omega) n2.symm l1.symm (by omega) (by omega) wr hr
        rw [show ((m - i : Nat) : Int) = (m : Int) - (i : Int) from by omega, show ((m + j - i : Nat) : Int) = (m : Int) + (j : Int) - (i : Int) from by omega] at this
        refine ⟨Lib.hid this, Lib.hid ⟨n1, l1, l2, n4, by omega, ?_, by simp only [List.length_append]; omega⟩, n4⟩
        rw [← n6, ← List.append_assoc (V.take (j - i)), e1]
      go_wp2_with fail
      refine hc.out.mono ?_
      rintro e w1 ⟨rfl, hS1, hT1⟩
      have R1 := Lib.hid (HR.out.next hS1 hT1)
      clear hS1 hT1
      go_wp2
      go_roundg (i + (j - i))
      case measure => omega
      case rel => exact ⟨i, j - i, _, _, _, _, by go_num, by go_num, by omega, by omega, by omega, HN2, R1⟩
    · subst hij
      have hc : Hid (Calls Try.prog 54 #[.agg #[.func (.func g) #[] lb, .func (.func sf) #[] sb], .int .i64 ((m : Int) - (i : Int)), .int .i64 (m : Int), .int .i64 (i : Int)] wr fun e w' =>
          e = .returned (.tuple #[]) ∧ Srt enc k w0 blk off n G.toArray w' ∧ Touch (· = blk) wr w') := by
        obtain ⟨n1, n2, n3, n4, n5, n6, n7⟩ := HN.out
        have := srange_any (g := g) (lb := lb) hk HSW.out hn P U [] V S (m - i) m i (by omega) n2.symm n3.symm (by simp; omega) (by simp; omega) wr (by simpa using HR.out.srt)
        rw [show ((m - i : Nat) : Int) = (m : Int) - (i : Int) from by omega] at this
        simp only [List.nil_append] at this
        rw [n6] at this
        exact Lib.hid this
      go_wp2_with fail
      refine hc.out.mono ?_
      rintro e w1 ⟨rfl, hS1, hT1⟩
      have R1 := Lib.hid (HR.out.next hS1 hT1)
      clear hS1 hT1
      go_wp2
      go_end0
      exact ⟨rfl, R1.out.srt, R1.out.touch⟩
    · have hne : i ≠ j := by omega
      obtain ⟨hc, HN2, i0⟩ : Hid (Calls Try.prog 54 #[.agg #[.func (.func g) #[] lb, .func (.func sf) #[] sb], .int .i64 ((m : Int) - (i : Int)), .int .i64 (m : Int), .int .i64 (j : Int)] wr fun e w' =>
          e = .returned (.tuple #[]) ∧ Srt enc k w0 blk off n ((P ++ V) ++ (U.drop j ++ (U.take j ++ S))).toArray w' ∧ Touch (· = blk) wr w') ∧ Hid (Rot G n m (i - j) j (P ++ V) (U.drop j) (U.take j) S) ∧ 0 < j := by
        obtain ⟨n1, n2, n3, n4, n5, n6, n7⟩ := HN.out
        have l1 : (U.drop j).length = i - j := by rw [List.length_drop]; omega
        have l2 : (U.take j).length = j := by rw [List.length_take]; omega
        have e1 : U.take j ++ U.drop j = U := List.take_append_drop _ _
        have e2 : P ++ (U ++ (V ++ S)) = P ++ (U.take j ++ (U.drop j ++ (V ++ S))) := by rw [← List.append_assoc (U.take j), e1]
        have hr := HR.out.srt
        rw [e2] at hr
        have := srange_any (g := g) (lb := lb) hk HSW.out hn P (U.take j) (U.drop j) V S (m - i) m j (by omega) l2.symm n3.symm (by omega) (by omega) wr hr
        rw [show ((m - i : Nat) : Int) = (m : Int) - (i : Int) from by omega, ← List.append_assoc P] at this
        refine ⟨Lib.hid this, Lib.hid ⟨by simp only [List.length_append]; omega, l1, l2, by omega, n5, ?_, by simp only [List.length_append]; omega⟩, n5⟩
        rw [← n6, ← List.append_assoc (U.take j), e1, List.append_assoc]
      go_wp2_with fail
      refine hc.out.mono ?_
      rintro e w1 ⟨rfl, hS1, hT1⟩
      have R1 := Lib.hid (HR.out.next hS1 hT1)
      clear hS1 hT1
      go_wp2
      go_roundg (i - j + j)
      case measure => omega
      case rel => exact ⟨i - j, j, _, _, _, _, by go_num, by go_num, by omega, by omega, by omega, HN2, R1⟩
end
end Go.Proofs.Ytcfioplbbbaeoaa
