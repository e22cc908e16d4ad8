/-
  sort.symMerge_func where one of the two rows has one element, at a test that may make blocks of its own. No condition but those that stand in each.
-/
import Derived.Test.YtcfioplbbbaeoaaStb3
set_option linter.unusedSimpArgs false
set_option linter.unusedVariables false
namespace Go.Proofs.Ytcfioplbbbaeoaa
open Go.RowKit Go.Sort M

section
variable {α : Type} [Inhabited α] {enc : α → List Value} {k : Nat} {w0 : World} {blk off n : Nat} {lt : α → α → Bool} {g : Nat} {lb : Array Value} {sf : Nat} {sb : Array Value}
set_option maxHeartbeats 1000000 in
set_option maxRecDepth 100000 in
theorem sym_one1 (hO : SWO lt) (hk : ∀ x, (enc x).length = k) (eg : ∀ args w, (callFunc g args).run Try.prog w = .ok (.enter g args) w) (hL : LessB g lb enc k lt w0 blk off n) (hS : SwapSwapsK Try.prog sf sb enc k blk off n) (hn : n < 4611686018427387904)
    (A V B : List α) (u : α) (a m b : Nat) (ha : a = A.length) (hm : m = A.length + 1) (hb : b = m + V.length) (hl : A.length + 1 + V.length + B.length = n) (hV : Asc lt V) (W : World) (H : Srt enc k w0 blk off n (A ++ ([u] ++ (V ++ B))).toArray W) :
    Calls Try.prog 50 #[.agg #[.func (.func g) #[] lb, .func (.func sf) #[] sb], .int .i64 (a : Int), .int .i64 (m : Int), .int .i64 (b : Int)] W fun e w' =>
      e = .returned (.tuple #[]) ∧ ∃ R, Asc lt R ∧ Stb lt ([u] ++ V) R ∧ Srt enc k w0 blk off n (A ++ (R ++ B)).toArray w' ∧ Touch (· = blk) W w' := by
  have HSW := Lib.hid hS
  have HL := Lib.hid hL
  clear hS hL
  obtain ⟨L, hLe⟩ : ∃ L, L = A ++ ([u] ++ (V ++ B)) := ⟨_, rfl⟩
  rw [← hLe] at H
  have mono := Lib.hid (f1_mono hO (U := [u]) hLe hV a m b (by simpa using hm) hb)
  have b1 : m = a + 1 := by omega
  have b2 : m ≤ b := by omega
  have b3 : b ≤ n := by omega
  have HF := Lib.hid (And.intro hLe (And.intro ha (And.intro hm (And.intro hb (And.intro hl hV)))))
  clear hLe ha hm hb hl hV
  have hone : (m : Int) - (a : Int) = 1 := by omega
  have B1 := Lib.hid b1
  clear b1
  have HB := Lib.hid (Bs.start (f1 lt L a) b2)
  go_enter Try.func50, Try.ntmps50
  go_wp2_with fail
  have R := Lib.hid (Srd.start (x := .func (.func g) #[] lb) (y := .func (.func sf) #[] sb) H 76)
  clear H
  go_loopg [8, 9] (b - m) (fun kx s8 s9 wr => ∃ (i j : Nat), s8 = .int .i64 (i : Int) ∧ s9 = .int .i64 (j : Int) ∧ j - i ≤ kx ∧ m ≤ i ∧ i ≤ j ∧ j ≤ b ∧ Hid (Bs (f1 lt L a) m b i j) ∧ Hid (Srd enc k w0 blk off n (.func (.func g) #[] lb) (.func (.func sf) #[] sb) W L.toArray wr))
  case atStart => exact ⟨m, b, rfl, rfl, by omega, by omega, by omega, by omega, HB, R⟩
  case round =>
    clear R HB
    obtain ⟨i, j, rfl, rfl, h1, h2, h3, h4, HB, HR⟩ := hrel
    have c0 := HR.out.box.c0
    have c1 := HR.out.box.c1
    have hlt := HR.out.box.lt
    by_cases hi : i < j
    · have hl1 : Calls Try.prog g (#[.int .i64 (((i : Int) + (j : Int)) / 2), .int .i64 (a : Int)] ++ lb) wr fun e w' => e = .returned (.bool (f1 lt L a ((i + j) / 2))) ∧ Srt enc k w0 blk off n L.toArray w' ∧ Touch (· = blk) wr w' :=
        HR.out.srt.less HL.out (((i : Int) + (j : Int)) / 2) (a : Int) ((i + j) / 2) a (by omega) (by have := B1.out; omega) (by omega) rfl
      cases hv : f1 lt L a ((i + j) / 2) with
      | true =>
        rw [hv] at hl1
        have HB2 := Lib.hid (HB.out.up mono.out (h := (i + j) / 2) (by omega) (by omega) hv)
        go_wp2_with fail
        refine hl1.mono ?_
        rintro e w1 ⟨rfl, hS1, hT1⟩
        have R1 := Lib.hid (HR.out.next hS1 hT1)
        clear hS1 hT1
        go_wp2
        go_roundg (j - ((i + j) / 2 + 1))
        case measure => omega
        case rel => exact ⟨(i + j) / 2 + 1, j, by go_num, rfl, by omega, by omega, by omega, by omega, HB2, R1⟩
      | false =>
        rw [hv] at hl1
        have HB2 := Lib.hid (HB.out.down mono.out (h := (i + j) / 2) (by omega) (by omega) hv)
        go_wp2_with fail
        refine hl1.mono ?_
        rintro e w1 ⟨rfl, hS1, hT1⟩
        have R1 := Lib.hid (HR.out.next hS1 hT1)
        clear hS1 hT1
        go_wp2
        go_roundg ((i + j) / 2 - i)
        case measure => omega
        case rel => exact ⟨i, (i + j) / 2, rfl, by go_num, by omega, by omega, by omega, by omega, HB2, R1⟩
    · go_wp2
      obtain rfl : j = i := by omega
      obtain ⟨G, X, Y, hR, HG⟩ : ∃ (G R Y : List α), (∃ R, Asc lt R ∧ Stb lt ([u] ++ V) R ∧ G = A ++ (R ++ B)) ∧ Hid (A.length = a ∧ a + 1 + R.length = j ∧ L = A ++ (u :: (R ++ Y)) ∧ A ++ (R ++ (u :: Y)) = G) := by
        obtain ⟨f1, f2, f3, f4, f5, f6⟩ := HF.out
        obtain ⟨g1, g2⟩ := one_down hO f1 a m b j f2 f3 f4 HB.out
        have e1 : V.take (j - m) ++ V.drop (j - m) = V := List.take_append_drop _ _
        have l1 : (V.take (j - m)).length = j - m := by rw [List.length_take]; omega
        rw [← e1] at f6
        obtain ⟨q1, q2⟩ := sym_join hO (U1 := []) (U2 := [u]) (R1 := V.take (j - m)) (R2 := u :: V.drop (j - m)) (by unfold Asc; simp) f6 (by simp) (by simpa using g1) (by simpa using Stb.refl _) (by simpa using Stb.refl _) (asc_append.1 f6).1 (asc_cons (asc_append.1 f6).2.1 g2)
        refine ⟨_, V.take (j - m), V.drop (j - m) ++ B, ⟨_, q1, ?_, rfl⟩, Lib.hid ⟨f2.symm, by have := B1.out; omega, ?_, by simp⟩⟩
        · rw [e1] at q2
          simpa using q2
        · rw [f1, ← List.append_assoc (V.take (j - m)), e1]
          rfl
      clear HF hi h1 mono HL HB
      rename World => wo
      go_loopg [11] (j - a) (fun kx s11 wr => ∃ (i : Nat) (P Q : List α), s11 = .int .i64 (i : Int) ∧ j - 1 - i ≤ kx ∧ a ≤ i ∧ i + 1 ≤ j ∧ Hid (P.length = i ∧ i + 1 + Q.length = j ∧ P ++ (Q ++ (u :: Y)) = G) ∧ Hid (Srd enc k w0 blk off n (.func (.func g) #[] lb) (.func (.func sf) #[] sb) W (P ++ (u :: (Q ++ Y))).toArray wr))
      case atStart =>
        obtain ⟨g1, g2, g3, g4⟩ := HG.out
        have hr := HR.out
        rw [g3] at hr
        have := B1.out
        exact ⟨a, A, X, rfl, by omega, by omega, by omega, Lib.hid ⟨g1, g2, g4⟩, Lib.hid hr⟩
      case round =>
        clear HR HG
        obtain ⟨i, P, Q, rfl, h1, h2, h3, HN, HR⟩ := hrel
        have c1 := HR.out.box.c1
        have hlt := HR.out.box.lt
        by_cases hi : i + 1 < j
        · obtain ⟨v, Q, rfl⟩ := List.exists_cons_of_length_pos (l := Q) (by have := HN.out.2.1; omega)
          obtain ⟨w2, hrun, R2, HN2⟩ : ∃ w2, (callFunc sf (#[.int .i64 (i : Int), .int .i64 ((i : Int) + 1)] ++ sb)).run Try.prog wr = .ok (.value (.tuple #[])) w2 ∧ Hid (Srd enc k w0 blk off n (.func (.func g) #[] lb) (.func (.func sf) #[] sb) W ((P ++ [v]) ++ (u :: (Q ++ Y))).toArray w2)
              ∧ Hid ((P ++ [v]).length = i + 1 ∧ i + 1 + 1 + Q.length = j ∧ (P ++ [v]) ++ (Q ++ (u :: Y)) = G) := by
            obtain ⟨n1, n2, n3⟩ := HN.out
            simp only [List.length_cons] at n2
            obtain ⟨w2, hrun, hS2, hT2⟩ := HR.out.srt.swap HSW.out hk (i : Int) ((i : Int) + 1) i (i + 1) (by omega) (by omega) (by omega) (by omega)
            have e2 := pair_step (P := P) (S := Q ++ Y) (x := u) (y := v) i (i + 1) n1.symm (by omega)
            rw [show v :: Q ++ Y = v :: (Q ++ Y) from rfl, e2] at hS2
            rw [show P ++ (v :: u :: (Q ++ Y)) = (P ++ [v]) ++ (u :: (Q ++ Y)) from by simp] at hS2
            exact ⟨w2, hrun, Lib.hid (HR.out.next hS2 hT2), Lib.hid ⟨by simp; omega, by omega, by simpa using n3⟩⟩
          go_wp2_with fail
          go_roundg (j - 1 - (i + 1))
          case measure => omega
          case rel => exact ⟨i + 1, _, _, by go_num, by omega, by omega, by omega, HN2, R2⟩
        · go_wp2
          (try simp only [Exit.inBlock, Exit.then])
          refine bodyPost_ret (results_none rfl _ _ _) rfl ?_
          obtain ⟨n1, n2, n3⟩ := HN.out
          obtain rfl := List.eq_nil_of_length_eq_zero (l := Q) (by omega)
          have hr := HR.out.srt
          simp only [List.nil_append] at n3 hr
          obtain ⟨R, r1, r2, r3⟩ := hR
          rw [n3, r3] at hr
          exact ⟨rfl, R, r1, r2, hr, HR.out.touch⟩
set_option maxHeartbeats 1000000 in
set_option maxRecDepth 100000 in
theorem sym_one2 (hO : SWO lt) (hk : ∀ x, (enc x).length = k) (eg : ∀ args w, (callFunc g args).run Try.prog w = .ok (.enter g args) w) (hL : LessB g lb enc k lt w0 blk off n) (hS : SwapSwapsK Try.prog sf sb enc k blk off n) (hn : n < 4611686018427387904)
    (A U B : List α) (u : α) (a m b : Nat) (ha : a = A.length) (hm : m = A.length + U.length) (hb : b = m + 1) (h2 : 2 ≤ U.length) (hl : A.length + U.length + 1 + B.length = n) (hU : Asc lt U) (W : World) (H : Srt enc k w0 blk off n (A ++ (U ++ ([u] ++ B))).toArray W) :
    Calls Try.prog 50 #[.agg #[.func (.func g) #[] lb, .func (.func sf) #[] sb], .int .i64 (a : Int), .int .i64 (m : Int), .int .i64 (b : Int)] W fun e w' =>
      e = .returned (.tuple #[]) ∧ ∃ R, Asc lt R ∧ Stb lt (U ++ [u]) R ∧ Srt enc k w0 blk off n (A ++ (R ++ B)).toArray w' ∧ Touch (· = blk) W w' := by
  have HSW := Lib.hid hS
  have HL := Lib.hid hL
  clear hS hL
  obtain ⟨L, hLe⟩ : ∃ L, L = A ++ (U ++ ([u] ++ B)) := ⟨_, rfl⟩
  rw [← hLe] at H
  have mono := Lib.hid (f2_mono hO hLe hU a m ha hm)
  have b1 : b = m + 1 := by omega
  have b2 : a ≤ m := by omega
  have b4 : a + 2 ≤ m := by omega
  have b3 : b ≤ n := by omega
  have HF := Lib.hid (And.intro hLe (And.intro ha (And.intro hm (And.intro hb (And.intro hl hU)))))
  clear hLe ha hm hb hl hU h2
  have hone : (b : Int) - (m : Int) = 1 := by omega
  have hnot : (((m : Int) - (a : Int)) == 1) = false := by
    rw [beq_eq_false_iff_ne]
    omega
  have B1 := Lib.hid b1
  clear b1
  have HB := Lib.hid (Bs.start (f2 lt L m) b2)
  go_enter Try.func50, Try.ntmps50
  go_wp2_with fail
  have R := Lib.hid (Srd.start (x := .func (.func g) #[] lb) (y := .func (.func sf) #[] sb) H 76)
  clear H
  go_loopg [12, 13] (m - a) (fun kx s8 s9 wr => ∃ (i j : Nat), s8 = .int .i64 (i : Int) ∧ s9 = .int .i64 (j : Int) ∧ j - i ≤ kx ∧ a ≤ i ∧ i ≤ j ∧ j ≤ m ∧ Hid (Bs (f2 lt L m) a m i j) ∧ Hid (Srd enc k w0 blk off n (.func (.func g) #[] lb) (.func (.func sf) #[] sb) W L.toArray wr))
  case atStart => exact ⟨a, m, rfl, rfl, by omega, by omega, by omega, by omega, HB, R⟩
  case round =>
    clear R HB
    obtain ⟨i, j, rfl, rfl, h1, h2, h3, h4, HB, HR⟩ := hrel
    have c0 := HR.out.box.c0
    have c1 := HR.out.box.c1
    have hlt := HR.out.box.lt
    by_cases hi : i < j
    · have hl1 : Calls Try.prog g (#[.int .i64 (m : Int), .int .i64 (((i : Int) + (j : Int)) / 2)] ++ lb) wr fun e w' => e = .returned (.bool (!f2 lt L m ((i + j) / 2))) ∧ Srt enc k w0 blk off n L.toArray w' ∧ Touch (· = blk) wr w' :=
        by
          unfold f2
          rw [Bool.not_not]
          exact HR.out.srt.less HL.out (m : Int) (((i : Int) + (j : Int)) / 2) m ((i + j) / 2) (by have := B1.out; omega) (by omega) rfl (by omega)
      cases hv : f2 lt L m ((i + j) / 2) with
      | true =>
        rw [hv] at hl1
        have HB2 := Lib.hid (HB.out.up mono.out (h := (i + j) / 2) (by omega) (by omega) hv)
        go_wp2_with fail
        refine hl1.mono ?_
        rintro e w1 ⟨rfl, hS1, hT1⟩
        have R1 := Lib.hid (HR.out.next hS1 hT1)
        clear hS1 hT1
        go_wp2
        go_roundg (j - ((i + j) / 2 + 1))
        case measure => omega
        case rel => exact ⟨(i + j) / 2 + 1, j, by go_num, rfl, by omega, by omega, by omega, by omega, HB2, R1⟩
      | false =>
        rw [hv] at hl1
        have HB2 := Lib.hid (HB.out.down mono.out (h := (i + j) / 2) (by omega) (by omega) hv)
        go_wp2_with fail
        refine hl1.mono ?_
        rintro e w1 ⟨rfl, hS1, hT1⟩
        have R1 := Lib.hid (HR.out.next hS1 hT1)
        clear hS1 hT1
        go_wp2
        go_roundg ((i + j) / 2 - i)
        case measure => omega
        case rel => exact ⟨i, (i + j) / 2, rfl, by go_num, by omega, by omega, by omega, by omega, HB2, R1⟩
    · go_wp2
      obtain rfl : j = i := by omega
      obtain ⟨G, A, X, Y, hR, HG⟩ : ∃ (G A' R Y : List α), (∃ R, Asc lt R ∧ Stb lt (U ++ [u]) R ∧ G = A ++ (R ++ B)) ∧ Hid (A'.length = j ∧ j + R.length = m ∧ L = A' ++ (R ++ (u :: Y)) ∧ A' ++ (u :: (R ++ Y)) = G) := by
        obtain ⟨f1, f2, f3, f4, f5, f6⟩ := HF.out
        obtain ⟨g1, g2⟩ := one_up f1 a m j f2 f3 HB.out
        have e1 : U.take (j - a) ++ U.drop (j - a) = U := List.take_append_drop _ _
        have l1 : (U.take (j - a)).length = j - a := by rw [List.length_take]; omega
        have l2 : (U.drop (j - a)).length = m - j := by rw [List.length_drop]; omega
        rw [← e1] at f6
        obtain ⟨q1, q2⟩ := sym_join hO (V1 := [u]) (V2 := []) (R1 := U.take (j - a) ++ [u]) (R2 := U.drop (j - a)) f6 (by unfold Asc; simp) (by simp) (by simpa using g2) (Stb.refl _) (by simpa using Stb.refl _) (asc_append.2 ⟨(asc_append.1 f6).1, by unfold Asc; simp, fun x hx y hy => by simp at hy; subst hy; exact g1 x hx⟩) (asc_append.1 f6).2.1
        refine ⟨_, A ++ U.take (j - a), U.drop (j - a), B, ⟨_, q1, ?_, rfl⟩, Lib.hid ⟨by simp only [List.length_append]; omega, by omega, ?_, by simp⟩⟩
        · rw [e1] at q2
          simpa using q2
        · rw [f1, List.append_assoc, ← List.append_assoc (U.take (j - a)), e1]
          rfl
      clear HF hi h1 mono HL HB
      rename World => wo
      go_loopg [15] (m - j) (fun kx s11 wr => ∃ (i : Nat) (Q Y : List α), s11 = .int .i64 (i : Int) ∧ i - j ≤ kx ∧ j ≤ i ∧ i ≤ m ∧ Hid (A.length = j ∧ j + Q.length = i ∧ A ++ (u :: (Q ++ Y)) = G) ∧ Hid (Srd enc k w0 blk off n (.func (.func g) #[] lb) (.func (.func sf) #[] sb) W (A ++ (Q ++ (u :: Y))).toArray wr))
      case atStart =>
        obtain ⟨g1, g2, g3, g4⟩ := HG.out
        have hr := HR.out
        rw [g3] at hr
        exact ⟨m, X, Y, rfl, by omega, by omega, by omega, Lib.hid ⟨g1, g2, g4⟩, Lib.hid hr⟩
      case round =>
        clear HR HG
        obtain ⟨i, Q, Y, rfl, h1, h2, h3, HN, HR⟩ := hrel
        have c1 := HR.out.box.c1
        have hlt := HR.out.box.lt
        by_cases hi : j < i
        · obtain ⟨Q, v, rfl⟩ : ∃ Q' v, Q = Q' ++ [v] := ⟨Q.dropLast, Q.getLast (by intro e; have := HN.out.2.1; simp [e] at this; omega), (List.dropLast_concat_getLast _).symm⟩
          obtain ⟨w2, hrun, R2, HN2⟩ : ∃ w2, (callFunc sf (#[.int .i64 (i : Int), .int .i64 ((i : Int) - 1)] ++ sb)).run Try.prog wr = .ok (.value (.tuple #[])) w2 ∧ Hid (Srd enc k w0 blk off n (.func (.func g) #[] lb) (.func (.func sf) #[] sb) W (A ++ (Q ++ (u :: (v :: Y)))).toArray w2)
              ∧ Hid (A.length = j ∧ j + Q.length = i - 1 ∧ A ++ (u :: (Q ++ (v :: Y))) = G) := by
            obtain ⟨n1, n2, n3⟩ := HN.out
            simp only [List.length_append, List.length_singleton] at n2
            have := B1.out
            obtain ⟨w2, hrun, hS2, hT2⟩ := HR.out.srt.swap HSW.out hk (i : Int) ((i : Int) - 1) i (i - 1) (by omega) (by omega) (by omega) (by omega)
            have e2 := pair_step' (P := A ++ Q) (S := Y) (x := v) (y := u) (i - 1) i (by simp; omega) (by simp; omega)
            rw [show A ++ ((Q ++ [v]) ++ (u :: Y)) = (A ++ Q) ++ (v :: u :: Y) from by simp, e2] at hS2
            rw [show (A ++ Q) ++ (u :: v :: Y) = A ++ (Q ++ (u :: (v :: Y))) from by simp] at hS2
            exact ⟨w2, hrun, Lib.hid (HR.out.next hS2 hT2), Lib.hid ⟨n1, by omega, by simpa using n3⟩⟩
          go_wp2_with fail
          go_roundg (i - 1 - j)
          case measure => omega
          case rel => exact ⟨i - 1, _, _, by go_num, by omega, by omega, by omega, HN2, R2⟩
        · go_wp2
          (try simp only [Exit.inBlock, Exit.then])
          refine bodyPost_ret (results_none rfl _ _ _) rfl ?_
          obtain ⟨n1, n2, n3⟩ := HN.out
          obtain rfl := List.eq_nil_of_length_eq_zero (l := Q) (by omega)
          have hr := HR.out.srt
          simp only [List.nil_append] at n3 hr
          obtain ⟨R, r1, r2, r3⟩ := hR
          rw [n3, r3] at hr
          exact ⟨rfl, R, r1, r2, hr, HR.out.touch⟩
end
end Go.Proofs.Ytcfioplbbbaeoaa
