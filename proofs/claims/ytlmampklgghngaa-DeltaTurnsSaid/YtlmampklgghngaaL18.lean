/-
  What chapter 18's laws share: what is asked of the program's Hop and Set; the document's example; an append of an argument to nil in a drawn region. No condition but those that stand in each.
-/
import Derived.Test.YtlmampklgghngaaRef19
import Derived.Test.YtlmampklgghngaaRef18b
import Derived.Test.YtlmampklgghngaaReg4
import Derived.Test.YtlmampklgghngaaReg8
/-
  What the reference's Level hands back. No condition but that the routes lie in memory, their words are words, and they are at most 300.
-/
set_option linter.unusedSimpArgs false
set_option linter.unusedVariables false
namespace Go.Proofs.Ytlmampklgghngaa
open Go Go.RowKit Go.Sort M

/-- What each operation of 'without p' hands back. -/
def lvD (N : List Rt) (k : Ky) (S : Nat) (i : Nat) (v : Value) (W : World) : Prop :=
  match i with
  | 1 => ∃ p' c', v = .slice p' N.length c' ∧ Row W p' (rcs N)
  | 3 => ∃ p' c', v = .slice p' (outS N k).length c' ∧ W.ownsRow S 38 4 (.slice p' (outS N k).length c') (outS N k).length (rcs (outS N k))
  | 4 => ∃ p' c', v = .slice p' (outS N k).length c' ∧ W.ownsRow S 38 4 (.slice p' (outS N k).length c') (outS N k).length (rcs (outS N k))
  | _ => True
theorem lvD_stable (N : List Rt) (k : Ky) (S : Nat) : ∀ i v W W', Below W.heap.size W W' → lvD N k S i v W → lvD N k S i v W'
  | 1, _, _, _, hb, ⟨p, c, e, h⟩ => ⟨p, c, e, h.below hb⟩
  | 3, _, _, _, hb, ⟨p, c, e, h⟩ => ⟨p, c, e, own_below h hb⟩
  | 4, _, _, _, hb, ⟨p, c, e, h⟩ => ⟨p, c, e, own_below h hb⟩
  | 0, _, _, _, _, _ | 2, _, _, _, _, _ => trivial
  | _ + 5, _, _, _, _, _ => trivial
theorem setS_len (N : List Rt) (low high : Int) (hg : ∀ r ∈ N, r.k.good) : (setS N low high).length ≤ 256 * N.length := by
  unfold setS
  split
  · have e1 := fS_len N low (keysS N low high)
    have e2 := keysS_len N low high hg N.length (Nat.le_refl _)
    rw [List.take_length] at e2
    unfold fS at e1
    omega
  · simp
set_option maxHeartbeats 2000000 in
set_option maxRecDepth 100000 in
theorem rlevel19_any (p : Option Addr) (c : Nat) (L : List Rt) (k : Ky) (hop low high : Int) (w : World) (hR : Row w p (rcs L)) (hg : ∀ x ∈ L, x.k.good) (hk : k.good) (hl : L.length ≤ 300) :
    Calls Try.prog 12 #[.slice p L.length c, kyA k, .int .i64 hop, .int .i64 low, .int .i64 high] w fun e w' => NewChs 51 w w' e (ofS (setS (sortR L) low high) (setS (lvlM (sortR L) k hop) low high)) := by
  have hSo := fun W (h : Below w.heap.size w W) => rsorted_any p c L W (hR.below h) (by omega)
  have hS1 := fun W (h : Below w.heap.size w W) => rset18_any p c L low high W (hR.below h) hg (by omega)
  have hlen := sortR_len L
  have hsrt := (sortR_mem L).1
  obtain ⟨N, hN⟩ : ∃ N, N = sortR L := ⟨_, rfl⟩
  have hgN : ∀ x ∈ N, x.k.good := fun x hx => hg x (sortR_sub (by rw [← hN]; exact hx))
  rw [← hN] at hSo hS1 hlen hsrt ⊢
  have hWo := fun (q : Option Addr) d W (h : Row W q (rcs N)) => without12_any q d N k W h (by omega)
  have hMs := lvl_sorted hsrt k hop
  have hMg := lvl_good (N := N) hgN hk hsrt hop
  have hol : (outS N k).length ≤ N.length := List.length_filter_le _ _
  have hMl : (lvlM N k hop).length ≤ 301 := by
    unfold lvlM
    split
    · have h1 := (intoS_perm ⟨k, hop⟩ (outS_sorted k hsrt)).length_eq
      have h2 : (outS (outS N k) k).length ≤ (outS N k).length := List.length_filter_le _ _
      simp only [List.length_cons] at h1
      omega
    · omega
  have hS2 := fun (q : Option Addr) d W (h : Row W q (rcs (lvlM N k hop))) => rset18_any q d (lvlM N k hop) low high W h hMg (by omega)
  rw [sortR_sorted hMs] at hS2
  have s1 := setS_len N low high hgN
  have s2 := setS_len (lvlM N k hop) low high hMg
  have hOf := fun (p q : Option Addr) c d W (h1 : Row W p (rcs (setS N low high))) (h2 : Row W q (rcs (setS (lvlM N k hop) low high))) => rof19_any p q c d (setS N low high) (setS (lvlM N k hop) low high) W h1 h2 (by omega) (by omega)
  rw [sortR_sorted (set_sorted N low high), sortR_sorted (set_sorted (lvlM N k hop) low high)] at hOf
  obtain ⟨R, hR2⟩ : ∃ R, R = ofS (setS N low high) (setS (lvlM N k hop) low high) := ⟨_, rfl⟩
  rw [← hR2] at hOf
  rw [← hR2]
  have HLM : Hid ((0 ≤ hop → lvlM N k hop = intoS (outS N k) ⟨k, hop⟩) ∧ (¬ 0 ≤ hop → lvlM N k hop = outS N k)) := Lib.hid ⟨fun h => if_pos h, fun h => if_neg h⟩
  obtain ⟨M, hM⟩ : ∃ M, M = lvlM N k hop := ⟨_, rfl⟩
  rw [← hM] at hS2 hOf HLM hMl
  obtain ⟨S1, hS1e⟩ : ∃ S1, S1 = setS N low high := ⟨_, rfl⟩
  obtain ⟨S2, hS2e⟩ : ∃ S2, S2 = setS M low high := ⟨_, rfl⟩
  rw [← hS1e] at hS1 hOf
  rw [← hS2e] at hS2 hOf
  have HSO := Lib.hid hSo
  have HS1 := Lib.hid hS1
  have HWO := Lib.hid hWo
  have HS2 := Lib.hid hS2
  have HOF := Lib.hid hOf
  obtain ⟨kh, kl, kn⟩ := k
  have hin := fun B (q : Option Addr) d W h => into_any B q d (outS N ⟨kh, kl, kn⟩) ⟨⟨kh, kl, kn⟩, hop⟩ W h (by omega)
  unfold rtA at hin
  simp only at hin
  have HIN := Lib.hid hin
  clear hSo hS1 hWo hS2 hOf hin hMs hMg s1 s2 hR2 hM hS1e hS2e hgN hsrt hN hR hg hk
  unfold kyA
  simp only
  have HWO2 : Hid (∀ (q : Option Addr) d W, Row W q (rcs N) → Calls Try.prog 16 #[.slice q N.length d, .agg #[.int .u64 (kh : Int), .int .u64 (kl : Int), .int .i64 kn]] W fun e w' => NewRts W w' e (outS N ⟨kh, kl, kn⟩)) := Lib.hid HWO.out
  clear HWO
  go_enter Try.func12, Try.ntmps12
  go_wp2_with fail
  have kg := cell_grow
  refine wp_region_noPanic ?_
  generalize hNQ : NoPanic _ = NQ
  refine region_eff [0] [2] [(1, 13, []), (3, 15, [(1, 13)]), (4, 11, [(3, 15)])] [] (lvD N ⟨kh, kl, kn⟩ w.heap.size) (lvD_stable _ _ _) (by kernel_rfl) (by rw [← hNQ]; exact fun _ _ _ h => h) (by kernel_rfl) (by kernel_rfl) (by kernel_rfl) ?_
  simp only [pickL, List.filterMap_cons, List.filterMap_nil, List.getElem?_toArray, List.getElem?_cons_succ, List.getElem?_cons_zero]
  repeat (any_goals (quiet_step (fail)))
  refine wpQuiet_nil ?_
  clear kg
  refine ⟨by rfl, ⟨?_, ?_, ?_, trivial⟩, ?_⟩
  · intro W hW K hK o ho
    injection ho with ho
    subst ho
    have hwW : Below w.heap.size w W := Below.trans (by go_grown) (hW.mono (by simp))
    go_simp
    go_at_call 13
    refine (HSO.out _ hwW).mono ?_
    rintro e w3 ⟨p3, c3, rfl, ho3, hb3⟩
    exact hK _ _ hb3 ⟨p3, c3, rfl, Row.of_own ho3⟩
  · intro W hW v1 h1 K hK o ho
    injection ho with ho
    subst ho
    have hwW : Below w.heap.size w W := Below.trans (by go_grown) (hW.mono (by simp))
    obtain ⟨p1, c1, rfl, hr1⟩ := h1
    go_simp
    go_at_call 16
    refine (HWO2.out _ _ _ hr1).mono ?_
    rintro e w3 ⟨p3, c3, rfl, ho3, hb3⟩
    exact hK _ _ hb3 ⟨p3, c3, rfl, own_le ho3 hwW.size⟩
  · intro W hW v1 h1 K hK o ho
    injection ho with ho
    subst ho
    obtain ⟨p1, c1, rfl, ho1⟩ := h1
    go_simp
    exact hK _ _ (Below.refl _ _) ⟨p1, c1, rfl, ho1⟩
  · intro W hW v1 h1 v3 h3 v4 h4
    obtain ⟨p1, c1, rfl, -⟩ := h1
    obtain ⟨p3, c3, rfl, -⟩ := h3
    obtain ⟨p4, c4, rfl, ho4⟩ := h4
    have hwW : Below w.heap.size w W := Below.trans (by go_grown) (hW.mono (by simp))
    obtain ⟨hcW, -⟩ := bcell hW
    have b0 := (hcW w.heap.size 0 (by simp)).trans (show _ = some (Value.int .u64 (kh : Int)) by simp [go_sem])
    have b1 := (hcW w.heap.size 1 (by simp)).trans (show _ = some (Value.int .u64 (kl : Int)) by simp [go_sem])
    have b2 := (hcW w.heap.size 2 (by simp)).trans (show _ = some (Value.int .i64 kn) by simp [go_sem])
    show wpList _ _ _ _ _ _
    simp only [pickL, List.filterMap_nil]
    subst hNQ
    clear hW hcW
    go_wp2_with fail
    refine NoPanic.normal ?_
    by_cases hh : 0 ≤ hop
    · have hMe := HLM.out.1 hh
      go_wp2_with fail
      refine (HIN.out _ _ _ _ ho4).mono ?_
      rintro e w5 ⟨p5, c5, rfl, ho5, hb5⟩
      have hw5 := hwW.trans (hb5.mono hwW.size)
      rw [← hMe] at ho5
      rw [← hMe]
      have HME := Lib.hid hMe
      clear hMe ho4 hb5 b0 b1 b2
      have HRM := Lib.hid (Row.of_own ho5)
      have hlv : M.length ≤ 301 := hMl
      go_wp2_with fail
      refine (HS1.out _ hw5).mono ?_
      rintro e w7 ⟨p7, c7, rfl, ho7, hb7⟩
      have hw7 := (hw5).trans (hb7.mono (hw5).size)
      have hr7 := Row.of_own ho7
      have hm7 := HRM.out.below hb7
      clear ho7
      go_wp2_with fail
      refine (HS2.out _ _ _ hm7).mono ?_
      rintro e w8 ⟨p8, c8, rfl, ho8, hb8⟩
      have hw8 := hw7.trans (hb8.mono hw7.size)
      have hr8 := Row.of_own ho8
      have hr7 := hr7.below hb8
      clear ho8 hm7
      go_wp2_with fail
      refine (HOF.out _ _ _ _ _ hr7 hr8).mono ?_
      rintro e w9 ⟨p9, c9, rfl, ho9, hb9⟩
      have hw9 := hw8.trans (hb9.mono hw8.size)
      clear hr7 hr8
      go_wp2
      go_ret
      exact ⟨p9, c9, rfl, own_le ho9 hw8.size, hw9⟩
    · have hMe := HLM.out.2 (by omega)
      rw [← hMe] at ho4
      rw [← hMe]
      have HME := Lib.hid hMe
      clear hMe b0 b1 b2
      have HRM := Lib.hid (Row.of_own ho4)
      have hlv : M.length ≤ 301 := hMl
      go_wp2_with fail
      refine (HS1.out _ hwW).mono ?_
      rintro e w7 ⟨p7, c7, rfl, ho7, hb7⟩
      have hw7 := (hwW).trans (hb7.mono (hwW).size)
      have hr7 := Row.of_own ho7
      have hm7 := HRM.out.below hb7
      clear ho7
      go_wp2_with fail
      refine (HS2.out _ _ _ hm7).mono ?_
      rintro e w8 ⟨p8, c8, rfl, ho8, hb8⟩
      have hw8 := hw7.trans (hb8.mono hw7.size)
      have hr8 := Row.of_own ho8
      have hr7 := hr7.below hb8
      clear ho8 hm7
      go_wp2_with fail
      refine (HOF.out _ _ _ _ _ hr7 hr8).mono ?_
      rintro e w9 ⟨p9, c9, rfl, ho9, hb9⟩
      have hw9 := hw8.trans (hb9.mono hw8.size)
      clear hr7 hr8
      go_wp2
      go_ret
      exact ⟨p9, c9, rfl, own_le ho9 hw8.size, hw9⟩
end Go.Proofs.Ytlmampklgghngaa
/-
  What chapter 19's laws share: what is asked of the program's Of and Level; that a row is the same as itself; the document's example. No condition but those that stand in each.
-/
set_option linter.unusedSimpArgs false
set_option linter.unusedVariables false
namespace Go.Proofs.Ytlmampklgghngaa
open Go Go.RowKit Go.Sort M

/-- What the program's Of and Level hand back. -/
def OfC : Prop := ∀ (p q : Option Addr) (c d : Nat) (A B : List Rt) (W : World), Row W p (rcs A) → Row W q (rcs B) → (∀ x ∈ A, x.k.good) → (∀ x ∈ B, x.k.good) → (p = none → c = 0) → (q = none → d = 0) → A.length ≤ c → B.length ≤ d → A.length ≤ 4000 → B.length ≤ 4000 →
  Calls Try.prog 9 #[.slice p A.length c, .slice q B.length d] W fun e w' => NewChs 42 W w' e (ofS (sortR A) (sortR B))
def LevelC : Prop := ∀ (p : Option Addr) (c : Nat) (L : List Rt) (k : Ky) (hop low high : Int) (W : World), Row W p (rcs L) → (∀ x ∈ L, x.k.good) → k.good → (p = none → c = 0) → L.length ≤ c → L.length ≤ 300 →
  Calls Try.prog 11 #[.slice p L.length c, kyA k, .int .i64 hop, .int .i64 low, .int .i64 high] W fun e w' => NewChs 42 W w' e (ofS (setS (sortR L) low high) (setS (lvlM (sortR L) k hop) low high))
theorem neqC (a b : Nat) (n x y : Int) (w : World) : (binOp .neq 42 (.agg #[.int .u64 a, .int .u64 b, .int .i64 n, .int .i64 x, .int .i64 y]) (.agg #[.int .u64 a, .int .u64 b, .int .i64 n, .int .i64 x, .int .i64 y])).run Try.prog w = .ok (.bool false) w := by
  simp [go_sem]
set_option maxRecDepth 100000 in
set_option maxHeartbeats 2000000 in
theorem same19_any (p q : Option Addr) (c d : Nat) (X : List Ch) (w : World) (hX : Row w p (ccs X)) (hY : Row w q (ccs X)) (hl : X.length < 1048576) :
    Calls Try.prog 8 #[.slice p X.length c, .slice q X.length d] w fun e w' => e = .returned (.bool true) ∧ Below w.heap.size w w' := by
  have HX := Lib.hid hX
  have HY := Lib.hid hY
  clear hX hY
  go_enter Try.func8, Try.ntmps8
  go_wp2
  go_loopg [5] X.length (fun kx s5 wr => ∃ j : Nat, s5 = .int .i64 (j : Int) ∧ X.length - j ≤ kx ∧ j ≤ X.length ∧ Below w.heap.size w wr)
  case atStart => exact ⟨0, rfl, by omega, by omega, by go_grown⟩
  case round =>
    obtain ⟨j, rfl, k1, k2, hb⟩ := hrel
    by_cases hlt : j < X.length
    · obtain ⟨ga, oa, rfl, hga, a0, a1, a2, a3, a4⟩ := (HX.out.below hb).ch hlt
      obtain ⟨gb, ob, rfl, hgb, b0, b1, b2, b3, b4⟩ := (HY.out.below hb).ch hlt
      have hz0 := hb.size
      have i1 : (0 : Int) ≤ (j : Int) := by omega
      have i2 : (j : Int) < (X.length : Int) := by omega
      have hE := neqC X[j].k.h X[j].k.l X[j].k.n X[j].o X[j].n
      generalize X[j] = x at hE a0 a1 a2 a3 a4 b0 b1 b2 b3 b4
      obtain ⟨⟨h, l, n⟩, o, m⟩ := x
      simp only at hE a0 a1 a2 a3 a4 b0 b1 b2 b3 b4
      go_wp2_with fail
      have kg := cell_grow
      refine region_whole (by kernel_rfl) (by kernel_rfl) ?_
      repeat (any_goals (first | go_big_quiet_step (fail) | quiet_step (fail)))
      refine wpQuiet_nil ?_
      clear kg
      intro w6 hb6
      obtain ⟨hc6, hf6⟩ := bcell hb6
      have hw6 := hb.trans (hb6.mono hb.size)
      clear hc6 hf6 hb6
      go_wp2
      go_roundg (X.length - (j + 1))
      case measure => omega
      case rel => exact ⟨j + 1, by go_num, by omega, by omega, hw6⟩
    · go_wp2
      go_ret
      exact ⟨rfl, hb⟩
theorem alive19_math : ofS (sortR []) (sortR [⟨⟨0, 0, 0⟩, 6⟩]) = [⟨⟨0, 0, 0⟩, -1, 6⟩] ∧ ofS (sortR [⟨⟨0, 0, 0⟩, 6⟩]) (sortR [⟨⟨0, 0, 0⟩, 6⟩]) = [] := by
  refine ⟨?_, of_self _⟩
  rfl
set_option maxHeartbeats 1000000 in
theorem alive19_any (HO : OfC) (w : World) : Calls Try.prog 7 #[] w fun e w' => e = .returned (.bool true) ∧ Below w.heap.size w w' := by
  have hlit := fun W : World => World.ownsRow_lit (base := W.heap.size) (e := 38) (size := 4) W #[.int .u64 0, .int .u64 0, .int .i64 0, .int .i64 6] 1 (Nat.le_refl _) (by unfold maxLen; omega) rfl
  have hg : ∀ x ∈ [(⟨⟨0, 0, 0⟩, 6⟩ : Rt)], x.k.good := fun x hx => by simp at hx; subst hx; exact ⟨W64.mk (by decide), W64.mk (by decide)⟩
  have hn : ∀ (W : World) (p : Option Addr), Row W p (rcs [⟨⟨0, 0, 0⟩, 6⟩]) → p = none → 1 = 0 := fun W p h e => by subst e; rcases h with h | ⟨_, _, h, _⟩ <;> cases h
  have h1 := fun W (p : Option Addr) (h : Row W p (rcs [⟨⟨0, 0, 0⟩, 6⟩])) => HO none p 0 1 [] [⟨⟨0, 0, 0⟩, 6⟩] W (.inl rfl) h (fun x hx => by cases hx) hg (fun _ => rfl) (hn W p h) (Nat.le_refl _) (Nat.le_refl _) (by simp) (by simp)
  have h2 := fun W (p : Option Addr) (h : Row W p (rcs [⟨⟨0, 0, 0⟩, 6⟩])) => HO p p 1 1 [⟨⟨0, 0, 0⟩, 6⟩] [⟨⟨0, 0, 0⟩, 6⟩] W h h hg hg (hn W p h) (hn W p h) (Nat.le_refl _) (Nat.le_refl _) (by simp) (by simp)
  rw [alive19_math.1] at h1
  rw [alive19_math.2] at h2
  have H1 : Hid (∀ W (p : Option Addr), Row W p (rcs [⟨⟨0, 0, 0⟩, 6⟩]) → Calls Try.prog 9 #[.slice none 0 0, .slice p 1 1] W fun e w' => ∃ p c, e = .returned (.slice p 1 c) ∧ w'.ownsRow W.heap.size 42 5 (.slice p 1 c) 1 (ccs [⟨⟨0, 0, 0⟩, -1, 6⟩]) ∧ Below W.heap.size W w') := Lib.hid h1
  have H2 : Hid (∀ W (p : Option Addr), Row W p (rcs [⟨⟨0, 0, 0⟩, 6⟩]) → Calls Try.prog 9 #[.slice p 1 1, .slice p 1 1] W fun e w' => ∃ p c, e = .returned (.slice p 0 c) ∧ w'.ownsRow W.heap.size 42 5 (.slice p 0 c) 0 (ccs []) ∧ Below W.heap.size W w') := Lib.hid h2
  have HL := Lib.hid hlit
  clear h1 h2 hlit hg hn
  go_enter Try.func7, Try.ntmps7
  go_wp2_with fail
  have hr0 := Row.of_own (HL.out w)
  have HR0 : Hid (Row (w.alloc (.cells #[.int .u64 0, .int .u64 0, .int .i64 0, .int .i64 6] 38)) (some ⟨w.heap.size, 0, none⟩) (rcs [⟨⟨0, 0, 0⟩, 6⟩])) := Lib.hid hr0
  clear hr0
  refine (H1.out _ _ HR0.out).mono ?_
  rintro e w1 ⟨p1, c1, rfl, ho1, hb1⟩
  have hw1 : Below w.heap.size w w1 := Below.trans (by go_grown) (hb1.mono (by simp))
  obtain ⟨g, o, rfl, hg, -, -, -, x3, x4⟩ := (Row.of_own ho1).ch (L := [⟨⟨0, 0, 0⟩, -1, 6⟩]) (k := 0) (by simp)
  simp only [Nat.zero_mul, Nat.add_zero, List.getElem_cons_zero] at x3 x4
  have hr1 := HR0.out.below hb1
  clear ho1 hb1
  go_wp2_with fail
  refine (H2.out _ _ hr1).mono ?_
  rintro e w2 ⟨p2, c2, rfl, -, hb2⟩
  have x3 := (hb2.cell (p := ⟨g, o + 3, none⟩) hg).trans x3
  have x4 := (hb2.cell (p := ⟨g, o + 4, none⟩) hg).trans x4
  have hw2 := hw1.trans (hb2.mono hw1.size)
  clear hr1 hb2
  go_wp2
  go_ret
  exact ⟨rfl, hw2⟩
end Go.Proofs.Ytlmampklgghngaa
/-
  What chapter 18's laws share: what is asked of the program's Hop and Set; the document's example; an append of an argument to nil in a drawn region. No condition but those that stand in each.
-/
set_option linter.unusedSimpArgs false
set_option linter.unusedVariables false
namespace Go.Proofs.Ytlmampklgghngaa
open Go Go.RowKit Go.Sort M

def SetC : Prop := ∀ (p : Option Addr) (c : Nat) (L : List Rt) (low high : Int) (W : World), Row W p (rcs L) → (∀ x ∈ L, x.k.good) → (p = none → c = 0) → L.length ≤ c → L.length ≤ 4000 →
  Calls Try.prog 20 #[.slice p L.length c, .int .i64 low, .int .i64 high] W fun e w' => NewRts W w' e (setS (sortR L) low high)
theorem run_append_none18 {P : Program} (w : World) (t ty e : TypeId) (i : TypeInfo) (c : Nat) (ht : P.underlying t = some (.slice e)) (hi : P.info? e = some i) :
    (Builtin.append_ #[t, t] ty #[.slice none 0 0, .slice none 0 c]).run P w = .ok (.slice none 0 0) w := by
  simp [Builtin.append_, run_underlying ht, sizeOf, typeInfo, hi, Builtin.lenOf, Builtin.firstCells]
theorem own_cap18 {w : World} {B n m d k : Nat} {e : TypeId} {q : Option Addr} {xs : List Value} (h : w.ownsRow B e k (.slice q n d) m xs) : n ≤ d := by
  rcases h.2 with ⟨e1, _⟩ | ⟨g, cap, cur, e1, _, _, hc, _⟩
  · injection e1 with _ e2 e3
    omega
  · injection e1 with _ e2 e3
    omega
/-- An append of an argument to nil, one operation of whatever statement. -/
theorem wp_append_arg18 {o : Oper} {a : Act} {w : World} {K : Act → World → Prop} {Q : Exit → Act → World → Prop} (x : Operand)
    (ho : o.op = .call { callee := .builtin .append, args := #[.const (.slice none 0 0), x], argTypes := #[22, 22] }) (M : List Rt) (q : Option Addr) (c : Nat) (hx : a.eval x = .slice q M.length c)
    (hsrc : Row w q (rcs M)) (hlen : M.length ≤ 1099511627776)
    (h : ∀ p' c' w', Below w.heap.size w w' → Row w' p' (rcs M) → (p' = none → c' = 0) → M.length ≤ c' → K (a.put o.dst (.slice p' M.length c')) w') : o.wp Try.prog a w K Q := by
  cases q with
  | none =>
    have hM : M = [] := by
      rcases hsrc with h | ⟨g, o, h, -⟩
      · have := rcs_len M
        rw [h] at this
        exact List.length_eq_zero_iff.1 (by simp at this; omega)
      · cases h
    subst hM
    obtain ⟨i0, hi0, iz0, iz1, iz2⟩ := info_parts infoR
    have hrun := run_append_none18 w 22 o.type 38 i0 c Try.underlying22 hi0
    have hx : a.eval x = .slice none 0 c := hx
    have hs : a.eval (.const (.slice none 0 0)) = .slice none 0 0 := rfl
    unfold Oper.wp
    simp [execOp, ho, resolve, invoke, builtin, hs, hx, hrun, Result.andThen]
    exact h none 0 w (Below.refl _ _) (.inl rfl) (fun _ => rfl) (Nat.le_refl _)
  | some ad =>
    refine wp_append_rt (.const (.slice none 0 0)) x ho w.heap.size (.slice none 0 0) [] M rfl (World.ownsRow_nil _ _ _ _) ad M.length c rfl hx ?_ (by simp; omega) (Nat.le_refl _) ?_
    · intro j u hu
      rcases hsrc with h | ⟨g, o, h, hg, hc⟩
      · rw [h] at hu
        cases hu
      · injection h with h
        subst h
        rw [show (⟨g, o, none⟩ : Addr).add j = ⟨g, o + j, none⟩ by unfold Addr.add; split <;> simp_all]
        exact hc j u hu
    · intro v' w' h1 h2 _
      rw [List.nil_append] at h1
      obtain ⟨p', c', rfl⟩ := own_slice h1
      refine h p' c' w' ((Below.refl w.heap.size w).grown h2 (Nat.le_refl _) (fun k e => by simp [Value.ownBlock] at e)) (Row.of_own h1) (fun e => ?_) (own_cap18 h1)
      subst e
      rcases h1.2 with ⟨e, -⟩ | ⟨g, cap, cur, e, -⟩
      · injection e
      · injection e with e
        cases e
theorem wpList_append_arg18 {ops : Array Oper} {rest : List Oper} {o : Oper} {a : Act} {w : World} {Q : Exit → Act → World → Prop} (hgd : o.guard = none) (x : Operand)
    (ho : o.op = .call { callee := .builtin .append, args := #[.const (.slice none 0 0), x], argTypes := #[22, 22] }) (M : List Rt) (q : Option Addr) (c : Nat) (hx : a.eval x = .slice q M.length c)
    (hsrc : Row w q (rcs M)) (hlen : M.length ≤ 1099511627776)
    (h : ∀ p' c' w', Below w.heap.size w w' → Row w' p' (rcs M) → (p' = none → c' = 0) → M.length ≤ c' → wpList Try.prog ops Q rest (a.put o.dst (.slice p' M.length c')) w') : wpList Try.prog ops Q (o :: rest) a w :=
  wpList_plain hgd fun K hK => wp_append_arg18 x ho M q c hx hsrc hlen fun p' c' w' h1 h2 h3 h4 => hK _ _ (h p' c' w' h1 h2 h3 h4)
theorem alive18_math : setS (sortR [⟨⟨0, 0, 0⟩, 6⟩]) (-1) 1 = [⟨⟨0, 0, 1⟩, 6⟩, ⟨⟨9223372036854775808, 0, 1⟩, 6⟩] := by decide +kernel
end Go.Proofs.Ytlmampklgghngaa
