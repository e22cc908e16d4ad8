/-
  What the program's writer of numbers with colons between hands back: onto a row of the call's own. It asks what Kit tells of the library's variables.
-/
import Derived.Test.YtegaeifmikfpcaaDoorW3h
set_option linter.unusedSimpArgs false
set_option linter.unusedVariables false
namespace Go.Proofs.YtegaeifmikfpcaaDoor
open Go.RowKit Go.Sort M

set_option maxHeartbeats 1000000 in
theorem app16_any (B n u : Nat) (hu : u < 65536) (sv : Value) (xs : List Value) (w : World) (hown : w.ownsRow B 5 1 sv n xs) (hB : B ≤ w.heap.size) (hlim : n ≤ 1000000) (hk : Kit B w) :
    Calls Tryd.prog 41 #[sv, .int .u64 (u : Int), .int .i64 16] w fun e w' => ∃ v', e = .returned v' ∧ w'.ownsRow B 5 1 v' (n + (hexS u).length) (xs ++ Lib.byteCells (hexS u)) ∧ Below B w w' := by
  have HF := Lib.hid (fmt16_any B n u hu sv xs w hown hB hlim hk)
  have hi : Calls Tryd.prog 50 #[sv, .int .u64 (u : Int), .int .i64 16] w fun e w' => ∃ v', e = .returned v' ∧ w'.ownsRow B 5 1 v' (n + (hexS u).length) (xs ++ Lib.byteCells (hexS u)) ∧ Below B w w' := by
    clear hu hown hB hlim hk
    go_enter Tryd.func50, Tryd.ntmps50
    go_wp2_with fail
    refine HF.out.mono ?_
    rintro e w1 ⟨v1, rfl, h1, h2⟩
    have HB := Lib.hid (And.intro h1 h2)
    clear h1 h2
    go_wp2
    go_ret
    exact ⟨_, rfl, HB.out⟩
  have HI := Lib.hid hi
  clear hi HF hu hown hB hlim hk
  go_enter Tryd.func41, Tryd.ntmps41
  go_wp2_with fail
  refine HI.out.mono ?_
  rintro e w1 ⟨v1, rfl, h1, h2⟩
  have HB := Lib.hid (And.intro h1 h2)
  clear h1 h2
  go_wp2
  go_ret
  exact ⟨_, rfl, HB.out⟩
theorem own_plus {w : World} {B : Nat} {v : Value} {L D : List UInt8} {n : Nat} {xs : List Value} (h : w.ownsRow B 5 1 v n xs) (hn : n = (L ++ D).length) (hx : xs = Lib.byteCells (L ++ D)) :
    w.ownsRow B 5 1 v (L ++ D).length (Lib.byteCells (L ++ D)) := by subst hn hx; exact h
theorem append_big {n : Nat} (h : n ≤ 1000000) : n ≤ maxLen := by unfold maxLen; omega
theorem append_big' {n : Nat} (h : n ≤ 1000000) : n ≤ 140737488355328 := by omega
theorem str_cells (D : List UInt8) : Lib.strCells ⟨D.toArray⟩ = Lib.byteCells D := by rw [Lib.strCells_eq]
theorem joinH_len : ∀ (l : List Nat), All16 l → (joinH l).length ≤ 5 * l.length
  | [], _ => by simp [joinH]
  | [x], h => by have := (hexS_get x (h x (by simp))).2.2.1; simp only [joinH, List.length_cons, List.length_nil]; omega
  | x :: y :: l, h => by
    have h1 := (hexS_get x (h x (by simp))).2.2.1
    have h2 := joinH_len (y :: l) (fun z hz => h z (by simp only [List.mem_cons] at hz ⊢; exact Or.inr hz))
    simp only [joinH, List.length_append, List.length_cons] at h2 ⊢
    omega
set_option maxHeartbeats 2000000 in
set_option maxRecDepth 100000 in
theorem clist_any (B : Nat) (L : List UInt8) (l : List Nat) (hl : All16 l) (h8 : l.length ≤ 8) (hL : L.length ≤ 1000) (g o cap : Nat) (hg : g < B) (sv : Value) (w : World) (hown : w.ownsRow B 5 1 sv L.length (Lib.byteCells L)) (hB : B ≤ w.heap.size)
    (hc : ∀ j (h : j < l.length), w.cell? ⟨g, o + j, none⟩ = some (.int .u16 (l[j] : Nat))) (hk : Kit B w) :
    Calls Tryd.prog 24 #[sv, .slice (some ⟨g, o, none⟩) l.length cap] w fun e w' => ∃ v', e = .returned v' ∧ w'.ownsRow B 5 1 v' (L ++ joinH l).length (Lib.byteCells (L ++ joinH l)) ∧ Below B w w' := by
  have HK := Lib.hid hk
  have HC := Lib.hid hc
  have HL := Lib.hid hl
  obtain ⟨i0, hi0, iz0, iz1, iz2⟩ := info_parts infoB
  clear hk hc hl
  go_enter Tryd.func24, Tryd.ntmps24
  go_wp2
  go_loopw [0, 9] (fun v vi wr => ∃ (k : Nat) (X : List UInt8), k ≤ l.length ∧ vi = .int .i64 k ∧ Hid (X = L ++ joinH (l.take k)) ∧ X.length ≤ 1040 ∧ wr.ownsRow B 5 1 v X.length (Lib.byteCells X) ∧ Below B w wr ∧ B ≤ wr.heap.size) (fun _ vi _ => l.length - (intOf vi).toNat)
  case atStart => exact ⟨0, L, by omega, rfl, Lib.hid (by simp [joinH]), by omega, hown, Below.refl _ _, hB⟩
  case round =>
    clear hown
    obtain ⟨k, X, hk, rfl, HX, hX, hown, hw0, hBr⟩ := hrel
    by_cases hlt : k < l.length
    · have hcell : wr.cell? ⟨g, o + k, none⟩ = some (.int .u16 (l[k] : Nat)) := by rw [hw0.cell (by simpa using hg)]; exact HC.out k hlt
      have hx16 : l[k] < 65536 := HL.out _ (List.getElem_mem hlt)
      have hjt := joinH_take hlt
      have hjl := joinH_len _ (HL.out.take (k + 1))
      have hXL : X.length + (if k = 0 then 0 else 1) + (hexS l[k]).length ≤ 1040 := by
        have h1 := congrArg List.length HX.out
        have h2 := congrArg List.length hjt
        simp only [List.length_append] at h1 h2
        have h3 : (l.take (k + 1)).length ≤ 8 := by simp; omega
        by_cases h0 : k = 0
        · rw [if_pos h0] at h2 ⊢; simp at h2; omega
        · rw [if_neg h0] at h2 ⊢; simp at h2; omega
      have hnew : ∀ Y, Y = X ++ (if k = 0 then [] else [58]) ++ hexS l[k] → Y = L ++ joinH (l.take (k + 1)) := by
        intro Y hY
        rw [hY, hjt, HX.out]; simp
      have HN := Lib.hid (And.intro hnew hXL)
      clear hnew hXL hjt hjl
      generalize hxx : l[k] = x at *
      clear hxx
      by_cases h0 : k = 0
      · subst h0
        have hcell : wr.cell? ⟨g, o, none⟩ = some (.int .u16 (x : Int)) := by simpa using hcell
        go_wp2_with fail
        refine (app16_any B X.length x hx16 _ _ _ hown hBr (by omega) (HK.out.on hw0)).mono ?_
        rintro e w2 ⟨v2, rfl, hown2, hb2⟩
        have hb2' := hw0.trans hb2
        have hB2 : B ≤ w2.heap.size := Nat.le_trans hBr hb2.size
        have hown3 := own_plus (L := X) (D := hexS x) hown2 (by simp) (by rw [Lib.byteCells_append])
        clear hown2 hb2 hown
        go_wp2
        go_roundw
        case rel =>
          refine ⟨0 + 1, X ++ hexS x, by omega, by go_num, Lib.hid (HN.out.1 _ (by simp)), ?_, hown3, hb2', hB2⟩
          have := HN.out.2
          simp at this ⊢; omega
        case measure => simp [intOf]; omega
      · have hpos : decide ((0 : Int) < (k : Int)) = true := by simp; omega
        go_wp2_with (at_builtin; go_loud (refine Lib.wpList_append_own_string _ rfl _ _ 59 9 rfl B 5 i0 Tryd.underlying59 Tryd.underlying9 hi0 iz0 iz1 iz2 _ _ _ rfl hown _ rfl (append_big (by show X.length + 1 ≤ 1000000; omega)) (append_big' (by show X.length + 1 ≤ 1000000; omega)) hBr ?_))
        intro v1 w1 hown1 hg1 _
        have hown1 := own_plus (L := X) (D := [58]) hown1 (by first | (simp; done) | (simp; rfl)) (by rw [Lib.byteCells_append]; rfl)
        have hw1 : Below B w w1 := hw0.grown hg1 hBr (fun j hj => (hown.lt j hj).1)
        have hB1 : B ≤ w1.heap.size := Nat.le_trans hBr hg1.size
        clear hown hg1
        go_wp2_with fail
        refine (app16_any B (X ++ [58]).length x hx16 _ _ _ hown1 hB1 (by simp; omega) (HK.out.on hw1)).mono ?_
        rintro e w2 ⟨v2, rfl, hown2, hb2⟩
        have hb2' := hw1.trans hb2
        have hB2 : B ≤ w2.heap.size := Nat.le_trans hB1 hb2.size
        have hown3 := own_plus (L := X ++ [58]) (D := hexS x) hown2 (by simp <;> omega) (by rw [Lib.byteCells_append (X ++ [58])])
        clear hown2 hb2 hown1
        go_wp2
        go_roundw
        case rel =>
          refine ⟨k + 1, X ++ [58] ++ hexS x, by omega, by go_num, Lib.hid (HN.out.1 _ (by rw [if_neg h0])), ?_, hown3, hb2', hB2⟩
          have := HN.out.2
          rw [if_neg h0] at this
          simp; omega
        case measure => simp [intOf]; omega
    · have hkk : k = l.length := by omega
      subst hkk
      have hX' : X = L ++ joinH l := by have := HX.out; rwa [List.take_length] at this
      rw [hX'] at hown
      have HO := Lib.hid hown
      clear hown hX' HX
      go_wp2
      go_ret
      exact ⟨_, rfl, HO.out, hw0⟩
end Go.Proofs.YtegaeifmikfpcaaDoor
