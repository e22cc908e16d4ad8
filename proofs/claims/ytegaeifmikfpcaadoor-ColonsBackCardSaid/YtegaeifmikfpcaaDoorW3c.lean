/-
  What the program's reader of numbers with colons between, and of a length, hands back. No condition but those that stand in each.
-/
import Derived.Test.YtegaeifmikfpcaaDoorW3b
import Derived.Test.YtegaeifmikfpcaaDoorW2e
import Derived.Test.YtegaeifmikfpcaaDoorOwn
set_option linter.unusedSimpArgs false
set_option linter.unusedVariables false
namespace Go.Proofs.YtegaeifmikfpcaaDoor
open Go.RowKit Go.Sort M

def sizeOfV : Value → Nat
  | .string b => b.size
  | _ => 0
def boolOfV : Value → Bool
  | .bool b => b
  | _ => false
theorem sizeOfV_str (l : List UInt8) : sizeOfV (.string ⟨l.toArray⟩) = l.length := by show l.toArray.size = _; simp
def u16V (x : Nat) : Value := .int .u16 (x : Int)
theorem infoH : (Tryd.prog.info? 54).map (fun i => (i.zero, i.size, i.bytes)) = some (some (.int .u16 0), 1, 2) := by kernel_rfl
theorem cutB_less {c : UInt8} {l d r : List UInt8} {f : Bool} (h : cutB c l = (d, r, f)) : d.length ≤ l.length ∧ (f = true → r.length < l.length) ∧ r.length ≤ l.length := by
  rcases parts_of c l with h1 | ⟨a, t, rfl, h1⟩
  · rw [cutB_none h1] at h
    simp only [Prod.mk.injEq] at h
    obtain ⟨rfl, rfl, rfl⟩ := h
    simp
  · rw [cutB_at h1] at h
    simp only [Prod.mk.injEq] at h
    obtain ⟨rfl, rfl, rfl⟩ := h
    simp; omega
theorem num8_bad {L : List Nat} {d : List UInt8} {r : List (List UInt8)} {R : Option (List Nat)} (h : Hid (numGo8 L (d :: r) = R)) (hd : hexV d = none ∨ L.length = 8) : R = none := by
  have h := h.out
  rw [numGo8] at h
  rcases hd with hd | hd
  · rw [hd] at h; exact h.symm
  · cases hx : hexV d with
    | none => rw [hx] at h; exact h.symm
    | some x => rw [hx] at h; simp [hd] at h; exact h.symm
theorem num8_on {L : List Nat} {d : List UInt8} {r : List (List UInt8)} {R : Option (List Nat)} {x : Nat} (h : Hid (numGo8 L (d :: r) = R)) (hd : hexV d = some x) (h8 : L.length ≠ 8) : Hid (numGo8 (L ++ [x]) r = R) := by
  have h := h.out
  rw [numGo8, hd] at h
  simp only [h8, if_false] at h
  exact Lib.hid h
theorem own16_snoc {w : World} {B : Nat} {v : Value} {L : List Nat} {x : Nat} (h : w.ownsRow B 54 1 v (L.length + 1) (L.map u16V ++ [.int .u16 (x : Int)])) : w.ownsRow B 54 1 v (L ++ [x]).length ((L ++ [x]).map u16V) := by
  simpa [u16V] using h
/-- A list of numbers of the call's own, or none. -/
def Lists (R : Option (List Nat)) (B : Nat) (v : Value) (w : World) : Prop := match R with | none => True | some L => w.ownsRow B 54 1 v L.length (L.map u16V)
set_option maxHeartbeats 2000000 in
theorem cnumbers_any (l : List UInt8) (hl : l.length ≤ 1000000) (w : World) (hk : Kit w.heap.size w) :
    Calls Tryd.prog 36 #[.string ⟨l.toArray⟩] w fun e w' => ∃ v, e = .returned (.tuple #[v, .bool (numsV l).isSome]) ∧ Lists (numsV l) w.heap.size v w' ∧ Below w.heap.size w w' := by
  generalize hR : numsV l = R
  have h0 : Hid (numGo8 [] (if (!l.isEmpty) = true then splitB 58 l else []) = R) := by
    refine Lib.hid ?_
    rw [← hR]
    unfold numsV
    cases l with
    | nil => rfl
    | cons a t => rfl
  clear hR
  have HK := Lib.hid hk
  clear hk
  obtain ⟨i0, hi0, iz0, iz1, iz2⟩ := info_parts infoH
  have HL := Lib.hid hl
  clear hl
  go_enter Tryd.func36, Tryd.ntmps36
  go_wp2
  go_loopw [0, 4, 5] (fun s out more wr => ∃ (t : List UInt8) (b : Bool) (L : List Nat), s = .string ⟨t.toArray⟩ ∧ more = .bool b ∧ L.length ≤ 8 ∧ (∃ p cap, out = .slice p L.length cap) ∧ wr.ownsRow w.heap.size 54 1 out L.length (L.map u16V) ∧ Below w.heap.size w wr ∧ t.length ≤ 1000000 ∧
      Hid (numGo8 L (if b = true then splitB 58 t else []) = R)) (fun s _ more _ => if boolOfV more = true then sizeOfV s + 1 else 0)
  case atStart => exact ⟨l, !l.isEmpty, [], rfl, rfl, by simp, ⟨none, 0, rfl⟩, World.ownsRow_nil _ _ _ _, Below.refl _ _, HL.out, h0⟩
  case round =>
    clear h0 HL
    obtain ⟨t, b, L, rfl, rfl, hL8, ⟨p, cap, rfl⟩, hown, hw0, ht, hrest⟩ := hrel
    cases b
    · have hR : R = some L := hrest.out.symm
      subst hR
      clear hrest
      go_wp2
      go_ret2
      exact ⟨_, rfl, hown, hw0⟩
    · obtain ⟨d, r, f, hc⟩ : ∃ d r f, cutB 58 t = (d, r, f) := ⟨_, _, _, rfl⟩
      obtain ⟨hld, hlr, hlr2⟩ := cutB_less hc
      have hC := scut_l (by unfold maxLen; omega) hc
      simp only [if_true] at hrest
      rw [splitB_cut hc] at hrest
      have HC := Lib.hid hC
      clear hC hc
      cases hd : hexV d with
      | none =>
        have hR := num8_bad hrest (Or.inl hd)
        subst hR
        have hN := number_bad hd (by omega)
        have HN := Lib.hid hN
        clear hN hrest hd
        go_wp2_with fail
        refine (HC.out _).mono ?_
        rintro e w1 ⟨rfl, hb1⟩
        have hw1 := hw0.trans (hb1.mono hw0.size)
        go_wp2_with fail
        refine (HN.out _ (HK.out.up hw1)).mono ?_
        rintro e w2 ⟨rfl, hb2⟩
        have hw2 := hw1.trans (hb2.mono hw1.size)
        go_wp2
        go_ret2
        exact ⟨_, rfl, trivial, hw2⟩
      | some x =>
        have hN := number_ok hd
        have HN := Lib.hid hN
        clear hN
        by_cases h8 : L.length = 8
        · have hR := num8_bad hrest (Or.inr h8)
          subst hR
          have e8 : ((L.length : Int) == 8) = true := by simp; omega
          clear hrest hd
          go_wp2_with fail
          refine (HC.out _).mono ?_
          rintro e w1 ⟨rfl, hb1⟩
          have hw1 := hw0.trans (hb1.mono hw0.size)
          go_wp2_with fail
          refine (HN.out _).mono ?_
          rintro e w2 ⟨rfl, hb2⟩
          have hw2 := hw1.trans (hb2.mono hw1.size)
          go_wp2
          go_ret2
          exact ⟨_, rfl, trivial, hw2⟩
        · have hX := num8_on hrest hd h8
          have e8 : ((L.length : Int) == 8) = false := by simp; omega
          clear hrest hd
          go_wp2_with fail
          refine (HC.out _).mono ?_
          rintro e w1 ⟨rfl, hb1⟩
          have hw1 := hw0.trans (hb1.mono hw0.size)
          go_wp2_with fail
          refine (HN.out _).mono ?_
          rintro e w2 ⟨rfl, hb2⟩
          have hw2 := hw1.trans (hb2.mono hw1.size)
          have hown2 := own_below (own_below hown hb1) hb2
          clear hown
          go_wp2_with (at_builtin; go_loud (refine wpList_append_own _ rfl (.tmp 30) (.tmp 32) 61 rfl w.heap.size 54 i0 _ 1 2 Tryd.underlying61 hi0 iz0 iz1 iz2 rfl (by decide) _ _ _ rfl (hown2.alloc _) ⟨w2.heap.size, 0, none⟩ 1 1 [.int .u16 (x : Int)] rfl rfl (one_news (by simp [go_sem])) (by simp [Value.oneCell']) (by unfold maxLen; omega) (by omega) (by have := hw2.size; simp; omega) ?_))
          intro v3 w3 hown3 hg3 _
          have hown4 := own16_snoc hown3
          have hw3 : Below w.heap.size w w3 := (hw2.alloc hw2.size _).grown hg3 (by have := hw2.size; simp; omega) (fun j hj => (hown2.lt j hj).1)
          have hsl := own_slice hown4
          clear hown3 hg3 hown2 hw0 hw1 hw2 hb1 hb2
          go_wp2
          go_roundw
          case rel => exact ⟨r, f, L ++ [x], rfl, rfl, by simp; omega, hsl, hown4, hw3, by omega, hX⟩
          case measure =>
            cases f
            · simp [boolOfV]
            · have := hlr rfl
              simp only [sizeOfV_str, boolOfV, if_true]; omega
end Go.Proofs.YtegaeifmikfpcaaDoor
