/-
  What the reference's reader of eight numbers hands back: a new list. It asks that the text is no longer than a hundred thousand bytes.
-/
import Derived.Test.YtegaeifmikfpcaaDoorW3n
import Derived.Maps.AppendAt
import Derived.Laws.AppendOwnNone
set_option linter.unusedSimpArgs false
set_option linter.unusedVariables false
namespace Go.Proofs.YtegaeifmikfpcaaDoor
open Go.RowKit Go.Sort M

def lenV : Value → Nat
  | .slice _ n _ => n
  | _ => 0
theorem dbl_room (l : List UInt8) (h : 0 ≤ dblI l) : (dblI l).toNat + 2 ≤ l.length := by
  have := Lib.index_room l [58, 58] h
  unfold dblI at *
  simp at this; omega
theorem ext_take (s : ByteArray) (i : Nat) : s.extract 0 i = ⟨(s.data.toList.take i).toArray⟩ := by
  rw [ba_of (s.extract 0 i), Lib.extract_data]; simp
theorem ext_drop (s : ByteArray) (i : Nat) : s.extract i s.size = ⟨(s.data.toList.drop i).toArray⟩ := by
  rw [ba_of (s.extract i s.size), Lib.extract_to_end]
theorem groupV_len {l : List UInt8} {x : List Nat} (h : groupV l = some x) : x.length ≤ l.length + 1 := by
  unfold groupV at h
  split at h
  · cases h; simp
  · have := grpGo_len _ _ _ h
    have := (splitB_len 58 l).1
    simp at *; omega
set_option maxHeartbeats 2000000 in
set_option maxRecDepth 100000 in
theorem rreadWords_any (s : ByteArray) (hs : s.size ≤ 100000) (w : World) :
    Calls Tryd.prog 20 #[.string s] w fun e w' => ∃ v, e = .returned (.tuple #[v, .bool (wordsV s.data.toList).isSome]) ∧ (∀ L, wordsV s.data.toList = some L → w'.ownsRow w.heap.size 3 1 v L.length (L.map intV)) ∧ Below w.heap.size w w' := by
  have hlen : s.data.toList.length = s.size := by simp
  have hd := rdouble_any s (by omega)
  by_cases h0 : 0 ≤ dblI s.data.toList
  · have hroom := dbl_room s.data.toList h0
    have hwv : wordsV s.data.toList = fillV (groupV (s.data.toList.take (dblI s.data.toList).toNat)) (groupV (s.data.toList.drop ((dblI s.data.toList).toNat + 2))) := by unfold wordsV; rw [if_pos h0]
    rw [hwv]
    obtain ⟨i, hi⟩ : ∃ i : Nat, (i : Int) = dblI s.data.toList := ⟨(dblI s.data.toList).toNat, by omega⟩
    rw [← hi] at hd hroom ⊢
    rw [Int.toNat_natCast] at hroom ⊢
    have hG1 := fun w' => rgroup_any (s.data.toList.take i) (by simp; omega) w'
    have hG2 := fun w' => rgroup_any (s.data.toList.drop (i + 2)) (by simp; omega) w'
    rw [← ext_take] at hG1
    rw [← ext_drop] at hG2
    have hroom : i + 2 ≤ s.size := by omega
    have hw2 : IntKind.i64.wrap ((i : Int) + 2) = ((i + 2 : Nat) : Int) := by rw [IntWalk.i64_in _ (by omega)]; omega
    have hb1 : ∀ L, groupV (s.data.toList.take i) = some L → L.length ≤ 100001 := fun L h => by
      have := groupV_len h
      simp at this; omega
    have hb2 : ∀ L, groupV (s.data.toList.drop (i + 2)) = some L → L.length ≤ 100001 := fun L h => by
      have := groupV_len h
      simp at this; omega
    generalize groupV (s.data.toList.take i) = R1 at hG1 hb1 ⊢
    generalize groupV (s.data.toList.drop (i + 2)) = R2 at hG2 hb2 ⊢
    have HBD := Lib.hid (And.intro hb1 hb2)
    clear hb1 hb2
    have HD := Lib.hid hd
    have HG1 := Lib.hid hG1
    have HG2 := Lib.hid hG2
    clear hd hG1 hG2 hwv h0 hi hlen
    cases R1 with
    | none =>
      go_enter Tryd.func20, Tryd.ntmps20
      go_wp2_with fail
      refine (HD.out _).mono ?_
      rintro e w1 ⟨rfl, hb1⟩
      go_wp2_with fail
      refine (HG1.out _).mono ?_
      rintro e w2 ⟨v1, rfl, hl1, hb2⟩
      have hw2 := hb1.trans (hb2.mono hb1.size)
      go_wp2_with fail
      refine (HG2.out _).mono ?_
      rintro e w3 ⟨v2, rfl, hl2, hb3⟩
      have hw3 := hw2.trans (hb3.mono hw2.size)
      go_wp2
      go_ret2
      exact ⟨_, rfl, fun L h => (by cases h), hw3⟩
    | some L1 =>
      cases R2 with
      | none =>
        go_enter Tryd.func20, Tryd.ntmps20
        go_wp2_with fail
        refine (HD.out _).mono ?_
        rintro e w1 ⟨rfl, hb1⟩
        go_wp2_with fail
        refine (HG1.out _).mono ?_
        rintro e w2 ⟨v1, rfl, hl1, hb2⟩
        have hw2 := hb1.trans (hb2.mono hb1.size)
        go_wp2_with fail
        refine (HG2.out _).mono ?_
        rintro e w3 ⟨v2, rfl, hl2, hb3⟩
        have hw3 := hw2.trans (hb3.mono hw2.size)
        go_wp2
        go_ret2
        exact ⟨_, rfl, fun L h => (by cases h), hw3⟩
      | some L2 =>
        by_cases h7 : L1.length + L2.length ≤ 7
        · have hR : fillV (some L1) (some L2) = some (L1 ++ List.replicate (8 - (L1.length + L2.length)) 0 ++ L2) := by simp only [fillV]; rw [if_pos h7]
          rw [hR]
          clear hR
          obtain ⟨i0, hi0, iz0, iz1, iz2⟩ := info_parts infoN
          go_enter Tryd.func20, Tryd.ntmps20
          go_wp2_with fail
          refine (HD.out _).mono ?_
          rintro e w1 ⟨rfl, hb1⟩
          go_wp2_with fail
          refine (HG1.out _).mono ?_
          rintro e w2 ⟨v1, rfl, hl1, hb2⟩
          have hw2 := hb1.trans (hb2.mono hb1.size)
          go_wp2_with fail
          refine (HG2.out _).mono ?_
          rintro e w3 ⟨v2, rfl, hl2, hb3⟩
          have hw3 := hw2.trans (hb3.mono hw2.size)
          have hown1 : w2.ownsRow w1.heap.size 3 1 v1 L1.length (L1.map intV) := hl1
          have hown2 : w3.ownsRow w2.heap.size 3 1 v2 L2.length (L2.map intV) := hl2
          have hdis : v2.ownBlock = none ∨ v2.ownBlock ≠ v1.ownBlock := by
            cases hb : v2.ownBlock with
            | none => exact Or.inl rfl
            | some k =>
              right
              intro e
              have h2 := (hown2.lt k hb).1
              have h1 := (hown1.lt k e.symm).2
              omega
          have hown1' := own_le (own_below hown1 hb3) hb1.size
          have hown2' := own_le hown2 hw2.size
          obtain ⟨p1, k1, rfl⟩ := own_slice hown1'
          obtain ⟨p2, k2, rfl⟩ := own_slice hown2'
          have h7i : ¬ (7 : Int) < (L1.length : Int) + (L2.length : Int) := by omega
          have hz1 := hw2.size
          clear hl1 hl2 hown1 hown2 hb1 hb2 hb3 hw2
          go_wp2
          go_loopw [7] (fun v wr => ∃ (p : Option Addr) (c : Nat) (L : List Nat), v = .slice p L.length c ∧ L1.length ≤ L.length ∧ L.length + L2.length ≤ 8 ∧ Hid (L = L1 ++ List.replicate (L.length - L1.length) 0) ∧ wr.ownsRow w.heap.size 3 1 (.slice p L.length c) L.length (L.map intV) ∧
              wr.ownsRow w.heap.size 3 1 (.slice p2 L2.length k2) L2.length (L2.map intV) ∧ ((Value.slice p2 L2.length k2).ownBlock = none ∨ (Value.slice p2 L2.length k2).ownBlock ≠ (Value.slice p L.length c).ownBlock) ∧ Below w.heap.size w wr) (fun v _ => 8 - lenV v)
          case atStart => exact ⟨p1, k1, L1, rfl, Nat.le_refl _, by omega, Lib.hid (by simp), hown1', hown2', hdis, hw3⟩
          case round =>
            clear hown1' hown2' hdis hw3
            obtain ⟨p, c, L, rfl, hL1, hL8, HL, hown, hown2, hdis, hw0⟩ := hrel
            have hz0 := hw0.size
            by_cases hlt : L.length + L2.length < 8
            · have hlti : (L.length : Int) + (L2.length : Int) < 8 := by omega
              go_wp2_with (at_builtin; go_loud (refine wpList_append_own_at _ rfl (.tmp 62) (.tmp 63) 40 rfl w.heap.size 3 i0 _ 1 8 Tryd.underlying40 hi0 iz0 iz1 iz2 rfl (by decide) _ _ _ rfl (hown.alloc _) ⟨wr.heap.size, 0, none⟩ 1 1 [.int .i64 ((0 : Nat) : Int)] rfl rfl (one_news (by simp [go_sem])) (by simp [Value.oneCell']) (by unfold maxLen; omega) (by omega) (by simp; omega) ?_))
              intro v3 w3' hown3 hg3 _ hat
              have hown4 := ownI_snoc hown3
              have hown2' := (hown2.alloc (.cells #[.int .i64 0] 3)).kept hg3 hdis
              have hdis' : (Value.slice p2 L2.length k2).ownBlock = none ∨ (Value.slice p2 L2.length k2).ownBlock ≠ v3.ownBlock := by
                rcases hat with hat | hat
                · rw [hat]; exact hdis
                · cases hb : (Value.slice p2 L2.length k2).ownBlock with
                  | none => exact Or.inl rfl
                  | some q =>
                    right
                    rw [hat]
                    intro e
                    have := (hown2.lt q hb).2
                    injection e with e
                    omega
              have hw3' : Below w.heap.size w w3' := (hw0.alloc hz0 _).grown hg3 (by simp; omega) (fun j hj => (hown.lt j hj).1)
              obtain ⟨p', c', rfl⟩ := own_slice hown4
              have hLL : (L ++ [0]).length = L.length + 1 := by simp
              have HN : Hid (L ++ [0] = L1 ++ List.replicate ((L ++ [0]).length - L1.length) 0) := Lib.hid (by
                rw [hLL, show L.length + 1 - L1.length = (L.length - L1.length) + 1 by omega, List.replicate_succ', ← List.append_assoc, ← HL.out])
              clear hown3 hg3 hown hown2 hdis hat hw0
              go_wp2
              go_roundw
              case rel => exact ⟨p', c', L ++ [0], rfl, by omega, by omega, HN, hown4, hown2', hdis', hw3'⟩
              case measure => simp [lenV]; omega
            · have h8 : L.length + L2.length = 8 := by omega
              have hfin : Hid (L ++ L2 = L1 ++ List.replicate (8 - (L1.length + L2.length)) 0 ++ L2) := Lib.hid (by
                rw [show 8 - (L1.length + L2.length) = L.length - L1.length by omega, ← HL.out])
              have hlti : ¬ (L.length : Int) + (L2.length : Int) < 8 := by omega
              cases p2 with
              | none =>
                have hL2 : L2 = [] ∧ k2 = 0 := by
                  rcases hown2.2 with ⟨e, h0⟩ | ⟨g, cap, cur, e, _⟩
                  · injection e with e1 e2 e3
                    exact ⟨List.eq_nil_of_length_eq_zero h0, e3⟩
                  · cases e
                obtain ⟨rfl, rfl⟩ := hL2
                have HO := Lib.hid hown
                rw [List.append_nil] at hfin
                go_wp2_with (at_builtin; go_loud (refine wpList_append_own_none rfl (.tmp 65) (.tmp 66) 40 rfl w.heap.size 3 i0 1 Tryd.underlying40 hi0 _ _ _ rfl hown rfl ?_))
                clear hown hown2
                go_wp2
                go_ret2
                refine ⟨_, rfl, ?_, hw0⟩
                have key : ∀ (vv : Value) (A B : List Nat), A = B → wr.ownsRow w.heap.size 3 1 vv A.length (A.map intV) → wr.ownsRow w.heap.size 3 1 vv B.length (B.map intV) := by
                  intro vv A B e h
                  subst e; exact h
                simpa using key _ _ _ hfin.out HO.out
              | some ad =>
                obtain ⟨ad', e, hsrc⟩ : ∃ ad', some ad = some ad' ∧ ∀ j u, (L2.map intV)[j]? = some u → wr.cell? (ad'.add j) = some u := by
                  rcases hown2.2 with ⟨e, h0⟩ | ⟨g, cap', cur, e, _⟩
                  · cases e
                  · injection e with e1 e2 e3
                    refine ⟨_, e1, fun j u hj => ?_⟩
                    exact hown2.cells (g := g) (by rw [e1]; rfl) j u hj
                injection e with e
                subst e
                have ho2 : ∀ u ∈ L2.map intV, u.oneCell' = true := by intro v hv; obtain ⟨z, -, rfl⟩ := List.mem_map.1 hv; rfl
                go_wp2_with (at_builtin; go_loud (refine wpList_append_own _ rfl (.tmp 65) (.tmp 66) 40 rfl w.heap.size 3 i0 _ 1 8 Tryd.underlying40 hi0 iz0 iz1 iz2 rfl (by decide) _ _ _ rfl hown ad L2.length _ (L2.map intV) rfl (by simp) hsrc ho2 (by unfold maxLen; omega) (by omega) hz0 ?_))
                intro v3 w3' hown3 hg3 _
                have hown4 : w3'.ownsRow w.heap.size 3 1 v3 (L ++ L2).length ((L ++ L2).map intV) := by rw [List.length_append, List.map_append, h8]; exact hown3
                have hw3' : Below w.heap.size w w3' := hw0.grown hg3 hz0 (fun j hj => (hown.lt j hj).1)
                rw [hfin.out] at hown4
                have HO := Lib.hid hown4
                clear hown3 hg3 hown hown2 hown4 hsrc
                go_wp2
                go_ret2
                exact ⟨_, rfl, fun L' h => (by injection h with h; rw [← h]; exact HO.out), hw3'⟩
        · have hR : fillV (some L1) (some L2) = none := by simp only [fillV]; rw [if_neg h7]
          rw [hR]
          clear hR
          have h7i : (7 : Int) < (L1.length : Int) + (L2.length : Int) := by omega
          have hbd1 := HBD.out.1 L1 rfl
          have hbd2 := HBD.out.2 L2 rfl
          clear h7
          go_enter Tryd.func20, Tryd.ntmps20
          go_wp2_with fail
          refine (HD.out _).mono ?_
          rintro e w1 ⟨rfl, hb1⟩
          go_wp2_with fail
          refine (HG1.out _).mono ?_
          rintro e w2 ⟨v1, rfl, hl1, hb2⟩
          have hw2 := hb1.trans (hb2.mono hb1.size)
          go_wp2_with fail
          refine (HG2.out _).mono ?_
          rintro e w3 ⟨v2, rfl, hl2, hb3⟩
          have hw3 := hw2.trans (hb3.mono hw2.size)
          obtain ⟨p1, k1, rfl⟩ := own_slice (show w2.ownsRow w1.heap.size 3 1 v1 L1.length (L1.map intV) from hl1)
          obtain ⟨p2, k2, rfl⟩ := own_slice (show w3.ownsRow w2.heap.size 3 1 v2 L2.length (L2.map intV) from hl2)
          go_wp2
          go_ret2
          exact ⟨_, rfl, fun L h => (by cases h), hw3⟩
  · have hwv : wordsV s.data.toList = eightV (groupV s.data.toList) := by unfold wordsV; rw [if_neg h0]
    rw [hwv]
    have hm1 : dblI s.data.toList = -1 := by
      have := Lib.index_ge s.data.toList [58, 58]
      unfold dblI at *; omega
    rw [hm1] at hd
    have hG1 := fun w' => rgroup_any s.data.toList (by omega) w'
    rw [← ba_of s] at hG1
    generalize groupV s.data.toList = R1 at hG1 ⊢
    have HD := Lib.hid hd
    have HG1 := Lib.hid hG1
    clear hd hG1 hwv h0 hlen hm1
    cases R1 with
    | none =>
      go_enter Tryd.func20, Tryd.ntmps20
      go_wp2_with fail
      refine (HD.out _).mono ?_
      rintro e w1 ⟨rfl, hb1⟩
      go_wp2_with fail
      refine (HG1.out _).mono ?_
      rintro e w2 ⟨v1, rfl, hl1, hb2⟩
      have hw2 := hb1.trans (hb2.mono hb1.size)
      go_wp2
      go_ret2
      exact ⟨_, rfl, fun L h => (by cases h), hw2⟩
    | some L1 =>
      by_cases h8 : L1.length = 8
      · have hR : eightV (some L1) = some L1 := by simp only [eightV]; rw [if_pos h8]
        have h8' : ((L1.length : Int) == 8) = true := by simp; omega
        rw [hR]
        clear hR h8
        go_enter Tryd.func20, Tryd.ntmps20
        go_wp2_with fail
        refine (HD.out _).mono ?_
        rintro e w1 ⟨rfl, hb1⟩
        go_wp2_with fail
        refine (HG1.out _).mono ?_
        rintro e w2 ⟨v1, rfl, hl1, hb2⟩
        have hw2 := hb1.trans (hb2.mono hb1.size)
        have hown1 : w2.ownsRow w1.heap.size 3 1 v1 L1.length (L1.map intV) := hl1
        obtain ⟨p1, k1, rfl⟩ := own_slice hown1
        have HO := Lib.hid (own_le hown1 hb1.size)
        clear hl1 hown1
        go_wp2
        go_ret2
        exact ⟨_, rfl, fun L h => (by cases h; exact HO.out), hw2⟩
      · have hR : eightV (some L1) = none := by simp only [eightV]; rw [if_neg h8]
        have h8' : ((L1.length : Int) == 8) = false := by simp; omega
        rw [hR]
        clear hR h8
        go_enter Tryd.func20, Tryd.ntmps20
        go_wp2_with fail
        refine (HD.out _).mono ?_
        rintro e w1 ⟨rfl, hb1⟩
        go_wp2_with fail
        refine (HG1.out _).mono ?_
        rintro e w2 ⟨v1, rfl, hl1, hb2⟩
        have hw2 := hb1.trans (hb2.mono hb1.size)
        obtain ⟨p1, k1, rfl⟩ := own_slice (show w2.ownsRow w1.heap.size 3 1 v1 L1.length (L1.map intV) from hl1)
        clear hl1
        go_wp2
        go_ret2
        exact ⟨_, rfl, fun L h => (by cases h), hw2⟩
end Go.Proofs.YtegaeifmikfpcaaDoor
