/-
  What the reference's split hands back: a new list of texts. It asks that the text is no longer than a million bytes.
-/
import Derived.Test.YtegaeifmikfpcaaDoorW2d
set_option linter.unusedSimpArgs false
set_option linter.unusedVariables false
namespace Go.Proofs.YtegaeifmikfpcaaDoor
open Go.RowKit Go.Sort M

def strV (l : List UInt8) : Value := .string ⟨l.toArray⟩
theorem infoS : (Tryd.prog.info? 9).map (fun i => (i.zero, i.size, i.bytes)) = some (some (.string ⟨#[]⟩), 1, 16) := by kernel_rfl
theorem one_news {w : World} {g : Nat} {v : Value} (h : w.cell? ⟨g, 0, none⟩ = some v) : ∀ j u, [v][j]? = some u → w.cell? ((⟨g, 0, none⟩ : Addr).add j) = some u := by
  intro j u hj
  match j, hj with
  | 0, hj => simp only [List.getElem?_cons_zero, Option.some.injEq] at hj; subst hj; simpa [Addr.add] using h
/-- Behind i bytes of s: L the parts that are through, from 'from' on the one that is not. -/
def Cutting (c : UInt8) (s : List UInt8) (R : List (List UInt8)) (i b : Nat) (L : List (List UInt8)) : Prop :=
  (i ≤ s.length ∧ L ++ splitGo c ((s.drop b).take (i - b)) (s.drop i) = R) ∨ (s.length < i ∧ L = R)
theorem cutting_end {c : UInt8} {s : List UInt8} {R L : List (List UInt8)} {i b : Nat} (h : Cutting c s R i b L) (hi : i = s.length) (_hb : b ≤ i) : Cutting c s R (i + 1) (i + 1) (L ++ [(s.drop b).take (i - b)]) := by
  subst hi
  rcases h with ⟨-, h⟩ | ⟨h, -⟩
  · right
    rw [List.drop_length, splitGo] at h
    exact ⟨by omega, h⟩
  · omega
theorem cutting_at {c : UInt8} {s : List UInt8} {R L : List (List UInt8)} {i b : Nat} (h : Cutting c s R i b L) (hi : i < s.length) (he : s[i] = c) : Cutting c s R (i + 1) (i + 1) (L ++ [(s.drop b).take (i - b)]) := by
  rcases h with ⟨-, h⟩ | ⟨h, -⟩
  · left
    rw [List.drop_eq_getElem_cons hi, splitGo, if_pos he] at h
    refine ⟨by omega, ?_⟩
    rw [← h]; simp
  · omega
theorem cutting_on {c : UInt8} {s : List UInt8} {R L : List (List UInt8)} {i b : Nat} (h : Cutting c s R i b L) (hi : i < s.length) (hb : b ≤ i) (he : s[i] ≠ c) : Cutting c s R (i + 1) b L := by
  rcases h with ⟨-, h⟩ | ⟨h, -⟩
  · left
    rw [List.drop_eq_getElem_cons hi, splitGo, if_neg he] at h
    refine ⟨by omega, ?_⟩
    rw [← h]
    congr 2
    rw [show i + 1 - b = (i - b) + 1 by omega, List.take_succ_eq_append_getElem (by simp; omega)]
    simp [show b + (i - b) = i by omega]
  · omega

theorem own_snoc {w : World} {B n f k : Nat} {e : TypeId} {v : Value} {L : List (List UInt8)} {s : ByteArray} (h : w.ownsRow B e 1 v (L.length + 1) (L.map strV ++ [.string (s.extract f k)])) :
    w.ownsRow B e 1 v (L ++ [(s.data.toList.drop f).take (k - f)]).length ((L ++ [(s.data.toList.drop f).take (k - f)]).map strV) := by
  have e1 : Value.string (s.extract f k) = strV ((s.data.toList.drop f).take (k - f)) := by
    unfold strV; rw [← Lib.extract_data, ← ba_of]
  rw [e1] at h
  simpa using h
set_option maxHeartbeats 1000000 in
theorem rsplit_any (s : ByteArray) (c : UInt8) (hs : s.size ≤ 1000000) (w : World) :
    Calls Tryd.prog 18 #[.string s, .int .u8 (c.toNat : Int)] w fun e w' => ∃ v, e = .returned v ∧ w'.ownsRow w.heap.size 9 1 v (splitB c s.data.toList).length ((splitB c s.data.toList).map strV) ∧ Below w.heap.size w w' := by
  have hlen : s.data.toList.length = s.size := by simp
  generalize hR : splitB c s.data.toList = R
  have h0 : Hid (Cutting c s.data.toList R 0 0 []) := Lib.hid (Or.inl ⟨by omega, by simpa [splitB] using hR⟩)
  clear hR
  have HL := Lib.hid hlen
  clear hlen
  obtain ⟨i0, hi0, iz0, iz1, iz2⟩ := info_parts infoS
  go_enter Tryd.func18, Tryd.ntmps18
  go_wp2
  go_loopw [5, 6, 7] (fun v b i wr => ∃ (k f : Nat) (L : List (List UInt8)), k ≤ s.size + 1 ∧ f ≤ k ∧ L.length ≤ k ∧ i = .int .i64 k ∧ b = .int .i64 f ∧ wr.ownsRow w.heap.size 9 1 v L.length (L.map strV) ∧ Below w.heap.size w wr ∧
      Hid (Cutting c s.data.toList R k f L)) (fun _ _ i _ => s.size + 1 - (intOf i).toNat)
  case atStart => exact ⟨0, 0, [], by omega, by omega, by simp, rfl, rfl, World.ownsRow_nil _ _ _ _, Below.refl _ _, h0⟩
  case round =>
    clear h0
    obtain ⟨k, f, L, hk, hf, hLk, rfl, rfl, hown, hw0, hrest⟩ := hrel
    by_cases hle : k ≤ s.size
    · by_cases heq : k = s.size
      · have hc := Lib.hid (cutting_end hrest.out (heq.trans HL.out.symm) hf)
        clear hrest
        have he : ((k : Int) == s.size) = true := by simp; omega
        have HQ := Lib.hid heq
        clear heq
        go_wp2_with (at_builtin; go_loud (refine wpList_append_own _ rfl (.tmp 25) (.tmp 30) 38 rfl w.heap.size 9 i0 _ 1 16 Tryd.underlying38 hi0 iz0 iz1 iz2 rfl (by decide) _ _ _ rfl (hown.alloc _) ⟨wr.heap.size, 0, none⟩ 1 1 [.string (s.extract f k)] rfl rfl (one_news (by simp [go_sem])) (by simp [Value.oneCell']) (by unfold maxLen; omega) (by omega) (by have := hw0.size; simp; omega) ?_))
        intro v3 w3 hown3 hg3 _
        have hown4 := own_snoc (n := 0) hown3
        have hw3 : Below w.heap.size w w3 := (hw0.alloc hw0.size _).grown hg3 (by have := hw0.size; simp; omega) (fun j hj => (hown.lt j hj).1)
        clear hown3 hg3 hown hw0
        go_wp2
        go_roundw
        case rel => exact ⟨k + 1, k + 1, L ++ [(s.data.toList.drop f).take (k - f)], by omega, by omega, by simp; omega, by go_num, by go_num, hown4, hw3, hc⟩
        case measure => simp [intOf]; omega
      · have hlt : k < s.size := by omega
        have he : ((k : Int) == s.size) = false := by simp; omega
        have hg : s.data.toList[k]'(by rw [HL.out]; exact hlt) = s[k] := rfl
        clear heq
        by_cases hcc : s[k] = c
        · have hc := Lib.hid (cutting_at hrest.out (by rw [HL.out]; exact hlt) (hg.trans hcc))
          have hee : ((s[k].toNat : Int) == (c.toNat : Int)) = true := by rw [hcc]; simp
          clear hrest hcc hg
          go_wp2_with (at_builtin; go_loud (refine wpList_append_own _ rfl (.tmp 25) (.tmp 30) 38 rfl w.heap.size 9 i0 _ 1 16 Tryd.underlying38 hi0 iz0 iz1 iz2 rfl (by decide) _ _ _ rfl (hown.alloc _) ⟨wr.heap.size, 0, none⟩ 1 1 [.string (s.extract f k)] rfl rfl (one_news (by simp [go_sem])) (by simp [Value.oneCell']) (by unfold maxLen; omega) (by omega) (by have := hw0.size; simp; omega) ?_))
          intro v3 w3 hown3 hg3 _
          have hown4 := own_snoc (n := 0) hown3
          have hw3 : Below w.heap.size w w3 := (hw0.alloc hw0.size _).grown hg3 (by have := hw0.size; simp; omega) (fun j hj => (hown.lt j hj).1)
          clear hown3 hg3 hown hw0
          go_wp2
          go_roundw
          case rel => exact ⟨k + 1, k + 1, L ++ [(s.data.toList.drop f).take (k - f)], by omega, by omega, by simp; omega, by go_num, by go_num, hown4, hw3, hc⟩
          case measure => simp [intOf]; omega
        · have hc := Lib.hid (cutting_on hrest.out (by rw [HL.out]; exact hlt) hf (fun e => hcc (hg.symm.trans e)))
          have hee : ((s[k].toNat : Int) == (c.toNat : Int)) = false := by
            have : s[k].toNat ≠ c.toNat := fun e => hcc (u8_ext e)
            simp; omega
          clear hrest hcc hg
          go_wp2
          go_roundw
          case rel => exact ⟨k + 1, f, L, by omega, by omega, by omega, by go_num, rfl, hown, hw0, hc⟩
          case measure => simp [intOf]; omega
    · have hR : L = R := by
        rcases hrest.out with ⟨h1, -⟩ | ⟨-, h1⟩
        · rw [HL.out] at h1; omega
        · exact h1
      have HR := Lib.hid hR
      clear hR hrest
      go_wp2
      go_ret
      refine ⟨_, rfl, ?_, hw0⟩
      rw [← HR.out]
      exact hown
end Go.Proofs.YtegaeifmikfpcaaDoor
