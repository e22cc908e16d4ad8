/-
  What Put of a table does, however often the table grows meanwhile. No condition but that the table's cells lie in memory, and that it has fewer than 2^18 keys.
-/
import Derived.Test.YtlglppfkpieabaaW12h
set_option linter.unusedSimpArgs false
set_option linter.unusedVariables false
namespace Go.Proofs.Ytlglppfkpieabaa
open Go.RowKit Go.Sort M

theorem put_step (d : Nat) (t g : Nat) (v : Value) (T : Tab) (r : Rt) (w : World) (H : CT w t g v T ((contT T).length : Int)) (HI : Inv T) (hk : r.k.good) (hfew : (contT T).length < 262144)
    (HG : ∀ g1 v1 w1, grows (stay T r) = true → CT w1 t g1 v1 (stay T r).1 ((contT (stay T r).1).length : Int) → Calls Try.prog 38 #[.pointer (some ⟨t, 0, none⟩)] w1 fun e w' => e = .returned (.tuple #[]) ∧ CStep w1 w' t g1 v1 (putF d T r) ((contT (putF d T r)).length : Int)) :
    Calls Try.prog 13 #[.pointer (some ⟨t, 0, none⟩), kyV r.k, .int .i64 r.v] w fun e w' => e = .returned (.tuple #[]) ∧ CStep w w' t g v (putF d T r) ((contT (putF d T r)).length : Int) := by
  have hst := st_le T
  have hgr : ∀ {b}, (stay T r).2 = b → b = false → grows (stay T r) = false := fun h hb => by unfold grows; rw [h, hb]; rfl
  cases hr : rep T r with
  | some T' =>
    have hs := stay_rep hr
    have hp := putF_stay d (hgr (by rw [hs]) rfl)
    have hc := stay_count_old HI hk (by rw [hr]; simp)
    rw [hs] at hp hc
    rw [hp, hc]
    exact put_old t g v T T' _ r w H HI.num hk HI.sort (by omega) hr
  | none =>
    have hl := fresh_like HI hk hr
    have hc := stay_count_new HI hk hr
    cases h1 : putC (T.bk (T.x1 r.k)) r.k r.v with
    | some C =>
      have hF : fresh T r = (T.set (T.x1 r.k) C, none) := by unfold fresh; rw [h1]
      have hs := stay_in hr (by rw [hF])
      have hp := putF_stay d (hgr (by rw [hs]) rfl)
      rw [hs, hF] at hp hc
      rw [hp, hc]
      exact put_first t g v T _ r C w H HI.num hk HI.sort (by omega) (by omega) (by omega) hr h1
    | none =>
      cases h2 : putC (T.bk (T.x2 r.k)) r.k r.v with
      | some C =>
        have hF : fresh T r = (T.set (T.x2 r.k) C, none) := by unfold fresh; rw [h1]; simp only [h2]
        have hs := stay_in hr (by rw [hF])
        have hp := putF_stay d (hgr (by rw [hs]) rfl)
        rw [hs, hF] at hp hc
        rw [hp, hc]
        exact put_second t g v T _ r C w H HI.num hk HI.sort (by omega) (by omega) (by omega) hr h1 h2
      | none =>
        have hF : fresh T r = kicks 16 0 T (T.x2 r.k) r := by unfold fresh; rw [h1]; simp only [h2]
        obtain ⟨T1, o, hR⟩ : ∃ T1 o, kicks 16 0 T (T.x2 r.k) r = (T1, o) := ⟨_, _, rfl⟩
        rw [hR] at hF
        cases o with
        | none =>
          have hs := stay_in hr (by rw [hF])
          have hp := putF_stay d (hgr (by rw [hs]) rfl)
          rw [hs, hF] at hp hc
          rw [hp, hc]
          exact put_kicked t g v T T1 _ r w H HI.num HI.goodT hk HI.sort (by omega) (by omega) (by omega) hr h1 h2 hR
        | some q =>
          rw [hF] at hl
          have hs := stay_left hr (by rw [hF] : (fresh T r).2 = some q)
          rw [hF] at hs
          have hq := find_absent (hl.2.2.2 q rfl).2
          have hst1 : T1.st.length = T.st.length := hl.2.2.1
          have hgw : grows (stay T r) = (decide (8 < (stay T r).1.st.length) && decide ((stay T r).1.B.length < 65536)) := by unfold grows; rw [hs]; rfl
          have hT2 : (stay T r).1 = { T1 with st := intoS T1.st q } := by rw [hs]
          have hB2 : (stay T r).1.B.length = T1.B.length := by rw [hT2]
          refine (put_left t g v T T1 (stay T r).1 (putF d T r) _ ((contT (putF d T r)).length : Int) r q w H HI.num HI.goodT hk HI.sort (by omega) (by omega) (by omega) hr h1 h2 hR hl.1.sort (by omega) hq hT2 hl.1.hi ?_).mono ?_
          · intro g1 v1 w1 H1 hn hb
            refine HG g1 v1 w1 (by rw [hgw, decide_eq_true hn, decide_eq_true hb]; rfl) (by rw [hc]; exact H1)
          · rintro e w' ⟨rfl, hyes, hno⟩
            refine ⟨rfl, ?_⟩
            by_cases hcase : 8 < (stay T r).1.st.length ∧ (stay T r).1.B.length < 65536
            · exact hyes hcase
            · have hp := putF_stay d (T := T) (r := r) (by
                rw [hgw]
                by_cases ha : 8 < (stay T r).1.st.length
                · rw [decide_eq_false (fun hb => hcase ⟨ha, hb⟩), Bool.and_false]
                · rw [decide_eq_false ha, Bool.false_and])
              rw [hp, hc]
              exact hno hcase

/-- Put, with so many growths within one another at most as its table can bear. -/
theorem put_any : ∀ (d : Nat) (t g : Nat) (v : Value) (T : Tab) (r : Rt) (w : World), CT w t g v T ((contT T).length : Int) → Inv T → r.k.good → (contT T).length < 262144 → 65536 ≤ T.B.length * 2 ^ d →
    Calls Try.prog 13 #[.pointer (some ⟨t, 0, none⟩), kyV r.k, .int .i64 r.v] w fun e w' => e = .returned (.tuple #[]) ∧ CStep w w' t g v (putF d T r) ((contT (putF d T r)).length : Int)
  | 0, t, g, v, T, r, w, H, HI, hk, hfew, hd => put_step 0 t g v T r w H HI hk hfew fun g1 v1 w1 hg _ => by
      have hB := (stay_ok HI r hk).like.n
      unfold grows at hg
      simp only [Bool.and_eq_true, decide_eq_true_eq] at hg
      omega
  | d + 1, t, g, v, T, r, w, H, HI, hk, hfew, hd => put_step (d + 1) t g v T r w H HI hk hfew fun g1 v1 w1 hg H1 => by
      have hS := stay_ok HI r hk
      have hB := hS.like.n
      have hG := grown_inv hS.inv
      have hcn : (contT (stay T r).1).length ≤ 262144 := by
        by_cases hr : rep T r = none
        · rw [stay_count_new HI hk hr]; omega
        · rw [stay_count_old HI hk hr]; omega
      have hp : 65536 ≤ (grown (stay T r).1).B.length * 2 ^ d := by
        have h1 : 1 ≤ 2 ^ d := Nat.one_le_two_pow
        rw [hG.2]
        by_cases h2 : 2 * (stay T r).1.B.length ≤ 65536
        · rw [Nat.min_eq_left h2, hB]
          rw [Nat.pow_succ] at hd
          have : 2 * T.B.length * 2 ^ d = T.B.length * (2 ^ d * 2) := by rw [Nat.mul_comm 2, Nat.mul_assoc, Nat.mul_comm 2]
          omega
        · rw [Nat.min_eq_right (by omega)]
          omega
      rw [putF_grow d hg]
      exact grow_core (putF d) _ (fun T r H hg => putF_ok d T r H hg) t g1 v1 (stay T r).1 _ w1 H1 hS.inv hcn (Nat.le_refl _) fun g2 v2 T2 r2 w2 H2 HI2 hk2 hf2 hB2 => put_any d t g2 v2 T2 r2 w2 H2 HI2 hk2 hf2 (Nat.le_trans hp (Nat.mul_le_mul_right _ hB2))
end Go.Proofs.Ytlglppfkpieabaa
