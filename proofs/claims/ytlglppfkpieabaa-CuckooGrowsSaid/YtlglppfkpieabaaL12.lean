/-
  A table as the given laws of chapter 12 hold it: its calls; the example. No condition but those that stand in each.
-/
import Derived.Test.YtlglppfkpieabaaW12i
import Derived.Test.YtlglppfkpieabaaW12j
import Derived.Test.YtlglppfkpieabaaM12i
set_option linter.unusedSimpArgs false
set_option linter.unusedVariables false
namespace Go.Proofs.Ytlglppfkpieabaa
open Go.RowKit Go.Sort M

/-- A table in memory, all of it in blocks that P allows. -/
def Seat (P : Nat → Prop) (w : World) (t : Nat) (T : Tab) : Prop := ∃ g v, CT w t g v T ((contT T).length : Int) ∧ ∀ k, Blk t g v k → P k
theorem Seat.below {P : Nat → Prop} {w w' : World} {t : Nat} {T : Tab} (H : Seat P w t T) (hb : Below w.heap.size w w') : Seat P w' t T := by
  obtain ⟨g, v, h, hp⟩ := H
  exact ⟨g, v, h.below hb, hp⟩
theorem Seat.lt {P : Nat → Prop} {w : World} {t : Nat} {T : Tab} (H : Seat P w t T) : t < w.heap.size := by
  obtain ⟨g, v, h, hp⟩ := H
  exact h.tb.tlt
theorem Seat.touched {P S : Nat → Prop} {w w' : World} {t : Nat} {T : Tab} (H : Seat P w t T) (ht : Touch S w w') (hn : ∀ k, P k → ¬ S k) : Seat P w' t T := by
  obtain ⟨g, v, h, hp⟩ := H
  exact ⟨g, v, h.touched ht (fun k hk => hn k (hp k hk)), hp⟩
theorem Seat.mono {P Q : Nat → Prop} {w : World} {t : Nat} {T : Tab} (H : Seat P w t T) (h : ∀ k, k < w.heap.size → P k → Q k) : Seat Q w t T := by
  obtain ⟨g, v, hc, hp⟩ := H
  exact ⟨g, v, hc, fun k hk => h k (hc.tb.blk k hk) (hp k hk)⟩
theorem Seat.new (s n : Nat) (w : World) (h1 : 1 ≤ n) (h2 : n ≤ 65536) :
    Calls Try.prog 8 #[.int .u64 (s : Int), .int .i64 (n : Int)] w fun e w' => ∃ t, e = .returned (.tuple #[.pointer (some ⟨t, 0, none⟩), .int .i64 0]) ∧ Seat (fun k => w.heap.size ≤ k) w' t (emptyT s n) ∧ Below w.heap.size w w' := by
  refine (new_any s n w h1 h2).mono ?_
  rintro e w' ⟨t, rfl, g, H, hb, ht, hg⟩
  refine ⟨t, rfl, ⟨g, _, by rw [empty_cont]; exact H, fun k hk => ?_⟩, hb⟩
  rcases hk with e | e | e
  · show _ ≤ k; rw [e]; exact ht
  · show _ ≤ k; rw [e]; exact hg
  · simp [Value.ownBlock] at e
theorem Seat.put {P : Nat → Prop} (t : Nat) (T : Tab) (r : Rt) (w : World) (H : Seat P w t T) (HI : Inv T) (hk : r.k.good) (hfew : (contT T).length < 262144) (hP : ∀ k, w.heap.size ≤ k → P k) :
    Calls Try.prog 13 #[.pointer (some ⟨t, 0, none⟩), kyV r.k, .int .i64 r.v] w fun e w' => e = .returned (.tuple #[]) ∧ Seat P w' t (putF 16 T r) ∧ Touch P w w' := by
  obtain ⟨g, v, h, hp⟩ := H
  have hlo := HI.lo
  refine (put_any 16 t g v T r w h HI hk hfew (by omega)).mono ?_
  rintro e w' ⟨rfl, g', v', h', ht, hs⟩
  refine ⟨rfl, ⟨g', v', h', fun k hk' => ?_⟩, ht.mono fun k _ hk => hp k hk⟩
  by_cases e : k < w.heap.size
  · exact hp k (hs k hk' e)
  · exact hP k (by omega)
theorem Seat.get {P : Nat → Prop} (t : Nat) (T : Tab) (k : Ky) (w : World) (H : Seat P w t T) (HI : Inv T) (hk : k.good) (hfew : (contT T).length < 262144) :
    Calls Try.prog 21 #[.pointer (some ⟨t, 0, none⟩), kyV k] w fun e w' => ∃ p c, e = .returned (.tuple #[.int .i64 ((getT T k).getD 0), .bool (getT T k).isSome, .slice p (readT T k).length c]) ∧ w'.ownsRow w.heap.size 3 1 (.slice p (readT T k).length c) (readT T k).length (ics (readT T k)) ∧ Below w.heap.size w w' := by
  obtain ⟨g, v, h, hp⟩ := H
  have := st_le T
  exact get12_any t g v T _ k w h HI.num hk HI.sort (by omega)
theorem Seat.len {P : Nat → Prop} (t : Nat) (T : Tab) (w : World) (H : Seat P w t T) :
    Calls Try.prog 20 #[.pointer (some ⟨t, 0, none⟩)] w fun e w' => e = .returned (.int .i64 ((contT T).length : Int)) ∧ Below w.heap.size w w' := by
  obtain ⟨g, v, h, hp⟩ := H
  exact len12_any t g v T _ w h
theorem Seat.size {P : Nat → Prop} (t : Nat) (T : Tab) (w : World) (H : Seat P w t T) :
    Calls Try.prog 15 #[.pointer (some ⟨t, 0, none⟩)] w fun e w' => e = .returned (.tuple #[.int .u64 (T.s : Int), .int .i64 (T.B.length : Int), .int .i64 (T.st.length : Int)]) ∧ Below w.heap.size w w' := by
  obtain ⟨g, v, h, hp⟩ := H
  exact size12_any t g v T _ w h
theorem num12_any (n : Int) : Gives Try.prog 10 #[.int .i64 n] (.int .i64 n) := by
  intro w
  go_enter Try.func10, Try.ntmps10
  go_wp2
  go_ret
  exact ⟨rfl, by go_grown⟩
theorem three_good : (⟨0, 0, 3⟩ : Ky).good := ⟨W64.mk (by decide), W64.mk (by decide)⟩
set_option maxRecDepth 100000 in
set_option maxHeartbeats 1000000 in
theorem alive12_any : Gives Try.prog 7 #[] (.bool true) := by
  intro w
  have HN := Lib.hid (num12_any 0)
  have hI : Inv (emptyT 1 2) := empty_inv (W64.mk (by decide)) (by decide) (by decide)
  have HP : ∀ t w1, w.heap.size ≤ w1.heap.size → Seat (fun k => w.heap.size ≤ k) w1 t (emptyT 1 2) → Calls Try.prog 13 #[.pointer (some ⟨t, 0, none⟩), .agg #[.int .u64 0, .int .u64 0, .int .i64 3], .int .i64 8] w1 fun e w' => e = .returned (.tuple #[]) ∧ Seat (fun k => w.heap.size ≤ k) w' t (putF 16 (emptyT 1 2) ⟨⟨0, 0, 3⟩, 8⟩) ∧ Touch (fun k => w.heap.size ≤ k) w1 w' :=
    fun t w1 hs H => Seat.put t (emptyT 1 2) ⟨⟨0, 0, 3⟩, 8⟩ w1 H hI three_good (by rw [empty_cont]; decide) (fun k hk => Nat.le_trans hs hk)
  have hM := alive12_math
  have hp := putF_ok 16 (emptyT 1 2) ⟨⟨0, 0, 3⟩, 8⟩ hI three_good
  have hn := hp.all.length_eq
  rw [empty_cont] at hn
  generalize putF 16 (emptyT 1 2) ⟨⟨0, 0, 3⟩, 8⟩ = T2 at *
  have h1 := of_decide_eq_true (Bool.and_eq_true_iff.1 hM).1
  have h2 := of_decide_eq_true (Bool.and_eq_true_iff.1 hM).2
  have HG : ∀ t w1, Seat (fun k => w.heap.size ≤ k) w1 t T2 → Calls Try.prog 21 #[.pointer (some ⟨t, 0, none⟩), .agg #[.int .u64 0, .int .u64 0, .int .i64 3]] w1 fun e w' => ∃ p c, e = .returned (.tuple #[.int .i64 8, .bool true, .slice p 1 c]) ∧ w'.ownsRow w1.heap.size 3 1 (.slice p 1 c) 1 (ics (readT T2 ⟨0, 0, 3⟩)) ∧ Below w1.heap.size w1 w' := by
    intro t w1 H
    have h := Seat.get t T2 ⟨0, 0, 3⟩ w1 H hp.inv three_good (by rw [hn]; decide)
    rw [h1, h2] at h
    exact h
  have HPP := Lib.hid HP
  have HGG := Lib.hid HG
  clear hM hp hn h1 h2 hI HP HG
  go_enter Try.func7, Try.ntmps7
  go_wp2_with fail
  refine (Seat.new 1 2 _ (by decide) (by decide)).mono ?_
  rintro e w1 ⟨t, rfl, H1, hw1⟩
  go_wp2_with fail
  refine (HN.out _).mono ?_
  rintro e w2 ⟨rfl, hb2⟩
  have hw2 := hw1.trans (hb2.mono hw1.size)
  have H2 := H1.below hb2
  clear hb2 H1 hw1
  go_wp2_with fail
  refine (Seat.len t _ _ H2).mono ?_
  rintro e w3 ⟨rfl, hb3⟩
  have hw3 := hw2.trans (hb3.mono hw2.size)
  have H3 := H2.below hb3
  rw [empty_cont]
  clear hb3 H2 hw2
  go_wp2_with fail
  refine (HPP.out t _ hw3.size H3).mono ?_
  rintro e w4 ⟨rfl, H4, ht4⟩
  have hw4 := hw3.trans (ht4.below hw3.size fun k hk => hk)
  clear H3 hw3 ht4
  go_wp2_with fail
  refine (HGG.out t _ H4).mono ?_
  rintro e w5 ⟨p, c, rfl, -, hb5⟩
  have hw5 := hw4.trans (hb5.mono hw4.size)
  clear H4 hw4 hb5
  go_wp2
  go_ret
  exact ⟨rfl, hw5⟩
end Go.Proofs.Ytlglppfkpieabaa
