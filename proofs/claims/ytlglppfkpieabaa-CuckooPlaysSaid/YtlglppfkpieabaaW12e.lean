/-
  What list of a table hands back: all that it has, bucket by bucket, then the stash. No condition but that the table's cells lie in memory, and that its stash is short of 2^20.
-/
import Derived.Test.YtlglppfkpieabaaW12b
import Derived.Test.YtlglppfkpieabaaW11c
import Derived.Test.YtlglppfkpieabaaBkt
set_option linter.unusedSimpArgs false
set_option linter.unusedVariables false
namespace Go.Proofs.Ytlglppfkpieabaa
open Go.RowKit Go.Sort M

theorem flat_snoc (T : Tab) (j : Nat) (h : j < T.B.length) : (T.B.take (j + 1)).flatMap allC = (T.B.take j).flatMap allC ++ allC (T.bk j) := by
  rw [List.take_succ_eq_append_getElem h, List.flatMap_append, bk_at T j h]
  simp
theorem flat_le (T : Tab) (h4 : ∀ i, i < T.B.length → (T.bk i).length = 4) : ∀ j, j ≤ T.B.length → ((T.B.take j).flatMap allC).length ≤ j * 4
  | 0, _ => by simp
  | j + 1, h => by
    have ih := flat_le T h4 j (by omega)
    have := allC_len (T.bk j)
    rw [h4 j (by omega)] at this
    rw [flat_snoc T j (by omega), List.length_append]
    omega
set_option maxRecDepth 100000 in
set_option maxHeartbeats 4000000 in
theorem list_any (t g : Nat) (v : Value) (T : Tab) (m : Int) (w : World) (H : CT w t g v T m) (h : Num T) (hf : T.st.length < 1048576) :
    Calls Try.prog 45 #[.pointer (some ⟨t, 0, none⟩)] w fun e w' => NewRts w w' e (contT T) := by
  have hl := H.tb.tlt
  have c1 := H.tb.c1
  have h4 : ∀ i, i < T.B.length → (T.bk i).length = 4 := fun i hi => (H.tb.bk i hi).four
  have hFL := Lib.hid (flat_le T h4)
  have hhi := h.hi
  have HA := Lib.hid (fun x (hx : x < T.B.length) w (H : CT w t g v T m) => all11_any g (x * 20) (T.bk x) w (H.tb.bk x hx))
  have HH := Lib.hid H
  clear H h h4
  go_enter Try.func45, Try.ntmps45
  go_wp2
  go_loopw [3, 4, 10] (fun s3 s4 i wr => ∃ (j : Nat) (L : List Rt), j ≤ T.B.length ∧ i = .int .i64 (j : Int) ∧ Hid (L = (T.B.take j).flatMap allC) ∧ L.length ≤ 262144 ∧ Hid (wr.ownsRow w.heap.size 48 4 s3 L.length (rcs L)) ∧ Below w.heap.size w wr) (fun _ _ i _ => T.B.length - (intOf i).toNat)
  case atStart => exact ⟨0, [], by omega, rfl, rfl, by simp, World.ownsRow_nil _ _ _ _, by go_grown⟩
  case round =>
    obtain ⟨j, L, hj, rfl, hL, hLl, hown, hb⟩ := hrel
    by_cases hlt : j < T.B.length
    · have HH1 := Lib.hid (HH.out.below hb)
      have c1 := HH1.out.tb.c1
      have hl1 := HH1.out.tb.tlt
      have i1 : (0 : Int) ≤ (j : Int) := by omega
      have i2 : (j : Int) < (T.B.length : Int) := by omega
      have hz := hb.size
      have hfl := hFL.out (j + 1) (by omega)
      have hsn := flat_snoc T j hlt
      rw [hsn, List.length_append, ← hL.out] at hfl
      have HSN := Lib.hid hsn
      have HAL := Lib.hid hfl
      have HA1 := Lib.hid (HA.out j hlt wr HH1.out)
      clear hsn hfl
      go_wp2_with fail
      refine HA1.out.mono ?_
      rintro e w2 ⟨p, c, rfl, hown2, hb2⟩
      have hownL := Lib.hid (own_below hown.out hb2)
      have hown2 := Lib.hid hown2
      have hw2 := hb.trans (hb2.mono hb.size)
      have hz2 := hw2.size
      have hAl := HAL.out
      obtain ⟨N, hN⟩ : ∃ N, N = L ++ allC (T.bk j) := ⟨_, rfl⟩
      have hl3 : N.length ≤ 262144 := by rw [hN, List.length_append]; omega
      have HN := Lib.hid hN
      clear hb2 hown HA1 hN
      go_wp2_with (at_builtin; go_loud (refine wpList_append_rts rfl (.tmp 13) (.tmp 20) rfl w.heap.size wr.heap.size _ _ L (allC (T.bk j)) N HN.out rfl rfl hownL.out hown2.out (by omega) (by omega) ?_))
      intro v3 w3 hown3 hg3 hat
      have hw3 : Below w.heap.size w w3 := hw2.grown hg3 hz2 (fun k hk => (hownL.out.lt k hk).1)
      have hO3 := Lib.hid hown3
      clear hown3 hg3 hat
      go_wp2
      go_roundw
      case rel => exact ⟨j + 1, N, by omega, by go_num, by show _ = _; rw [HSN.out, HN.out, hL.out], hl3, hO3, hw3⟩
      case measure => simp [intOf]; omega
    · have hjn : j = T.B.length := by omega
      have HH1 := Lib.hid (HH.out.below hb)
      have c2 := HH1.out.tb.c2
      have hl1 := HH1.out.tb.tlt
      have hz := hb.size
      have hE : contT T = L ++ T.st := by
        unfold contT
        rw [hL.out, hjn, List.take_length]
      have HE := Lib.hid hE
      clear hE
      go_wp2_with (at_builtin; go_loud (refine wpList_append_rts rfl (.tmp 23) (.tmp 27) rfl w.heap.size 0 _ _ L T.st (contT T) HE.out rfl rfl hown.out HH1.out.tb.own (by omega) (by omega) ?_))
      intro v3 w3 hown3 hg3 hat
      have hw3 : Below w.heap.size w w3 := hb.grown hg3 hz (fun k hk => (hown.out.lt k hk).1)
      obtain ⟨p3, c3, rfl⟩ := own_slice hown3
      have hO3 := Lib.hid hown3
      clear hown3 hg3 hat
      go_wp2
      go_ret
      exact ⟨p3, c3, rfl, hO3.out, hw3⟩
end Go.Proofs.Ytlglppfkpieabaa
