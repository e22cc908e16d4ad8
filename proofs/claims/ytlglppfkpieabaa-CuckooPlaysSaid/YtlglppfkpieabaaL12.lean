/-
  A table as the given laws of chapter 12 hold it: its calls; the example. No condition but those that stand in each.
-/
import Derived.Test.YtlglppfkpieabaaW6b
import Derived.Test.YtlglppfkpieabaaW12i
import Derived.Test.YtlglppfkpieabaaW12j
/-
  Plain mathematics of rows of puts into one table: who is there, who is found, when it grows. No condition but those that stand in each.
-/
set_option linter.unusedSimpArgs false
set_option linter.unusedVariables false
namespace Go.Proofs.Ytlglppfkpieabaa
open M

theorem find12_some {l : List Rt} {k : Ky} {i : Nat} (h : findS l k = some i) : ∃ hi : i < l.length, (l.find? fun r => decide (r.k = k)) = some l[i] ∧ l[i].k = k := by
  unfold findS at h
  rw [List.findIdx?_eq_some_iff_getElem] at h
  obtain ⟨hi, h1, h2⟩ := h
  refine ⟨hi, ?_, of_decide_eq_true h1⟩
  rw [List.find?_eq_some_iff_getElem]
  exact ⟨h1, i, hi, rfl, fun j hj => by have := h2 j hj; simpa using this⟩
theorem mem_outK {L : List Rt} {k : Ky} {q : Rt} : q ∈ outS L k ↔ q ∈ L ∧ q.k ≠ k := by unfold outS; rw [List.mem_filter]; simp
theorem one_key {L : List Rt} (hn : (keysR L).Nodup) {a b : Rt} (ha : a ∈ L) (hb : b ∈ L) (h : a.k = b.k) : a = b := by
  have := (split_key hn hb).mem_iff.1 ha
  rcases List.mem_cons.1 this with e | e
  · exact e
  · exact absurd h (mem_outK.1 e).2
/-- Who is there is found. -/
theorem get_mem {T : Tab} (H : Inv T) {r : Rt} (h : r ∈ contT T) : getT T r.k = some r.v := by
  have hit : ∀ b, b < T.B.length → ∀ v, getC (T.bk b) r.k = some v → v = r.v := by
    intro b hb v e
    obtain ⟨i, hi, -, q, hq, hqk, hg⟩ := getC_some (by rw [e]; rfl : (getC (T.bk b) r.k).isSome = true)
    rw [e] at hg
    injection hg with hg
    rw [hg, one_key H.keys (mem_bk hb (hq ▸ List.getElem_mem hi)) h hqk]
  unfold getT
  cases h1 : getC (T.bk (T.x1 r.k)) r.k with
  | some v => exact congrArg some (hit _ (H.x1_lt _) v h1)
  | none =>
    cases h2 : getC (T.bk (T.x2 r.k)) r.k with
    | some v => exact congrArg some (hit _ (H.x2_lt _) v h2)
    | none =>
      cases h3 : findS T.st r.k with
      | none => exact absurd (mem_keys h) (absent H (by rw [h1]; rfl) (by rw [h2]; rfl) (by rw [h3]; rfl))
      | some i =>
        obtain ⟨hi, e, hk⟩ := find12_some h3
        show (List.find? _ _).map _ = _
        rw [e, one_key H.keys (show T.st[i] ∈ contT T from List.mem_append_right _ (List.getElem_mem hi)) h hk]
        rfl
theorem read_len (T : Tab) (k : Ky) : 1 ≤ (readT T k).length ∧ (readT T k).length ≤ 2 := by unfold readT; split <;> simp
/-- A table that has not grown as far as it may has a short stash. -/
def Calm (T : Tab) : Prop := T.st.length ≤ 8 ∨ 65536 ≤ T.B.length
theorem stay_calm {T : Tab} {r : Rt} (H : Inv T) (hr : r.k.good) (hc : Calm T) (hg : grows (stay T r) = false) : Calm (stay T r).1 := by
  have h := stay_ok H r hr
  have hn := h.like.n
  unfold Calm at *
  cases e : (stay T r).2 with
  | false => rw [h.no e, hn]; exact hc
  | true =>
    unfold grows at hg
    rw [e, Bool.true_and, Bool.and_eq_false_iff, decide_eq_false_iff_not, decide_eq_false_iff_not] at hg
    omega
theorem fold_calm {f : Tab → Rt → Tab} {N : Nat} (hf : ∀ T r, Inv T → r.k.good → GrowOk T r (f T r)) (hc : ∀ T r, Inv T → r.k.good → N ≤ T.B.length → Calm T → Calm (f T r)) : ∀ (l : List Rt) (T : Tab), Inv T → (∀ r ∈ l, r.k.good) → N ≤ T.B.length → Calm T → Calm (l.foldl f T)
  | [], _, _, _, _, h => h
  | a :: l, T, H, hg, hN, h => by
    have ha := hg a (by simp)
    have ho := hf T a H ha
    exact fold_calm hf hc l (f T a) ho.inv (fun r hr => hg r (by simp [hr])) (Nat.le_trans hN ho.len) (hc T a H ha hN h)
theorem grown_pow {T : Tab} {d : Nat} (H : Inv T) (hd : 65536 ≤ T.B.length * 2 ^ (d + 1)) : 65536 ≤ (grown T).B.length * 2 ^ d := by
  have h1 : 1 ≤ 2 ^ d := Nat.one_le_two_pow
  rw [(grown_inv H).2]
  by_cases h2 : 2 * T.B.length ≤ 65536
  · rw [Nat.min_eq_left h2]
    rw [Nat.pow_succ] at hd
    have : 2 * T.B.length * 2 ^ d = T.B.length * (2 ^ d * 2) := by rw [Nat.mul_comm 2, Nat.mul_assoc, Nat.mul_comm 2]
    omega
  · rw [Nat.min_eq_right (by omega)]
    omega
theorem putF_calm : ∀ (d : Nat) (T : Tab) (r : Rt), Inv T → r.k.good → 65536 ≤ T.B.length * 2 ^ d → Calm T → Calm (putF d T r)
  | 0, T, r, H, hr, hd, _ => by
    have hn := (stay_ok H r hr).like.n
    show Calm (stay T r).1
    unfold Calm
    omega
  | d + 1, T, r, H, hr, hd, hc => by
    cases hg : grows (stay T r) with
    | false => rw [putF_stay _ hg]; exact stay_calm H hr hc hg
    | true =>
      rw [putF_grow d hg]
      have hS := stay_ok H r hr
      have hp := grown_pow (d := d) hS.inv (by rw [hS.like.n]; exact hd)
      exact fold_calm (N := (grown (stay T r).1).B.length) (fun T r H hg => putF_ok d T r H hg) (fun T r H hg hN hc => putF_calm d T r H hg (Nat.le_trans hp (Nat.mul_le_mul_right _ hN)) hc) _ _ (grown_inv hS.inv).1 (fun q hq => hS.inv.good q hq) (Nat.le_refl _) (.inl (by simp [grown, emptyT]))
theorem allC_full : ∀ {C : List Pl}, (∀ x ∈ C, x.isSome = true) → (allC C).length = C.length
  | [], _ => rfl
  | none :: C, h => by have := h none (by simp); cases this
  | some q :: C, h => by
    have := allC_full (C := C) fun x hx => h x (by simp [hx])
    show (q :: allC C).length = _
    simp [this]
/-- A table of one bucket bears twelve. -/
theorem one_bucket {T : Tab} (h : T.B.length = 1) : contT T = allC (T.bk 0) ++ T.st := by
  unfold contT
  obtain ⟨s, B, st⟩ := T
  match B, h with
  | [C], _ => simp [Tab.bk]
theorem put_small (d : Nat) {T : Tab} {r : Rt} (H : Inv T) (hr : r.k.good) (h1 : T.B.length = 1) (hn : (contT (putF d T r)).length ≤ 12) : (putF d T r).B.length = 1 := by
  have h := stay_ok H r hr
  cases hg : grows (stay T r) with
  | false => rw [putF_stay _ hg, h.like.n, h1]
  | true =>
    exfalso
    have hp := (putF_ok d T r H hr).all.length_eq
    unfold grows at hg
    simp only [Bool.and_eq_true, decide_eq_true_eq] at hg
    obtain ⟨e1, e2, e3⟩ := h.yes hg.1
    rw [outS_self e2] at hp
    have hx := H.x1_lt r.k
    have hx0 : T.x1 r.k = 0 := by omega
    rw [hx0] at e3
    have hf := allC_full e3
    have h4 := H.four 0 (by omega)
    rw [one_bucket h1, List.length_cons, List.length_append] at hp
    omega
theorem small_le {T : Tab} (H : Inv T) (hc : Calm T) (h1 : T.B.length = 1) : (contT T).length ≤ 12 := by
  have h4 := H.four 0 (by omega)
  have := allC_len (T.bk 0)
  unfold Calm at hc
  rw [one_bucket h1, List.length_append]
  omega
/-- A table that has just these. -/
structure Hold (T : Tab) (n : Nat) (K : Nat → Ky) (V : Nat → Int) : Prop where
  inv : Inv T
  len : (contT T).length = n
  mem : ∀ j, j < n → (⟨K j, V j⟩ : Rt) ∈ contT T
  all : ∀ r ∈ contT T, ∃ j, j < n ∧ r.k = K j
theorem Hold.empty {s n : Nat} (hs : W64 s) (h1 : 1 ≤ n) (h2 : n ≤ 65536) (K : Nat → Ky) (V : Nat → Int) : Hold (emptyT s n) 0 K V :=
  ⟨empty_inv hs h1 h2, by rw [empty_cont]; rfl, fun j hj => absurd hj (by omega), fun r hr => by rw [empty_cont] at hr; cases hr⟩
theorem Hold.get {T : Tab} {n : Nat} {K : Nat → Ky} {V : Nat → Int} (H : Hold T n K V) {j : Nat} (hj : j < n) : getT T (K j) = some (V j) := by
  have h := get_mem H.inv (H.mem j hj)
  exact h
theorem Hold.new {T : Tab} {n : Nat} {K : Nat → Ky} {V : Nat → Int} (H : Hold T n K V) (d : Nat) (hk : (K n).good) (hK : ∀ j, j < n → K j ≠ K n) : Hold (putF d T ⟨K n, V n⟩) (n + 1) K V := by
  have h := putF_ok d T ⟨K n, V n⟩ H.inv hk
  have hno : K n ∉ keysR (contT T) := by
    intro hm
    unfold keysR at hm
    rw [List.mem_map] at hm
    obtain ⟨q, hq, e⟩ := hm
    obtain ⟨j, hj, e2⟩ := H.all q hq
    exact hK j hj (e2.symm.trans e)
  have ho : outS (contT T) (K n) = contT T := outS_self hno
  have ha := h.all
  simp only [ho] at ha
  refine ⟨h.inv, by rw [ha.length_eq, List.length_cons, H.len], fun j hj => ha.mem_iff.2 ?_, fun r hr => ?_⟩
  · by_cases e : j = n
    · subst e; exact List.mem_cons_self
    · exact List.mem_cons_of_mem _ (H.mem j (by omega))
  · rcases List.mem_cons.1 (ha.mem_iff.1 hr) with e | e
    · exact ⟨n, by omega, by rw [e]⟩
    · obtain ⟨j, hj, e2⟩ := H.all r e
      exact ⟨j, by omega, e2⟩
theorem Hold.again {T : Tab} {n : Nat} {K : Nat → Ky} {V V' : Nat → Int} (H : Hold T n K V) (d : Nat) {i : Nat} (hi : i < n) (hK : ∀ j, j < n → j ≠ i → K j ≠ K i) (hV : ∀ j, j < n → j ≠ i → V' j = V j) :
    Hold (putF d T ⟨K i, V' i⟩) n K V' ∧ (putF d T ⟨K i, V' i⟩).B.length = T.B.length ∧ (putF d T ⟨K i, V' i⟩).st.length = T.st.length ∧ (putF d T ⟨K i, V' i⟩).s = T.s := by
  have hin := H.mem i hi
  have hk : (K i).good := H.inv.good _ hin
  have hki : K i ∈ keysR (contT T) := mem_keys hin
  have hr : rep T ⟨K i, V' i⟩ ≠ none := fun e => (rep_keys H.inv).1 e hki
  have h := putF_ok d T ⟨K i, V' i⟩ H.inv hk
  have hS := stay_ok H.inv ⟨K i, V' i⟩ hk
  obtain ⟨T', hT'⟩ : ∃ T', rep T ⟨K i, V' i⟩ = some T' := by
    cases e : rep T ⟨K i, V' i⟩ with
    | none => exact absurd e hr
    | some T' => exact ⟨T', rfl⟩
  have h2 : (stay T ⟨K i, V' i⟩).2 = false := by rw [stay_rep hT']
  have hp : putF d T ⟨K i, V' i⟩ = (stay T ⟨K i, V' i⟩).1 := putF_stay d (by unfold grows; rw [h2]; rfl)
  have ha := h.all
  refine ⟨⟨h.inv, ?_, fun j hj => ha.mem_iff.2 ?_, fun r hr => ?_⟩, by rw [hp, hS.like.n], by rw [hp, hS.no h2], by rw [hp, hS.like.s]⟩
  · rw [ha.length_eq, ← H.len]
    exact out_len H.inv.keys hki
  · by_cases e : j = i
    · subst e; exact List.mem_cons_self
    · refine List.mem_cons_of_mem _ (mem_outK.2 ⟨?_, hK j hj e⟩)
      rw [hV j hj e]
      exact H.mem j hj
  · rcases List.mem_cons.1 (ha.mem_iff.1 hr) with e | e
    · exact ⟨i, hi, by rw [e]⟩
    · exact H.all r (mem_outK.1 e).1
set_option maxRecDepth 100000 in
theorem alive12_math : (putF 16 (emptyT 1 2) ⟨⟨0, 0, 3⟩, 8⟩ |> fun T => decide (getT T ⟨0, 0, 3⟩ = some 8) && decide ((readT T ⟨0, 0, 3⟩).length = 1)) = true := by decide +kernel
end Go.Proofs.Ytlglppfkpieabaa
/-
  A table as the given laws of chapter 12 hold it: its calls; the example. No condition but those that stand in each.
-/
set_option linter.unusedSimpArgs false
set_option linter.unusedVariables false
namespace Go.Proofs.Ytlglppfkpieabaa
open Go.RowKit Go.Sort M

/-- A table in memory, all of it in blocks that P allows. -/
def Seat (P : Nat → Prop) (w : World) (t : Nat) (T : Tab) : Prop := ∃ g v, CT w t g v T ((contT T).length : Int) ∧ ∀ k, Blk t g v k → P k
theorem Seat.below {P : Nat → Prop} {w w' : World} {t : Nat} {T : Tab} (H : Seat P w t T) (hb : Below w.heap.size w w') : Seat P w' t T := by
  obtain ⟨g, v, h, hp⟩ := H
  exact ⟨g, v, h.below hb, hp⟩
theorem Seat.lt {P : Nat → Prop} {w : World} {t : Nat} {T : Tab} (H : Seat P w t T) : t < w.heap.size := by
  obtain ⟨g, v, h, hp⟩ := H
  exact h.tb.tlt
theorem Seat.touched {P S : Nat → Prop} {w w' : World} {t : Nat} {T : Tab} (H : Seat P w t T) (ht : Touch S w w') (hn : ∀ k, P k → ¬ S k) : Seat P w' t T := by
  obtain ⟨g, v, h, hp⟩ := H
  exact ⟨g, v, h.touched ht (fun k hk => hn k (hp k hk)), hp⟩
theorem Seat.mono {P Q : Nat → Prop} {w : World} {t : Nat} {T : Tab} (H : Seat P w t T) (h : ∀ k, k < w.heap.size → P k → Q k) : Seat Q w t T := by
  obtain ⟨g, v, hc, hp⟩ := H
  exact ⟨g, v, hc, fun k hk => h k (hc.tb.blk k hk) (hp k hk)⟩
theorem Seat.new (s n : Nat) (w : World) (h1 : 1 ≤ n) (h2 : n ≤ 65536) :
    Calls Try.prog 8 #[.int .u64 (s : Int), .int .i64 (n : Int)] w fun e w' => ∃ t, e = .returned (.tuple #[.pointer (some ⟨t, 0, none⟩), .int .i64 0]) ∧ Seat (fun k => w.heap.size ≤ k) w' t (emptyT s n) ∧ Below w.heap.size w w' := by
  refine (new_any s n w h1 h2).mono ?_
  rintro e w' ⟨t, rfl, g, H, hb, ht, hg⟩
  refine ⟨t, rfl, ⟨g, _, by rw [empty_cont]; exact H, fun k hk => ?_⟩, hb⟩
  rcases hk with e | e | e
  · show _ ≤ k; rw [e]; exact ht
  · show _ ≤ k; rw [e]; exact hg
  · simp [Value.ownBlock] at e
theorem Seat.put {P : Nat → Prop} (t : Nat) (T : Tab) (r : Rt) (w : World) (H : Seat P w t T) (HI : Inv T) (hk : r.k.good) (hfew : (contT T).length < 262144) (hP : ∀ k, w.heap.size ≤ k → P k) :
    Calls Try.prog 13 #[.pointer (some ⟨t, 0, none⟩), kyV r.k, .int .i64 r.v] w fun e w' => e = .returned (.tuple #[]) ∧ Seat P w' t (putF 16 T r) ∧ Touch P w w' := by
  obtain ⟨g, v, h, hp⟩ := H
  have hlo := HI.lo
  refine (put_any 16 t g v T r w h HI hk hfew (by omega)).mono ?_
  rintro e w' ⟨rfl, g', v', h', ht, hs⟩
  refine ⟨rfl, ⟨g', v', h', fun k hk' => ?_⟩, ht.mono fun k _ hk => hp k hk⟩
  by_cases e : k < w.heap.size
  · exact hp k (hs k hk' e)
  · exact hP k (by omega)
theorem Seat.get {P : Nat → Prop} (t : Nat) (T : Tab) (k : Ky) (w : World) (H : Seat P w t T) (HI : Inv T) (hk : k.good) (hfew : (contT T).length < 262144) :
    Calls Try.prog 21 #[.pointer (some ⟨t, 0, none⟩), kyV k] w fun e w' => ∃ p c, e = .returned (.tuple #[.int .i64 ((getT T k).getD 0), .bool (getT T k).isSome, .slice p (readT T k).length c]) ∧ w'.ownsRow w.heap.size 3 1 (.slice p (readT T k).length c) (readT T k).length (ics (readT T k)) ∧ Below w.heap.size w w' := by
  obtain ⟨g, v, h, hp⟩ := H
  have := st_le T
  exact get12_any t g v T _ k w h HI.num hk HI.sort (by omega)
theorem Seat.len {P : Nat → Prop} (t : Nat) (T : Tab) (w : World) (H : Seat P w t T) :
    Calls Try.prog 20 #[.pointer (some ⟨t, 0, none⟩)] w fun e w' => e = .returned (.int .i64 ((contT T).length : Int)) ∧ Below w.heap.size w w' := by
  obtain ⟨g, v, h, hp⟩ := H
  exact len12_any t g v T _ w h
theorem Seat.size {P : Nat → Prop} (t : Nat) (T : Tab) (w : World) (H : Seat P w t T) :
    Calls Try.prog 15 #[.pointer (some ⟨t, 0, none⟩)] w fun e w' => e = .returned (.tuple #[.int .u64 (T.s : Int), .int .i64 (T.B.length : Int), .int .i64 (T.st.length : Int)]) ∧ Below w.heap.size w w' := by
  obtain ⟨g, v, h, hp⟩ := H
  exact size12_any t g v T _ w h
theorem num12_any (n : Int) : Gives Try.prog 10 #[.int .i64 n] (.int .i64 n) := by
  intro w
  go_enter Try.func10, Try.ntmps10
  go_wp2
  go_ret
  exact ⟨rfl, by go_grown⟩
theorem three_good : (⟨0, 0, 3⟩ : Ky).good := ⟨W64.mk (by decide), W64.mk (by decide)⟩
set_option maxRecDepth 100000 in
set_option maxHeartbeats 1000000 in
theorem alive12_any : Gives Try.prog 7 #[] (.bool true) := by
  intro w
  have HN := Lib.hid (num12_any 0)
  have hI : Inv (emptyT 1 2) := empty_inv (W64.mk (by decide)) (by decide) (by decide)
  have HP : ∀ t w1, w.heap.size ≤ w1.heap.size → Seat (fun k => w.heap.size ≤ k) w1 t (emptyT 1 2) → Calls Try.prog 13 #[.pointer (some ⟨t, 0, none⟩), .agg #[.int .u64 0, .int .u64 0, .int .i64 3], .int .i64 8] w1 fun e w' => e = .returned (.tuple #[]) ∧ Seat (fun k => w.heap.size ≤ k) w' t (putF 16 (emptyT 1 2) ⟨⟨0, 0, 3⟩, 8⟩) ∧ Touch (fun k => w.heap.size ≤ k) w1 w' :=
    fun t w1 hs H => Seat.put t (emptyT 1 2) ⟨⟨0, 0, 3⟩, 8⟩ w1 H hI three_good (by rw [empty_cont]; decide) (fun k hk => Nat.le_trans hs hk)
  have hM := alive12_math
  have hp := putF_ok 16 (emptyT 1 2) ⟨⟨0, 0, 3⟩, 8⟩ hI three_good
  have hn := hp.all.length_eq
  rw [empty_cont] at hn
  generalize putF 16 (emptyT 1 2) ⟨⟨0, 0, 3⟩, 8⟩ = T2 at *
  have h1 := of_decide_eq_true (Bool.and_eq_true_iff.1 hM).1
  have h2 := of_decide_eq_true (Bool.and_eq_true_iff.1 hM).2
  have HG : ∀ t w1, Seat (fun k => w.heap.size ≤ k) w1 t T2 → Calls Try.prog 21 #[.pointer (some ⟨t, 0, none⟩), .agg #[.int .u64 0, .int .u64 0, .int .i64 3]] w1 fun e w' => ∃ p c, e = .returned (.tuple #[.int .i64 8, .bool true, .slice p 1 c]) ∧ w'.ownsRow w1.heap.size 3 1 (.slice p 1 c) 1 (ics (readT T2 ⟨0, 0, 3⟩)) ∧ Below w1.heap.size w1 w' := by
    intro t w1 H
    have h := Seat.get t T2 ⟨0, 0, 3⟩ w1 H hp.inv three_good (by rw [hn]; decide)
    rw [h1, h2] at h
    exact h
  have HPP := Lib.hid HP
  have HGG := Lib.hid HG
  clear hM hp hn h1 h2 hI HP HG
  go_enter Try.func7, Try.ntmps7
  go_wp2_with fail
  refine (Seat.new 1 2 _ (by decide) (by decide)).mono ?_
  rintro e w1 ⟨t, rfl, H1, hw1⟩
  go_wp2_with fail
  refine (HN.out _).mono ?_
  rintro e w2 ⟨rfl, hb2⟩
  have hw2 := hw1.trans (hb2.mono hw1.size)
  have H2 := H1.below hb2
  clear hb2 H1 hw1
  go_wp2_with fail
  refine (Seat.len t _ _ H2).mono ?_
  rintro e w3 ⟨rfl, hb3⟩
  have hw3 := hw2.trans (hb3.mono hw2.size)
  have H3 := H2.below hb3
  rw [empty_cont]
  clear hb3 H2 hw2
  go_wp2_with fail
  refine (HPP.out t _ hw3.size H3).mono ?_
  rintro e w4 ⟨rfl, H4, ht4⟩
  have hw4 := hw3.trans (ht4.below hw3.size fun k hk => hk)
  clear H3 hw3 ht4
  go_wp2_with fail
  refine (HGG.out t _ H4).mono ?_
  rintro e w5 ⟨p, c, rfl, -, hb5⟩
  have hw5 := hw4.trans (hb5.mono hw4.size)
  clear H4 hw4 hb5
  go_wp2
  go_ret
  exact ⟨rfl, hw5⟩
end Go.Proofs.Ytlglppfkpieabaa
