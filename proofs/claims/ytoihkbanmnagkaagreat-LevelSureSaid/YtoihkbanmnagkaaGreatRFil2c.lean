/-
  What May of the reference's filter says. No condition but those that stand in each.
-/
import Derived.Test.YtoihkbanmnagkaaGreatW1
import Derived.Test.YtoihkbanmnagkaaGreatShelf
import Derived.Test.YtoihkbanmnagkaaGreatGrown
import Derived.Test.YtoihkbanmnagkaaGreatM15
import Derived.Test.YtoihkbanmnagkaaGreatM12d
import Derived.Test.YtoihkbanmnagkaaGreatFil
/-
  What addr.Right, Has, Common and Less hand back, for every prefix and address. No condition but that the words are words of 64 bits.
-/
set_option linter.unusedSimpArgs false
set_option linter.unusedVariables false
namespace Go.Proofs.YtoihkbanmnagkaaGreat
open Go.RowKit Go.Sort M

theorem eql_addr (a b c d : Nat) (w : World) : (binOp .eql 36 (.agg #[.int .u64 a, .int .u64 b]) (.agg #[.int .u64 c, .int .u64 d])).run Tryz.prog w = .ok (.bool (decide (a = c) && decide (b = d))) w := by
  have e1 : decide (a = c) = decide ((a : Int) = c) := by rw [decide_eq_decide]; omega
  have e2 : decide (b = d) = decide ((b : Int) = d) := by rw [decide_eq_decide]; omega
  rw [e1, e2]
  by_cases h1 : (a : Int) = c <;> by_cases h2 : (b : Int) = d <;> simp [go_sem, h1, h2]

set_option maxHeartbeats 400000 in
theorem less_any (h1 l1 : Nat) (n1 : Int) (h2 l2 : Nat) (n2 : Int) :
    Gives Tryz.prog 70 #[.agg #[.int .u64 h1, .int .u64 l1, .int .i64 n1], .agg #[.int .u64 h2, .int .u64 l2, .int .i64 n2]] (.bool (lessB h1 l1 n1 h2 l2 n2)) := by
  intro w
  by_cases e1 : h1 = h2
  · by_cases e2 : l1 = l2
    · subst e1 e2
      go_enter Tryz.func70, Tryz.ntmps70
      go_wp2
      go_ret
      refine ⟨ret_bool ?_, by go_grown⟩
      simp [lessB]
    · subst e1
      go_enter Tryz.func70, Tryz.ntmps70
      go_wp2
      go_ret
      refine ⟨ret_bool ?_, by go_grown⟩
      simp [lessB, e2]
  · go_enter Tryz.func70, Tryz.ntmps70
    go_wp2
    go_ret
    refine ⟨ret_bool ?_, by go_grown⟩
    simp [lessB, e1]

end Go.Proofs.YtoihkbanmnagkaaGreat
/-
  What package spread's raise and Count hand back. No condition but that the words are words of 64 bits.
-/
set_option linter.unusedSimpArgs false
set_option linter.unusedVariables false
namespace Go.Proofs.YtoihkbanmnagkaaGreat
open Go.RowKit Go.Sort M

end Go.Proofs.YtoihkbanmnagkaaGreat
/-
  What spread.Keys hands back: a new row of prefixes. No condition but that the words are words of 64 bits.
-/
set_option linter.unusedSimpArgs false
set_option linter.unusedVariables false
namespace Go.Proofs.YtoihkbanmnagkaaGreat
open Go.RowKit Go.Sort M

end Go.Proofs.YtoihkbanmnagkaaGreat
/-
  Plain mathematics of what a level holds: the keys that a route makes there, the hop of a key, the set of a level; that a sorted row is known by its members; what an address finds. No condition but those that stand in each.
-/
set_option linter.unusedSimpArgs false
set_option linter.unusedVariables false
namespace Go.Proofs.YtoihkbanmnagkaaGreat
open M

theorem sorted_ext {L M : List Rt} (hL : Sorted L) (hM : Sorted M) (h : ∀ q, q ∈ L ↔ q ∈ M) : L = M :=
  sorted_eq hL hM ((List.perm_ext_iff_of_nodup (nodup_sorted hL) (nodup_sorted hM)).2 h)
theorem mem_outK18 {L : List Rt} {k : Ky} {q : Rt} : q ∈ outS L k ↔ q ∈ L ∧ q.k ≠ k := by unfold outS; rw [List.mem_filter]; simp
theorem one_key18 {L : List Rt} (hn : (keysR L).Nodup) {a b : Rt} (ha : a ∈ L) (hb : b ∈ L) (h : a.k = b.k) : a = b := by
  have := (split_key hn hb).mem_iff.1 ha
  rcases List.mem_cons.1 this with e | e
  · exact e
  · exact absurd h (mem_outK18.1 e).2
end Go.Proofs.YtoihkbanmnagkaaGreat
/-
  Plain mathematics of what a level holds, continued: an address has a key of a level just if it has a route of its lengths, and then with the hop of the longest. No condition but those that stand in each.
-/
set_option linter.unusedSimpArgs false
set_option linter.unusedVariables false
namespace Go.Proofs.YtoihkbanmnagkaaGreat
open M

theorem find_is18 {l : List Rt} {k : Ky} : (findS l k).isSome = true ↔ k ∈ keysR l := by
  unfold findS keysR
  rw [List.findIdx?_isSome, List.any_eq_true, List.mem_map]
  simp only [decide_eq_true_eq]
end Go.Proofs.YtoihkbanmnagkaaGreat
/-
  Plain mathematics of what turns between two sets: what a sorted row has of a key; the changes, known by their members; that they make the one of the other; that they turn back; whose keys turn in a level. No condition but those that stand in each.
-/
set_option linter.unusedSimpArgs false
set_option linter.unusedVariables false
namespace Go.Proofs.YtoihkbanmnagkaaGreat
open M

def getS (N : List Rt) (k : Ky) : Option Int := (N.find? fun r => decide (r.k = k)).map Rt.v
theorem getS_some {N : List Rt} (h : Sorted N) {k : Ky} {v : Int} : getS N k = some v ↔ (⟨k, v⟩ : Rt) ∈ N := by
  unfold getS
  constructor
  · intro e
    obtain ⟨r, hr, hv⟩ := Option.map_eq_some_iff.1 e
    have h1 := List.mem_of_find?_eq_some hr
    have h2 := List.find?_some hr
    have h3 : r.k = k := of_decide_eq_true h2
    rw [← h3, ← hv]
    exact h1
  · intro hm
    cases hf : N.find? fun r => decide (r.k = k) with
    | none =>
      have := List.find?_eq_none.1 hf _ hm
      simp at this
    | some r =>
      have h1 := List.mem_of_find?_eq_some hf
      have h2 := List.find?_some hf
      have h3 : r.k = k := of_decide_eq_true h2
      have : r = ⟨k, v⟩ := one_key18 h.nodup h1 hm h3
      rw [this]
      rfl
theorem getS_none {N : List Rt} {k : Ky} : getS N k = none ↔ k ∉ keysR N := by
  unfold getS keysR
  rw [Option.map_eq_none_iff, List.find?_eq_none, List.mem_map]
  constructor
  · rintro h ⟨r, hr, e⟩
    have := h r hr
    simp [e] at this
  · intro h r hr
    simp only [decide_eq_true_eq]
    exact fun e => h ⟨r, hr, e⟩
theorem getS_ext {M N : List Rt} (hM : Sorted M) (hN : Sorted N) (h : ∀ k, getS M k = getS N k) : M = N :=
  sorted_ext hM hN fun q => by
    obtain ⟨k, v⟩ := q
    rw [← getS_some hM, ← getS_some hN, h]
theorem getS_into {N : List Rt} (h : Sorted N) (r : Rt) (k : Ky) : getS (intoS N r) k = if k = r.k then some r.v else getS N k := by
  have hs := intoS_sorted r h
  have key : ∀ v, getS (intoS N r) k = some v ↔ (if k = r.k then some r.v else getS N k) = some v := fun v => by
    rw [getS_some hs, mem_into h]
    by_cases e : k = r.k
    · rw [if_pos e]
      subst e
      constructor
      · rintro (h1 | ⟨_, h1⟩)
        · rw [← h1]
        · exact absurd rfl h1
      · intro h1
        injection h1 with h1
        exact .inl (by rw [← h1])
    · rw [if_neg e, getS_some h]
      constructor
      · rintro (h1 | ⟨h1, _⟩)
        · exact absurd (by rw [← h1]) e
        · exact h1
      · exact fun h1 => .inr ⟨h1, e⟩
  cases h1 : getS (intoS N r) k with
  | some v => exact ((key v).1 h1).symm
  | none =>
    cases h2 : (if k = r.k then some r.v else getS N k) with
    | none => rfl
    | some v => rw [(key v).2 h2] at h1; cases h1
theorem getS_out {N : List Rt} (h : Sorted N) (j k : Ky) : getS (outS N j) k = if k = j then none else getS N k := by
  have hs := outS_sorted j h
  have key : ∀ v, getS (outS N j) k = some v ↔ (if k = j then none else getS N k) = some v := fun v => by
    rw [getS_some hs, mem_outS]
    by_cases e : k = j
    · rw [if_pos e]
      constructor
      · rintro ⟨_, h1⟩; exact absurd e h1
      · intro h1; cases h1
    · rw [if_neg e, getS_some h]
      exact ⟨fun h1 => h1.1, fun h1 => ⟨h1, e⟩⟩
  cases h1 : getS (outS N j) k with
  | some v => exact ((key v).1 h1).symm
  | none =>
    cases h2 : (if k = j then none else getS N k) with
    | none => rfl
    | some v => rw [(key v).2 h2] at h1; cases h1
structure Ch where
  k : Ky
  o : Int
  n : Int
def stepC (N : List Rt) (c : Ch) : List Rt := if 0 ≤ c.n then intoS N ⟨c.k, c.n⟩ else outS N c.k
end Go.Proofs.YtoihkbanmnagkaaGreat
/-
  Plain mathematics of tries: the bits of a key as its path; a binary trie by paths; what a sorted row has of a key, behind Into and Without. No condition but those that stand in each.
-/
set_option linter.unusedSimpArgs false
set_option linter.unusedVariables false
namespace Go.Proofs.YtoihkbanmnagkaaGreat
open M

end Go.Proofs.YtoihkbanmnagkaaGreat
/-
  Plain mathematics of longest matches, in ranges that meet, and of prefixes within one another. No condition but those that stand in each.
-/
set_option linter.unusedSimpArgs false
set_option linter.unusedVariables false
namespace Go.Proofs.YtoihkbanmnagkaaGreat
open M

end Go.Proofs.YtoihkbanmnagkaaGreat
/-
  Plain mathematics of what turns in a level: when a route comes, or goes, nothing turns but keys that it has, and at most 256. No condition but those that stand in each.
-/
set_option linter.unusedSimpArgs false
set_option linter.unusedVariables false
namespace Go.Proofs.YtoihkbanmnagkaaGreat
open M

end Go.Proofs.YtoihkbanmnagkaaGreat
/-
  Plain mathematics of a level: a filter's counters beside a table; what a change turns; that what is in the table is never missed by the filter. No condition but those that stand in each.
-/
set_option linter.unusedSimpArgs false
set_option linter.unusedVariables false
namespace Go.Proofs.YtoihkbanmnagkaaGreat
open M

structure Lv where
  n : Int
  s : Nat
  k : Int
  C : List Nat
  T : Tab
def Lv.plc (V : Lv) (q : Ky) : List Int := Go.Proofs.YtoihkbanmnagkaaGreat.plc V.s q.h q.l q.n V.k V.C.length
def Lv.has (V : Lv) (q : Ky) : Bool := (getT V.T q).isSome
def Lv.turn (V : Lv) (c : Ch) : Lv :=
  if c.k.n = V.n then
    if 0 ≤ c.n then { V with C := if V.has c.k then V.C else addL V.C (V.plc c.k), T := putF 16 V.T ⟨c.k, c.n⟩ }
    else if V.has c.k then { V with C := remL V.C (V.plc c.k), T := (delT V.T c.k).1 } else V
  else V
def Lv.turns (V : Lv) (L : List Ch) : Lv := L.foldl Lv.turn V
theorem Lv.turns_snoc (V : Lv) (L : List Ch) (c : Ch) : V.turns (L ++ [c]) = (V.turns L).turn c := by unfold Lv.turns; rw [List.foldl_append]; rfl
def Lv.key (V : Lv) (ah al : Nat) : Ky := cutK ah al V.n.toNat
def Lv.may (V : Lv) (ah al : Nat) : Bool := mayL V.C (V.plc (V.key ah al))
def Lv.hit (V : Lv) (ah al : Nat) : Option Int := if V.may ah al then getT V.T (V.key ah al) else none
def rowT (n : Int) (N : List Rt) (c : Ch) : List Rt := if c.k.n = n then stepC N c else N
def Lv.cnt (V : Lv) (N : List Rt) (j : Nat) : Nat := ((keysR N).flatMap V.plc).count (j : Int)
structure LvOk (V : Lv) (N : List Rt) : Prop where
  kept : Kept V.T N
  small : ∀ c ∈ V.C, c ≤ 15
  cov : ∀ j, j < V.C.length → min 15 (V.cnt N j) ≤ getN V.C (j : Int)
  len : ∀ r ∈ N, r.k.n = V.n
theorem getN_at21 {C : List Nat} {j : Nat} (h : j < C.length) : getN C (j : Int) = C[j] := by
  unfold getN
  rw [if_pos (by omega), Int.toNat_natCast, List.getD_eq_getElem?_getD, List.getElem?_eq_getElem h]
  rfl
theorem getN_set21 (C : List Nat) (a v j : Nat) (h : j < C.length) : getN (C.set a v) (j : Int) = if a = j then v else getN C (j : Int) := by
  rw [getN_at21 (by simpa using h), List.getElem_set, getN_at21 h]
theorem upL_get (C : List Nat) (i : Int) (j : Nat) (h : j < C.length) (h16 : ∀ c ∈ C, c ≤ 15) : min 15 (getN C (j : Int) + [i].count (j : Int)) ≤ getN (upL C i) (j : Int) := by
  have hj := h16 _ (List.getElem_mem h)
  rw [← getN_at21 h] at hj
  unfold upL
  by_cases e : i = (j : Int)
  · subst e
    have hc : [(j : Int)].count (j : Int) = 1 := by simp
    rw [hc]
    by_cases hb : upB C (j : Int) = true
    · rw [if_pos hb, getN_set21 _ _ _ _ h, if_pos (by simp)]
      omega
    · rw [if_neg hb]
      unfold upB at hb
      simp only [Bool.and_eq_true, decide_eq_true_eq, not_and] at hb
      have h2 := hb ⟨by omega, by omega⟩
      omega
  · have hc : [i].count (j : Int) = 0 := by simp [List.count_cons, e]
    rw [hc]
    split
    · rename_i hb
      unfold upB at hb
      simp only [Bool.and_eq_true, decide_eq_true_eq] at hb
      rw [getN_set21 _ _ _ _ h, if_neg (by omega)]
      omega
    · omega
theorem upL_small (C : List Nat) (i : Int) (h16 : ∀ c ∈ C, c ≤ 15) : ∀ c ∈ upL C i, c ≤ 15 := by
  intro c hc
  unfold upL at hc
  split at hc
  · rename_i hb
    rcases List.mem_or_eq_of_mem_set hc with h | h
    · exact h16 c h
    · subst h
      have := getN_lt h16 i
      unfold upB at hb
      simp only [Bool.and_eq_true, decide_eq_true_eq] at hb
      omega
  · exact h16 c hc
theorem addL_get : ∀ (L : List Int) (C : List Nat) (j : Nat), j < C.length → (∀ c ∈ C, c ≤ 15) → min 15 (getN C (j : Int) + L.count (j : Int)) ≤ getN (addL C L) (j : Int)
  | [], C, j, _, _ => by
    show min 15 (_ + 0) ≤ getN C (j : Int)
    omega
  | i :: L, C, j, h, h16 => by
    show _ ≤ getN (addL (upL C i) L) (j : Int)
    have h1 := upL_get C i j h h16
    have h2 := addL_get L (upL C i) j (by rw [upL_len]; exact h) (upL_small C i h16)
    have h3 : (i :: L).count (j : Int) = [i].count (j : Int) + L.count (j : Int) := by
      rw [show i :: L = [i] ++ L from rfl, List.count_append]
    rw [h3]
    omega
theorem addL_small : ∀ (L : List Int) (C : List Nat), (∀ c ∈ C, c ≤ 15) → ∀ c ∈ addL C L, c ≤ 15
  | [], _, h => h
  | i :: L, C, h => addL_small L (upL C i) (upL_small C i h)
theorem get_none21 {T : Tab} (H : Inv T) {k : Ky} (h : k ∉ keysR (contT T)) : getT T k = none := by
  have hno : ∀ b, b < T.B.length → getC (T.bk b) k = none := by
    intro b hb
    cases e : getC (T.bk b) k with
    | none => rfl
    | some v =>
      obtain ⟨i, hi, -, q, hq, hqk, -⟩ := getC_some (by rw [e]; rfl : (getC (T.bk b) k).isSome = true)
      exact absurd (by rw [← hqk]; exact mem_keys (mem_bk hb (hq ▸ List.getElem_mem hi))) h
  unfold getT
  rw [hno _ (H.x1_lt _), hno _ (H.x2_lt _)]
  show (List.find? _ _).map _ = none
  rw [List.find?_eq_none.2]
  · rfl
  · intro r hr
    simp only [decide_eq_true_eq]
    intro e
    exact h (by rw [← e]; exact mem_keys (List.mem_append_right _ hr))
theorem LvOk.get {V : Lv} {N : List Rt} (H : LvOk V N) (q : Ky) : getT V.T q = getS N q := by
  by_cases h : q ∈ keysR N
  · unfold keysR at h
    obtain ⟨r, hr, rfl⟩ := List.mem_map.1 h
    rw [H.kept.get hr]
    exact ((getS_some H.kept.sort (k := r.k) (v := r.v)).2 hr).symm
  · rw [get_none21 H.kept.inv (fun h2 => h ((keysR_perm H.kept.all).mem_iff.1 h2)), getS_none.2 h]
theorem LvOk.has {V : Lv} {N : List Rt} (H : LvOk V N) (q : Ky) : V.has q = true ↔ q ∈ keysR N := by
  unfold Lv.has
  rw [H.get]
  by_cases h : q ∈ keysR N
  · unfold keysR at h
    obtain ⟨r, hr, rfl⟩ := List.mem_map.1 h
    rw [(getS_some H.kept.sort (k := r.k) (v := r.v)).2 hr]
    simp only [Option.isSome_some, true_iff]
    exact List.mem_map.2 ⟨r, hr, rfl⟩
  · rw [getS_none.2 h]
    simp [h]
theorem cnt_perm {V : Lv} {N M : List Rt} (h : (keysR N).Perm (keysR M)) (j : Nat) : V.cnt N j = V.cnt M j := by
  unfold Lv.cnt
  exact (List.Perm.flatMap_right _ h).count_eq _
theorem cnt_cons (V : Lv) (r : Rt) (N : List Rt) (j : Nat) : V.cnt (r :: N) j = (V.plc r.k).count (j : Int) + V.cnt N j := by
  unfold Lv.cnt keysR
  rw [List.map_cons, List.flatMap_cons, List.count_append]
theorem cnt_same {V W : Lv} (h1 : V.s = W.s) (h2 : V.k = W.k) (h3 : V.C.length = W.C.length) (N : List Rt) (j : Nat) : V.cnt N j = W.cnt N j := by
  unfold Lv.cnt Lv.plc
  rw [h1, h2, h3]
theorem out_same {N : List Rt} {k : Ky} (h : k ∉ keysR N) : outS N k = N := by
  unfold outS
  rw [List.filter_eq_self]
  intro r hr
  simp only [ne_eq, decide_not, Bool.not_eq_true', decide_eq_false_iff_not]
  intro e
  exact h (by rw [← e]; exact List.mem_map.2 ⟨r, hr, rfl⟩)
theorem cnt_split {V : Lv} {N : List Rt} (hn : (keysR N).Nodup) {k : Ky} (h : k ∈ keysR N) (j : Nat) : V.cnt N j = (V.plc k).count (j : Int) + V.cnt (outS N k) j := by
  unfold keysR at h
  obtain ⟨r, hr, rfl⟩ := List.mem_map.1 h
  rw [cnt_perm (keysR_perm (split_key hn hr)), cnt_cons]
theorem cnt_into {V : Lv} {N : List Rt} (hs : Sorted N) (r : Rt) (j : Nat) : V.cnt (intoS N r) j = (V.plc r.k).count (j : Int) + V.cnt (outS N r.k) j := by
  rw [cnt_perm (keysR_perm (intoS_perm r hs)), cnt_cons]
theorem remL_small21 : ∀ (L : List Int) (C : List Nat), (∀ c ∈ C, c ≤ 15) → ∀ c ∈ remL C L, c ≤ 15
  | [], _, h => h
  | i :: L, C, h => remL_small21 L (downL C i) (by
    intro c hc
    unfold downL at hc
    split at hc
    · rcases List.mem_or_eq_of_mem_set hc with h2 | h2
      · exact h c h2
      · have := getN_lt h i
        omega
    · exact h c hc)
theorem LvOk.turn {V : Lv} {N : List Rt} (H : LvOk V N) (c : Ch) (hc : c.k.good) : LvOk (V.turn c) (rowT V.n N c) := by
  unfold Lv.turn rowT
  by_cases hn : c.k.n = V.n
  · rw [if_pos hn, if_pos hn]
    unfold stepC
    have hnd := H.kept.sort.nodup
    by_cases h0 : 0 ≤ c.n
    · rw [if_pos h0, if_pos h0]
      refine ⟨H.kept.put 16 ⟨c.k, c.n⟩ hc, ?_, ?_, ?_⟩
      · show ∀ x ∈ (if V.has c.k = true then V.C else addL V.C (V.plc c.k)), x ≤ 15
        split
        · exact H.small
        · exact addL_small _ _ H.small
      · intro j hj
        have hl : (if V.has c.k = true then V.C else addL V.C (V.plc c.k)).length = V.C.length := by
          split
          · rfl
          · exact addL_len _ _
        have hj2 : j < V.C.length := by
          rw [← hl]
          exact hj
        rw [cnt_same (V := { V with C := if V.has c.k then V.C else addL V.C (V.plc c.k), T := putF 16 V.T ⟨c.k, c.n⟩ }) (W := V) rfl rfl hl, cnt_into H.kept.sort]
        show _ ≤ getN (if V.has c.k = true then V.C else addL V.C (V.plc c.k)) (j : Int)
        by_cases hh : V.has c.k = true
        · rw [if_pos hh]
          have := cnt_split (V := V) hnd ((H.has _).1 hh) j
          have := H.cov j hj2
          simp only at *
          omega
        · rw [if_neg hh, out_same (fun h => hh ((H.has _).2 h))]
          have h1 := addL_get (V.plc c.k) V.C j hj2 H.small
          have := H.cov j hj2
          simp only at *
          omega
      · intro r hr
        show r.k.n = V.n
        rcases (mem_into H.kept.sort).1 hr with e | ⟨e, -⟩
        · rw [e]; exact hn
        · exact H.len r e
    · rw [if_neg h0, if_neg h0]
      by_cases hh : V.has c.k = true
      · rw [if_pos hh]
        refine ⟨H.kept.del c.k, ?_, ?_, fun r hr => H.len r (mem_outS.1 hr).1⟩
        · exact remL_small21 _ _ H.small
        · intro j hj
          have hl : (remL V.C (V.plc c.k)).length = V.C.length := remL_len _ _
          have hj2 : j < V.C.length := by
            rw [← hl]
            exact hj
          rw [cnt_same (V := { V with C := remL V.C (V.plc c.k), T := (delT V.T c.k).1 }) (W := V) rfl rfl hl]
          show _ ≤ getN (remL V.C (V.plc c.k)) (j : Int)
          have h16 : getN V.C (j : Int) ≤ 15 := by
            have := getN_lt H.small (j : Int)
            omega
          rw [remL_get _ _ _ hj2 h16]
          have h1 := cnt_split (V := V) hnd ((H.has _).1 hh) j
          have h2 := H.cov j hj2
          split <;> omega
      · rw [if_neg hh, out_same (fun h => hh ((H.has _).2 h))]
        exact H
  · rw [if_neg hn, if_neg hn]
    exact H
theorem LvOk.sure {V : Lv} {N : List Rt} (H : LvOk V N) {q : Ky} (h : q ∈ keysR N) : mayL V.C (V.plc q) = true := by
  refine mayL_yes fun i hi => ?_
  obtain ⟨h0, h1⟩ := plc_in V.s q.h q.l q.n V.k V.C.length i hi
  have h0 : 0 ≤ (V.plc q)[i] := h0
  have h1 : (V.plc q)[i] < (V.C.length : Int) := h1
  have hm : (V.plc q)[i] ∈ (keysR N).flatMap V.plc := List.mem_flatMap.2 ⟨q, h, List.getElem_mem hi⟩
  obtain ⟨j, hj⟩ := Int.eq_ofNat_of_zero_le h0
  rw [hj] at h1 hm ⊢
  have h2 := H.cov j (by omega)
  have h3 : 0 < V.cnt N j := List.count_pos_iff.2 hm
  omega
theorem LvOk.hit {V : Lv} {N : List Rt} (H : LvOk V N) (ah al : Nat) : V.hit ah al = getS N (V.key ah al) := by
  unfold Lv.hit
  rw [H.get]
  by_cases h : V.key ah al ∈ keysR N
  · rw [show V.may ah al = true from H.sure h, if_pos rfl]
  · rw [getS_none.2 h]
    split <;> rfl
end Go.Proofs.YtoihkbanmnagkaaGreat
/-
  Plain mathematics of a level, as it is made, and as it is told: what it begins with, its row, that its row is short, the rows behind changes. No condition but those that stand in each.
-/
set_option linter.unusedSimpArgs false
set_option linter.unusedVariables false
namespace Go.Proofs.YtoihkbanmnagkaaGreat
open M

def newV (n : Int) (s : Nat) (k : Int) (m b : Nat) : Lv := ⟨n, s, k, List.replicate m 0, emptyT (mixN s) b⟩
theorem newV_ok (n : Int) (s : Nat) (k : Int) (m b : Nat) (h1 : 1 ≤ b) (h2 : b ≤ 65536) : LvOk (newV n s k m b) [] := by
  refine ⟨Kept.empty (mixN_w s) h1 h2, ?_, ?_, ?_⟩
  · intro c hc
    have hc : c ∈ List.replicate m 0 := hc
    rw [List.eq_of_mem_replicate hc]
    omega
  · intro j hj
    show min 15 (List.count _ (List.flatMap _ [])) ≤ _
    simp
  · intro r hr
    cases hr
def badV (n k m b : Int) : Prop := ¬ (1 ≤ n ∧ n ≤ 128 ∧ (1 ≤ k ∧ k ≤ 16 ∧ 1 ≤ m ∧ m ≤ 65536) ∧ 1 ≤ b ∧ b ≤ 65536)
def rowsT (n : Int) (N : List Rt) (L : List Ch) : List Rt := L.foldl (rowT n) N
theorem rowsT_snoc (n : Int) (N : List Rt) (L : List Ch) (c : Ch) : rowsT n N (L ++ [c]) = rowT n (rowsT n N L) c := by unfold rowsT; rw [List.foldl_append]; rfl
theorem turn_n (V : Lv) (c : Ch) : (V.turn c).n = V.n := by
  unfold Lv.turn
  split
  · split
    · rfl
    · split <;> rfl
  · rfl
theorem turns_n (V : Lv) : ∀ (L : List Ch), (V.turns L).n = V.n := by
  intro L
  induction L generalizing V with
  | nil => rfl
  | cons c L ih =>
    show ((V.turn c).turns L).n = V.n
    rw [ih, turn_n]
theorem rowT_len (n : Int) (N : List Rt) (h : Sorted N) (c : Ch) : (rowT n N c).length ≤ N.length + 1 := by
  unfold rowT stepC
  have h1 : (outS N c.k).length ≤ N.length := List.length_filter_le _ _
  split
  · split
    · have := (intoS_perm ⟨c.k, c.n⟩ h).length_eq
      simp only [List.length_cons] at this
      omega
    · omega
  · omega
theorem LvOk.turns {V : Lv} {N : List Rt} (H : LvOk V N) : ∀ (L : List Ch), (∀ c ∈ L, c.k.good) → LvOk (V.turns L) (rowsT V.n N L) ∧ (rowsT V.n N L).length ≤ N.length + L.length := by
  intro L
  suffices HH : ∀ (m : Nat) (L : List Ch), L.length = m → (∀ c ∈ L, c.k.good) → LvOk (V.turns L) (rowsT V.n N L) ∧ (rowsT V.n N L).length ≤ N.length + L.length from HH L.length L rfl
  intro m
  induction m with
  | zero =>
    intro L hl _
    obtain rfl := List.eq_nil_of_length_eq_zero hl
    exact ⟨H, Nat.le_add_right _ _⟩
  | succ m ih =>
    intro L hl hg
    obtain ⟨L, c, rfl⟩ : ∃ L' c, L = L' ++ [c] := ⟨L.dropLast, L.getLast (by intro e; simp [e] at hl), (List.dropLast_concat_getLast _).symm⟩
    obtain ⟨h1, h2⟩ := ih L (by simpa using hl) (fun x hx => hg x (List.mem_append_left _ hx))
    have hc := hg c (List.mem_append_right _ (by simp))
    rw [Lv.turns_snoc, rowsT_snoc]
    have h3 := h1.turn c hc
    rw [turns_n] at h3
    have h4 := rowT_len V.n _ h1.kept.sort c
    rw [List.length_append, List.length_singleton]
    exact ⟨h3, by omega⟩
theorem LvOk.hitK {V : Lv} {N : List Rt} (H : LvOk V N) {q : Rt} (hq : q ∈ N) (hr : rightB q.k.h q.k.l q.k.n = true) : V.key q.k.h q.k.l = q.k := by
  obtain ⟨r0, r1, r2, r3⟩ := (rightB_iff _ _ _).1 hr
  have hn := H.len q hq
  unfold Lv.key cutK
  rw [← hn, r2, r3]
  obtain ⟨⟨a, b, n⟩, v⟩ := q
  simp only at *
  congr 1
  omega
end Go.Proofs.YtoihkbanmnagkaaGreat
/-
  The reference's filter in memory: its struct and its row of numbers; what its calls hand back, and what is kept of it while other blocks are written. No condition but those that stand in each.
-/
set_option linter.unusedSimpArgs false
set_option linter.unusedVariables false
namespace Go.Proofs.YtoihkbanmnagkaaGreat
open Go.RowKit Go.Sort M

section
variable {w w' : World} {lo hi f g s : Nat} {k : Int} {C : List Nat} {S : Nat → Prop}
end
end Go.Proofs.YtoihkbanmnagkaaGreat
/-
  What May of the reference's filter says. No condition but those that stand in each.
-/
set_option linter.unusedSimpArgs false
set_option linter.unusedVariables false
namespace Go.Proofs.YtoihkbanmnagkaaGreat
open Go.RowKit Go.Sort M

end Go.Proofs.YtoihkbanmnagkaaGreat
