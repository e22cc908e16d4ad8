/-
  Plain mathematics of a level: a filter's counters beside a table; what a change turns; that what is in the table is never missed by the filter. No condition but those that stand in each.
-/
import Derived.Test.YtoihkbanmnagkaaGreatM18b
import Derived.Test.YtoihkbanmnagkaaGreatM12e
import Derived.Test.YtoihkbanmnagkaaGreatM11
/-
  Plain mathematics of what turns between two sets: what a sorted row has of a key; the changes, known by their members; that they make the one of the other; that they turn back; whose keys turn in a level. No condition but those that stand in each.
-/
set_option linter.unusedSimpArgs false
set_option linter.unusedVariables false
namespace Go.Proofs.YtoihkbanmnagkaaGreat
open M

def getS (N : List Rt) (k : Ky) : Option Int := (N.find? fun r => decide (r.k = k)).map Rt.v
theorem getS_some {N : List Rt} (h : Sorted N) {k : Ky} {v : Int} : getS N k = some v ↔ (⟨k, v⟩ : Rt) ∈ N := by
  unfold getS
  constructor
  · intro e
    obtain ⟨r, hr, hv⟩ := Option.map_eq_some_iff.1 e
    have h1 := List.mem_of_find?_eq_some hr
    have h2 := List.find?_some hr
    have h3 : r.k = k := of_decide_eq_true h2
    rw [← h3, ← hv]
    exact h1
  · intro hm
    cases hf : N.find? fun r => decide (r.k = k) with
    | none =>
      have := List.find?_eq_none.1 hf _ hm
      simp at this
    | some r =>
      have h1 := List.mem_of_find?_eq_some hf
      have h2 := List.find?_some hf
      have h3 : r.k = k := of_decide_eq_true h2
      have : r = ⟨k, v⟩ := one_key18 h.nodup h1 hm h3
      rw [this]
      rfl
theorem getS_none {N : List Rt} {k : Ky} : getS N k = none ↔ k ∉ keysR N := by
  unfold getS keysR
  rw [Option.map_eq_none_iff, List.find?_eq_none, List.mem_map]
  constructor
  · rintro h ⟨r, hr, e⟩
    have := h r hr
    simp [e] at this
  · intro h r hr
    simp only [decide_eq_true_eq]
    exact fun e => h ⟨r, hr, e⟩
theorem getS_ext {M N : List Rt} (hM : Sorted M) (hN : Sorted N) (h : ∀ k, getS M k = getS N k) : M = N :=
  sorted_ext hM hN fun q => by
    obtain ⟨k, v⟩ := q
    rw [← getS_some hM, ← getS_some hN, h]
theorem getS_into {N : List Rt} (h : Sorted N) (r : Rt) (k : Ky) : getS (intoS N r) k = if k = r.k then some r.v else getS N k := by
  have hs := intoS_sorted r h
  have key : ∀ v, getS (intoS N r) k = some v ↔ (if k = r.k then some r.v else getS N k) = some v := fun v => by
    rw [getS_some hs, mem_into h]
    by_cases e : k = r.k
    · rw [if_pos e]
      subst e
      constructor
      · rintro (h1 | ⟨_, h1⟩)
        · rw [← h1]
        · exact absurd rfl h1
      · intro h1
        injection h1 with h1
        exact .inl (by rw [← h1])
    · rw [if_neg e, getS_some h]
      constructor
      · rintro (h1 | ⟨h1, _⟩)
        · exact absurd (by rw [← h1]) e
        · exact h1
      · exact fun h1 => .inr ⟨h1, e⟩
  cases h1 : getS (intoS N r) k with
  | some v => exact ((key v).1 h1).symm
  | none =>
    cases h2 : (if k = r.k then some r.v else getS N k) with
    | none => rfl
    | some v => rw [(key v).2 h2] at h1; cases h1
theorem getS_out {N : List Rt} (h : Sorted N) (j k : Ky) : getS (outS N j) k = if k = j then none else getS N k := by
  have hs := outS_sorted j h
  have key : ∀ v, getS (outS N j) k = some v ↔ (if k = j then none else getS N k) = some v := fun v => by
    rw [getS_some hs, mem_outS]
    by_cases e : k = j
    · rw [if_pos e]
      constructor
      · rintro ⟨_, h1⟩; exact absurd e h1
      · intro h1; cases h1
    · rw [if_neg e, getS_some h]
      exact ⟨fun h1 => h1.1, fun h1 => ⟨h1, e⟩⟩
  cases h1 : getS (outS N j) k with
  | some v => exact ((key v).1 h1).symm
  | none =>
    cases h2 : (if k = j then none else getS N k) with
    | none => rfl
    | some v => rw [(key v).2 h2] at h1; cases h1
structure Ch where
  k : Ky
  o : Int
  n : Int
def chS (A B : List Rt) (k : Ky) : Ch := ⟨k, (getS A k).getD (-1), (getS B k).getD (-1)⟩
def turnB (A B : List Rt) (k : Ky) : Bool := decide (getS A k ≠ getS B k)
def ofS (A B : List Rt) : List Ch := ((keysR (sortR (A ++ B))).filter (turnB A B)).map (chS A B)
def stepC (N : List Rt) (c : Ch) : List Rt := if 0 ≤ c.n then intoS N ⟨c.k, c.n⟩ else outS N c.k
structure MidC (A B : List Rt) (i : Nat) (N : List Rt) : Prop where
  sorted : Sorted N
  get : ∀ k, getS N k = if k ∈ ((ofS A B).take i).map Ch.k then getS B k else getS A k
theorem MidC.start {A B : List Rt} (h : Sorted A) : MidC A B 0 A := ⟨h, fun k => by simp⟩
end Go.Proofs.YtoihkbanmnagkaaGreat
/-
  Plain mathematics of tries: the bits of a key as its path; a binary trie by paths; what a sorted row has of a key, behind Into and Without. No condition but those that stand in each.
-/
set_option linter.unusedSimpArgs false
set_option linter.unusedVariables false
namespace Go.Proofs.YtoihkbanmnagkaaGreat
open M

def pathN (h l : Nat) (n : Nat) : List Bool := (List.range n).map fun i => bitN h l i
theorem path_len (h l n : Nat) : (pathN h l n).length = n := by simp [pathN]
theorem path_at {h l n i : Nat} (hi : i < n) : (pathN h l n)[i]'(by rw [path_len]; exact hi) = bitN h l i := by simp [pathN]
theorem path_cut {h l h' l' n : Nat} (a : W64 h) (b : W64 l) (c : W64 h') (d : W64 l') (hn : n ≤ 128) : pathN h l n = pathN h' l' n ↔ cutW h n = cutW h' n ∧ cutW l (n - 64) = cutW l' (n - 64) := by
  constructor
  · intro e
    have hb : ∀ i, i < n → bitN h l i = bitN h' l' i := fun i hi => by
      have := congrArg (fun L => L[i]?) e
      simp only [List.getElem?_eq_getElem (show i < (pathN h l n).length by rw [path_len]; exact hi), List.getElem?_eq_getElem (show i < (pathN h' l' n).length by rw [path_len]; exact hi), path_at hi] at this
      exact Option.some.inj this
    refine addr_ext _ _ _ _ (a.cut _) (b.cut _) (c.cut _) (d.cut _) fun i _ => ?_
    rw [bitN_cut, bitN_cut]
    by_cases h : i < n
    · rw [hb i h]
    · simp [h]
  · rintro ⟨e1, e2⟩
    refine List.ext_getElem (by rw [path_len, path_len]) fun i h1 h2 => ?_
    rw [path_len] at h1
    rw [path_at h1, path_at h1]
    unfold bitN
    by_cases hi : i < 64
    · rw [if_pos hi, if_pos hi]
      have := congrArg (fun w => w.testBit (63 - i)) e1
      simp only [cutW_bit, show 64 - n ≤ 63 - i by omega, decide_true, Bool.true_and] at this
      exact this
    · rw [if_neg hi, if_neg hi, if_pos (by omega), if_pos (by omega)]
      have := congrArg (fun w => w.testBit (127 - i)) e2
      simp only [cutW_bit, show 64 - (n - 64) ≤ 127 - i by omega, decide_true, Bool.true_and] at this
      exact this
def pathK (k : Ky) : List Bool := pathN k.h k.l k.n.toNat
def rightK (k : Ky) : Prop := rightB k.h k.l k.n = true
theorem pathK_inj {k k' : Ky} (g : k.good) (g' : k'.good) (r : rightK k) (r' : rightK k') (h : pathK k = pathK k') : k = k' := by
  have h1 := (rightB_iff _ _ _).1 r
  have h2 := (rightB_iff _ _ _).1 r'
  have hl := congrArg List.length h
  unfold pathK at hl h
  rw [path_len, path_len] at hl
  have hn : k.n = k'.n := by omega
  rw [← hl] at h
  have hc := (path_cut g.1 g.2 g'.1 g'.2 (by omega)).1 h
  obtain ⟨kh, kl, kn⟩ := k
  obtain ⟨kh', kl', kn'⟩ := k'
  simp only at *
  subst hn
  rw [h1.2.2.1, h2.2.2.1, h1.2.2.2, h2.2.2.2] at hc
  rw [hc.1, hc.2]
/-! ### A binary trie -/
inductive Tr where
  | nil
  | node (v : Option Int) (l r : Tr)
def Tr.get : Tr → List Bool → Option Int
  | .nil, _ => none
  | .node v _ _, [] => v
  | .node _ l r, b :: p => if b then r.get p else l.get p
def Tr.put : Tr → List Bool → Int → Tr
  | .nil, [], x => .node (some x) .nil .nil
  | .nil, b :: p, x => if b then .node none .nil (Tr.put .nil p x) else .node none (Tr.put .nil p x) .nil
  | .node _ l r, [], x => .node (some x) l r
  | .node v l r, b :: p, x => if b then .node v l (r.put p x) else .node v (l.put p x) r
def Tr.del : Tr → List Bool → Tr
  | .nil, _ => .nil
  | .node _ l r, [] => .node none l r
  | .node v l r, b :: p => if b then .node v l (r.del p) else .node v (l.del p) r
theorem Tr.get_nil (p : List Bool) : Tr.nil.get p = none := by cases p <;> rfl
theorem Tr.get_put : ∀ (t : Tr) (p q : List Bool) (x : Int), (t.put p x).get q = if q = p then some x else t.get q
  | .nil, [], [], x => rfl
  | .nil, [], c :: q, x => by
    rw [if_neg (by simp)]
    cases c <;> exact Tr.get_nil q
  | .nil, b :: p, [], x => by
    rw [if_neg (by simp)]
    unfold Tr.put
    cases b <;> rfl
  | .nil, b :: p, c :: q, x => by
    have ih := Tr.get_put .nil p q x
    rw [Tr.get_nil] at ih
    unfold Tr.put
    cases b <;> cases c <;> simp [Tr.get, Tr.get_nil, ih]
  | .node v l r, [], [], x => rfl
  | .node v l r, [], c :: q, x => by
    rw [if_neg (by simp)]
    rfl
  | .node v l r, b :: p, [], x => by
    rw [if_neg (by simp)]
    unfold Tr.put
    cases b <;> rfl
  | .node v l r, b :: p, c :: q, x => by
    have i1 := Tr.get_put l p q x
    have i2 := Tr.get_put r p q x
    unfold Tr.put
    cases b <;> cases c <;> simp [Tr.get, i1, i2]
theorem Tr.get_del : ∀ (t : Tr) (p q : List Bool), (t.del p).get q = if q = p then none else t.get q
  | .nil, p, q => by
    unfold Tr.del
    rw [Tr.get_nil]
    split <;> rfl
  | .node v l r, [], [] => rfl
  | .node v l r, [], c :: q => by
    rw [if_neg (by simp)]
    rfl
  | .node v l r, b :: p, [] => by
    rw [if_neg (by simp)]
    unfold Tr.del
    cases b <;> rfl
  | .node v l r, b :: p, c :: q => by
    have i1 := Tr.get_del l p q
    have i2 := Tr.get_del r p q
    unfold Tr.del
    cases b <;> cases c <;> simp [Tr.get, i1, i2]
def Tr.sub : Tr → List Bool → Tr
  | t, [] => t
  | .nil, _ :: _ => .nil
  | .node _ l r, b :: p => if b then r.sub p else l.sub p
theorem Tr.sub_zero (t : Tr) : t.sub [] = t := by cases t <;> rfl
/-! ### What a sorted row has of a key -/
def conT' (N : List Rt) (k : Ky) : Option Int := (N.find? fun r => decide (r.k = k)).map Rt.v
theorem con_some {N : List Rt} (hn : (keysR N).Nodup) {k : Ky} {x : Int} : conT' N k = some x ↔ (⟨k, x⟩ : Rt) ∈ N := by
  unfold conT'
  induction N with
  | nil => simp
  | cons a N ih =>
    have h1 : a.k ∉ keysR N ∧ (keysR N).Nodup := by
      unfold keysR at *
      rw [List.map_cons, List.nodup_cons] at hn
      exact hn
    rw [List.find?_cons]
    by_cases e : a.k = k
    · simp only [e, decide_true, Option.map_some, Option.some.injEq, List.mem_cons]
      constructor
      · intro h
        left
        rw [← h, ← e]
      · rintro (h | h)
        · rw [← h]
        · exact absurd (by rw [e]; exact mem_keys h) h1.1
    · simp only [e, decide_false, List.mem_cons]
      rw [ih h1.2]
      constructor
      · exact .inr
      · rintro (h | h)
        · exact absurd (by rw [← h]) e
        · exact h
theorem con_none {N : List Rt} {k : Ky} : conT' N k = none ↔ k ∉ keysR N := by
  unfold conT' keysR
  rw [Option.map_eq_none_iff, List.find?_eq_none]
  simp
theorem con_into {N : List Rt} (h : Sorted N) (r : Rt) (k : Ky) : conT' (intoS N r) k = if k = r.k then some r.v else conT' N k := by
  have hs := intoS_sorted r h
  have hp := intoS_perm r h
  by_cases e : k = r.k
  · rw [if_pos e, con_some hs.nodup]
    refine hp.mem_iff.2 ?_
    rw [e]
    exact List.mem_cons_self
  · rw [if_neg e]
    cases hc : conT' N k with
    | none =>
      rw [con_none] at hc ⊢
      intro hm
      unfold keysR at hm hc
      rw [List.mem_map] at hm
      obtain ⟨q, hq, rfl⟩ := hm
      rcases List.mem_cons.1 (hp.mem_iff.1 hq) with e2 | e2
      · exact e (by rw [e2])
      · exact hc (List.mem_map_of_mem (mem_outS.1 e2).1)
    | some x =>
      rw [con_some hs.nodup]
      rw [con_some h.nodup] at hc
      exact hp.mem_iff.2 (List.mem_cons_of_mem _ (mem_outS.2 ⟨hc, e⟩))
theorem con_out {N : List Rt} (h : Sorted N) (k0 k : Ky) : conT' (outS N k0) k = if k = k0 then none else conT' N k := by
  have hs : Sorted (outS N k0) := List.Pairwise.filter _ h
  by_cases e : k = k0
  · rw [if_pos e, con_none]
    intro hm
    unfold keysR at hm
    rw [List.mem_map] at hm
    obtain ⟨q, hq, hk⟩ := hm
    exact (mem_outS.1 hq).2 (hk.trans e)
  · rw [if_neg e]
    cases hc : conT' N k with
    | none =>
      rw [con_none] at hc ⊢
      intro hm
      unfold keysR at hm hc
      rw [List.mem_map] at hm
      obtain ⟨q, hq, rfl⟩ := hm
      exact hc (List.mem_map_of_mem (mem_outS.1 hq).1)
    | some x =>
      rw [con_some hs.nodup]
      rw [con_some h.nodup] at hc
      exact mem_outS.2 ⟨hc, e⟩
structure TrOf (t : Tr) (N : List Rt) : Prop where
  sort : Sorted N
  good : ∀ r ∈ N, r.k.good
  right : ∀ r ∈ N, rightK r.k
  has : ∀ k : Ky, k.good → rightK k → t.get (pathK k) = conT' N k
theorem TrOf.empty : TrOf .nil [] := ⟨List.Pairwise.nil, fun _ h => (by cases h), fun _ h => (by cases h), fun k _ _ => Tr.get_nil _⟩
theorem TrOf.put {t : Tr} {N : List Rt} (H : TrOf t N) (r : Rt) (g : r.k.good) (hr : rightK r.k) : TrOf (t.put (pathK r.k) r.v) (intoS N r) := by
  refine ⟨intoS_sorted r H.sort, fun q hq => ?_, fun q hq => ?_, fun k kg kr => ?_⟩
  · rcases intoS_mem H.sort hq with e | e
    · rw [e]; exact g
    · exact H.good q e
  · rcases intoS_mem H.sort hq with e | e
    · rw [e]; exact hr
    · exact H.right q e
  · rw [Tr.get_put, con_into H.sort, H.has k kg kr]
    by_cases e : k = r.k
    · rw [if_pos e, if_pos (by rw [e])]
    · rw [if_neg e, if_neg (fun h => e (pathK_inj kg g kr hr h))]
theorem TrOf.del {t : Tr} {N : List Rt} (H : TrOf t N) (k0 : Ky) (g : k0.good) (hr : rightK k0) : TrOf (t.del (pathK k0)) (outS N k0) := by
  refine ⟨List.Pairwise.filter _ H.sort, fun q hq => H.good q (mem_outS.1 hq).1, fun q hq => H.right q (mem_outS.1 hq).1, fun k kg kr => ?_⟩
  rw [Tr.get_del, con_out H.sort, H.has k kg kr]
  by_cases e : k = k0
  · rw [if_pos e, if_pos (by rw [e])]
  · rw [if_neg e, if_neg (fun h => e (pathK_inj kg g kr hr h))]
end Go.Proofs.YtoihkbanmnagkaaGreat
/-
  Plain mathematics of longest matches, in ranges that meet, and of prefixes within one another. No condition but those that stand in each.
-/
set_option linter.unusedSimpArgs false
set_option linter.unusedVariables false
namespace Go.Proofs.YtoihkbanmnagkaaGreat
open M

end Go.Proofs.YtoihkbanmnagkaaGreat
/-
  Plain mathematics of what turns in a level: when a route comes, or goes, nothing turns but keys that it has, and at most 256. No condition but those that stand in each.
-/
set_option linter.unusedSimpArgs false
set_option linter.unusedVariables false
namespace Go.Proofs.YtoihkbanmnagkaaGreat
open M

end Go.Proofs.YtoihkbanmnagkaaGreat
/-
  Plain mathematics of a level: a filter's counters beside a table; what a change turns; that what is in the table is never missed by the filter. No condition but those that stand in each.
-/
set_option linter.unusedSimpArgs false
set_option linter.unusedVariables false
namespace Go.Proofs.YtoihkbanmnagkaaGreat
open M

structure Lv where
  n : Int
  s : Nat
  k : Int
  C : List Nat
  T : Tab
def Lv.plc (V : Lv) (q : Ky) : List Int := Go.Proofs.YtoihkbanmnagkaaGreat.plc V.s q.h q.l q.n V.k V.C.length
def Lv.has (V : Lv) (q : Ky) : Bool := (getT V.T q).isSome
def Lv.turn (V : Lv) (c : Ch) : Lv :=
  if c.k.n = V.n then
    if 0 ≤ c.n then { V with C := if V.has c.k then V.C else addL V.C (V.plc c.k), T := putF 16 V.T ⟨c.k, c.n⟩ }
    else if V.has c.k then { V with C := remL V.C (V.plc c.k), T := (delT V.T c.k).1 } else V
  else V
def Lv.turns (V : Lv) (L : List Ch) : Lv := L.foldl Lv.turn V
theorem Lv.turns_snoc (V : Lv) (L : List Ch) (c : Ch) : V.turns (L ++ [c]) = (V.turns L).turn c := by unfold Lv.turns; rw [List.foldl_append]; rfl
def Lv.key (V : Lv) (ah al : Nat) : Ky := cutK ah al V.n.toNat
def Lv.may (V : Lv) (ah al : Nat) : Bool := mayL V.C (V.plc (V.key ah al))
def Lv.hit (V : Lv) (ah al : Nat) : Option Int := if V.may ah al then getT V.T (V.key ah al) else none
def rowT (n : Int) (N : List Rt) (c : Ch) : List Rt := if c.k.n = n then stepC N c else N
def Lv.cnt (V : Lv) (N : List Rt) (j : Nat) : Nat := ((keysR N).flatMap V.plc).count (j : Int)
structure LvOk (V : Lv) (N : List Rt) : Prop where
  kept : Kept V.T N
  small : ∀ c ∈ V.C, c ≤ 15
  cov : ∀ j, j < V.C.length → min 15 (V.cnt N j) ≤ getN V.C (j : Int)
  len : ∀ r ∈ N, r.k.n = V.n
theorem getN_at21 {C : List Nat} {j : Nat} (h : j < C.length) : getN C (j : Int) = C[j] := by
  unfold getN
  rw [if_pos (by omega), Int.toNat_natCast, List.getD_eq_getElem?_getD, List.getElem?_eq_getElem h]
  rfl
theorem getN_set21 (C : List Nat) (a v j : Nat) (h : j < C.length) : getN (C.set a v) (j : Int) = if a = j then v else getN C (j : Int) := by
  rw [getN_at21 (by simpa using h), List.getElem_set, getN_at21 h]
theorem upL_get (C : List Nat) (i : Int) (j : Nat) (h : j < C.length) (h16 : ∀ c ∈ C, c ≤ 15) : min 15 (getN C (j : Int) + [i].count (j : Int)) ≤ getN (upL C i) (j : Int) := by
  have hj := h16 _ (List.getElem_mem h)
  rw [← getN_at21 h] at hj
  unfold upL
  by_cases e : i = (j : Int)
  · subst e
    have hc : [(j : Int)].count (j : Int) = 1 := by simp
    rw [hc]
    by_cases hb : upB C (j : Int) = true
    · rw [if_pos hb, getN_set21 _ _ _ _ h, if_pos (by simp)]
      omega
    · rw [if_neg hb]
      unfold upB at hb
      simp only [Bool.and_eq_true, decide_eq_true_eq, not_and] at hb
      have h2 := hb ⟨by omega, by omega⟩
      omega
  · have hc : [i].count (j : Int) = 0 := by simp [List.count_cons, e]
    rw [hc]
    split
    · rename_i hb
      unfold upB at hb
      simp only [Bool.and_eq_true, decide_eq_true_eq] at hb
      rw [getN_set21 _ _ _ _ h, if_neg (by omega)]
      omega
    · omega
theorem upL_small (C : List Nat) (i : Int) (h16 : ∀ c ∈ C, c ≤ 15) : ∀ c ∈ upL C i, c ≤ 15 := by
  intro c hc
  unfold upL at hc
  split at hc
  · rename_i hb
    rcases List.mem_or_eq_of_mem_set hc with h | h
    · exact h16 c h
    · subst h
      have := getN_lt h16 i
      unfold upB at hb
      simp only [Bool.and_eq_true, decide_eq_true_eq] at hb
      omega
  · exact h16 c hc
theorem addL_get : ∀ (L : List Int) (C : List Nat) (j : Nat), j < C.length → (∀ c ∈ C, c ≤ 15) → min 15 (getN C (j : Int) + L.count (j : Int)) ≤ getN (addL C L) (j : Int)
  | [], C, j, _, _ => by
    show min 15 (_ + 0) ≤ getN C (j : Int)
    omega
  | i :: L, C, j, h, h16 => by
    show _ ≤ getN (addL (upL C i) L) (j : Int)
    have h1 := upL_get C i j h h16
    have h2 := addL_get L (upL C i) j (by rw [upL_len]; exact h) (upL_small C i h16)
    have h3 : (i :: L).count (j : Int) = [i].count (j : Int) + L.count (j : Int) := by
      rw [show i :: L = [i] ++ L from rfl, List.count_append]
    rw [h3]
    omega
theorem addL_small : ∀ (L : List Int) (C : List Nat), (∀ c ∈ C, c ≤ 15) → ∀ c ∈ addL C L, c ≤ 15
  | [], _, h => h
  | i :: L, C, h => addL_small L (upL C i) (upL_small C i h)
theorem get_none21 {T : Tab} (H : Inv T) {k : Ky} (h : k ∉ keysR (contT T)) : getT T k = none := by
  have hno : ∀ b, b < T.B.length → getC (T.bk b) k = none := by
    intro b hb
    cases e : getC (T.bk b) k with
    | none => rfl
    | some v =>
      obtain ⟨i, hi, -, q, hq, hqk, -⟩ := getC_some (by rw [e]; rfl : (getC (T.bk b) k).isSome = true)
      exact absurd (by rw [← hqk]; exact mem_keys (mem_bk hb (hq ▸ List.getElem_mem hi))) h
  unfold getT
  rw [hno _ (H.x1_lt _), hno _ (H.x2_lt _)]
  show (List.find? _ _).map _ = none
  rw [List.find?_eq_none.2]
  · rfl
  · intro r hr
    simp only [decide_eq_true_eq]
    intro e
    exact h (by rw [← e]; exact mem_keys (List.mem_append_right _ hr))
theorem LvOk.get {V : Lv} {N : List Rt} (H : LvOk V N) (q : Ky) : getT V.T q = getS N q := by
  by_cases h : q ∈ keysR N
  · unfold keysR at h
    obtain ⟨r, hr, rfl⟩ := List.mem_map.1 h
    rw [H.kept.get hr]
    exact ((getS_some H.kept.sort (k := r.k) (v := r.v)).2 hr).symm
  · rw [get_none21 H.kept.inv (fun h2 => h ((keysR_perm H.kept.all).mem_iff.1 h2)), getS_none.2 h]
theorem LvOk.has {V : Lv} {N : List Rt} (H : LvOk V N) (q : Ky) : V.has q = true ↔ q ∈ keysR N := by
  unfold Lv.has
  rw [H.get]
  by_cases h : q ∈ keysR N
  · unfold keysR at h
    obtain ⟨r, hr, rfl⟩ := List.mem_map.1 h
    rw [(getS_some H.kept.sort (k := r.k) (v := r.v)).2 hr]
    simp only [Option.isSome_some, true_iff]
    exact List.mem_map.2 ⟨r, hr, rfl⟩
  · rw [getS_none.2 h]
    simp [h]
theorem cnt_perm {V : Lv} {N M : List Rt} (h : (keysR N).Perm (keysR M)) (j : Nat) : V.cnt N j = V.cnt M j := by
  unfold Lv.cnt
  exact (List.Perm.flatMap_right _ h).count_eq _
theorem cnt_cons (V : Lv) (r : Rt) (N : List Rt) (j : Nat) : V.cnt (r :: N) j = (V.plc r.k).count (j : Int) + V.cnt N j := by
  unfold Lv.cnt keysR
  rw [List.map_cons, List.flatMap_cons, List.count_append]
theorem cnt_same {V W : Lv} (h1 : V.s = W.s) (h2 : V.k = W.k) (h3 : V.C.length = W.C.length) (N : List Rt) (j : Nat) : V.cnt N j = W.cnt N j := by
  unfold Lv.cnt Lv.plc
  rw [h1, h2, h3]
theorem out_same {N : List Rt} {k : Ky} (h : k ∉ keysR N) : outS N k = N := by
  unfold outS
  rw [List.filter_eq_self]
  intro r hr
  simp only [ne_eq, decide_not, Bool.not_eq_true', decide_eq_false_iff_not]
  intro e
  exact h (by rw [← e]; exact List.mem_map.2 ⟨r, hr, rfl⟩)
theorem cnt_split {V : Lv} {N : List Rt} (hn : (keysR N).Nodup) {k : Ky} (h : k ∈ keysR N) (j : Nat) : V.cnt N j = (V.plc k).count (j : Int) + V.cnt (outS N k) j := by
  unfold keysR at h
  obtain ⟨r, hr, rfl⟩ := List.mem_map.1 h
  rw [cnt_perm (keysR_perm (split_key hn hr)), cnt_cons]
theorem cnt_into {V : Lv} {N : List Rt} (hs : Sorted N) (r : Rt) (j : Nat) : V.cnt (intoS N r) j = (V.plc r.k).count (j : Int) + V.cnt (outS N r.k) j := by
  rw [cnt_perm (keysR_perm (intoS_perm r hs)), cnt_cons]
theorem remL_small21 : ∀ (L : List Int) (C : List Nat), (∀ c ∈ C, c ≤ 15) → ∀ c ∈ remL C L, c ≤ 15
  | [], _, h => h
  | i :: L, C, h => remL_small21 L (downL C i) (by
    intro c hc
    unfold downL at hc
    split at hc
    · rcases List.mem_or_eq_of_mem_set hc with h2 | h2
      · exact h c h2
      · have := getN_lt h i
        omega
    · exact h c hc)
theorem LvOk.turn {V : Lv} {N : List Rt} (H : LvOk V N) (c : Ch) (hc : c.k.good) : LvOk (V.turn c) (rowT V.n N c) := by
  unfold Lv.turn rowT
  by_cases hn : c.k.n = V.n
  · rw [if_pos hn, if_pos hn]
    unfold stepC
    have hnd := H.kept.sort.nodup
    by_cases h0 : 0 ≤ c.n
    · rw [if_pos h0, if_pos h0]
      refine ⟨H.kept.put 16 ⟨c.k, c.n⟩ hc, ?_, ?_, ?_⟩
      · show ∀ x ∈ (if V.has c.k = true then V.C else addL V.C (V.plc c.k)), x ≤ 15
        split
        · exact H.small
        · exact addL_small _ _ H.small
      · intro j hj
        have hl : (if V.has c.k = true then V.C else addL V.C (V.plc c.k)).length = V.C.length := by
          split
          · rfl
          · exact addL_len _ _
        have hj2 : j < V.C.length := by
          rw [← hl]
          exact hj
        rw [cnt_same (V := { V with C := if V.has c.k then V.C else addL V.C (V.plc c.k), T := putF 16 V.T ⟨c.k, c.n⟩ }) (W := V) rfl rfl hl, cnt_into H.kept.sort]
        show _ ≤ getN (if V.has c.k = true then V.C else addL V.C (V.plc c.k)) (j : Int)
        by_cases hh : V.has c.k = true
        · rw [if_pos hh]
          have := cnt_split (V := V) hnd ((H.has _).1 hh) j
          have := H.cov j hj2
          simp only at *
          omega
        · rw [if_neg hh, out_same (fun h => hh ((H.has _).2 h))]
          have h1 := addL_get (V.plc c.k) V.C j hj2 H.small
          have := H.cov j hj2
          simp only at *
          omega
      · intro r hr
        show r.k.n = V.n
        rcases (mem_into H.kept.sort).1 hr with e | ⟨e, -⟩
        · rw [e]; exact hn
        · exact H.len r e
    · rw [if_neg h0, if_neg h0]
      by_cases hh : V.has c.k = true
      · rw [if_pos hh]
        refine ⟨H.kept.del c.k, ?_, ?_, fun r hr => H.len r (mem_outS.1 hr).1⟩
        · exact remL_small21 _ _ H.small
        · intro j hj
          have hl : (remL V.C (V.plc c.k)).length = V.C.length := remL_len _ _
          have hj2 : j < V.C.length := by
            rw [← hl]
            exact hj
          rw [cnt_same (V := { V with C := remL V.C (V.plc c.k), T := (delT V.T c.k).1 }) (W := V) rfl rfl hl]
          show _ ≤ getN (remL V.C (V.plc c.k)) (j : Int)
          have h16 : getN V.C (j : Int) ≤ 15 := by
            have := getN_lt H.small (j : Int)
            omega
          rw [remL_get _ _ _ hj2 h16]
          have h1 := cnt_split (V := V) hnd ((H.has _).1 hh) j
          have h2 := H.cov j hj2
          split <;> omega
      · rw [if_neg hh, out_same (fun h => hh ((H.has _).2 h))]
        exact H
  · rw [if_neg hn, if_neg hn]
    exact H
theorem LvOk.sure {V : Lv} {N : List Rt} (H : LvOk V N) {q : Ky} (h : q ∈ keysR N) : mayL V.C (V.plc q) = true := by
  refine mayL_yes fun i hi => ?_
  obtain ⟨h0, h1⟩ := plc_in V.s q.h q.l q.n V.k V.C.length i hi
  have h0 : 0 ≤ (V.plc q)[i] := h0
  have h1 : (V.plc q)[i] < (V.C.length : Int) := h1
  have hm : (V.plc q)[i] ∈ (keysR N).flatMap V.plc := List.mem_flatMap.2 ⟨q, h, List.getElem_mem hi⟩
  obtain ⟨j, hj⟩ := Int.eq_ofNat_of_zero_le h0
  rw [hj] at h1 hm ⊢
  have h2 := H.cov j (by omega)
  have h3 : 0 < V.cnt N j := List.count_pos_iff.2 hm
  omega
theorem LvOk.hit {V : Lv} {N : List Rt} (H : LvOk V N) (ah al : Nat) : V.hit ah al = getS N (V.key ah al) := by
  unfold Lv.hit
  rw [H.get]
  by_cases h : V.key ah al ∈ keysR N
  · rw [show V.may ah al = true from H.sure h, if_pos rfl]
  · rw [getS_none.2 h]
    split <;> rfl
end Go.Proofs.YtoihkbanmnagkaaGreat
