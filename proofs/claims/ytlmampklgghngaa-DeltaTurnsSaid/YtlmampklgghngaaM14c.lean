/-
  Plain mathematics of longest matches, in ranges that meet, and of prefixes within one another. No condition but those that stand in each.
-/
import Derived.Test.YtlmampklgghngaaM12c
import Derived.Test.YtlmampklgghngaaLtR
/-
  Plain mathematics of tries: the bits of a key as its path; a binary trie by paths; what a sorted row has of a key, behind Into and Without. No condition but those that stand in each.
-/
set_option linter.unusedSimpArgs false
set_option linter.unusedVariables false
namespace Go.Proofs.Ytlmampklgghngaa
open M

/-- The first bits of an address. -/
def pathN (h l : Nat) (n : Nat) : List Bool := (List.range n).map fun i => bitN h l i
theorem path_len (h l n : Nat) : (pathN h l n).length = n := by simp [pathN]
theorem path_at {h l n i : Nat} (hi : i < n) : (pathN h l n)[i]'(by rw [path_len]; exact hi) = bitN h l i := by simp [pathN]
theorem path_take (h l n m : Nat) (hm : m ≤ n) : (pathN h l n).take m = pathN h l m := by
  unfold pathN
  rw [← List.map_take, List.take_range, Nat.min_eq_left hm]
theorem path_snoc (h l n : Nat) : pathN h l (n + 1) = pathN h l n ++ [bitN h l n] := by
  unfold pathN
  rw [List.range_succ, List.map_append]
  rfl
/-- Same path, same cut. -/
theorem path_cut {h l h' l' n : Nat} (a : W64 h) (b : W64 l) (c : W64 h') (d : W64 l') (hn : n ≤ 128) : pathN h l n = pathN h' l' n ↔ cutW h n = cutW h' n ∧ cutW l (n - 64) = cutW l' (n - 64) := by
  constructor
  · intro e
    have hb : ∀ i, i < n → bitN h l i = bitN h' l' i := fun i hi => by
      have := congrArg (fun L => L[i]?) e
      simp only [List.getElem?_eq_getElem (show i < (pathN h l n).length by rw [path_len]; exact hi), List.getElem?_eq_getElem (show i < (pathN h' l' n).length by rw [path_len]; exact hi), path_at hi] at this
      exact Option.some.inj this
    refine addr_ext _ _ _ _ (a.cut _) (b.cut _) (c.cut _) (d.cut _) fun i _ => ?_
    rw [bitN_cut, bitN_cut]
    by_cases h : i < n
    · rw [hb i h]
    · simp [h]
  · rintro ⟨e1, e2⟩
    refine List.ext_getElem (by rw [path_len, path_len]) fun i h1 h2 => ?_
    rw [path_len] at h1
    rw [path_at h1, path_at h1]
    unfold bitN
    by_cases hi : i < 64
    · rw [if_pos hi, if_pos hi]
      have := congrArg (fun w => w.testBit (63 - i)) e1
      simp only [cutW_bit, show 64 - n ≤ 63 - i by omega, decide_true, Bool.true_and] at this
      exact this
    · rw [if_neg hi, if_neg hi, if_pos (by omega), if_pos (by omega)]
      have := congrArg (fun w => w.testBit (127 - i)) e2
      simp only [cutW_bit, show 64 - (n - 64) ≤ 127 - i by omega, decide_true, Bool.true_and] at this
      exact this
/-- A key's path. -/
def pathK (k : Ky) : List Bool := pathN k.h k.l k.n.toNat
def rightK (k : Ky) : Prop := rightB k.h k.l k.n = true
theorem cutK_good {ah al m : Nat} (a : W64 ah) (b : W64 al) : (cutK ah al m).good := ⟨W64.cut _ a, W64.cut _ b⟩
theorem cutK_right {ah al m : Nat} (hm : m ≤ 128) : rightK (cutK ah al m) := by
  have := right_cut ah al (m : Int) (by omega) (by omega)
  rw [Int.toNat_natCast] at this
  exact this
theorem pathK_inj {k k' : Ky} (g : k.good) (g' : k'.good) (r : rightK k) (r' : rightK k') (h : pathK k = pathK k') : k = k' := by
  have h1 := (rightB_iff _ _ _).1 r
  have h2 := (rightB_iff _ _ _).1 r'
  have hl := congrArg List.length h
  unfold pathK at hl h
  rw [path_len, path_len] at hl
  have hn : k.n = k'.n := by omega
  rw [← hl] at h
  have hc := (path_cut g.1 g.2 g'.1 g'.2 (by omega)).1 h
  obtain ⟨kh, kl, kn⟩ := k
  obtain ⟨kh', kl', kn'⟩ := k'
  simp only at *
  subst hn
  rw [h1.2.2.1, h2.2.2.1, h1.2.2.2, h2.2.2.2] at hc
  rw [hc.1, hc.2]
theorem pathK_cut {ah al m : Nat} (a : W64 ah) (b : W64 al) (hm : m ≤ 128) : pathK (cutK ah al m) = pathN ah al m := by
  unfold pathK cutK
  simp only [Int.toNat_natCast]
  rw [path_cut (W64.cut _ a) (W64.cut _ b) a b hm, cutW_idem, cutW_idem]
  exact ⟨rfl, rfl⟩
/-! ### A binary trie -/
inductive Tr where
  | nil
  | node (v : Option Int) (l r : Tr)
def Tr.get : Tr → List Bool → Option Int
  | .nil, _ => none
  | .node v _ _, [] => v
  | .node _ l r, b :: p => if b then r.get p else l.get p
def Tr.put : Tr → List Bool → Int → Tr
  | .nil, [], x => .node (some x) .nil .nil
  | .nil, b :: p, x => if b then .node none .nil (Tr.put .nil p x) else .node none (Tr.put .nil p x) .nil
  | .node _ l r, [], x => .node (some x) l r
  | .node v l r, b :: p, x => if b then .node v l (r.put p x) else .node v (l.put p x) r
/-- A place emptied; its node stays. -/
def Tr.del : Tr → List Bool → Tr
  | .nil, _ => .nil
  | .node _ l r, [] => .node none l r
  | .node v l r, b :: p => if b then .node v l (r.del p) else .node v (l.del p) r
theorem Tr.get_nil (p : List Bool) : Tr.nil.get p = none := by cases p <;> rfl
theorem Tr.get_put : ∀ (t : Tr) (p q : List Bool) (x : Int), (t.put p x).get q = if q = p then some x else t.get q
  | .nil, [], [], x => rfl
  | .nil, [], c :: q, x => by
    rw [if_neg (by simp)]
    cases c <;> exact Tr.get_nil q
  | .nil, b :: p, [], x => by
    rw [if_neg (by simp)]
    unfold Tr.put
    cases b <;> rfl
  | .nil, b :: p, c :: q, x => by
    have ih := Tr.get_put .nil p q x
    rw [Tr.get_nil] at ih
    unfold Tr.put
    cases b <;> cases c <;> simp [Tr.get, Tr.get_nil, ih]
  | .node v l r, [], [], x => rfl
  | .node v l r, [], c :: q, x => by
    rw [if_neg (by simp)]
    rfl
  | .node v l r, b :: p, [], x => by
    rw [if_neg (by simp)]
    unfold Tr.put
    cases b <;> rfl
  | .node v l r, b :: p, c :: q, x => by
    have i1 := Tr.get_put l p q x
    have i2 := Tr.get_put r p q x
    unfold Tr.put
    cases b <;> cases c <;> simp [Tr.get, i1, i2]
theorem Tr.get_del : ∀ (t : Tr) (p q : List Bool), (t.del p).get q = if q = p then none else t.get q
  | .nil, p, q => by
    unfold Tr.del
    rw [Tr.get_nil]
    split <;> rfl
  | .node v l r, [], [] => rfl
  | .node v l r, [], c :: q => by
    rw [if_neg (by simp)]
    rfl
  | .node v l r, b :: p, [] => by
    rw [if_neg (by simp)]
    unfold Tr.del
    cases b <;> rfl
  | .node v l r, b :: p, c :: q => by
    have i1 := Tr.get_del l p q
    have i2 := Tr.get_del r p q
    unfold Tr.del
    cases b <;> cases c <;> simp [Tr.get, i1, i2]
/-- The trie behind a path. -/
def Tr.sub : Tr → List Bool → Tr
  | t, [] => t
  | .nil, _ :: _ => .nil
  | .node _ l r, b :: p => if b then r.sub p else l.sub p
theorem Tr.sub_nil (p : List Bool) : Tr.nil.sub p = .nil := by cases p <;> rfl
theorem Tr.get_sub : ∀ (t : Tr) (p q : List Bool), (t.sub p).get q = t.get (p ++ q)
  | t, [], q => by simp [Tr.sub]
  | .nil, b :: p, q => by rw [Tr.sub_nil, Tr.get_nil, Tr.get_nil]
  | .node v l r, b :: p, q => by
    have i1 := Tr.get_sub l p q
    have i2 := Tr.get_sub r p q
    cases b <;> simp [Tr.sub, Tr.get, i1, i2]
theorem Tr.sub_zero (t : Tr) : t.sub [] = t := by cases t <;> rfl
theorem Tr.sub_snoc : ∀ (t : Tr) (p : List Bool) (b : Bool), t.sub (p ++ [b]) = (t.sub p).sub [b]
  | t, [], b => by rw [Tr.sub_zero]; rfl
  | .nil, c :: p, b => by rw [Tr.sub_nil, Tr.sub_nil]; rfl
  | .node v l r, c :: p, b => by
    have i1 := Tr.sub_snoc l p b
    have i2 := Tr.sub_snoc r p b
    cases c <;> simp only [List.cons_append, Tr.sub, i1, i2, Bool.false_eq_true, if_true, if_false]
/-! ### What a sorted row has of a key -/
def conT' (N : List Rt) (k : Ky) : Option Int := (N.find? fun r => decide (r.k = k)).map Rt.v
theorem con_some {N : List Rt} (hn : (keysR N).Nodup) {k : Ky} {x : Int} : conT' N k = some x ↔ (⟨k, x⟩ : Rt) ∈ N := by
  unfold conT'
  induction N with
  | nil => simp
  | cons a N ih =>
    have h1 : a.k ∉ keysR N ∧ (keysR N).Nodup := by
      unfold keysR at *
      rw [List.map_cons, List.nodup_cons] at hn
      exact hn
    rw [List.find?_cons]
    by_cases e : a.k = k
    · simp only [e, decide_true, Option.map_some, Option.some.injEq, List.mem_cons]
      constructor
      · intro h
        left
        rw [← h, ← e]
      · rintro (h | h)
        · rw [← h]
        · exact absurd (by rw [e]; exact mem_keys h) h1.1
    · simp only [e, decide_false, List.mem_cons]
      rw [ih h1.2]
      constructor
      · exact .inr
      · rintro (h | h)
        · exact absurd (by rw [← h]) e
        · exact h
theorem con_none {N : List Rt} {k : Ky} : conT' N k = none ↔ k ∉ keysR N := by
  unfold conT' keysR
  rw [Option.map_eq_none_iff, List.find?_eq_none]
  simp
theorem con_into {N : List Rt} (h : Sorted N) (r : Rt) (k : Ky) : conT' (intoS N r) k = if k = r.k then some r.v else conT' N k := by
  have hs := intoS_sorted r h
  have hp := intoS_perm r h
  by_cases e : k = r.k
  · rw [if_pos e, con_some hs.nodup]
    refine hp.mem_iff.2 ?_
    rw [e]
    exact List.mem_cons_self
  · rw [if_neg e]
    cases hc : conT' N k with
    | none =>
      rw [con_none] at hc ⊢
      intro hm
      unfold keysR at hm hc
      rw [List.mem_map] at hm
      obtain ⟨q, hq, rfl⟩ := hm
      rcases List.mem_cons.1 (hp.mem_iff.1 hq) with e2 | e2
      · exact e (by rw [e2])
      · exact hc (List.mem_map_of_mem (mem_outS.1 e2).1)
    | some x =>
      rw [con_some hs.nodup]
      rw [con_some h.nodup] at hc
      exact hp.mem_iff.2 (List.mem_cons_of_mem _ (mem_outS.2 ⟨hc, e⟩))
theorem con_out {N : List Rt} (h : Sorted N) (k0 k : Ky) : conT' (outS N k0) k = if k = k0 then none else conT' N k := by
  have hs : Sorted (outS N k0) := List.Pairwise.filter _ h
  by_cases e : k = k0
  · rw [if_pos e, con_none]
    intro hm
    unfold keysR at hm
    rw [List.mem_map] at hm
    obtain ⟨q, hq, hk⟩ := hm
    exact (mem_outS.1 hq).2 (hk.trans e)
  · rw [if_neg e]
    cases hc : conT' N k with
    | none =>
      rw [con_none] at hc ⊢
      intro hm
      unfold keysR at hm hc
      rw [List.mem_map] at hm
      obtain ⟨q, hq, rfl⟩ := hm
      exact hc (List.mem_map_of_mem (mem_outS.1 hq).1)
    | some x =>
      rw [con_some hs.nodup]
      rw [con_some h.nodup] at hc
      exact mem_outS.2 ⟨hc, e⟩
theorem dep_con (N : List Rt) (ah al m : Nat) : depV N ah al m = conT' N (cutK ah al m) := rfl
/-- A trie that has what a row has. -/
structure TrOf (t : Tr) (N : List Rt) : Prop where
  sort : Sorted N
  good : ∀ r ∈ N, r.k.good
  right : ∀ r ∈ N, rightK r.k
  has : ∀ k : Ky, k.good → rightK k → t.get (pathK k) = conT' N k
theorem TrOf.empty : TrOf .nil [] := ⟨List.Pairwise.nil, fun _ h => (by cases h), fun _ h => (by cases h), fun k _ _ => Tr.get_nil _⟩
theorem TrOf.put {t : Tr} {N : List Rt} (H : TrOf t N) (r : Rt) (g : r.k.good) (hr : rightK r.k) : TrOf (t.put (pathK r.k) r.v) (intoS N r) := by
  refine ⟨intoS_sorted r H.sort, fun q hq => ?_, fun q hq => ?_, fun k kg kr => ?_⟩
  · rcases intoS_mem H.sort hq with e | e
    · rw [e]; exact g
    · exact H.good q e
  · rcases intoS_mem H.sort hq with e | e
    · rw [e]; exact hr
    · exact H.right q e
  · rw [Tr.get_put, con_into H.sort, H.has k kg kr]
    by_cases e : k = r.k
    · rw [if_pos e, if_pos (by rw [e])]
    · rw [if_neg e, if_neg (fun h => e (pathK_inj kg g kr hr h))]
theorem TrOf.del {t : Tr} {N : List Rt} (H : TrOf t N) (k0 : Ky) (g : k0.good) (hr : rightK k0) : TrOf (t.del (pathK k0)) (outS N k0) := by
  refine ⟨List.Pairwise.filter _ H.sort, fun q hq => H.good q (mem_outS.1 hq).1, fun q hq => H.right q (mem_outS.1 hq).1, fun k kg kr => ?_⟩
  rw [Tr.get_del, con_out H.sort, H.has k kg kr]
  by_cases e : k = k0
  · rw [if_pos e, if_pos (by rw [e])]
  · rw [if_neg e, if_neg (fun h => e (pathK_inj kg g kr hr h))]
/-- What an address has, by depth: the trie's walk, and the row's. -/
theorem TrOf.depth {t : Tr} {N : List Rt} (H : TrOf t N) {ah al m : Nat} (a : W64 ah) (b : W64 al) (hm : m ≤ 128) : t.get (pathN ah al m) = depV N ah al m := by
  rw [dep_con, ← H.has _ (cutK_good a b) (cutK_right hm), pathK_cut a b hm]
end Go.Proofs.Ytlmampklgghngaa
/-
  Plain mathematics of longest matches, in ranges that meet, and of prefixes within one another. No condition but those that stand in each.
-/
set_option linter.unusedSimpArgs false
set_option linter.unusedVariables false
namespace Go.Proofs.Ytlmampklgghngaa
open M

theorem best_congr {D D' : Nat → Option Int} {low high low' high' : Int} : ∀ {f : Nat}, (∀ m, m < f → ((low < (m : Int) ∧ (m : Int) ≤ high ∧ (D m).isSome = true) ↔ (low' < (m : Int) ∧ (m : Int) ≤ high' ∧ (D' m).isSome = true))) → bestM D low high f = bestM D' low' high' f
  | 0, _ => rfl
  | f + 1, h => by
    have ih := best_congr (f := f) fun m hm => h m (by omega)
    unfold bestM
    by_cases c : low < (f : Int) ∧ (f : Int) ≤ high ∧ (D f).isSome = true
    · rw [if_pos c, if_pos ((h f (by omega)).1 c)]
    · rw [if_neg c, if_neg (fun g => c ((h f (by omega)).2 g)), ih]
/-- What is in the upper range is it. -/
theorem best_upper {D : Nat → Option Int} {low mid high : Int} {f b : Nat} (h : low ≤ mid) (e : bestM D mid high f = some b) : bestM D low high f = some b := by
  obtain ⟨h1, h2, h3⟩ := best_some.1 e
  refine best_some.2 ⟨h1, ⟨by omega, h2.2⟩, fun m hm hf g => h3 m hm hf ⟨by omega, g.2⟩⟩
/-- Nothing in the upper range: it is that of the lower one. -/
theorem best_lower {D : Nat → Option Int} {low mid high high' : Int} {f : Nat} (hh : ∀ m : Nat, m < f → ((m : Int) ≤ high' ↔ (m : Int) ≤ high ∧ (m : Int) ≤ mid)) (e : bestM D mid high f = none) : bestM D low high f = bestM D low high' f := by
  have h := best_none.1 e
  refine best_congr fun m hm => ⟨fun ⟨a, b, c⟩ => ⟨a, ?_, c⟩, fun ⟨a, b, c⟩ => ⟨a, ((hh m hm).1 b).1, c⟩⟩
  refine (hh m hm).2 ⟨b, ?_⟩
  by_cases g : mid < (m : Int)
  · exact absurd ⟨g, b, c⟩ (h m hm)
  · omega
/-- Two addresses' keys of one length: the same as far as the addresses are. -/
theorem cutK_common {ah al bh bl m m' : Nat} (a : W64 ah) (b : W64 al) (c : W64 bh) (d : W64 bl) (hm : m ≤ 128) : cutK ah al m = cutK bh bl m' ↔ m = m' ∧ m ≤ commonN ah al bh bl := by
  constructor
  · intro e
    have hn : m = m' := by
      unfold cutK at e
      injection e with _ _ e
      exact Int.ofNat.inj e
    subst hn
    refine ⟨rfl, ?_⟩
    unfold cutK at e
    injection e with e1 e2 _
    have hp := (path_cut a b c d hm).2 ⟨e1, e2⟩
    by_cases h : m ≤ commonN ah al bh bl
    · exact h
    · have hlt : commonN ah al bh bl < m := by omega
      have hne := commonN_next ah al bh bl a b c d (by omega)
      have := congrArg (fun L => L[commonN ah al bh bl]?) hp
      simp only [List.getElem?_eq_getElem (show commonN ah al bh bl < (pathN ah al m).length by rw [path_len]; exact hlt), List.getElem?_eq_getElem (show commonN ah al bh bl < (pathN bh bl m).length by rw [path_len]; exact hlt), path_at hlt] at this
      exact absurd (Option.some.inj this) hne
  · rintro ⟨rfl, h⟩
    have hp : pathN ah al m = pathN bh bl m := by
      refine List.ext_getElem (by rw [path_len, path_len]) fun i h1 h2 => ?_
      rw [path_len] at h1
      rw [path_at h1, path_at h1]
      exact commonN_same ah al bh bl a b c d i (by omega)
    have := (path_cut a b c d hm).1 hp
    unfold cutK
    rw [this.1, this.2]
end Go.Proofs.Ytlmampklgghngaa
