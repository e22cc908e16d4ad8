/-
  Plain mathematics of tries whose nodes tell more than one bit: a node has a key, a value (which counts, or doesn't), and two kids, whose keys begin with its own. No condition but those that stand in each.
-/
import Derived.Test.YtokjhoiacidofaaM14c
set_option linter.unusedSimpArgs false
set_option linter.unusedVariables false
namespace Go.Proofs.Ytokjhoiacidofaa
open M

inductive Pt where
  | nil
  | node (k : Ky) (v : Int) (on : Bool) (l r : Pt)
/-- Each node's key. -/
def Pt.all (q : Ky → Prop) : Pt → Prop
  | .nil => True
  | .node k _ _ l r => q k ∧ l.all q ∧ r.all q
/-- What it has. -/
def Pt.mem (x : Rt) : Pt → Prop
  | .nil => False
  | .node k v on l r => (on = true ∧ x = ⟨k, v⟩) ∨ l.mem x ∨ r.mem x
def bitK (k : Ky) (i : Nat) : Bool := bitN k.h k.l i
/-- k' begins with k and the bit b. -/
def kidOk (k : Ky) (b : Bool) (k' : Ky) : Prop := (pathK k ++ [b]) <+: pathK k'
def Pt.ok : Pt → Prop
  | .nil => True
  | .node k _ _ l r => k.good ∧ rightK k ∧ l.all (kidOk k false) ∧ r.all (kidOk k true) ∧ l.ok ∧ r.ok
theorem Pt.all_imp {q q' : Ky → Prop} (h : ∀ k, q k → q' k) : ∀ {T : Pt}, T.all q → T.all q'
  | .nil, _ => trivial
  | .node _ _ _ _ _, ⟨a, b, c⟩ => ⟨h _ a, Pt.all_imp h b, Pt.all_imp h c⟩
theorem Pt.all_mem {q : Ky → Prop} {x : Rt} : ∀ {T : Pt}, T.all q → T.mem x → q x.k
  | .node _ _ _ _ _, ⟨a, _, _⟩, .inl ⟨_, e⟩ => by rw [e]; exact a
  | .node _ _ _ _ _, ⟨_, b, _⟩, .inr (.inl h) => Pt.all_mem b h
  | .node _ _ _ _ _, ⟨_, _, c⟩, .inr (.inr h) => Pt.all_mem c h
/-! ### Paths of keys -/
theorem pathN_pre (h l : Nat) {m n : Nat} (hm : m ≤ n) : pathN h l m <+: pathN h l n := by
  rw [← path_take h l n m hm]
  exact List.take_prefix _ _
theorem pathK_len (k : Ky) : (pathK k).length = k.n.toNat := path_len _ _ _
theorem rightK_le {k : Ky} (r : rightK k) : 0 ≤ k.n ∧ k.n ≤ 128 := ⟨((rightB_iff _ _ _).1 r).1, ((rightB_iff _ _ _).1 r).2.1⟩
theorem pre_take {P Q : List Bool} (h : P <+: Q) : P = Q.take P.length := (List.prefix_iff_eq_take.1 h)
theorem pre_snoc (k : Ky) {m : Nat} (hm : m < k.n.toNat) : pathN k.h k.l m ++ [bitK k m] <+: pathK k := by
  have := pathN_pre k.h k.l (show m + 1 ≤ k.n.toNat by omega)
  rw [path_snoc] at this
  exact this
theorem path_get {k : Ky} {i : Nat} (hi : i < k.n.toNat) : (pathK k)[i]? = some (bitK k i) := by
  unfold pathK
  rw [List.getElem?_eq_getElem (by rw [path_len]; exact hi), path_at hi]
  rfl
theorem kid_bit {k k' : Ky} {b : Bool} (h : kidOk k b k') : bitK k' k.n.toNat = b ∧ k.n.toNat < k'.n.toNat := by
  unfold kidOk at h
  have hl := h.length_le
  rw [List.length_append, pathK_len, pathK_len, List.length_singleton] at hl
  refine ⟨?_, by omega⟩
  obtain ⟨t, ht⟩ := h
  have h1 := path_get (k := k') (i := k.n.toNat) (by omega)
  rw [← ht, List.append_assoc, List.getElem?_append_right (by rw [pathK_len]; omega), pathK_len, Nat.sub_self] at h1
  simpa using h1.symm
theorem kid_pre {k k' : Ky} {b : Bool} (h : kidOk k b k') : pathK k <+: pathK k' := (List.prefix_append _ _).trans h
theorem kid_ne {k k' : Ky} {b : Bool} (h : kidOk k b k') : k' ≠ k := fun e => by
  have := (kid_bit h).2
  rw [e] at this
  omega
theorem has_pre {k : Ky} {ah al : Nat} (g : k.good) (r : rightK k) (a : W64 ah) (b : W64 al) : hasB k.h k.l k.n ah al = true ↔ pathK k <+: pathN ah al 128 := by
  rw [has_cutK]
  constructor
  · rintro ⟨m, hm, e⟩
    rw [e, pathK_cut a b hm]
    exact pathN_pre _ _ hm
  · intro h
    obtain ⟨h0, h1⟩ := rightK_le r
    refine ⟨k.n.toNat, by omega, pathK_inj g (cutK_good a b) r (cutK_right (by omega)) ?_⟩
    rw [pathK_cut a b (by omega)]
    have := pre_take h
    rw [pathK_len, path_take _ _ _ _ (by omega)] at this
    exact this
/-- How many bits two keys have in common. -/
def comK (a b : Ky) : Nat := min (commonN a.h a.l b.h b.l) (min a.n.toNat b.n.toNat)
theorem com_le (a b : Ky) : comK a b ≤ a.n.toNat ∧ comK a b ≤ b.n.toNat := by unfold comK; omega
theorem com_path {a b : Ky} (g : a.good) (g' : b.good) : pathN a.h a.l (comK a b) = pathN b.h b.l (comK a b) := by
  refine List.ext_getElem (by rw [path_len, path_len]) fun i h1 h2 => ?_
  rw [path_len] at h1
  rw [path_at h1, path_at h1]
  exact commonN_same _ _ _ _ g.1 g.2 g'.1 g'.2 i (by unfold comK at h1; omega)
theorem com_next {a b : Ky} (g : a.good) (g' : b.good) (r : rightK a) (h1 : comK a b < a.n.toNat) (h2 : comK a b < b.n.toNat) : bitK a (comK a b) ≠ bitK b (comK a b) := by
  have h0 := rightK_le r
  have e : comK a b = commonN a.h a.l b.h b.l := by unfold comK at *; omega
  rw [e]
  exact commonN_next _ _ _ _ g.1 g.2 g'.1 g'.2 (by omega)
/-- What both begin with is no longer. -/
theorem com_ge {a b : Ky} (g : a.good) (g' : b.good) (r : rightK a) {P : List Bool} (h1 : P <+: pathK a) (h2 : P <+: pathK b) : P.length ≤ comK a b := by
  have l1 := h1.length_le
  have l2 := h2.length_le
  rw [pathK_len] at l1 l2
  by_cases h : P.length ≤ comK a b
  · exact h
  · have ne := com_next g g' r (by omega) (by omega)
    have e := (pre_take h1).symm.trans (pre_take h2)
    have := congrArg (fun L => L[comK a b]?) e
    simp only [List.getElem?_take, if_pos (show comK a b < P.length by omega), path_get (show comK a b < a.n.toNat by omega), path_get (show comK a b < b.n.toNat by omega)] at this
    exact absurd (Option.some.inj this) ne
theorem com_of_pre {a k : Ky} (g : a.good) (g' : k.good) (r : rightK a) (h : pathK k <+: pathK a) : comK a k = k.n.toNat := by
  have h1 := com_ge g g' r h (List.prefix_refl _)
  rw [pathK_len] at h1
  have := (com_le a k).2
  omega
/-- A key that begins with another one, and isn't it. -/
theorem com_down {a k : Ky} (g : a.good) (g' : k.good) (r : rightK a) (r' : rightK k) (h : comK a k = k.n.toNat) (hne : a ≠ k) : kidOk k (bitK a k.n.toNat) a := by
  have hl := (com_le a k).1
  have hp := com_path g g'
  rw [h] at hp hl
  have hlt : k.n.toNat < a.n.toNat := by
    by_cases e : k.n.toNat = a.n.toNat
    · refine absurd (pathK_inj g g' r r' ?_) hne
      unfold pathK
      rw [← e]
      exact hp
    · omega
  unfold kidOk
  have := pre_snoc a hlt
  rw [hp] at this
  exact this
/-! ### To put -/
def leafP (x : Rt) : Pt := .node x.k x.v true .nil .nil
def forkP (x : Rt) (k : Ky) : Ky := cutK x.k.h x.k.l (comK x.k k)
def withP : Pt → Rt → Pt
  | .nil, x => leafP x
  | .node k v on l r, x =>
    if x.k = k then .node x.k x.v true l r
    else if comK x.k k = k.n.toNat then (if bitK x.k k.n.toNat = true then .node k v on l (withP r x) else .node k v on (withP l x) r)
    else if x.k = forkP x k then (if bitK k (comK x.k k) = true then .node x.k x.v true .nil (.node k v on l r) else .node x.k x.v true (.node k v on l r) .nil)
    else if bitK k (comK x.k k) = true then .node (forkP x k) 0 false (leafP x) (.node k v on l r) else .node (forkP x k) 0 false (.node k v on l r) (leafP x)
theorem fork_good {x : Rt} (g : x.k.good) (k : Ky) : (forkP x k).good := cutK_good g.1 g.2
theorem fork_le {x : Rt} (r : rightK x.k) (k : Ky) : comK x.k k ≤ 128 := by
  have := (com_le x.k k).1
  have := rightK_le r
  omega
theorem fork_right {x : Rt} (r : rightK x.k) (k : Ky) : rightK (forkP x k) := cutK_right (fork_le r k)
theorem fork_n (x : Rt) (k : Ky) : (forkP x k).n.toNat = comK x.k k := by unfold forkP cutK; simp
theorem fork_path {x : Rt} (g : x.k.good) (r : rightK x.k) (k : Ky) : pathK (forkP x k) = pathN x.k.h x.k.l (comK x.k k) := pathK_cut g.1 g.2 (fork_le r k)
/-- The fork lies above both. -/
theorem fork_old {x : Rt} {k : Ky} (g : x.k.good) (r : rightK x.k) (g' : k.good) (h : comK x.k k ≠ k.n.toNat) : kidOk (forkP x k) (bitK k (comK x.k k)) k := by
  unfold kidOk
  rw [fork_path g r, com_path g g']
  exact pre_snoc k (by have := (com_le x.k k).2; omega)
theorem fork_self {x : Rt} {k : Ky} (g : x.k.good) (r : rightK x.k) (h : comK x.k k = x.k.n.toNat) : x.k = forkP x k :=
  pathK_inj g (fork_good g k) r (fork_right r k) (by rw [fork_path g r, h]; rfl)
theorem fork_new {x : Rt} {k : Ky} (g : x.k.good) (r : rightK x.k) (h : x.k ≠ forkP x k) : kidOk (forkP x k) (bitK x.k (comK x.k k)) x.k := by
  unfold kidOk
  rw [fork_path g r]
  refine pre_snoc x.k ?_
  have := (com_le x.k k).1
  by_cases e : comK x.k k = x.k.n.toNat
  · exact absurd (fork_self g r e) h
  · omega
theorem fork_side {x : Rt} {k : Ky} (g : x.k.good) (r : rightK x.k) (g' : k.good) (h : comK x.k k ≠ k.n.toNat) (h2 : x.k ≠ forkP x k) : bitK x.k (comK x.k k) = !bitK k (comK x.k k) := by
  have h1 := (com_le x.k k).1
  have h3 := (com_le x.k k).2
  have h4 : comK x.k k ≠ x.k.n.toNat := fun e => h2 (fork_self g r e)
  have := com_next g g' r (by omega) (by omega)
  clear h1 h3 h4 h h2
  generalize bitK x.k (comK x.k k) = p at *
  generalize bitK k (comK x.k k) = q at *
  cases p <;> cases q <;> first | rfl | exact absurd rfl this
theorem all_root {k : Ky} {v : Int} {on : Bool} {l r : Pt} (h : (Pt.node k v on l r).ok) : (Pt.node k v on l r).all fun q => pathK k <+: pathK q :=
  ⟨List.prefix_refl _, Pt.all_imp (fun _ => kid_pre) h.2.2.1, Pt.all_imp (fun _ => kid_pre) h.2.2.2.1⟩
theorem with_all {P : List Bool} {x : Rt} (g : x.k.good) (r : rightK x.k) (hx : P <+: pathK x.k) : ∀ {T : Pt}, T.ok → T.all (fun q => P <+: pathK q) → (withP T x).all fun q => P <+: pathK q
  | .nil, _, _ => ⟨hx, trivial, trivial⟩
  | .node k v on a b, ho, ⟨h1, h2, h3⟩ => by
    obtain ⟨kg, kr, -, -, ao, bo⟩ := ho
    have ia := with_all g r hx ao h2
    have ib := with_all g r hx bo h3
    have hf : P <+: pathK (forkP x k) := by
      have hl := com_ge g kg r hx h1
      rw [fork_path g r, pre_take hx]
      unfold pathK
      rw [path_take _ _ _ _ (by have := hx.length_le; rw [pathK_len] at this; exact this)]
      exact pathN_pre _ _ hl
    unfold withP
    split
    · exact ⟨hx, h2, h3⟩
    · split
      · split
        · exact ⟨h1, h2, ib⟩
        · exact ⟨h1, ia, h3⟩
      · split
        · split
          · exact ⟨hx, trivial, h1, h2, h3⟩
          · exact ⟨hx, ⟨h1, h2, h3⟩, trivial⟩
        · split
          · exact ⟨hf, ⟨hx, trivial, trivial⟩, h1, h2, h3⟩
          · exact ⟨hf, ⟨h1, h2, h3⟩, hx, trivial, trivial⟩
theorem leaf_ok {x : Rt} (g : x.k.good) (r : rightK x.k) : (leafP x).ok := ⟨g, r, trivial, trivial, trivial, trivial⟩
theorem with_ok {x : Rt} (g : x.k.good) (r : rightK x.k) : ∀ {T : Pt}, T.ok → (withP T x).ok
  | .nil, _ => leaf_ok g r
  | .node k v on a b, ho => by
    have ho' := ho
    have hroot := all_root ho
    obtain ⟨kg, kr, ha, hb, ao, bo⟩ := ho
    have ia := with_ok g r ao
    have ib := with_ok g r bo
    unfold withP
    split
    · rename_i e
      rw [e]
      exact ⟨kg, kr, ha, hb, ao, bo⟩
    · rename_i e
      split
      · rename_i h
        have hd := com_down g kg r kr h e
        split
        · rename_i hbit
          rw [hbit] at hd
          exact ⟨kg, kr, ha, with_all g r hd bo hb, ao, ib⟩
        · rename_i hbit
          rw [show bitK x.k k.n.toNat = false by simpa using hbit] at hd
          exact ⟨kg, kr, with_all g r hd ao ha, hb, ia, bo⟩
      · rename_i h
        have hold := fork_old g r kg h
        have hall : (Pt.node k v on a b).all (kidOk (forkP x k) (bitK k (comK x.k k))) := Pt.all_imp (fun q hq => hold.trans hq) hroot
        split
        · rename_i e2
          rw [← e2] at hall
          split
          · rename_i hbit
            rw [hbit] at hall
            exact ⟨g, r, trivial, hall, trivial, ho'⟩
          · rename_i hbit
            rw [show bitK k (comK x.k k) = false by simpa using hbit] at hall
            exact ⟨g, r, hall, trivial, ho', trivial⟩
        · rename_i e2
          have hnew := fork_new g r e2
          rw [fork_side g r kg h e2] at hnew
          split
          · rename_i hbit
            rw [hbit] at hall hnew
            exact ⟨fork_good g k, fork_right r k, ⟨hnew, trivial, trivial⟩, hall, leaf_ok g r, ho'⟩
          · rename_i hbit
            rw [show bitK k (comK x.k k) = false by simpa using hbit] at hall hnew
            exact ⟨fork_good g k, fork_right r k, hall, ⟨hnew, trivial, trivial⟩, ho', leaf_ok g r⟩
theorem leaf_mem {x q : Rt} : (leafP x).mem q ↔ q = x := by
  unfold leafP Pt.mem
  simp [Pt.mem]
theorem with_mem {x : Rt} (g : x.k.good) (r : rightK x.k) (q : Rt) : ∀ {T : Pt}, T.ok → ((withP T x).mem q ↔ q = x ∨ (T.mem q ∧ q.k ≠ x.k))
  | .nil, _ => by
    unfold withP
    rw [leaf_mem]
    simp [Pt.mem]
  | .node k v on a b, ho => by
    have hroot := all_root ho
    obtain ⟨kg, kr, ha, hb, ao, bo⟩ := ho
    have ia := with_mem g r q ao
    have ib := with_mem g r q bo
    have hne : a.mem q ∨ b.mem q → q.k ≠ k := by
      rintro (h | h)
      · exact kid_ne (Pt.all_mem ha h)
      · exact kid_ne (Pt.all_mem hb h)
    unfold withP
    split
    · rename_i e
      simp only [Pt.mem, e]
      constructor
      · rintro (⟨-, h⟩ | h)
        · left; rw [h]; obtain ⟨xk, xv⟩ := x; simp only at e; rw [e]
        · exact .inr ⟨.inr h, hne h⟩
      · rintro (h | ⟨h | h, h2⟩)
        · left; refine ⟨by trivial, ?_⟩; rw [h]; obtain ⟨xk, xv⟩ := x; simp only at e; rw [e]
        · rw [h.2] at h2; exact absurd rfl h2
        · exact .inr h
    · rename_i e
      split
      · rename_i h
        have hd := com_down g kg r kr h e
        have hself : (on = true ∧ q = ⟨k, v⟩) → q.k ≠ x.k := fun hh e2 => by rw [hh.2] at e2; exact e e2.symm
        split
        · rename_i hbit
          have hoth : a.mem q → q.k ≠ x.k := fun hh e2 => by
            have := (kid_bit (Pt.all_mem ha hh)).1
            rw [e2, hbit] at this
            cases this
          simp only [Pt.mem, ib]
          constructor
          · rintro (h1 | h1 | h1 | h1)
            · exact .inr ⟨.inl h1, hself h1⟩
            · exact .inr ⟨.inr (.inl h1), hoth h1⟩
            · exact .inl h1
            · exact .inr ⟨.inr (.inr h1.1), h1.2⟩
          · rintro (h1 | ⟨h1 | h1 | h1, h2⟩)
            · exact .inr (.inr (.inl h1))
            · exact .inl h1
            · exact .inr (.inl h1)
            · exact .inr (.inr (.inr ⟨h1, h2⟩))
        · rename_i hbit
          have hoth : b.mem q → q.k ≠ x.k := fun hh e2 => by
            have := (kid_bit (Pt.all_mem hb hh)).1
            rw [e2] at this
            exact hbit this
          simp only [Pt.mem, ia]
          constructor
          · rintro (h1 | (h1 | h1) | h1)
            · exact .inr ⟨.inl h1, hself h1⟩
            · exact .inl h1
            · exact .inr ⟨.inr (.inl h1.1), h1.2⟩
            · exact .inr ⟨.inr (.inr h1), hoth h1⟩
          · rintro (h1 | ⟨h1 | h1 | h1, h2⟩)
            · exact .inr (.inl (.inl h1))
            · exact .inl h1
            · exact .inr (.inl (.inr ⟨h1, h2⟩))
            · exact .inr (.inr h1)
      · rename_i h
        have hfar : (Pt.node k v on a b).mem q → q.k ≠ x.k := fun hh e2 => by
          have := Pt.all_mem hroot hh
          rw [e2] at this
          exact h (com_of_pre g kg r this)
        have key : q = x ∨ (Pt.node k v on a b).mem q ↔ q = x ∨ ((Pt.node k v on a b).mem q ∧ q.k ≠ x.k) :=
          ⟨fun hh => hh.imp id fun h2 => ⟨h2, hfar h2⟩, fun hh => hh.imp id And.left⟩
        rw [← key]
        have hx : ∀ {p : Prop}, ((true = true ∧ q = ⟨x.k, x.v⟩) ∨ p) ↔ (q = x ∨ p) := by intro p; simp
        generalize Pt.node k v on a b = T
        split
        · split
          · show ((true = true ∧ q = ⟨x.k, x.v⟩) ∨ False ∨ T.mem q) ↔ _
            rw [hx]; simp
          · show ((true = true ∧ q = ⟨x.k, x.v⟩) ∨ T.mem q ∨ False) ↔ _
            rw [hx]; simp
        · split
          · show ((false = true ∧ _) ∨ (leafP x).mem q ∨ T.mem q) ↔ _
            rw [leaf_mem]; simp
          · show ((false = true ∧ _) ∨ T.mem q ∨ (leafP x).mem q) ↔ _
            rw [leaf_mem]
            constructor
            · rintro (⟨h1, -⟩ | h1 | h1)
              · cases h1
              · exact .inr h1
              · exact .inl h1
            · rintro (h1 | h1)
              · exact .inr (.inr h1)
              · exact .inr (.inl h1)
/-! ### To take out -/
def joinP : Pt → Pt
  | .nil => .nil
  | .node k v on l r =>
    if on = true then .node k v on l r
    else match l, r with
      | .nil, r => r
      | l, .nil => l
      | l, r => .node k v on l r
theorem join_cases (k : Ky) (v : Int) (on : Bool) (l r : Pt) : joinP (.node k v on l r) = .node k v on l r ∨ (on = false ∧ l = .nil ∧ joinP (.node k v on l r) = r) ∨ (on = false ∧ r = .nil ∧ joinP (.node k v on l r) = l) := by
  unfold joinP
  cases on
  · cases l
    · exact .inr (.inl ⟨rfl, rfl, rfl⟩)
    · cases r
      · exact .inr (.inr ⟨rfl, rfl, rfl⟩)
      · exact .inl rfl
  · exact .inl rfl
theorem join_mem (q : Rt) (k : Ky) (v : Int) (on : Bool) (l r : Pt) : (joinP (.node k v on l r)).mem q ↔ (Pt.node k v on l r).mem q := by
  rcases join_cases k v on l r with e | ⟨e1, e2, e⟩ | ⟨e1, e2, e⟩
  · rw [e]
  · rw [e, e1, e2]; simp [Pt.mem]
  · rw [e, e1, e2]; simp [Pt.mem]
theorem join_all {p : Ky → Prop} {k : Ky} {v : Int} {on : Bool} {l r : Pt} (h : (Pt.node k v on l r).all p) : (joinP (.node k v on l r)).all p := by
  rcases join_cases k v on l r with e | ⟨e1, e2, e⟩ | ⟨e1, e2, e⟩
  · rw [e]; exact h
  · rw [e]; exact h.2.2
  · rw [e]; exact h.2.1
theorem join_ok {k : Ky} {v : Int} {on : Bool} {l r : Pt} (h : (Pt.node k v on l r).ok) : (joinP (.node k v on l r)).ok := by
  rcases join_cases k v on l r with e | ⟨e1, e2, e⟩ | ⟨e1, e2, e⟩
  · rw [e]; exact h
  · rw [e]; exact h.2.2.2.2.2
  · rw [e]; exact h.2.2.2.2.1
def withoutP : Pt → Ky → Pt
  | .nil, _ => .nil
  | .node k v on l r, p =>
    if k = p then joinP (.node p 0 false l r)
    else if bitK p k.n.toNat = true then joinP (.node k v on l (withoutP r p)) else joinP (.node k v on (withoutP l p) r)
theorem without_all {q : Ky → Prop} {p : Ky} : ∀ {T : Pt}, T.all q → (withoutP T p).all q
  | .nil, _ => trivial
  | .node k v on l r, ⟨h1, h2, h3⟩ => by
    have il := without_all (p := p) h2
    have ir := without_all (p := p) h3
    unfold withoutP
    split
    · rename_i e
      exact join_all ⟨e ▸ h1, h2, h3⟩
    · split
      · exact join_all ⟨h1, h2, ir⟩
      · exact join_all ⟨h1, il, h3⟩
theorem without_ok {p : Ky} : ∀ {T : Pt}, T.ok → (withoutP T p).ok
  | .nil, _ => trivial
  | .node k v on l r, ⟨kg, kr, hl, hr, lo, ro⟩ => by
    have il := without_ok (p := p) lo
    have ir := without_ok (p := p) ro
    unfold withoutP
    split
    · rename_i e
      subst e
      exact join_ok ⟨kg, kr, hl, hr, lo, ro⟩
    · split
      · exact join_ok ⟨kg, kr, hl, without_all hr, lo, ir⟩
      · exact join_ok ⟨kg, kr, without_all hl, hr, il, ro⟩
theorem without_mem {p : Ky} (q : Rt) : ∀ {T : Pt}, T.ok → ((withoutP T p).mem q ↔ T.mem q ∧ q.k ≠ p)
  | .nil, _ => by simp [withoutP, Pt.mem]
  | .node k v on l r, ⟨kg, kr, hl, hr, lo, ro⟩ => by
    have il := without_mem (p := p) q lo
    have ir := without_mem (p := p) q ro
    have nl : l.mem q → bitK q.k k.n.toNat = false := fun h => (kid_bit (Pt.all_mem hl h)).1
    have nr : r.mem q → bitK q.k k.n.toNat = true := fun h => (kid_bit (Pt.all_mem hr h)).1
    have hne : l.mem q ∨ r.mem q → q.k ≠ k := by
      rintro (h | h)
      · exact kid_ne (Pt.all_mem hl h)
      · exact kid_ne (Pt.all_mem hr h)
    unfold withoutP
    split
    · rename_i e
      subst e
      rw [join_mem]
      simp only [Pt.mem]
      constructor
      · rintro (⟨h, -⟩ | h)
        · cases h
        · exact ⟨.inr h, hne h⟩
      · rintro ⟨h | h, h2⟩
        · rw [h.2] at h2
          exact absurd rfl h2
        · exact .inr h
    · rename_i e
      have hself : (on = true ∧ q = ⟨k, v⟩) → q.k ≠ p := fun hh e2 => by rw [hh.2] at e2; exact e e2
      split
      · rename_i hb
        have hoth : l.mem q → q.k ≠ p := fun h e2 => by
          have := nl h
          rw [e2, hb] at this
          cases this
        rw [join_mem]
        simp only [Pt.mem, ir]
        constructor
        · rintro (h | h | h)
          · exact ⟨.inl h, hself h⟩
          · exact ⟨.inr (.inl h), hoth h⟩
          · exact ⟨.inr (.inr h.1), h.2⟩
        · rintro ⟨h | h | h, h2⟩
          · exact .inl h
          · exact .inr (.inl h)
          · exact .inr (.inr ⟨h, h2⟩)
      · rename_i hb
        have hoth : r.mem q → q.k ≠ p := fun h e2 => by
          have := nr h
          rw [e2] at this
          exact hb this
        rw [join_mem]
        simp only [Pt.mem, il]
        constructor
        · rintro (h | h | h)
          · exact ⟨.inl h, hself h⟩
          · exact ⟨.inr (.inl h.1), h.2⟩
          · exact ⟨.inr (.inr h), hoth h⟩
        · rintro ⟨h | h | h, h2⟩
          · exact .inl h
          · exact .inr (.inl ⟨h, h2⟩)
          · exact .inr (.inr h)
/-! ### The longest -/
def coverP (ah al : Nat) (low high : Int) : Pt → Option Rt → Option Rt
  | .nil, acc => acc
  | .node k v on l r, acc =>
    if k.n ≤ high ∧ hasB k.h k.l k.n ah al = true then
      (if bitN ah al k.n.toNat = true then coverP ah al low high r (if on = true ∧ low < k.n then some ⟨k, v⟩ else acc) else coverP ah al low high l (if on = true ∧ low < k.n then some ⟨k, v⟩ else acc))
    else acc
def CoverOk (ah al : Nat) (low high : Int) (T : Pt) (acc out : Option Rt) : Prop :=
  (out = acc ∧ ∀ x, T.mem x → candB ah al low high x = false) ∨ ∃ x, out = some x ∧ T.mem x ∧ candB ah al low high x = true ∧ ∀ y, T.mem y → candB ah al low high y = true → y.k.n ≤ x.k.n
theorem cand_iff {ah al : Nat} {low high : Int} {x : Rt} : candB ah al low high x = true ↔ low < x.k.n ∧ x.k.n ≤ high ∧ hasB x.k.h x.k.l x.k.n ah al = true := by
  unfold candB
  simp only [Bool.and_eq_true, decide_eq_true_eq]
theorem all_ok {T : Pt} (h : T.ok) : T.all fun k => k.good ∧ rightK k := by
  induction T with
  | nil => trivial
  | node k v on l r il ir => exact ⟨⟨h.1, h.2.1⟩, il h.2.2.2.2.1, ir h.2.2.2.2.2⟩
theorem bit_of_pre {k : Ky} {ah al i : Nat} (h : pathK k <+: pathN ah al 128) (hi : i < k.n.toNat) : bitN ah al i = bitK k i := by
  have hl := h.length_le
  rw [pathK_len, path_len] at hl
  obtain ⟨t, ht⟩ := h
  have h1 := path_get hi
  have h2 : (pathN ah al 128)[i]? = some (bitN ah al i) := by
    rw [List.getElem?_eq_getElem (by rw [path_len]; omega), path_at (by omega)]
  rw [← ht, List.getElem?_append_left (by rw [pathK_len]; exact hi), h1] at h2
  exact (Option.some.inj h2).symm
theorem cover_ok {ah al : Nat} (a : W64 ah) (b : W64 al) (low high : Int) : ∀ {T : Pt} (acc : Option Rt), T.ok → CoverOk ah al low high T acc (coverP ah al low high T acc)
  | .nil, acc, _ => .inl ⟨rfl, fun _ h => h.elim⟩
  | .node k v on l r, acc, ho => by
    have hroot := all_root ho
    have hall := all_ok ho
    obtain ⟨kg, kr, hl, hr, lo, ro⟩ := ho
    obtain ⟨n0, n1⟩ := rightK_le kr
    have hpre : ∀ x, (Pt.node k v on l r).mem x → hasB x.k.h x.k.l x.k.n ah al = true → pathK x.k <+: pathN ah al 128 := fun x hx hh => by
      have := Pt.all_mem hall hx
      exact (has_pre this.1 this.2 a b).1 hh
    unfold coverP
    split
    · rename_i hc
      have step : ∀ (T : Pt) (acc' : Option Rt) (out : Option Rt), acc' = (if on = true ∧ low < k.n then some ⟨k, v⟩ else acc) → T.all (fun q => k.n < q.n) → (∀ x, T.mem x → (Pt.node k v on l r).mem x) →
          (∀ x, (Pt.node k v on l r).mem x → candB ah al low high x = true → (on = true ∧ x = ⟨k, v⟩) ∨ T.mem x) → CoverOk ah al low high T acc' out → CoverOk ah al low high (.node k v on l r) acc out := by
        intro T acc' out hacc hT hin hout ih
        rcases ih with ⟨e, hno⟩ | ⟨x, e, hx, hcx, hmax⟩
        · by_cases hon : on = true ∧ low < k.n
          · rw [if_pos hon] at hacc
            refine .inr ⟨⟨k, v⟩, e.trans hacc, .inl ⟨hon.1, rfl⟩, cand_iff.2 ⟨hon.2, hc.1, hc.2⟩, fun y hy hcy => ?_⟩
            rcases hout y hy hcy with h | h
            · rw [h.2]; exact Int.le_refl _
            · rw [hno y h] at hcy; cases hcy
          · rw [if_neg hon] at hacc
            refine .inl ⟨e.trans hacc, fun x hx => ?_⟩
            cases hcx : candB ah al low high x with
            | false => rfl
            | true =>
              rcases hout x hx hcx with h | h
              · refine absurd ⟨h.1, ?_⟩ hon
                have := (cand_iff.1 hcx).1
                rw [h.2] at this
                exact this
              · rw [hno x h] at hcx; cases hcx
        · refine .inr ⟨x, e, hin x hx, hcx, fun y hy hcy => ?_⟩
          rcases hout y hy hcy with h | h
          · rw [h.2]
            exact Int.le_of_lt (Pt.all_mem hT hx)
          · exact hmax y h hcy
      have longer : ∀ (b : Bool) (q : Ky), kidOk k b q → k.n < q.n := fun b q h => by have := (kid_bit h).2; omega
      have kids : ∀ x, (Pt.node k v on l r).mem x → candB ah al low high x = true → l.mem x → bitN ah al k.n.toNat = false := fun x hx hcx h => by
        have h1 := kid_bit (Pt.all_mem hl h)
        rw [bit_of_pre (hpre x hx (cand_iff.1 hcx).2.2) h1.2]
        exact h1.1
      have kids' : ∀ x, (Pt.node k v on l r).mem x → candB ah al low high x = true → r.mem x → bitN ah al k.n.toNat = true := fun x hx hcx h => by
        have h1 := kid_bit (Pt.all_mem hr h)
        rw [bit_of_pre (hpre x hx (cand_iff.1 hcx).2.2) h1.2]
        exact h1.1
      split
      · rename_i hb
        refine step r _ _ rfl (Pt.all_imp (longer true) hr) (fun x h => .inr (.inr h)) (fun x hx hcx => ?_) (cover_ok a b low high _ ro)
        rcases hx with h | h | h
        · exact .inl h
        · have := kids x (.inr (.inl h)) hcx h
          rw [hb] at this; cases this
        · exact .inr h
      · rename_i hb
        refine step l _ _ rfl (Pt.all_imp (longer false) hl) (fun x h => .inr (.inl h)) (fun x hx hcx => ?_) (cover_ok a b low high _ lo)
        rcases hx with h | h | h
        · exact .inl h
        · exact .inr h
        · exact absurd (kids' x (.inr (.inr h)) hcx h) hb
    · rename_i hc
      refine .inl ⟨rfl, fun x hx => ?_⟩
      cases hcx : candB ah al low high x with
      | false => rfl
      | true =>
        obtain ⟨c1, c2, c3⟩ := cand_iff.1 hcx
        have hk := Pt.all_mem hroot hx
        refine absurd ⟨?_, (has_pre kg kr a b).2 (hk.trans (hpre x hx c3))⟩ hc
        have := hk.length_le
        rw [pathK_len, pathK_len] at this
        have hxr := rightK_le (Pt.all_mem hall hx).2
        omega
/-- A trie that has what the sorted row N has. -/
structure PtOf (T : Pt) (N : List Rt) : Prop where
  ok : T.ok
  sort : Sorted N
  mem : ∀ x, T.mem x ↔ x ∈ N
theorem PtOf.empty : PtOf .nil [] := ⟨trivial, List.Pairwise.nil, fun x => by simp [Pt.mem]⟩
theorem PtOf.put {T : Pt} {N : List Rt} (H : PtOf T N) {x : Rt} (g : x.k.good) (r : rightK x.k) : PtOf (withP T x) (intoS N x) :=
  ⟨with_ok g r H.ok, intoS_sorted x H.sort, fun q => by
    rw [with_mem g r q H.ok, (intoS_perm x H.sort).mem_iff, List.mem_cons, mem_outS, H.mem]⟩
theorem PtOf.del {T : Pt} {N : List Rt} (H : PtOf T N) (p : Ky) : PtOf (withoutP T p) (outS N p) :=
  ⟨without_ok H.ok, outS_sorted p H.sort, fun q => by rw [without_mem q H.ok, mem_outS, H.mem]⟩
theorem key_eq {N : List Rt} (h : Sorted N) {x y : Rt} (hx : x ∈ N) (hy : y ∈ N) (e : x.k = y.k) : x = y := by
  obtain ⟨i, hi, rfl⟩ := List.getElem_of_mem hx
  obtain ⟨j, hj, rfl⟩ := List.getElem_of_mem hy
  have hn := h.nodup
  unfold keysR at hn
  have : i = j := (List.getElem_inj (xs := N.map Rt.k) (h₀ := by simpa using hi) (h₁ := by simpa using hj) hn).1 (by simpa using e)
  subst this
  rfl
/-- Its longest is that of the row. -/
theorem PtOf.cover {T : Pt} {N : List Rt} (H : PtOf T N) {ah al : Nat} (a : W64 ah) (b : W64 al) (low high : Int) :
    coverP ah al low high T none = (lngI N (candB ah al low high) N.length).map fun j => N.getD j ⟨⟨0, 0, 0⟩, 0⟩ := by
  have hl := lng_ok N (candB ah al low high) N.length (Nat.le_refl _)
  have hc := cover_ok a b low high none H.ok
  cases e : lngI N (candB ah al low high) N.length with
  | none =>
    rw [e] at hl
    have hl : ∀ i (h : i < N.length), i < N.length → candB ah al low high N[i] = false := hl
    rcases hc with ⟨e2, -⟩ | ⟨x, e2, hx, hcx, -⟩
    · rw [e2]; rfl
    · obtain ⟨i, hi, rfl⟩ := List.getElem_of_mem ((H.mem x).1 hx)
      rw [hl i hi hi] at hcx
      cases hcx
  | some j =>
    rw [e] at hl
    obtain ⟨hj, -, hcj, hmax⟩ := hl
    rw [Option.map_some, getD_at hj]
    rcases hc with ⟨-, hno⟩ | ⟨x, e2, hx, hcx, hmx⟩
    · rw [hno _ ((H.mem _).2 (List.getElem_mem hj))] at hcj
      cases hcj
    · rw [e2]
      have hxN := (H.mem x).1 hx
      have h1 := hmx _ ((H.mem _).2 (List.getElem_mem hj)) hcj
      obtain ⟨i, hi, hix⟩ := List.getElem_of_mem hxN
      have h2 := hmax i hi hi (by rw [hix]; exact hcx)
      rw [hix] at h2
      obtain ⟨m, -, em⟩ := (has_cutK _ _ _).1 (cand_iff.1 hcx).2.2
      obtain ⟨m', -, em'⟩ := (has_cutK _ _ _).1 (cand_iff.1 hcj).2.2
      have hm : m = m' := by
        have e3 : x.k.n = (m : Int) := by rw [em]; rfl
        have e4 : N[j].k.n = (m' : Int) := by rw [em']; rfl
        omega
      rw [key_eq H.sort hxN (List.getElem_mem hj) (by rw [em, em', hm])]
/-- A key's own: what is there. -/
theorem PtOf.get {T : Pt} {N : List Rt} (H : PtOf T N) {k : Ky} (g : k.good) (r : rightK k) :
    coverP k.h k.l (k.n - 1) k.n T none = (conT' N k).map fun v => ⟨k, v⟩ := by
  have hkn := rightK_le r
  have same : ∀ x ∈ N, candB k.h k.l (k.n - 1) k.n x = true → x.k = k := fun x hx hc => by
    obtain ⟨c1, c2, c3⟩ := cand_iff.1 hc
    have ho := Pt.all_mem (all_ok H.ok) ((H.mem x).2 hx)
    have hp := (has_pre ho.1 ho.2 g.1 g.2).1 c3
    refine pathK_inj ho.1 g ho.2 r ?_
    have := pre_take hp
    rw [pathK_len, path_take _ _ _ _ (by have := (rightK_le ho.2); omega), show x.k.n = k.n by omega] at this
    exact this
  have self : candB k.h k.l (k.n - 1) k.n ⟨k, 0⟩ = true := cand_iff.2 ⟨by show k.n - 1 < k.n; omega, Int.le_refl _, (has_pre g r g.1 g.2).2 (pathN_pre _ _ (by omega))⟩
  rcases cover_ok g.1 g.2 (k.n - 1) k.n none H.ok with ⟨e, hno⟩ | ⟨x, e, hx, hcx, -⟩
  · rw [e]
    cases hc : conT' N k with
    | none => rfl
    | some v =>
      have := hno ⟨k, v⟩ ((H.mem _).2 ((con_some H.sort.nodup).1 hc))
      rw [show candB k.h k.l (k.n - 1) k.n ⟨k, v⟩ = candB k.h k.l (k.n - 1) k.n ⟨k, 0⟩ from rfl, self] at this
      cases this
  · have hxN := (H.mem x).1 hx
    have hxk := same x hxN hcx
    rw [e, (con_some H.sort.nodup).2 (show (⟨k, x.v⟩ : Rt) ∈ N by rw [← hxk]; exact hxN), Option.map_some, ← hxk]
end Go.Proofs.Ytokjhoiacidofaa
