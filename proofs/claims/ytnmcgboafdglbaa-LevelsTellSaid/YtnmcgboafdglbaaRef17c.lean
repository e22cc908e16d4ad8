/-
  What the reference's Choose hands back. No condition but that the counts lie in memory, and are short of a million.
-/
import Derived.Test.YtnmcgboafdglbaaRef17b
import Derived.Test.YtnmcgboafdglbaaW17g
import Derived.Test.YtnmcgboafdglbaaReg8
import Derived.Deep.RegionLawGrows
import Derived.Deep.RegionHeld3
import Derived.Deep.AppendLies
set_option linter.unusedSimpArgs false
set_option linter.unusedVariables false
namespace Go.Proofs.Ytnmcgboafdglbaa
open Go Go.RowKit Go.Sort M

theorem infoRW : (Try.prog.info? 45).map (fun i => (i.zero, i.size, i.bytes)) = some (some (.agg #[.bool false, .int .i64 0, .slice none 0 0]), 3, 40) := by kernel_rfl
/-- What a choice of the reference hands back. -/
def ChoR (o : Option (List Nat)) (e : Ending) (w' : World) : Prop :=
  match o with
  | none => e = .returned (.tuple #[.slice none 0 0, .int .i64 1])
  | some L => ∃ q d, e = .returned (.tuple #[.slice q L.length d, .int .i64 0]) ∧ IRow w' q (toI L)
theorem bst_len (C : List Int) {st wd : Nat} (hs : st ≤ 20) (n a : Nat) : (lR (bst C st wd n a)).length ≤ wd ∧ cR (bst C st wd n a) ≤ capS (wd - a) := by
  cases h : bst C st wd n a with
  | none => exact ⟨Nat.zero_le _, Nat.zero_le _⟩
  | some x =>
    obtain ⟨k1, k2, k3⟩ := (bst_min C st wd n a).1 x h
    have := okC_le _ _ k1
    refine ⟨by show x.2.length ≤ wd; omega, ?_⟩
    show x.1 ≤ _
    rw [k3]
    exact coC_le C hs _ _ k1
theorem fd_len (C : List Int) {st wd : Nat} (hs : st ≤ 20) (n a i : Nat) : (lR (fdO (fun k => cdO C a (a + 1 + k) (bst C st wd n (a + 1 + k))) (bst C st wd n a) i)).length ≤ wd + 1 := by
  rcases fdO_in (fun k => cdO C a (a + 1 + k) (bst C st wd n (a + 1 + k))) (bst C st wd n a) i with h | ⟨j, hj, h⟩
  · rw [h]
    have := (bst_len C (wd := wd) hs n a).1
    omega
  · rw [h]
    have := (bst_len C (wd := wd) hs n (a + 1 + j)).1
    unfold cdO
    cases hb : bst C st wd n (a + 1 + j) with
    | none => exact Nat.zero_le _
    | some x =>
      rw [hb] at this
      show ((a + 1 + j) :: x.2).length ≤ wd + 1
      have h2 : x.2.length ≤ wd := this
      simp
      omega
theorem rbetter_ent (xc No : Nat) (X : List Nat) (px : Option Addr) (dx : Nat) (e : Re) (r : Option Wy) (w : World) (hX : IRow w px (toI X)) (he : EntOK w No e r) (h1 : X.length ≤ 1000000) (h2 : (lR r).length ≤ 1000000) :
    Calls Try.prog 20 #[.agg #[.bool true, .int .i64 (xc : Int), .slice px X.length dx], .agg #[.bool e.ok, .int .i64 (e.c : Int), .slice e.q e.n e.d]] w fun e w' => e = .returned (.bool (btO (some (xc, X)) r)) ∧ Below w.heap.size w w' := by
  cases r with
  | none =>
    rw [he.ok]
    exact rbetter_none xc px e.q X.length dx e.n e.d (e.c : Int) w
  | some y =>
    rw [he.ok, he.n, he.c]
    exact rbetter_some xc y.1 X y.2 px e.q dx e.d w hX he.l.irow h1 h2
/-- What a cell of old memory reads, whatever was laid meanwhile. -/
theorem S_of {w w' : World} {b : Nat} {v1 v2 : Value} {o1 o2 : Nat} (h : Below w.heap.size w w') (hb : b < w.heap.size) (c1 : w.cell? ⟨b, o1, none⟩ = some v1) (c2 : w.cell? ⟨b, o2, none⟩ = some v2) :
    Below w.heap.size w w' ∧ w'.cell? ⟨b, o1, none⟩ = some v1 ∧ w'.cell? ⟨b, o2, none⟩ = some v2 :=
  ⟨h, (h.cell (p := ⟨b, o1, none⟩) hb).trans c1, (h.cell (p := ⟨b, o2, none⟩) hb).trans c2⟩
/-- The two rows, best and next, in two blocks. -/
structure Chs (w : World) (gb gn wd : Nat) (X Y : Nat → Option Wy) : Prop where
  best : RRw w gb wd gn X
  next : RRw w gn wd gn Y
  free : ∀ i, w.frozen? ⟨gn, i, none⟩ = false
  ne : gb ≠ gn
theorem Chs.below {w w' : World} {gb gn wd : Nat} {X Y : Nat → Option Wy} (h : Chs w gb gn wd X Y) (hb : Below w.heap.size w w') : Chs w' gb gn wd X Y :=
  ⟨h.best.below hb, h.next.below hb, fun i => (hb.frozen (p := ⟨gn, i, none⟩) h.next.lt).trans (h.free i), h.ne⟩
theorem Chs.store {w : World} {gb gn wd : Nat} {X Y : Nat → Option Wy} (h : Chs w gb gn wd X Y) {j : Nat} (hj : j ≤ wd) {e : Re} {r : Option Wy} (he : EntOK w gn e r) : Chs (setR w gn (j * 3) e) gb gn wd X (updR Y j r) :=
  ⟨h.best.store_far h.ne _ _, h.next.store hj he, fun i => (setR_free _ _ _ _ _).trans (h.free i), h.ne⟩
/-- What stands in next, in the midst. -/
structure Vals (C : List Int) (st wd lo n a i : Nat) (Y : Nat → Option Wy) : Prop where
  done : ∀ j, lo ≤ j → j < a → Y j = bst C st wd (n + 1) j
  now : Y a = fdO (fun k => cdO C a (a + 1 + k) (bst C st wd n (a + 1 + k))) (bst C st wd n a) i
  rest : ∀ j, a < j → j ≤ wd → Y j = bst C st wd n j
theorem LRow.below {w w' : World} {No : Nat} {q : Option Addr} {L : List Nat} (h : LRow w No q L) (hb : Below w.heap.size w w') : LRow w' No q L :=
  h.keep hb.size (fun g j hg _ => hb.cell (p := ⟨g, j, none⟩) hg)
/-- An append of levels to a row of the call's own, in a drawn region. -/
theorem step_app_ints {ops : Array Oper} {o : Oper} {a : Act} {w : World} {K : Act → World → Prop} {Q : Exit → Act → World → Prop} {E : Prop} (hgd : o.guard = none) (s x : Operand)
    (ho : o.op = .call { callee := .builtin .append, args := #[s, x], argTypes := #[22, 22] }) (base n c0 : Nat) (p0 : Option Addr) (xs : List Value) (hs : a.eval s = .slice p0 n c0) (hown : w.ownsRow base 3 1 (.slice p0 n c0) n xs)
    (No d : Nat) (q : Option Addr) (L : List Nat) (hx : a.eval x = .slice q L.length d) (hL : LRow w No q L) (hz : L = [] → q = none ∧ d = 0) (hn : n + L.length ≤ 1000000) (hbase : base ≤ w.heap.size)
    (h : ∀ g c w', w'.ownsRow base 3 1 (.slice g (n + L.length) c) (n + L.length) (xs ++ ics (toI L)) → w.grownBy w' (Value.slice p0 n c0).ownBlock → K (a.put o.dst (.slice g (n + L.length) c)) w') :
    if Region.wanted o (yielded ops a.tmps) = true then Oper.wp Try.prog o a w K Q else E := by
  obtain ⟨i0, hi0, iz0, iz1, iz2⟩ := info_parts infoI
  by_cases h0 : L = []
  · obtain ⟨rfl, rfl⟩ := hz h0
    subst h0
    have hw : Region.wanted o (yielded ops a.tmps) = true := by simp [Region.wanted, hgd]
    rw [if_pos hw]
    have hrun := run_append_owned_none (P := Try.prog) (w := w) base 22 o.type 3 i0 1 Try.underlying22 hi0 (.slice p0 n c0) n xs hown
    have hx : a.eval x = .slice none 0 0 := hx
    have h := h p0 c0 w (by simpa [toI, ics] using hown) ⟨rfl, rfl, rfl, Nat.le_refl _, fun _ _ _ => rfl⟩
    simp only [List.length_nil, Nat.add_zero] at h
    unfold Oper.wp
    simp [execOp, ho, resolve, invoke, builtin, hs, hx, hrun, Result.andThen]
    exact h
  · have hl : 0 < L.length := List.length_pos_iff.2 h0
    rcases hL with h1 | ⟨g, of, rfl, hg, -, hc⟩
    · exact absurd h1 h0
    refine step_append_lies (w := w) hgd s x 22 ho base 3 i0 _ 1 8 Try.underlying22 hi0 iz0 iz1 iz2 rfl (by decide) (.slice p0 n c0) n xs hs hown ⟨g, of, none⟩ L.length d (ics (toI L)) hx (by simp [ics, toI]) (fun j u hu => ?_) (ics_one' _) hl (by unfold maxLen; omega) (by omega) hbase _ rfl (fun g' c' w' h1 h2 _ _ => h _ _ _ h1 h2)
    rw [show (⟨g, of, none⟩ : Addr).add j = ⟨g, of + j, none⟩ by unfold Addr.add; split <;> simp_all]
    exact hc j u hu
/-- An append of levels to a full row of one. -/
theorem step_app_one {ops : Array Oper} {o : Oper} {a : Act} {w : World} {K : Act → World → Prop} {Q : Exit → Act → World → Prop} {E : Prop} (hgd : o.guard = none) (s x : Operand)
    (ho : o.op = .call { callee := .builtin .append, args := #[s, x], argTypes := #[22, 22] }) (g t No d : Nat) (q : Option Addr) (L : List Nat) (hs : a.eval s = .slice (some ⟨g, 0, none⟩) 1 1) (hx : a.eval x = .slice q L.length d)
    (B : Nat) (hown : w.ownsRow B 3 1 (.slice (some ⟨g, 0, none⟩) 1 1) 1 [.int .i64 (t : Int)]) (hgN : g ≠ No) (hL : LRow w No q L) (hz : L = [] → q = none ∧ d = 0) (hN : No < w.heap.size) (hn : L.length ≤ 1000000)
    (h : ∀ q9 d9 w', Below w.heap.size w w' → LRow w' No q9 (t :: L) → K (a.put o.dst (.slice q9 (L.length + 1) d9)) w') :
    if Region.wanted o (yielded ops a.tmps) = true then Oper.wp Try.prog o a w K Q else E := by
  obtain ⟨i0, hi0, iz0, iz1, iz2⟩ := info_parts infoI
  have hg := (hown.lt g rfl).2
  have hc : w.cell? ⟨g, 0, none⟩ = some (.int .i64 (t : Int)) := (hown.cellAt 0 (by omega)).trans rfl
  by_cases h0 : L = []
  · obtain ⟨rfl, rfl⟩ := hz h0
    subst h0
    have hw : Region.wanted o (yielded ops a.tmps) = true := by simp [Region.wanted, hgd]
    rw [if_pos hw]
    have hrun := run_append_owned_none (P := Try.prog) (w := w) B 22 o.type 3 i0 1 Try.underlying22 hi0 _ _ _ hown
    have h := h (some ⟨g, 0, none⟩) 1 w (Below.refl _ _) (.inr ⟨g, 0, rfl, hg, hgN, fun j u hu => by
      match j, hu with
      | 0, hu =>
        simp [ics, toI] at hu
        subst hu
        exact hc⟩)
    have hx : a.eval x = .slice none 0 0 := hx
    unfold Oper.wp
    simp [execOp, ho, resolve, invoke, builtin, hs, hx, hrun, Result.andThen]
    exact h
  · have hl : 0 < L.length := List.length_pos_iff.2 h0
    rcases hL with h1 | ⟨b, of, rfl, hb, -, hcc⟩
    · exact absurd h1 h0
    refine step_append_grows (w := w) hgd s x 22 ho 3 i0 _ 1 8 Try.underlying22 hi0 iz0 iz1 iz2 rfl (by decide) (some ⟨g, 0, none⟩) 1 1 [.int .i64 (t : Int)] hs (fun e => by cases e) rfl (fun b' e => ?_) ⟨b, of, none⟩ L.length d (ics (toI L)) hx (by simp [ics, toI]) (fun j u hu => ?_) (ics_one' _) (by omega) (by unfold maxLen; omega) (by omega) (fun v' w' h1 h2 => ?_)
    · injection e with e
      subst e
      exact one_new hc
    · rw [show (⟨b, of, none⟩ : Addr).add j = ⟨b, of + j, none⟩ by unfold Addr.add; split <;> simp_all]
      exact hcc j u hu
    · rw [Nat.add_comm 1 L.length] at h1
      have h1 : w'.ownsRow w.heap.size 3 1 v' (L.length + 1) (ics (toI (t :: L))) := h1
      obtain ⟨p9, c9, rfl⟩ := own_slice h1
      have hb9 : Below w.heap.size w w' := (Below.refl w.heap.size w).grown h2 (Nat.le_refl _) (fun k e => by cases e)
      refine h p9 c9 w' hb9 ?_
      rcases IRow.of_own h1 with h3 | ⟨g9, o9, e9, h3, h4⟩
      · simp [toI] at h3
      · subst e9
        exact .inr ⟨g9, o9, rfl, h3, by have := (h1.lt g9 rfl).1; omega, h4⟩
theorem i64_of_wrap {n : Int} (h : wrap64 n = n) : IntKind.i64.wrap n = n := by unfold wrap64 at h; rw [IntKind.wrap_i64]; exact h
/-- What each operation of the statement that lays a new way hands back. -/
def chD (t u z gn S : Nat) (L : List Nat) (i : Nat) (v : Value) (W : World) : Prop :=
  match i with
  | 8 => v = .int .i64 (u : Int)
  | 9 => v = .int .i64 (z : Int)
  | 11 => ∃ g, v = .slice (some ⟨g, 0, none⟩) 1 1 ∧ S ≤ g ∧ W.ownsRow S 3 1 (.slice (some ⟨g, 0, none⟩) 1 1) 1 [.int .i64 (t : Int)]
  | 17 => ∃ q9 d9, v = .slice q9 (L.length + 1) d9 ∧ LRow W gn q9 (t :: L)
  | 18 => ∃ q9 d9, v = .agg #[.bool true, .int .i64 (z : Int), .slice q9 (L.length + 1) d9] ∧ LRow W gn q9 (t :: L)
  | 19 => ∃ B, v = .pointer (some ⟨B, 0, none⟩) ∧ S ≤ B ∧ B < W.heap.size ∧ W.heap[B]? = some (.cells #[.bool false, .int .i64 0, .slice none 0 0] 45 (0, 0))
  | _ => True
theorem chD_stable (t u z gn S : Nat) (L : List Nat) : ∀ i v W W', Below W.heap.size W W' → chD t u z gn S L i v W → chD t u z gn S L i v W'
  | 8, _, _, _, _, h => h
  | 9, _, _, _, _, h => h
  | 11, _, _, _, hb, ⟨g, e, h1, h2⟩ => ⟨g, e, h1, own_below h2 hb⟩
  | 17, _, _, _, hb, ⟨q, d, e, h⟩ => ⟨q, d, e, h.below hb⟩
  | 18, _, _, _, hb, ⟨q, d, e, h⟩ => ⟨q, d, e, h.below hb⟩
  | 19, _, _, _, hb, ⟨B, e, h1, h2, h3⟩ => ⟨B, e, h1, Nat.lt_of_lt_of_le h2 hb.size, (hb.block B h2).trans h3⟩
  | 0, _, _, _, _, _ | 1, _, _, _, _, _ | 2, _, _, _, _, _ | 3, _, _, _, _, _ | 4, _, _, _, _, _ | 5, _, _, _, _, _ | 6, _, _, _, _, _ | 7, _, _, _, _, _ | 10, _, _, _, _, _ | 12, _, _, _, _, _ | 13, _, _, _, _, _ | 14, _, _, _, _, _ | 15, _, _, _, _, _ | 16, _, _, _, _, _ => trivial
  | _ + 20, _, _, _, _, _ => trivial
/-- A way that has just been laid is no row of levels. -/
theorem way_apart {W : World} {B No t : Nat} {T : TypeId} {q : Option Addr} {L : List Nat} (hl : LRow W No q (t :: L)) (ht : 1 ≤ t) (hB : W.heap[B]? = some (.cells #[.bool false, .int .i64 0, .slice none 0 0] T (0, 0))) : ∀ g o, q = some ⟨g, o, none⟩ → g ≠ B := by
  rcases hl with h | ⟨g, o, e, -, -, hc⟩
  · cases h
  · intro g' o' e' hg
    rw [e] at e'
    injection e' with e'
    injection e' with e1 e2
    have h0 := hc 0 (.int .i64 (t : Int)) rfl
    rw [e1, hg, cell_of_row W B (o + 0) _ T (0, 0) hB] at h0
    match o, h0 with
    | 0, h0 => simp at h0
    | 1, h0 => simp at h0; omega
    | 2, h0 => simp at h0
    | n + 3, h0 => simp at h0
theorem LRow.set {W : World} {B No : Nat} {q : Option Addr} {L : List Nat} (hl : LRow W No q L) (hB : ∀ g o, q = some ⟨g, o, none⟩ → g ≠ B) (j : Nat) (v : Value) : LRow (W.setCell ⟨B, j, none⟩ v) No q L := by
  rcases hl with h | ⟨g, o, e, h1, h2, hc⟩
  · exact .inl h
  · exact .inr ⟨g, o, e, by simpa using h1, h2, fun i u hu => (World.cell?_setCell_other _ _ _ _ (by rintro e2; injection e2 with e3 e4; exact hB g o e e3.symm)).trans (hc i u hu)⟩
end Go.Proofs.Ytnmcgboafdglbaa
