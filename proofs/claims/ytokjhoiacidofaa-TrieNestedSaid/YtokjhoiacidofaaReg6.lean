/-
  One statement whose order is open, with calls in a chain each of which leaves old memory as it was, and a tail in one order: what only reads, or builds a value, is taken first, wherever it stands, between the calls too. No condition on the program but that it draws orders in the wide manner.
-/
import Derived.Test.YtokjhoiacidofaaM14d
import Derived.Test.YtokjhoiacidofaaW1b
import Derived.Test.YtokjhoiacidofaaReg5
import Derived.Test.YtokjhoiacidofaaReg
import Derived.Test.YtokjhoiacidofaaReg4
/-
  A trie in memory: nodes that stand as they were laid, each at the head of a block of its own; what a node's small calls hand back. No condition but those that stand in each.
-/
set_option linter.unusedSimpArgs false
set_option linter.unusedVariables false
namespace Go.Proofs.Ytokjhoiacidofaa
open Go.RowKit Go.Sort M

/-- A node's seven cells. -/
structure Nc (w : World) (g : Nat) (k : Ky) (v : Int) (on : Bool) (ql qr : Option Addr) : Prop where
  lt : g < w.heap.size
  c0 : w.cell? ⟨g, 0, none⟩ = some (.int .u64 (k.h : Int))
  c1 : w.cell? ⟨g, 1, none⟩ = some (.int .u64 (k.l : Int))
  c2 : w.cell? ⟨g, 2, none⟩ = some (.int .i64 k.n)
  c3 : w.cell? ⟨g, 3, none⟩ = some (.int .i64 v)
  c4 : w.cell? ⟨g, 4, none⟩ = some (.bool on)
  c5 : w.cell? ⟨g, 5, none⟩ = some (.pointer ql)
  c6 : w.cell? ⟨g, 6, none⟩ = some (.pointer qr)
theorem Nc.block {w w' : World} {g : Nat} {k : Ky} {v : Int} {on : Bool} {ql qr : Option Addr} (H : Nc w g k v on ql qr) (hs : w.heap.size ≤ w'.heap.size) (hb : w'.heap[g]? = w.heap[g]?) : Nc w' g k v on ql qr := by
  have e : ∀ o, w'.cell? ⟨g, o, none⟩ = w.cell? ⟨g, o, none⟩ := fun o => World.cell?_of_block (a := ⟨g, o, none⟩) hb
  exact ⟨Nat.lt_of_lt_of_le H.lt hs, (e 0).trans H.c0, (e 1).trans H.c1, (e 2).trans H.c2, (e 3).trans H.c3, (e 4).trans H.c4, (e 5).trans H.c5, (e 6).trans H.c6⟩
theorem Nc.below {w w' : World} {g : Nat} {k : Ky} {v : Int} {on : Bool} {ql qr : Option Addr} (H : Nc w g k v on ql qr) (hb : Below w.heap.size w w') : Nc w' g k v on ql qr := H.block hb.size (hb.block g H.lt)
/-- A trie at an address, its nodes in blocks that K allows. -/
def NdAt (w : World) (K : Nat → Prop) : Pt → Option Addr → Prop
  | .nil, q => q = none
  | .node k v on l r, q => ∃ g ql qr, q = some ⟨g, 0, none⟩ ∧ K g ∧ Nc w g k v on ql qr ∧ NdAt w K l ql ∧ NdAt w K r qr
theorem NdAt.kept {w w' : World} {K K' : Nat → Prop} (hs : w.heap.size ≤ w'.heap.size) (hb : ∀ g, K g → g < w.heap.size → w'.heap[g]? = w.heap[g]?) (hK : ∀ g, K g → K' g) : ∀ {T : Pt} {q : Option Addr}, NdAt w K T q → NdAt w' K' T q
  | .nil, _, h => h
  | .node _ _ _ _ _, _, ⟨g, ql, qr, e, hg, hc, hl, hr⟩ => ⟨g, ql, qr, e, hK g hg, hc.block hs (hb g hg hc.lt), NdAt.kept hs hb hK hl, NdAt.kept hs hb hK hr⟩
theorem NdAt.below {w w' : World} {K : Nat → Prop} {T : Pt} {q : Option Addr} (h : NdAt w K T q) (hb : Below w.heap.size w w') : NdAt w' K T q := h.kept hb.size (fun g _ hg => hb.block g hg) (fun _ h => h)
theorem NdAt.touched {w w' : World} {K S : Nat → Prop} {T : Pt} {q : Option Addr} (h : NdAt w K T q) (ht : Touch S w w') (hS : ∀ g, K g → ¬ S g) : NdAt w' K T q := h.kept ht.size (fun g hK hg => ht.block g hg (hS g hK)) (fun _ h => h)
theorem nil_at {w : World} {K : Nat → Prop} {q : Option Addr} : NdAt w K .nil q ↔ q = none := Iff.rfl
theorem bit_at (k : Ky) (i : Int) (h0 : 0 ≤ i) : bitI k.h k.l i = cond (bitK k i.toNat) 1 0 := by
  obtain ⟨n, rfl⟩ := Int.eq_ofNat_of_zero_le h0
  rw [Int.toNat_natCast]
  exact bitI_of _ _ _ _ rfl
theorem size14_any (g : Nat) (n : Int) (w : World) (hg : g < w.heap.size) (c2 : w.cell? ⟨g, 2, none⟩ = some (.int .i64 n)) :
    Calls Try.prog 28 #[.pointer (some ⟨g, 0, none⟩)] w fun e w' => e = .returned (.int .i64 n) ∧ Below w.heap.size w w' := by
  go_enter Try.func28, Try.ntmps28
  go_wp2
  go_ret
  exact ⟨rfl, by go_grown⟩
theorem size14_at (g : Nat) (n : Int) (w : World) (hg : g < w.heap.size) (c2 : w.cell? ⟨g, 2, none⟩ = some (.int .i64 n)) (d : Nat) (os : Array Obj) :
    Calls Try.prog 28 #[.pointer (some ⟨g, 0, none⟩)] (grow (redrawn w d) os) fun e w'' => e = .returned (.int .i64 n) ∧ ∃ p : Regrown, w'' = grow (redrawn w p.d) p.os :=
  Calls.regrown_of (size14_any g n _ (Nat.lt_of_lt_of_le hg (below_regrown w d os).size) ((cell_grow w d os g 2 hg).trans c2))
set_option maxRecDepth 100000 in
theorem toward_any (g : Nat) (k : Ky) (v : Int) (on : Bool) (ql qr : Option Addr) (p : Ky) (w : World) (H : Nc w g k v on ql qr) (gp : p.good) (h0 : 0 ≤ k.n) :
    Calls Try.prog 30 #[.pointer (some ⟨g, 0, none⟩), kyV p] w fun e w' => e = .returned (.pointer (cond (bitK p k.n.toNat) qr ql)) ∧ Below w.heap.size w w' := by
  have hB := bit_any p.h p.l k.n gp.1 gp.2
  rw [bit_at p k.n h0] at hB
  cases hbit : bitK p k.n.toNat
  · rw [hbit] at hB
    simp only [cond_false] at hB ⊢
    have HB := Lib.hid hB
    clear hB hbit
    have hz := H.lt
    have c2 := H.c2
    have c5 := H.c5
    have c6 := H.c6
    have HZ := Lib.hid (fun (W : World) (hb : Below w.heap.size w W) => size14_at g k.n W (Nat.lt_of_lt_of_le hz hb.size) ((hb.cell (p := ⟨g, 2, none⟩) hz).trans c2))
    clear H
    unfold kyV
    go_enter Try.func30, Try.ntmps30
    go_wp2_with fail
    have kg := cell_grow
    refine region_whole (by kernel_rfl) (by kernel_rfl) ?_
    repeat (any_goals (first | go_big_quiet_step ((first | exact HB.out.at _ _ _ | exact HZ.out (w.alloc _) (by go_grown) _ _)) | quiet_step ((first | exact HB.out.at _ _ _ | exact HZ.out (w.alloc _) (by go_grown) _ _))))
    refine wpQuiet_nil ?_
    clear kg
    intro w1 hb1
    obtain ⟨hc1, hf1⟩ := bcell hb1
    have hw1 : Below w.heap.size w w1 := by
      refine Below.trans ?_ (hb1.mono ?_)
      · go_grown
      · first | omega | go_size
    go_wp2
    go_ret
    exact ⟨rfl, hw1⟩
  · rw [hbit] at hB
    simp only [cond_true] at hB ⊢
    have HB := Lib.hid hB
    clear hB hbit
    have hz := H.lt
    have c2 := H.c2
    have c5 := H.c5
    have c6 := H.c6
    have HZ := Lib.hid (fun (W : World) (hb : Below w.heap.size w W) => size14_at g k.n W (Nat.lt_of_lt_of_le hz hb.size) ((hb.cell (p := ⟨g, 2, none⟩) hz).trans c2))
    clear H
    unfold kyV
    go_enter Try.func30, Try.ntmps30
    go_wp2_with fail
    have kg := cell_grow
    refine region_whole (by kernel_rfl) (by kernel_rfl) ?_
    repeat (any_goals (first | go_big_quiet_step ((first | exact HB.out.at _ _ _ | exact HZ.out (w.alloc _) (by go_grown) _ _)) | quiet_step ((first | exact HB.out.at _ _ _ | exact HZ.out (w.alloc _) (by go_grown) _ _))))
    refine wpQuiet_nil ?_
    clear kg
    intro w1 hb1
    obtain ⟨hc1, hf1⟩ := bcell hb1
    have hw1 : Below w.heap.size w w1 := by
      refine Below.trans ?_ (hb1.mono ?_)
      · go_grown
      · first | omega | go_size
    go_wp2
    go_ret
    exact ⟨rfl, hw1⟩
end Go.Proofs.Ytokjhoiacidofaa
/-
  Old memory as it was, behind calls that make blocks and behind a write to a block of the call's own. No condition but those that stand in each.
-/
set_option linter.unusedSimpArgs false
set_option linter.unusedVariables false
namespace Go.Proofs.Ytokjhoiacidofaa
open Go.RowKit Go.Sort

theorem grown_below {w w' : World} (hb : Below w.heap.size w w') : w.grownBy w' none := ⟨hb.os, hb.tape, hb.output, hb.size, fun k hk _ => hb.block k hk⟩
/-- Old memory is as it was, behind a write to one of the call's own blocks. -/
theorem below_write {B : Nat} {w w1 w2 : World} {h : Nat} (hw : Below B w w1) (hB : B ≤ w1.heap.size) (hg : w1.grownBy w2 (some h)) (hh : B ≤ h) : Below B w w2 :=
  hw.grown hg hB (fun k e => by cases e; exact hh)
theorem below_grown {w w' : World} (hg : w.grownBy w' none) : Below w.heap.size w w' := ⟨hg.os, hg.tape, hg.output, hg.size, fun k hk => hg.block k hk (by simp)⟩
end Go.Proofs.Ytokjhoiacidofaa
/-
  A node copied with another kid, and a node that forks nothing put aside: what led and joined hand back. No condition but those that stand in each.
-/
set_option linter.unusedSimpArgs false
set_option linter.unusedVariables false
namespace Go.Proofs.Ytokjhoiacidofaa
open Go.RowKit Go.Sort M

/-- A new node. -/
def NewNd (w w' : World) (e : Ending) (k : Ky) (v : Int) (on : Bool) (ql qr : Option Addr) : Prop :=
  ∃ g, e = .returned (.pointer (some ⟨g, 0, none⟩)) ∧ w.heap.size ≤ g ∧ Nc w' g k v on ql qr ∧ Below w.heap.size w w'
theorem set_ne (w : World) (b i j : Nat) (v : Value) (h : j ≠ i) : (w.setCell ⟨b, i, none⟩ v).cell? ⟨b, j, none⟩ = w.cell? ⟨b, j, none⟩ := by
  rw [World.cell?_setCell_other]
  intro e
  injection e with _ e2
  exact h e2.symm
theorem Nc.set5 {w : World} {g : Nat} {k : Ky} {v : Int} {on : Bool} {ql qr : Option Addr} {x : Option Addr} (H : Nc w g k v on ql qr) : Nc (w.setCell ⟨g, 5, none⟩ (.pointer x)) g k v on x qr :=
  ⟨by rw [World.size_setCell]; exact H.lt, (set_ne _ _ _ _ _ (by decide)).trans H.c0, (set_ne _ _ _ _ _ (by decide)).trans H.c1, (set_ne _ _ _ _ _ (by decide)).trans H.c2, (set_ne _ _ _ _ _ (by decide)).trans H.c3, (set_ne _ _ _ _ _ (by decide)).trans H.c4, World.cell?_setCell_same _ _ _ H.c5, (set_ne _ _ _ _ _ (by decide)).trans H.c6⟩
theorem Nc.set6 {w : World} {g : Nat} {k : Ky} {v : Int} {on : Bool} {ql qr : Option Addr} {x : Option Addr} (H : Nc w g k v on ql qr) : Nc (w.setCell ⟨g, 6, none⟩ (.pointer x)) g k v on ql x :=
  ⟨by rw [World.size_setCell]; exact H.lt, (set_ne _ _ _ _ _ (by decide)).trans H.c0, (set_ne _ _ _ _ _ (by decide)).trans H.c1, (set_ne _ _ _ _ _ (by decide)).trans H.c2, (set_ne _ _ _ _ _ (by decide)).trans H.c3, (set_ne _ _ _ _ _ (by decide)).trans H.c4, (set_ne _ _ _ _ _ (by decide)).trans H.c5, World.cell?_setCell_same _ _ _ H.c6⟩
/-- A write to a block from B on. -/
theorem below_set {B b o : Nat} {w w' : World} {v : Value} (h : Below B w w') (hb : B ≤ b) : Below B w (w'.setCell ⟨b, o, none⟩ v) :=
  ⟨h.os, h.tape, h.output, by rw [World.size_setCell]; exact h.size, fun k hk => (Below.heap_setCell w' ⟨b, o, none⟩ v k (by show k ≠ b; omega)).trans (h.block k hk)⟩
set_option maxRecDepth 100000 in
theorem led_any (g : Nat) (k : Ky) (v : Int) (on : Bool) (ql qr : Option Addr) (p : Ky) (x : Option Addr) (w : World) (H : Nc w g k v on ql qr) (gp : p.good) (h0 : 0 ≤ k.n) :
    Calls Try.prog 33 #[.pointer (some ⟨g, 0, none⟩), kyV p, .pointer x] w fun e w' => NewNd w w' e k v on (cond (bitK p k.n.toNat) ql x) (cond (bitK p k.n.toNat) x qr) := by
  have hB := bit_any p.h p.l k.n gp.1 gp.2
  rw [bit_at p k.n h0] at hB
  cases hbit : bitK p k.n.toNat
  · rw [hbit] at hB
    simp only [cond_false] at hB ⊢
    have HB := Lib.hid hB
    clear hB hbit
    have hz := H.lt
    have c0 := H.c0
    have c1 := H.c1
    have c2 := H.c2
    have c3 := H.c3
    have c4 := H.c4
    have c5 := H.c5
    have c6 := H.c6
    have HZ := Lib.hid (fun (W : World) (hb : Below w.heap.size w W) => size14_at g k.n W (Nat.lt_of_lt_of_le hz hb.size) ((hb.cell (p := ⟨g, 2, none⟩) hz).trans c2))
    clear H
    unfold kyV
    go_enter Try.func33, Try.ntmps33
    go_wp2_with fail
    have kg := cell_grow
    refine region_tail 8 (by kernel_rfl) (by kernel_rfl) ?_
    simp only [List.take_succ_cons, List.take_zero, List.drop_succ_cons, List.drop_zero]
    repeat (any_goals (first | go_big_quiet_step ((first | exact HB.out.at _ _ _ | exact HZ.out _ (by go_grown) _ _)) | quiet_step ((first | exact HB.out.at _ _ _ | exact HZ.out _ (by go_grown) _ _))))
    refine wpQuiet_nil ?_
    clear kg
    intro w1 hb1
    obtain ⟨hc1, hf1⟩ := bcell hb1
    go_wp2
    go_ret
    exact ⟨_, rfl, by omega, Nc.set5 (ql := ql) (Nc.below ⟨by simp, by simp [go_sem], by simp [go_sem], by simp [go_sem], by simp [go_sem], by simp [go_sem], by simp [go_sem], by simp [go_sem]⟩ hb1), below_set (Below.trans (by go_grown) (hb1.mono (by simp <;> omega))) (by omega)⟩
  · rw [hbit] at hB
    simp only [cond_true] at hB ⊢
    have HB := Lib.hid hB
    clear hB hbit
    have hz := H.lt
    have c0 := H.c0
    have c1 := H.c1
    have c2 := H.c2
    have c3 := H.c3
    have c4 := H.c4
    have c5 := H.c5
    have c6 := H.c6
    have HZ := Lib.hid (fun (W : World) (hb : Below w.heap.size w W) => size14_at g k.n W (Nat.lt_of_lt_of_le hz hb.size) ((hb.cell (p := ⟨g, 2, none⟩) hz).trans c2))
    clear H
    unfold kyV
    go_enter Try.func33, Try.ntmps33
    go_wp2_with fail
    have kg := cell_grow
    refine region_tail 8 (by kernel_rfl) (by kernel_rfl) ?_
    simp only [List.take_succ_cons, List.take_zero, List.drop_succ_cons, List.drop_zero]
    repeat (any_goals (first | go_big_quiet_step ((first | exact HB.out.at _ _ _ | exact HZ.out _ (by go_grown) _ _)) | quiet_step ((first | exact HB.out.at _ _ _ | exact HZ.out _ (by go_grown) _ _))))
    refine wpQuiet_nil ?_
    clear kg
    intro w1 hb1
    obtain ⟨hc1, hf1⟩ := bcell hb1
    go_wp2
    go_ret
    exact ⟨_, rfl, by omega, Nc.set6 (qr := qr) (Nc.below ⟨by simp, by simp [go_sem], by simp [go_sem], by simp [go_sem], by simp [go_sem], by simp [go_sem], by simp [go_sem], by simp [go_sem]⟩ hb1), below_set (Below.trans (by go_grown) (hb1.mono (by simp <;> omega))) (by omega)⟩
/-- A node that has nothing of its own and but one kid is that kid. -/
theorem joined_any {K : Nat → Prop} (g : Nat) (k : Ky) (v : Int) (on : Bool) (ql qr : Option Addr) (l r : Pt) (w : World) (hg : K g) (H : Nc w g k v on ql qr) (hl : NdAt w K l ql) (hr : NdAt w K r qr) :
    Calls Try.prog 34 #[.pointer (some ⟨g, 0, none⟩)] w fun e w' => ∃ q, e = .returned (.pointer q) ∧ NdAt w' K (joinP (.node k v on l r)) q ∧ Below w.heap.size w w' := by
  have hz := H.lt
  have c4 := H.c4
  have c5 := H.c5
  have c6 := H.c6
  have HN : NdAt w K (.node k v on l r) (some ⟨g, 0, none⟩) := ⟨g, ql, qr, rfl, hg, H, hl, hr⟩
  cases on with
  | true =>
    clear H hl hr c5 c6
    go_enter Try.func34, Try.ntmps34
    go_wp2
    go_ret
    exact ⟨_, rfl, HN, by go_grown⟩
  | false =>
    cases l with
    | nil =>
      obtain rfl : ql = none := hl
      clear H
      go_enter Try.func34, Try.ntmps34
      go_wp2
      go_ret
      exact ⟨_, rfl, hr, by go_grown⟩
    | node kl vl ol ll lr =>
      obtain ⟨gl, x, y, rfl, hrest⟩ := hl
      cases r with
      | nil =>
        obtain rfl : qr = none := hr
        clear H
        go_enter Try.func34, Try.ntmps34
        go_wp2
        go_ret
        exact ⟨_, rfl, ⟨gl, x, y, rfl, hrest⟩, by go_grown⟩
      | node kr vr or rl rr =>
        obtain ⟨gr, x', y', rfl, hrest'⟩ := hr
        clear H hrest hrest'
        go_enter Try.func34, Try.ntmps34
        go_wp2
        go_ret
        exact ⟨_, rfl, HN, by go_grown⟩
end Go.Proofs.Ytokjhoiacidofaa
/-
  One statement whose order is open, with calls in a chain each of which leaves old memory as it was, and a tail in one order: what only reads, or builds a value, is taken first, wherever it stands, between the calls too. No condition on the program but that it draws orders in the wide manner.
-/
set_option linter.unusedSimpArgs false
set_option linter.unusedVariables false
namespace Go.Proofs.Ytokjhoiacidofaa
open Go Go.RowKit Go.Sort

section
variable {P : Program} {ops : Array Oper} {md : Region.Mode} {C : World → Prop} {Q : Exit → Act → World → Prop} {S : World → Prop} {pre : Nat → Bool}
/-- The calls one behind the other, each leaves the memory of w as it was; behind them the tail. -/
def chainQ (P : Program) (ops : Array Oper) (Q : Exit → Act → World → Prop) (w : World) (tl : List Nat) : List Nat → Act → World → Prop
  | [], a, w' => wpList P ops Q (pickL ops tl) a w'
  | x :: xs, a, w' => ∀ K : Act → World → Prop, (∀ a3 w3, Below w.heap.size w w3 → chainQ P ops Q w tl xs a3 w3 → K a3 w3) → oneOp P ops Q x K a w'
def chainTailB (ops : Array Oper) (tl : List Nat) : List Nat → Array Bool → Bool
  | [], listed => tailB .any ops tl listed
  | x :: xs, listed => decide (Region.ready .any ops listed = [x]) && (ops[x]?).isSome && chainTailB ops tl xs (listed.setIfInBounds x true)
def rowB (ops : Array Oper) (tA tB xs tl : List Nat) : Bool :=
  decide (ops.size = tA.length + (tB.length + (xs.length + tl.length))) &&
  takeD .any ops (fun _ => true) (fun l1 => takeD .any ops (fun i => laterB .any ops (fun j => !tl.contains j) i) (fun l2 => chainTailB ops tl xs l2) tB l1) tA (Array.replicate ops.size false)
theorem anyP_chain {w : World} (tl : List Nat) (pre2 : ∀ i ∈ tl, pre i = false) (rgb : ∀ {w'}, Below w.heap.size w w' → S w') : ∀ (xs : List Nat) (listed : Array Bool) (a : Act) (w' : World), chainTailB ops tl xs listed = true → chainQ P ops Q w tl xs a w' → anyP P .any ops Q S pre (xs.length + tl.length) listed a w'
  | [], listed, a, w', hB, h => by
    rw [List.length_nil, Nat.zero_add]
    exact anyP_tail tl listed a w' pre2 hB h
  | x :: xs, listed, a, w', hB, h => by
    simp only [chainTailB, Bool.and_eq_true, decide_eq_true_eq] at hB
    obtain ⟨⟨r0, hx⟩, ht⟩ := hB
    rw [List.length_cons, show xs.length + 1 + tl.length = (xs.length + tl.length) + 1 by omega]
    refine ⟨fun h1 => (by rw [r0] at h1; cases h1), fun i hi => ?_⟩
    rw [r0] at hi
    have hix : i = x := by simpa using hi
    subst hix
    exact (h _ (fun a3 w3 hb3 h3 => ⟨fun _ _ => rgb hb3, anyP_chain tl pre2 rgb xs _ a3 w3 ht h3⟩)).wpOp hx
theorem region_row {id : Nat} {a : Act} {w : World} {l : List Oper} (tA tB xs tl : List Nat) (hm : P.follows .mixedOrders = true) (hQ : ∀ c a w, Q (.panic c) a w → False) (hsel : Region.noSelect l.toArray = true) (hB : rowB l.toArray tA tB xs tl = true)
    (h : wpQuiet P l.toArray (fun _ => True) (fun a1 => wpQuiet P l.toArray (fun w' => ∃ p : Regrown, w' = grow (redrawn w p.d) p.os) (fun a2 => ∀ w', Below w.heap.size w w' → chainQ P l.toArray Q w tl xs a2 w') (pickL l.toArray tB) a1) (pickL l.toArray tA) a) :
    (Code.region id l.toArray true).wp P Q a w := by
  generalize l.toArray = ops at *
  simp only [rowB, Bool.and_eq_true, decide_eq_true_eq] at hB
  obtain ⟨hsz, hB⟩ := hB
  refine wp_region_any hm ?_
  have inv0 : HeadInv .any ops ops.size (Array.replicate ops.size false) :=
    ⟨by simp, fun j oj _ hl => (by rw [getD_replicate_false] at hl; cases hl), fun t h1 h2 => absurd h2 (by omega)⟩
  have hS0 : Rg w { w with drawn := w.drawn + 1 } := ⟨⟨w.drawn + 1, #[]⟩, by rw [grow_empty]; rfl⟩
  have pre2 : ∀ i ∈ tl, (!tl.contains i) = false := fun i hi => by simp [hi]
  refine wpAny_of_anyP (S := Rg w) (pre := fun j => !tl.contains j) _ _ _ _ ?_
  suffices hh : anyP P .any ops Q (Rg w) (fun j => !tl.contains j) (tA.length + (tB.length + (xs.length + tl.length))) (Array.replicate ops.size false) a { w with drawn := w.drawn + 1 } by
    rw [← hsz] at hh
    exact hh
  refine anyP_takesC (T := fun _ => True) hsel hQ (fun _ _ => trivial) (fun _ _ => .inr (fun _ => trivial)) hS0 (fun l1 a1 hF1 inv1 h1 => ?_) tA _ a hB inv0 h
  refine anyP_takesC (T := fun w' => ∃ p : Regrown, w' = grow (redrawn w p.d) p.os) hsel hQ (fun _ h => h) (fun i hi => .inl hi) hS0 (fun l2 a2 hF2 inv2 h2 => ?_) tB l1 a1 hF1 inv1 h1
  have hb0 : Below w.heap.size w { w with drawn := w.drawn + 1 } := ⟨rfl, rfl, rfl, Nat.le_refl _, fun _ _ => rfl⟩
  exact anyP_chain tl pre2 (fun h => regrown_of_below h) xs l2 a2 _ hF2 (h2 _ hb0)
end
end Go.Proofs.Ytokjhoiacidofaa
