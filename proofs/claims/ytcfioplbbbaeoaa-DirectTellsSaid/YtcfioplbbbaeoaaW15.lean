/-
  slices.Clone of a row of routes, and the test that walk.Sorted sorts by. No condition but those that stand in each.
-/
import Derived.Test.YtcfioplbbbaeoaaReg4
import Derived.Test.YtcfioplbbbaeoaaLtR
import Derived.Test.YtcfioplbbbaeoaaRef15
import Derived.Test.YtcfioplbbbaeoaaAppR
/-
  As Reg3's, a value may be built among what is taken first; an append to nothing. No condition on the program but that it draws orders in the wide manner.
-/
set_option linter.unusedSimpArgs false
set_option linter.unusedVariables false
namespace Go.Proofs.Ytcfioplbbbaeoaa
open Go Go.RowKit Go.Sort M

section
variable {P : Program} {ops : Array Oper} {md : Region.Mode} {C : World → Prop} {Q : Exit → Act → World → Prop} {S : World → Prop} {pre : Nat → Bool}
def pairC (ops : Array Oper) (tA tB : List Nat) (x y : Nat) (tl : List Nat) : Bool :=
  decide (x ≠ y) && (ops[x]?).isSome && (ops[y]?).isSome && decide (ops.size = tA.length + (tB.length + (tl.length + 1 + 1))) &&
  takeD .any ops (fun _ => true) (fun l1 => takeD .any ops (fun i => laterB .any ops (fun j => !tl.contains j) i) (fun l2 =>
    decide (Region.ready .any ops l2 = [x, y]) && decide (Region.ready .any ops (l2.setIfInBounds x true) = [y]) && decide (Region.ready .any ops (l2.setIfInBounds y true) = [x]) && tailB .any ops tl ((l2.setIfInBounds x true).setIfInBounds y true)) tB l1) tA (Array.replicate ops.size false)
theorem region_pairC {id : Nat} {a : Act} {w : World} {l : List Oper} (tA tB : List Nat) (x y : Nat) (tl : List Nat) (hm : P.follows .mixedOrders = true) (hQ : ∀ c a w, Q (.panic c) a w → False) (hsel : Region.noSelect l.toArray = true) (hB : pairC l.toArray tA tB x y tl = true)
    (h : wpQuiet P l.toArray (fun _ => True) (fun a1 => wpQuiet P l.toArray (fun w' => ∃ p : Regrown, w' = grow (redrawn w p.d) p.os) (fun a2 => ∀ w', Below w.heap.size w w' → wayQ P l.toArray Q w x y tl a2 w' ∧ wayQ P l.toArray Q w y x tl a2 w') (pickL l.toArray tB) a1) (pickL l.toArray tA) a) :
    (Code.region id l.toArray true).wp P Q a w := by
  generalize l.toArray = ops at *
  simp only [pairC, Bool.and_eq_true, decide_eq_true_eq] at hB
  obtain ⟨⟨⟨⟨hxy, hx⟩, hy⟩, hsz⟩, hB⟩ := hB
  refine wp_region_any hm ?_
  have inv0 : HeadInv .any ops ops.size (Array.replicate ops.size false) :=
    ⟨by simp, fun j oj _ hl => (by rw [getD_replicate_false] at hl; cases hl), fun t h1 h2 => absurd h2 (by omega)⟩
  have hS0 : Rg w { w with drawn := w.drawn + 1 } := ⟨⟨w.drawn + 1, #[]⟩, by rw [grow_empty]; rfl⟩
  have rgb : ∀ {w'}, Below w.heap.size w w' → Rg w w' := fun h => regrown_of_below h
  have pre2 : ∀ i ∈ tl, (!tl.contains i) = false := fun i hi => by simp [hi]
  refine wpAny_of_anyP (S := Rg w) (pre := fun j => !tl.contains j) _ _ _ _ ?_
  suffices hh : anyP P .any ops Q (Rg w) (fun j => !tl.contains j) (tA.length + (tB.length + (tl.length + 1 + 1))) (Array.replicate ops.size false) a { w with drawn := w.drawn + 1 } by
    rw [← hsz] at hh
    exact hh
  have one : ∀ (u v : Nat) (listed : Array Bool) (a2 : Act) (w' : World), (ops[u]?).isSome = true → (ops[v]?).isSome = true → Region.ready .any ops (listed.setIfInBounds u true) = [v] → tailB .any ops tl ((listed.setIfInBounds u true).setIfInBounds v true) = true → wayQ P ops Q w u v tl a2 w' →
      Go.wpOp P ops Q u (fun a' w1 => ((!tl.contains u) = true → Rg w w' → Rg w w1) ∧ anyP P .any ops Q (Rg w) (fun j => !tl.contains j) (tl.length + 1) (listed.setIfInBounds u true) a' w1) a2 w' := by
    intro u v listed a2 w' hu hv hr ht hway
    refine (hway _ (fun a3 w3 hb3 hnext => ⟨fun _ _ => rgb hb3, ?_⟩)).wpOp hu
    refine ⟨fun h1 => (by rw [hr] at h1; cases h1), fun j hj => ?_⟩
    rw [hr] at hj
    have hjv : j = v := by simpa using hj
    subst hjv
    exact (hnext _ (fun a4 w4 hb4 hl4 => ⟨fun _ _ => rgb hb4, anyP_tail tl _ a4 w4 pre2 ht hl4⟩)).wpOp hv
  refine anyP_takesC (T := fun _ => True) hsel hQ (fun _ _ => trivial) (fun _ _ => .inr (fun _ => trivial)) hS0 (fun l1 a1 hF1 inv1 h1 => ?_) tA _ a hB inv0 h
  refine anyP_takesC (T := fun w' => ∃ p : Regrown, w' = grow (redrawn w p.d) p.os) hsel hQ (fun _ h => h) (fun i hi => .inl hi) hS0 (fun l2 a2 hF2 inv2 h2 => ?_) tB l1 a1 hF1 inv1 h1
  simp only [Bool.and_eq_true, decide_eq_true_eq] at hF2
  obtain ⟨⟨⟨r0, r1⟩, r2⟩, ht⟩ := hF2
  have hb0 : Below w.heap.size w { w with drawn := w.drawn + 1 } := ⟨rfl, rfl, rfl, Nat.le_refl _, fun _ _ => rfl⟩
  obtain ⟨wy1, wy2⟩ := h2 _ hb0
  refine ⟨fun h1 => (by rw [r0] at h1; cases h1), fun i hi => ?_⟩
  rw [r0] at hi
  simp only [List.mem_cons, List.not_mem_nil, or_false] at hi
  rcases hi with rfl | rfl
  · exact one i y l2 a2 _ hx hy r1 ht wy1
  · refine one i x l2 a2 _ hy hx r2 ?_ wy2
    rw [Array.setIfInBounds_comm _ _ hxy.symm]
    exact ht
end
/-- An append of a row to nothing. -/
theorem wp_append_nil {o : Oper} {a : Act} {w : World} {K : Act → World → Prop} {Q : Exit → Act → World → Prop} (x : Operand)
    (ho : o.op = .call { callee := .builtin .append, args := #[.const (.slice none 0 0), x], argTypes := #[34, 34] }) (B B2 : Nat) (u : Value) (M : List Rt) (hx : a.eval x = u) (hsrc : w.ownsRow B2 43 4 u M.length (rcs M)) (hlen : M.length ≤ 1099511627776) (hB : B ≤ w.heap.size)
    (h : ∀ v' w', w'.ownsRow B 43 4 v' M.length (rcs M) → w.grownBy w' none → K (a.put o.dst v') w') : o.wp Try.prog a w K Q := by
  rcases hsrc.2 with ⟨hu, h0⟩ | ⟨g, cap, cur, hu, -, -, -, -, -, -⟩
  · subst hu
    have hM := List.length_eq_zero_iff.1 h0
    subst hM
    exact wp_append_none (.const (.slice none 0 0)) x ho rfl hx (h _ _ (World.ownsRow_nil _ _ _ _) ⟨rfl, rfl, rfl, Nat.le_refl _, fun _ _ _ => rfl⟩)
  · have hc := fun hg => hsrc.cells (g := g) hg
    subst hu
    refine wp_append_rt (.const (.slice none 0 0)) x ho B (.slice none 0 0) [] M rfl (World.ownsRow_nil _ _ _ _) ⟨g, 0, none⟩ M.length cap rfl hx (hc rfl) (by simp; omega) hB ?_
    intro v' w' h1 h2 _
    exact h v' w' (by simpa using h1) h2
end Go.Proofs.Ytcfioplbbbaeoaa
/-
  slices.Clone of a row of routes, and the test that walk.Sorted sorts by. No condition but those that stand in each.
-/
set_option linter.unusedSimpArgs false
set_option linter.unusedVariables false
namespace Go.Proofs.Ytcfioplbbbaeoaa
open Go Go.RowKit Go.Sort M

/-- An append of a row that lies anywhere to a row of the call's own. -/
theorem wpList_append_row {ops : Array Oper} {rest : List Oper} {o : Oper} {a : Act} {w : World} {Q : Exit → Act → World → Prop} (hgd : o.guard = none) (s x : Operand)
    (ho : o.op = .call { callee := .builtin .append, args := #[s, x], argTypes := #[34, 34] }) (B : Nat) (v : Value) (L M N : List Rt) (hN : N = L ++ M) (hs : a.eval s = v) (ad : Addr) (c : Nat) (hx : a.eval x = .slice (some ad) M.length c)
    (hown : w.ownsRow B 43 4 v L.length (rcs L)) (hsrc : ∀ j u, (rcs M)[j]? = some u → w.cell? (ad.add j) = some u) (hlen : L.length + M.length ≤ 1099511627776) (hB : B ≤ w.heap.size)
    (h : ∀ v' w', w'.ownsRow B 43 4 v' N.length (rcs N) → w.grownBy w' v.ownBlock → (v'.ownBlock = v.ownBlock ∨ v'.ownBlock = some w.heap.size) → wpList Try.prog ops Q rest (a.put o.dst v') w') : wpList Try.prog ops Q (o :: rest) a w := by
  subst hN
  obtain ⟨i0, hi0, iz0, iz1, iz2⟩ := info_parts infoR
  refine wpList_append_own_at w hgd s x 34 ho B 43 i0 _ 4 32 Try.underlying34 hi0 iz0 iz1 iz2 rfl (by decide) v _ _ hs hown ad M.length c (rcs M) hx (rcs_len M) hsrc (rcs_one' M) (by unfold maxLen; omega) (by omega) hB ?_
  intro v' w' h1 h2 _ h4
  refine h v' w' ?_ h2 h4
  rw [rcs_append, List.length_append]
  exact h1
theorem add_at15 (g o i : Nat) : (⟨g, o, none⟩ : Addr).add i = ⟨g, o + i, none⟩ := by unfold Addr.add; split <;> simp_all
theorem own_zero (w : World) : (w.alloc (.cells #[] 43)).ownsRow w.heap.size 43 4 (.slice (some ⟨w.heap.size, 0, none⟩) 0 0) 0 [] :=
  own_made (Nat.le_refl _) (heap_alloc_new w _) (Nat.le_refl _) (by unfold maxLen; omega) (by simp) (by simp)
set_option maxHeartbeats 1000000 in
set_option maxRecDepth 100000 in
theorem clone_any (p : Option Addr) (c : Nat) (L : List Rt) (w : World) (hR : Row w p (rcs L)) (hp : p = none → c = 0) (hl : L.length < 1099511627776) :
    Calls Try.prog 23 #[.slice p L.length c] w fun e w' => NewRts w w' e L := by
  have q : ∀ (w : World) (a : Option Addr) (n c : Nat), (binOp .eql 34 (.slice a n c) (.slice none 0 0)).run Try.prog w = .ok (.bool a.isNone) w := fun w a n c => Lib.run_eql_slice_nil w _ _ a n c 0 0 Try.underlying34
  cases p with
  | none =>
    obtain rfl := hp rfl
    have q := q w none 0 0
    have hL : L = [] := by
      rcases hR with h | ⟨g, o, h, -⟩
      · rw [← List.length_eq_zero_iff]
        have := congrArg List.length h
        rw [rcs_len] at this
        simp at this
        omega
      · cases h
    subst hL
    go_enter Try.func23, Try.ntmps23
    go_wp2
    go_ret
    exact ⟨none, 0, rfl, World.ownsRow_nil _ _ _ _, by go_grown⟩
  | some a =>
    have q := q w (some a) L.length c
    go_enter Try.func23, Try.ntmps23
    have hO := Lib.hid (own_zero w)
    have hsrc : Hid (∀ j u, (rcs L)[j]? = some u → (w.alloc (.cells #[] 43)).cell? (a.add j) = some u) := Lib.hid fun j u hu => by
      rcases hR with h | ⟨g, o, h, hg, hc⟩
      · rw [h] at hu
        cases hu
      · injection h with h
        subst h
        rw [add_at15]
        have := hc j u hu
        rw [← this]
        exact ((show Below w.heap.size w (w.alloc (.cells #[] 43)) from by go_grown).cell (p := ⟨g, o + j, none⟩) hg)
    go_wp2_with (at_builtin; go_loud (refine wpList_append_row rfl (.tmp 5) (.tmp 6) rfl w.heap.size _ [] L L rfl rfl a c rfl hO.out hsrc.out (by simp; omega) (by simp) ?_))
    intro v' w' h1 h2 _
    obtain ⟨p', c', rfl⟩ := own_slice h1
    have hb : Below w.heap.size w (w.alloc (.cells #[] 43)) := by go_grown
    have hb2 : Below w.heap.size w w' := hb.grown h2 hb.size (fun k e => by simp [Value.ownBlock] at e; omega)
    clear hb h2 q
    have HF := Lib.hid (And.intro h1 hb2)
    clear h1 hb2
    go_wp2
    go_ret
    exact ⟨p', c', rfl, HF.out.1, HF.out.2⟩
set_option maxRecDepth 100000 in
set_option maxHeartbeats 1000000 in
theorem walkLess_any (bx blk c n : Nat) (hn : n < 1000000000) (w0 : World) (hc : w0.cell? ⟨bx, 0, none⟩ = some (.slice (some ⟨blk, 0, none⟩) n c)) (hne : bx ≠ blk) :
    LessB 25 #[.pointer (some ⟨bx, 0, none⟩)] rcell 4 ltR w0 blk 0 n := by
  intro W d S i j hi hj
  have hb0 : bx < w0.heap.size := World.block_lt_of_cell? w0 _ hc
  have b0 := S.touch.cell hc hne
  have hbl : bx < W.heap.size := Nat.lt_of_lt_of_le hb0 S.touch.size
  have hl := S.lt2
  have hs := S.size
  have x0 := (S.holds.cell (i := i) (c := 0) (by omega) (by decide)).1
  have x1 := (S.holds.cell (i := i) (c := 1) (by omega) (by decide)).1
  have x2 := (S.holds.cell (i := i) (c := 2) (by omega) (by decide)).1
  have y0 := (S.holds.cell (i := j) (c := 0) (by omega) (by decide)).1
  have y1 := (S.holds.cell (i := j) (c := 1) (by omega) (by decide)).1
  have y2 := (S.holds.cell (i := j) (c := 2) (by omega) (by decide)).1
  have HL := less_any d[i]!.k.h d[i]!.k.l d[i]!.k.n d[j]!.k.h d[j]!.k.l d[j]!.k.n
  change Gives _ _ _ (.bool (ltR d[i]! d[j]!)) at HL
  generalize ltR d[i]! d[j]! = ls at *
  change W.cell? _ = some (.int .u64 (d[i]!.k.h : Int)) at x0
  change W.cell? _ = some (.int .u64 (d[i]!.k.l : Int)) at x1
  change W.cell? _ = some (.int .i64 d[i]!.k.n) at x2
  change W.cell? _ = some (.int .u64 (d[j]!.k.h : Int)) at y0
  change W.cell? _ = some (.int .u64 (d[j]!.k.l : Int)) at y1
  change W.cell? _ = some (.int .i64 d[j]!.k.n) at y2
  generalize d[i]!.k = q at *
  generalize d[j]!.k = r at *
  rw [Nat.zero_add] at x0 x1 x2 y0 y1 y2
  rw [Nat.add_zero] at x0 y0
  have HL := Lib.hid HL
  have i1 : (0 : Int) ≤ (i : Int) := by omega
  have i2 : (i : Int) < (n : Int) := by omega
  have j1 : (0 : Int) ≤ (j : Int) := by omega
  have j2 : (j : Int) < (n : Int) := by omega
  clear S hc hb0
  show Calls _ _ #[.int .i64 (i : Int), .int .i64 (j : Int), .pointer (some ⟨bx, 0, none⟩)] _ _
  obtain ⟨w, hw⟩ : ∃ w, w = W := ⟨_, rfl⟩
  subst hw
  go_enter Try.func25, Try.ntmps25
  go_wp2_with fail
  have kg := cell_grow
  refine region_whole (by kernel_rfl) (by kernel_rfl) ?_
  repeat (any_goals (first | go_big_quiet_step ((exact HL.out.at _ _ _)) | quiet_step ((exact HL.out.at _ _ _))))
  refine wpQuiet_nil ?_
  clear kg
  intro w1 hb1
  obtain ⟨hc1, hf1⟩ := bcell hb1
  have hw1 : Below w.heap.size w w1 := by
    refine Below.trans ?_ (hb1.mono ?_)
    · go_grown
    · first | omega | go_size
  go_wp2
  go_ret
  exact ⟨rfl, hw1⟩
theorem neq_pfx15 (a b : Nat) (n : Int) (c d : Nat) (m : Int) (w : World) : (binOp .neq 41 (.agg #[.int .u64 a, .int .u64 b, .int .i64 n]) (.agg #[.int .u64 c, .int .u64 d, .int .i64 m])).run Try.prog w =
    .ok (.bool (!decide (a = c ∧ b = d ∧ n = m))) w := by
  have e1 : decide (a = c ∧ b = d ∧ n = m) = (decide ((a : Int) = c) && (decide ((b : Int) = d) && decide (n = m))) := by
    rw [← Bool.decide_and, ← Bool.decide_and, decide_eq_decide]; omega
  rw [e1]
  by_cases h1 : (a : Int) = c <;> by_cases h2 : (b : Int) = d <;> by_cases h3 : n = m <;> simp [go_sem, h1, h2, h3]
end Go.Proofs.Ytcfioplbbbaeoaa
