/-
  slices.Clone of a row of routes, and the test that walk.Sorted sorts by. No condition but those that stand in each.
-/
import Derived.Test.YtmdjbdhnenpjeaaReg5
import Derived.Test.YtmdjbdhnenpjeaaRef15
import Derived.Test.YtmdjbdhnenpjeaaAppR
set_option linter.unusedSimpArgs false
set_option linter.unusedVariables false
namespace Go.Proofs.Ytmdjbdhnenpjeaa
open Go Go.RowKit Go.Sort M

/-- An append of a row that lies anywhere to a row of the call's own. -/
theorem wpList_append_row {ops : Array Oper} {rest : List Oper} {o : Oper} {a : Act} {w : World} {Q : Exit → Act → World → Prop} (hgd : o.guard = none) (s x : Operand)
    (ho : o.op = .call { callee := .builtin .append, args := #[s, x], argTypes := #[22, 22] }) (B : Nat) (v : Value) (L M N : List Rt) (hN : N = L ++ M) (hs : a.eval s = v) (ad : Addr) (c : Nat) (hx : a.eval x = .slice (some ad) M.length c)
    (hown : w.ownsRow B 36 4 v L.length (rcs L)) (hsrc : ∀ j u, (rcs M)[j]? = some u → w.cell? (ad.add j) = some u) (hlen : L.length + M.length ≤ 1099511627776) (hB : B ≤ w.heap.size)
    (h : ∀ v' w', w'.ownsRow B 36 4 v' N.length (rcs N) → w.grownBy w' v.ownBlock → (v'.ownBlock = v.ownBlock ∨ v'.ownBlock = some w.heap.size) → wpList Try.prog ops Q rest (a.put o.dst v') w') : wpList Try.prog ops Q (o :: rest) a w := by
  subst hN
  obtain ⟨i0, hi0, iz0, iz1, iz2⟩ := info_parts infoR
  refine wpList_append_own_at w hgd s x 22 ho B 36 i0 _ 4 32 Try.underlying22 hi0 iz0 iz1 iz2 rfl (by decide) v _ _ hs hown ad M.length c (rcs M) hx (rcs_len M) hsrc (rcs_one' M) (by unfold maxLen; omega) (by omega) hB ?_
  intro v' w' h1 h2 _ h4
  refine h v' w' ?_ h2 h4
  rw [rcs_append, List.length_append]
  exact h1
theorem add_at15 (g o i : Nat) : (⟨g, o, none⟩ : Addr).add i = ⟨g, o + i, none⟩ := by unfold Addr.add; split <;> simp_all
theorem own_zero (w : World) : (w.alloc (.cells #[] 36)).ownsRow w.heap.size 36 4 (.slice (some ⟨w.heap.size, 0, none⟩) 0 0) 0 [] :=
  own_made (Nat.le_refl _) (heap_alloc_new w _) (Nat.le_refl _) (by unfold maxLen; omega) (by simp) (by simp)
set_option maxHeartbeats 1000000 in
set_option maxRecDepth 100000 in
theorem clone_any (p : Option Addr) (c : Nat) (L : List Rt) (w : World) (hR : Row w p (rcs L)) (hp : p = none → c = 0) (hl : L.length < 1099511627776) :
    Calls Try.prog 28 #[.slice p L.length c] w fun e w' => NewRts w w' e L := by
  have q : ∀ (w : World) (a : Option Addr) (n c : Nat), (binOp .eql 22 (.slice a n c) (.slice none 0 0)).run Try.prog w = .ok (.bool a.isNone) w := fun w a n c => Lib.run_eql_slice_nil w _ _ a n c 0 0 Try.underlying22
  cases p with
  | none =>
    obtain rfl := hp rfl
    have q := q w none 0 0
    have hL : L = [] := by
      rcases hR with h | ⟨g, o, h, -⟩
      · rw [← List.length_eq_zero_iff]
        have := congrArg List.length h
        rw [rcs_len] at this
        simp at this
        omega
      · cases h
    subst hL
    go_enter Try.func28, Try.ntmps28
    go_wp2
    go_ret
    exact ⟨none, 0, rfl, World.ownsRow_nil _ _ _ _, by go_grown⟩
  | some a =>
    have q := q w (some a) L.length c
    go_enter Try.func28, Try.ntmps28
    have hO := Lib.hid (own_zero w)
    have hsrc : Hid (∀ j u, (rcs L)[j]? = some u → (w.alloc (.cells #[] 36)).cell? (a.add j) = some u) := Lib.hid fun j u hu => by
      rcases hR with h | ⟨g, o, h, hg, hc⟩
      · rw [h] at hu
        cases hu
      · injection h with h
        subst h
        rw [add_at15]
        have := hc j u hu
        rw [← this]
        exact ((show Below w.heap.size w (w.alloc (.cells #[] 36)) from by go_grown).cell (p := ⟨g, o + j, none⟩) hg)
    go_wp2_with (at_builtin; go_loud (refine wpList_append_row rfl (.tmp 5) (.tmp 6) rfl w.heap.size _ [] L L rfl rfl a c rfl hO.out hsrc.out (by simp; omega) (by simp) ?_))
    intro v' w' h1 h2 _
    obtain ⟨p', c', rfl⟩ := own_slice h1
    have hb : Below w.heap.size w (w.alloc (.cells #[] 36)) := by go_grown
    have hb2 : Below w.heap.size w w' := hb.grown h2 hb.size (fun k e => by simp [Value.ownBlock] at e; omega)
    clear hb h2 q
    have HF := Lib.hid (And.intro h1 hb2)
    clear h1 hb2
    go_wp2
    go_ret
    exact ⟨p', c', rfl, HF.out.1, HF.out.2⟩
set_option maxRecDepth 100000 in
set_option maxHeartbeats 1000000 in
theorem walkLess_any (bx blk c n : Nat) (hn : n < 1000000000) (w0 : World) (hc : w0.cell? ⟨bx, 0, none⟩ = some (.slice (some ⟨blk, 0, none⟩) n c)) (hne : bx ≠ blk) :
    LessB 30 #[.pointer (some ⟨bx, 0, none⟩)] rcell 4 ltR w0 blk 0 n := by
  intro W d S i j hi hj
  have hb0 : bx < w0.heap.size := World.block_lt_of_cell? w0 _ hc
  have b0 := S.touch.cell hc hne
  have hbl : bx < W.heap.size := Nat.lt_of_lt_of_le hb0 S.touch.size
  have hl := S.lt2
  have hs := S.size
  have x0 := (S.holds.cell (i := i) (c := 0) (by omega) (by decide)).1
  have x1 := (S.holds.cell (i := i) (c := 1) (by omega) (by decide)).1
  have x2 := (S.holds.cell (i := i) (c := 2) (by omega) (by decide)).1
  have y0 := (S.holds.cell (i := j) (c := 0) (by omega) (by decide)).1
  have y1 := (S.holds.cell (i := j) (c := 1) (by omega) (by decide)).1
  have y2 := (S.holds.cell (i := j) (c := 2) (by omega) (by decide)).1
  have HL := less_any d[i]!.k.h d[i]!.k.l d[i]!.k.n d[j]!.k.h d[j]!.k.l d[j]!.k.n
  change Gives _ _ _ (.bool (ltR d[i]! d[j]!)) at HL
  generalize ltR d[i]! d[j]! = ls at *
  change W.cell? _ = some (.int .u64 (d[i]!.k.h : Int)) at x0
  change W.cell? _ = some (.int .u64 (d[i]!.k.l : Int)) at x1
  change W.cell? _ = some (.int .i64 d[i]!.k.n) at x2
  change W.cell? _ = some (.int .u64 (d[j]!.k.h : Int)) at y0
  change W.cell? _ = some (.int .u64 (d[j]!.k.l : Int)) at y1
  change W.cell? _ = some (.int .i64 d[j]!.k.n) at y2
  generalize d[i]!.k = q at *
  generalize d[j]!.k = r at *
  rw [Nat.zero_add] at x0 x1 x2 y0 y1 y2
  rw [Nat.add_zero] at x0 y0
  have HL := Lib.hid HL
  have i1 : (0 : Int) ≤ (i : Int) := by omega
  have i2 : (i : Int) < (n : Int) := by omega
  have j1 : (0 : Int) ≤ (j : Int) := by omega
  have j2 : (j : Int) < (n : Int) := by omega
  clear S hc hb0
  show Calls _ _ #[.int .i64 (i : Int), .int .i64 (j : Int), .pointer (some ⟨bx, 0, none⟩)] _ _
  obtain ⟨w, hw⟩ : ∃ w, w = W := ⟨_, rfl⟩
  subst hw
  go_enter Try.func30, Try.ntmps30
  go_wp2_with fail
  have kg := cell_grow
  refine region_whole (by kernel_rfl) (by kernel_rfl) ?_
  repeat (any_goals (first | go_big_quiet_step ((exact HL.out.at _ _ _)) | quiet_step ((exact HL.out.at _ _ _))))
  refine wpQuiet_nil ?_
  clear kg
  intro w1 hb1
  obtain ⟨hc1, hf1⟩ := bcell hb1
  have hw1 : Below w.heap.size w w1 := by
    refine Below.trans ?_ (hb1.mono ?_)
    · go_grown
    · first | omega | go_size
  go_wp2
  go_ret
  exact ⟨rfl, hw1⟩
theorem neq_pfx15 (a b : Nat) (n : Int) (c d : Nat) (m : Int) (w : World) : (binOp .neq 27 (.agg #[.int .u64 a, .int .u64 b, .int .i64 n]) (.agg #[.int .u64 c, .int .u64 d, .int .i64 m])).run Try.prog w =
    .ok (.bool (!decide (a = c ∧ b = d ∧ n = m))) w := by
  have e1 : decide (a = c ∧ b = d ∧ n = m) = (decide ((a : Int) = c) && (decide ((b : Int) = d) && decide (n = m))) := by
    rw [← Bool.decide_and, ← Bool.decide_and, decide_eq_decide]; omega
  rw [e1]
  by_cases h1 : (a : Int) = c <;> by_cases h2 : (b : Int) = d <;> by_cases h3 : n = m <;> simp [go_sem, h1, h2, h3]
end Go.Proofs.Ytmdjbdhnenpjeaa
