/-
  A table of buckets in memory: its struct, its row of buckets, its stash; what is kept of it while others are written, and what it is where one of its buckets is written. No condition but those that stand in each.
-/
import Derived.Test.YtoihkbanmnagkaaGreatRts
import Derived.Test.YtoihkbanmnagkaaGreatNib2
import Derived.Test.YtoihkbanmnagkaaGreatM12i
/-
  What All of a bucket hands back: a new row of routes, by place. No condition but that the bucket's cells lie in memory.
-/
set_option linter.unusedSimpArgs false
set_option linter.unusedVariables false
namespace Go.Proofs.YtoihkbanmnagkaaGreat
open Go.RowKit Go.Sort M

set_option maxHeartbeats 1000000 in
set_option maxRecDepth 100000 in
theorem all11_any (g o : Nat) (C : List Pl) (w : World) (H : Bkt w g o C) :
    Calls Tryz.prog 91 #[.pointer (some ⟨g, o, none⟩)] w fun e w' => NewRts w w' e (allC C) := by
  have hld := H.range
  have hll : (bcs C).length = 20 := by rw [bcs_len, H.four]
  have HI := Lib.hid (fun i hi => index_arr H.four i hi)
  have h4 := H.four
  have hg := H.lt
  have HS := Lib.hid (fun i h => allC_snoc C i h)
  have HA := Lib.hid (allC_len C)
  obtain ⟨i0, hi0, iz0, iz1, iz2⟩ := info_parts infoR
  generalize bcs C = X at hld hll HI
  clear H
  go_enter Tryz.func91, Tryz.ntmps91
  go_wp2_with (refine wpList_load_arr _ g o X rfl rfl rfl hld hll ?_)
  clear hld hll
  go_loopw [3, 5, 12] (fun s3 s5 i wr => ∃ (j : Nat) (p : Option Addr) (c : Nat) (L : List Rt), j ≤ 4 ∧ i = .int .i64 (j : Int) ∧ s3 = .slice p L.length c ∧ L.length ≤ 4 ∧ Hid (L = allC (C.take j)) ∧ wr.ownsRow w.heap.size 58 4 (.slice p L.length c) L.length (rcs L) ∧ Below w.heap.size w wr) (fun _ _ i _ => 4 - (intOf i).toNat)
  case atStart => exact ⟨0, none, 0, [], by omega, rfl, rfl, by simp, Lib.hid rfl, World.ownsRow_nil _ _ _ _, by go_grown⟩
  case round =>
    obtain ⟨j, p, c, L, hj, rfl, rfl, hL, hLe, hown, hb⟩ := hrel
    have hz := hb.size
    by_cases hlt : j < 4
    · have hi := HI.out j (by omega)
      have hs := HS.out j (by omega)
      rw [← hLe.out] at hs
      have hle := allC_len (C.take (j + 1))
      rw [hs] at hle
      have hle2 : (C.take (j + 1)).length ≤ 4 := by simp; omega
      have HLE : Hid ((L ++ (C[j]'(by omega)).toList).length ≤ 4) := by show _ ≤ 4; omega
      clear hle hle2
      have HN := Lib.hid hs
      clear hs hLe
      generalize hx : (C[j]'(by omega)) = x at hi HN HLE
      clear hx
      cases x with
      | none =>
        simp only [xh, xl, xn, xv, Option.isSome_none] at hi
        have HN' : Hid (L = allC (C.take (j + 1))) := by show L = _; rw [HN.out]; simp
        clear HN
        go_wp2_with (refine wpList_index_arr _ _ _ _ _ rfl rfl rfl rfl hi ?_)
        go_roundw
        case rel => exact ⟨j + 1, p, c, L, by omega, by go_num, rfl, hL, HN', hown.alloc _, by go_grown⟩
        case measure => simp [intOf]; omega
      | some r =>
        simp only [xh, xl, xn, xv, Option.isSome_some] at hi
        have HN' : Hid (L ++ [r] = allC (C.take (j + 1))) := by show L ++ [r] = _; rw [HN.out]; simp
        have HL' : Hid ((L ++ [r]).length ≤ 4) := by show _ ≤ 4; exact HLE.out
        have hLl : L.length ≤ 3 := by have := HL'.out; simp at this; omega
        clear HN HLE
        go_wp2_with (first
          | (refine wpList_index_arr _ _ _ _ _ rfl rfl rfl rfl hi ?_)
          | (at_builtin; go_loud (refine wpList_append_own _ rfl (.tmp 17) (.tmp 23) 47 rfl w.heap.size 58 i0 _ 4 32 Tryz.underlying47 hi0 iz0 iz1 iz2 rfl (by decide) _ _ _ rfl ((hown.alloc _).alloc _) ⟨wr.heap.size + 1, 0, none⟩ 1 1 (rcell r) rfl rfl (four_new (by simp [go_sem]) (by simp [go_sem]) (by simp [go_sem]) (by simp [go_sem])) (by simp [rcell, Value.oneCell']) (by unfold maxLen; omega) (by omega) (by simp; omega) ?_)))
        intro v3 w3 hown3 hg3 _
        have hown4 := own_rsnoc hown3 rfl
        have hw3 : Below w.heap.size w w3 := ((hb.alloc hz _).alloc (by simp; omega) _).grown hg3 (by simp; omega) (fun j hj => (hown.lt j hj).1)
        obtain ⟨p3, c3, rfl⟩ := own_slice hown4
        clear hown3 hg3 hown hb
        go_wp2
        go_roundw
        case rel => exact ⟨j + 1, p3, c3, L ++ [r], by omega, by go_num, rfl, HL'.out, HN', hown4, hw3⟩
        case measure => simp [intOf]; omega
    · go_wp2
      go_ret
      have he : L = allC C := by have := hLe.out; rwa [List.take_of_length_le (by omega)] at this
      subst he
      exact ⟨p, c, rfl, hown, hb⟩
end Go.Proofs.YtoihkbanmnagkaaGreat
/-
  The reference's bucket in memory: twenty cells of a block, from an offset on: four routes, and which of them are there; what its calls hand back, and what it is then. No condition but that its cells lie in memory.
-/
set_option linter.unusedSimpArgs false
set_option linter.unusedVariables false
namespace Go.Proofs.YtoihkbanmnagkaaGreat
open Go.RowKit Go.Sort M

structure RBk (w : World) (g o : Nat) (C : List Pl) : Prop where
  four : C.length = 4
  lt : g < w.heap.size
  rt : ∀ (i : Nat) (hi : i < C.length), w.cell? ⟨g, o + i * 4, none⟩ = some (.int .u64 (xh C[i] : Int)) ∧ w.cell? ⟨g, o + i * 4 + 1, none⟩ = some (.int .u64 (xl C[i] : Int)) ∧ w.cell? ⟨g, o + i * 4 + 2, none⟩ = some (.int .i64 (xn C[i])) ∧ w.cell? ⟨g, o + i * 4 + 3, none⟩ = some (.int .i64 (xv C[i]))
  on : ∀ (i : Nat) (hi : i < C.length), w.cell? ⟨g, o + 16 + i, none⟩ = some (.bool C[i].isSome)
  free : ∀ j, j < 20 → w.frozen? ⟨g, o + j, none⟩ = false
theorem RBk.kept {w w' : World} {g o : Nat} {C : List Pl} (H : RBk w g o C) (hs : w.heap.size ≤ w'.heap.size) (h : ∀ x, x < 20 → w'.cell? ⟨g, o + x, none⟩ = w.cell? ⟨g, o + x, none⟩ ∧ w'.frozen? ⟨g, o + x, none⟩ = w.frozen? ⟨g, o + x, none⟩) : RBk w' g o C := by
  have h4 := H.four
  refine ⟨H.four, Nat.lt_of_lt_of_le H.lt hs, fun i hi => ?_, fun i hi => ?_, fun j hj => (h j hj).2.trans (H.free j hj)⟩
  · obtain ⟨a, b, c, d⟩ := H.rt i hi
    simp only [Nat.add_assoc] at *
    exact ⟨(h _ (by omega)).1.trans a, (h _ (by omega)).1.trans b, (h _ (by omega)).1.trans c, (h _ (by omega)).1.trans d⟩
  · have := H.on i hi
    rw [Nat.add_assoc] at *
    exact (h _ (by omega)).1.trans this
theorem RBk.below {w w' : World} {g o : Nat} {C : List Pl} (H : RBk w g o C) (hb : Below w.heap.size w w') : RBk w' g o C :=
  H.kept hb.size fun x _ => ⟨hb.cell (p := ⟨g, o + x, none⟩) H.lt, hb.frozen (p := ⟨g, o + x, none⟩) H.lt⟩
theorem RBk.apart {w w' : World} {g o g' o' n : Nat} {C : List Pl} (H : RBk w g o C) (h : Turn w w' g' o' n) (hne : g ≠ g' ∨ o + 20 ≤ o' ∨ o' + n ≤ o) : RBk w' g o C := by
  refine H.kept h.grown.size fun x hx => ?_
  by_cases e : g = g'
  · subst e
    exact ⟨h.cell _ (by omega), h.frozen _⟩
  · have hb := h.grown.block g H.lt (by simpa using e)
    exact ⟨World.cell?_of_block hb, by unfold World.frozen?; rw [hb]⟩
def put4 (w : World) (g p : Nat) (x : Pl) : World :=
  (((w.setCell ⟨g, p, none⟩ (.int .u64 (xh x : Int))).setCell ⟨g, p + 1, none⟩ (.int .u64 (xl x : Int))).setCell ⟨g, p + 2, none⟩ (.int .i64 (xn x))).setCell ⟨g, p + 3, none⟩ (.int .i64 (xv x))
theorem turn_put4 (w : World) (g p : Nat) (x : Pl) : Turn w (put4 w g p x) g p 4 :=
  (((turn_one w g p 4 p _ (by omega) (by omega)).trans (turn_one _ g p 4 (p + 1) _ (by omega) (by omega))).trans (turn_one _ g p 4 (p + 2) _ (by omega) (by omega))).trans (turn_one _ g p 4 (p + 3) _ (by omega) (by omega))
def Four (w : World) (g p : Nat) (x : Pl) : Prop := w.cell? ⟨g, p, none⟩ = some (.int .u64 (xh x : Int)) ∧ w.cell? ⟨g, p + 1, none⟩ = some (.int .u64 (xl x : Int)) ∧ w.cell? ⟨g, p + 2, none⟩ = some (.int .i64 (xn x)) ∧ w.cell? ⟨g, p + 3, none⟩ = some (.int .i64 (xv x))
theorem four_put {w : World} {g p : Nat} (x : Pl) {y : Pl} (h : Four w g p y) : Four (put4 w g p x) g p x := by
  obtain ⟨a, b, c, d⟩ := h
  unfold put4
  refine ⟨?_, ?_, ?_, ?_⟩ <;> simp [go_sem, a, b, c, d]
theorem RBk.turned {w : World} {g o : Nat} {C : List Pl} (H : RBk w g o C) {i : Nat} (hi : i < C.length) (x : Pl) {wa wb : World} (h1 : Turn w wa g (o + i * 4) 4) (hc : Four wa g (o + i * 4) x) (h2 : Turn wa wb g (o + 16 + i) 1)
    (hd : wb.cell? ⟨g, o + 16 + i, none⟩ = some (.bool x.isSome)) : RBk wb g o (C.set i x) ∧ Turn w wb g o 20 := by
  have h4 := H.four
  refine ⟨⟨by simpa using h4, Nat.lt_of_lt_of_le H.lt (Nat.le_trans h1.grown.size h2.grown.size), fun k hk => ?_, fun k hk => ?_, fun j hj => (h2.frozen _).trans ((h1.frozen _).trans (H.free j hj))⟩, (h1.mono (by omega) (by omega)).trans (h2.mono (by omega) (by omega))⟩
  · rw [List.length_set] at hk
    by_cases e : i = k
    · subst e
      rw [List.getElem_set_self]
      obtain ⟨a, b, c, d⟩ := hc
      exact ⟨(h2.cell _ (by omega)).trans a, (h2.cell _ (by omega)).trans b, (h2.cell _ (by omega)).trans c, (h2.cell _ (by omega)).trans d⟩
    · rw [List.getElem_set_ne e]
      obtain ⟨a, b, c, d⟩ := H.rt k hk
      exact ⟨((h2.cell _ (by omega)).trans (h1.cell _ (by omega))).trans a, ((h2.cell _ (by omega)).trans (h1.cell _ (by omega))).trans b, ((h2.cell _ (by omega)).trans (h1.cell _ (by omega))).trans c, ((h2.cell _ (by omega)).trans (h1.cell _ (by omega))).trans d⟩
  · rw [List.length_set] at hk
    by_cases e : i = k
    · subst e
      rw [List.getElem_set_self]
      exact hd
    · rw [List.getElem_set_ne e]
      exact ((h2.cell _ (by omega)).trans (h1.cell _ (by omega))).trans (H.on k hk)
set_option maxHeartbeats 1000000 in
set_option maxRecDepth 100000 in
theorem rget11_any (g o : Nat) (C : List Pl) (k : Ky) (w : World) (H : RBk w g o C) :
    Calls Tryz.prog 52 #[.pointer (some ⟨g, o, none⟩), kyV k] w fun e w' => e = .returned (.tuple #[.int .i64 ((getC C k).getD 0), .bool (getC C k).isSome]) ∧ Below w.heap.size w w' := by
  have HH := Lib.hid H
  have h4 := H.four
  have hg := H.lt
  clear H
  unfold kyV
  go_enter Tryz.func52, Tryz.ntmps52
  go_wp2
  go_loopw [6] (fun i wr => ∃ (j : Nat), j ≤ 4 ∧ i = .int .i64 (j : Int) ∧ (∀ x (hx : x < C.length), x < j → hasK k C[x] = false) ∧ wr.cell? ⟨w.heap.size, 0, none⟩ = some (.int .u64 (k.h : Int)) ∧ wr.cell? ⟨w.heap.size, 1, none⟩ = some (.int .u64 (k.l : Int)) ∧ wr.cell? ⟨w.heap.size, 2, none⟩ = some (.int .i64 k.n) ∧ w.heap.size < wr.heap.size ∧ Below w.heap.size w wr) (fun i _ => 4 - (intOf i).toNat)
  case atStart => exact ⟨0, by omega, rfl, fun x _ h => absurd h (by omega), by simp [go_sem], by simp [go_sem], by simp [go_sem], by simp, by go_grown⟩
  case round =>
    obtain ⟨j, hj, rfl, hno, k0, k1, k2, hz, hb⟩ := hrel
    by_cases hlt : j < 4
    · have H1 := HH.out.below hb
      have hno' := Lib.hid hno
      have hon := H1.on j (by omega)
      obtain ⟨r0, r1, r2, r3⟩ := H1.rt j (by omega)
      have hK := Lib.hid (hasK_eq k (C[j]'(by omega)))
      have hl1 := H1.lt
      clear hno H1
      generalize hx : (C[j]'(by omega)) = x at hon r0 r1 r2 r3 hK
      have HX := Lib.hid hx
      have hE := eqlK (xh x) (xl x) (xn x) k.h k.l k.n
      have j0 : (0 : Int) ≤ (j : Int) := by omega
      have j4 : (j : Int) < 4 := by omega
      clear hx
      by_cases hs : x.isSome = true
      · rw [hs] at hon
        by_cases he : xh x = k.h ∧ xl x = k.l ∧ xn x = k.n
        · rw [decide_eq_true he] at hE
          have hm : Hid (hasK k x = true) := by show hasK k x = true; rw [hK.out, hs, decide_eq_true he]; rfl
          clear hs hK he
          go_wp2_with fail
          have kg := cell_grow
          refine region_whole (by kernel_rfl) (by kernel_rfl) ?_
          repeat (any_goals (first | go_big_quiet_step (fail) | quiet_step (fail)))
          refine wpQuiet_nil ?_
          clear kg
          intro w1 hb1
          obtain ⟨hc1, hf1⟩ := bcell hb1
          have r3 := (hc1 _ _ (by omega)).trans r3
          go_wp2
          go_ret2
          have hh := idx_hit (p := hasK k) (i := j) (C := C) (by omega) (by rw [HX.out]; exact hm.out) hno'.out
          rw [getC_hit (by omega) hh (by rw [HX.out]; exact hm.out), HX.out]
          exact ⟨rfl, hb.trans (hb1.mono (by omega))⟩
        · rw [decide_eq_false he] at hE
          have hm : Hid (hasK k x = false) := by show hasK k x = false; rw [hK.out, hs, decide_eq_false he]; rfl
          clear hs hK he
          go_wp2_with fail
          have kg := cell_grow
          refine region_whole (by kernel_rfl) (by kernel_rfl) ?_
          repeat (any_goals (first | go_big_quiet_step (fail) | quiet_step (fail)))
          refine wpQuiet_nil ?_
          clear kg
          intro w1 hb1
          obtain ⟨hc1, hf1⟩ := bcell hb1
          go_wp2
          go_roundw
          case rel =>
            refine ⟨j + 1, by omega, by go_num, fun y hy hlt2 => ?_, (hc1 _ _ (by omega)).trans k0, (hc1 _ _ (by omega)).trans k1, (hc1 _ _ (by omega)).trans k2, Nat.lt_of_lt_of_le hz hb1.size, hb.trans (hb1.mono (by omega))⟩
            by_cases e : y = j
            · subst e; rw [HX.out]; exact hm.out
            · exact hno'.out y hy (by omega)
          case measure => simp [intOf]; omega
      · rw [Bool.not_eq_true] at hs
        rw [hs] at hon
        have hm : Hid (hasK k x = false) := by show hasK k x = false; rw [hK.out, hs]; rfl
        clear hs hK hE
        go_wp2_with fail
        have kg := cell_grow
        refine region_whole (by kernel_rfl) (by kernel_rfl) ?_
        repeat (any_goals (first | go_big_quiet_step (fail) | quiet_step (fail)))
        refine wpQuiet_nil ?_
        clear kg
        intro w1 hb1
        obtain ⟨hc1, hf1⟩ := bcell hb1
        go_wp2
        go_roundw
        case rel =>
          refine ⟨j + 1, by omega, by go_num, fun y hy hlt2 => ?_, (hc1 _ _ (by omega)).trans k0, (hc1 _ _ (by omega)).trans k1, (hc1 _ _ (by omega)).trans k2, Nat.lt_of_lt_of_le hz hb1.size, hb.trans (hb1.mono (by omega))⟩
          by_cases e : y = j
          · subst e; rw [HX.out]; exact hm.out
          · exact hno'.out y hy (by omega)
        case measure => simp [intOf]; omega
    · go_wp2
      go_ret2
      rw [getC_miss (idx_miss (fun x hx => hno x hx (by omega)))]
      exact ⟨rfl, hb⟩
end Go.Proofs.YtoihkbanmnagkaaGreat
/-
  A table of buckets in memory: its struct, its row of buckets, its stash; what is kept of it while others are written, and what it is where one of its buckets is written. No condition but those that stand in each.
-/
set_option linter.unusedSimpArgs false
set_option linter.unusedVariables false
namespace Go.Proofs.YtoihkbanmnagkaaGreat
open Go.RowKit Go.Sort M

structure BK (K : World → Nat → Nat → List Pl → Prop) : Prop where
  lt : ∀ {w g o C}, K w g o C → g < w.heap.size
  turn : ∀ {w w' g o o' n C}, K w g o C → Turn w w' g o' n → (o + 20 ≤ o' ∨ o' + n ≤ o) → K w' g o C
  block : ∀ {w w' g o C}, K w g o C → w.heap.size ≤ w'.heap.size → w'.heap[g]? = w.heap[g]? → K w' g o C
theorem bk_bkt : BK Bkt where
  lt := Bkt.lt
  turn := fun H h hne => H.kept h (.inr hne)
  block := fun {w w' g o C} H hs hb => by
    have hc : ∀ x, w'.cell? ⟨g, x, none⟩ = w.cell? ⟨g, x, none⟩ ∧ w'.frozen? ⟨g, x, none⟩ = w.frozen? ⟨g, x, none⟩ := fun x => ⟨World.cell?_of_block (a := ⟨g, x, none⟩) hb, World.frozen?_of_block (a := ⟨g, x, none⟩) hb⟩
    exact ⟨H.four, Nat.lt_of_lt_of_le H.lt hs, fun i hi j u hu => (hc _).1.trans (H.cell i hi j u hu), fun j hj => (hc _).2.trans (H.free j hj)⟩
theorem bk_rbk : BK RBk where
  lt := RBk.lt
  turn := fun H h hne => H.apart h (.inr hne)
  block := fun {w w' g o C} H hs hb => H.kept hs fun x _ => ⟨World.cell?_of_block (a := ⟨g, o + x, none⟩) hb, World.frozen?_of_block (a := ⟨g, o + x, none⟩) hb⟩
def Blk (t g : Nat) (v : Value) (k : Nat) : Prop := k = t ∨ k = g ∨ v.ownBlock = some k
structure Tb (K : World → Nat → Nat → List Pl → Prop) (w : World) (t g : Nat) (v : Value) (T : Tab) : Prop where
  bk : ∀ i, i < T.B.length → K w g (i * 20) (T.bk i)
  blt : g < w.heap.size
  tlt : t < w.heap.size
  c0 : w.cell? ⟨t, 0, none⟩ = some (.int .u64 (T.s : Int))
  c1 : w.cell? ⟨t, 1, none⟩ = some (.slice (some ⟨g, 0, none⟩) T.B.length T.B.length)
  c2 : w.cell? ⟨t, 2, none⟩ = some v
  f : ∀ j, w.frozen? ⟨t, j, none⟩ = false
  own : w.ownsRow 0 58 4 v T.st.length (rcs T.st)
  tg : t ≠ g
  tv : v.ownBlock ≠ some t
  gv : v.ownBlock ≠ some g
section
variable {K : World → Nat → Nat → List Pl → Prop} {w w' : World} {t g : Nat} {v : Value} {T : Tab}
theorem Tb.blk (H : Tb K w t g v T) : ∀ k, Blk t g v k → k < w.heap.size := by
  intro k h
  rcases h with rfl | rfl | h
  · exact H.tlt
  · exact H.blt
  · exact (H.own.lt k h).2
theorem own_block {w w' : World} {B n k : Nat} {e : TypeId} {v : Value} {xs : List Value} (h : w.ownsRow B e k v n xs) (hb : ∀ j, v.ownBlock = some j → w'.heap[j]? = w.heap[j]?) : w'.ownsRow B e k v n xs := by
  refine ⟨h.1, ?_⟩
  rcases h.2 with hx | ⟨g, cap, cur, rfl, hb2, hgg, rest⟩
  · exact .inl hx
  · exact .inr ⟨g, cap, cur, rfl, hb2, (hb g rfl).trans hgg, rest⟩
theorem Tb.blocks (hK : BK K) (H : Tb K w t g v T) (hs : w.heap.size ≤ w'.heap.size) (hb : ∀ k, Blk t g v k → w'.heap[k]? = w.heap[k]?) : Tb K w' t g v T := by
  have ht := hb t (.inl rfl)
  have hg := hb g (.inr (.inl rfl))
  exact ⟨fun i hi => hK.block (H.bk i hi) hs hg, Nat.lt_of_lt_of_le H.blt hs, Nat.lt_of_lt_of_le H.tlt hs, (World.cell?_of_block (a := ⟨t, 0, none⟩) ht).trans H.c0, (World.cell?_of_block (a := ⟨t, 1, none⟩) ht).trans H.c1,
    (World.cell?_of_block (a := ⟨t, 2, none⟩) ht).trans H.c2, fun j => (World.frozen?_of_block (a := ⟨t, j, none⟩) ht).trans (H.f j), own_block H.own (fun j e => hb j (.inr (.inr e))), H.tg, H.tv, H.gv⟩
theorem Tb.below (hK : BK K) (H : Tb K w t g v T) (hb : Below w.heap.size w w') : Tb K w' t g v T := H.blocks hK hb.size fun k hk => hb.block k (H.blk k hk)
theorem Tb.touched (hK : BK K) (H : Tb K w t g v T) {S : Nat → Prop} (ht : Touch S w w') (hn : ∀ k, Blk t g v k → ¬ S k) : Tb K w' t g v T := H.blocks hK ht.size fun k hk => ht.block k (H.blk k hk) (hn k hk)
theorem Turn.touch {o n : Nat} {S : Nat → Prop} (h : Turn w w' g o n) (hS : S g) : Touch S w w' := Touch.of_grown h.grown fun k e => by injection e with e; exact e ▸ hS
theorem Tb.turn (hK : BK K) (H : Tb K w t g v T) {i : Nat} (hi : i < T.B.length) {C : List Pl} (h : Turn w w' g (i * 20) 20) (hC : K w' g (i * 20) C) : Tb K w' t g v (T.set i C) ∧ Touch (Blk t g v) w w' := by
  have ht : w'.heap[t]? = w.heap[t]? := h.grown.block t H.tlt (by intro e; injection e with e; exact H.tg e)
  refine ⟨⟨fun k hk => ?_, Nat.lt_of_lt_of_le H.blt h.grown.size, Nat.lt_of_lt_of_le H.tlt h.grown.size, (World.cell?_of_block (a := ⟨t, 0, none⟩) ht).trans H.c0, ?_, (World.cell?_of_block (a := ⟨t, 2, none⟩) ht).trans H.c2,
    fun j => (World.frozen?_of_block (a := ⟨t, j, none⟩) ht).trans (H.f j), own_block H.own (fun j e => h.grown.block j (H.own.lt j e).2 (fun e2 => H.gv (e.trans e2))), H.tg, H.tv, H.gv⟩, h.touch (.inr (.inl rfl))⟩
  · rw [set_len] at hk
    rw [bk_set T i hi]
    split
    · rename_i e; subst e; exact hC
    · rename_i e
      exact hK.turn (H.bk k hk) h (by omega)
  · rw [set_len]
    exact (World.cell?_of_block (a := ⟨t, 1, none⟩) ht).trans H.c1
end
structure CT (w : World) (t g : Nat) (v : Value) (T : Tab) (m : Int) : Prop where
  tb : Tb Bkt w t g v T
  c3 : w.cell? ⟨t, 3, none⟩ = some (.int .i64 m)
section
variable {w w' : World} {t g : Nat} {v : Value} {T : Tab} {m : Int}
theorem CT.blocks (H : CT w t g v T m) (hs : w.heap.size ≤ w'.heap.size) (hb : ∀ k, Blk t g v k → w'.heap[k]? = w.heap[k]?) : CT w' t g v T m :=
  ⟨H.tb.blocks bk_bkt hs hb, (World.cell?_of_block (a := ⟨t, 3, none⟩) (hb t (.inl rfl))).trans H.c3⟩
theorem CT.below (H : CT w t g v T m) (hb : Below w.heap.size w w') : CT w' t g v T m := H.blocks hb.size fun k hk => hb.block k (H.tb.blk k hk)
theorem CT.touched (H : CT w t g v T m) {S : Nat → Prop} (ht : Touch S w w') (hn : ∀ k, Blk t g v k → ¬ S k) : CT w' t g v T m := H.blocks ht.size fun k hk => ht.block k (H.tb.blk k hk) (hn k hk)
theorem CT.turn (H : CT w t g v T m) {i : Nat} (hi : i < T.B.length) {C : List Pl} (h : Turn w w' g (i * 20) 20) (hC : Bkt w' g (i * 20) C) : CT w' t g v (T.set i C) m ∧ Touch (Blk t g v) w w' := by
  have ht : w'.heap[t]? = w.heap[t]? := h.grown.block t H.tb.tlt (by intro e; injection e with e; exact H.tb.tg e)
  have := H.tb.turn bk_bkt hi h hC
  exact ⟨⟨this.1, (World.cell?_of_block (a := ⟨t, 3, none⟩) ht).trans H.c3⟩, this.2⟩
end
def CStep (w w' : World) (t g : Nat) (v : Value) (T' : Tab) (m' : Int) : Prop := ∃ g' v', CT w' t g' v' T' m' ∧ Touch (Blk t g v) w w' ∧ ∀ k, Blk t g' v' k → k < w.heap.size → Blk t g v k
def RStep (w w' : World) (t g : Nat) (v : Value) (T' : Tab) : Prop := ∃ g' v', Tb RBk w' t g' v' T' ∧ Touch (Blk t g v) w w' ∧ ∀ k, Blk t g' v' k → k < w.heap.size → Blk t g v k
theorem Touch.then {a b c : World} {t g g' : Nat} {v v' : Value} (h : Touch (Blk t g v) a b) (hs : ∀ k, Blk t g' v' k → k < a.heap.size → Blk t g v k) (k : Touch (Blk t g' v') b c) : Touch (Blk t g v) a c :=
  ⟨k.os.trans h.os, k.tape.trans h.tape, k.output.trans h.output, Nat.le_trans h.size k.size, fun i hi hn => (k.block i (Nat.lt_of_lt_of_le hi h.size) (fun x => hn (hs i x hi))).trans (h.block i hi hn)⟩
theorem CStep.trans {a b c : World} {t g g' : Nat} {v v' : Value} {T' : Tab} {m' : Int} (h : Touch (Blk t g v) a b) (hs : ∀ k, Blk t g' v' k → k < a.heap.size → Blk t g v k) (k : CStep b c t g' v' T' m') : CStep a c t g v T' m' := by
  obtain ⟨g2, v2, h1, h2, h3⟩ := k
  exact ⟨g2, v2, h1, h.then hs h2, fun k hk hl => hs k (h3 k hk (Nat.lt_of_lt_of_le hl h.size)) hl⟩
theorem RStep.trans {a b c : World} {t g g' : Nat} {v v' : Value} {T' : Tab} (h : Touch (Blk t g v) a b) (hs : ∀ k, Blk t g' v' k → k < a.heap.size → Blk t g v k) (k : RStep b c t g' v' T') : RStep a c t g v T' := by
  obtain ⟨g2, v2, h1, h2, h3⟩ := k
  exact ⟨g2, v2, h1, h.then hs h2, fun k hk hl => hs k (h3 k hk (Nat.lt_of_lt_of_le hl h.size)) hl⟩
theorem CStep.quiet {a b : World} {t g : Nat} {v : Value} {T : Tab} {m : Int} (H : CT a t g v T m) (h : Below a.heap.size a b) : CStep a b t g v T m := ⟨g, v, H.below h, Touch.quiet h, fun _ h _ => h⟩
theorem CStep.same {a b : World} {t g : Nat} {v : Value} {T : Tab} {m : Int} (H : CT b t g v T m) (h : Touch (Blk t g v) a b) : CStep a b t g v T m := ⟨g, v, H, h, fun _ h _ => h⟩
theorem RStep.same {a b : World} {t g : Nat} {v : Value} {T : Tab} (H : Tb RBk b t g v T) (h : Touch (Blk t g v) a b) : RStep a b t g v T := ⟨g, v, H, h, fun _ h _ => h⟩
end Go.Proofs.YtoihkbanmnagkaaGreat
