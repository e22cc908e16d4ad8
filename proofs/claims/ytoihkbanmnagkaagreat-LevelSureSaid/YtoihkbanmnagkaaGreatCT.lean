/-
  A table of buckets in memory: its struct, its row of buckets, its stash; what is kept of it while others are written, and what it is where one of its buckets is written. No condition but those that stand in each.
-/
import Derived.Test.YtoihkbanmnagkaaGreatM7b
import Derived.Test.YtoihkbanmnagkaaGreatM11
import Derived.Test.YtoihkbanmnagkaaGreatW11
import Derived.Test.YtoihkbanmnagkaaGreatTouch0
import Derived.Test.YtoihkbanmnagkaaGreatM12e
/-
  Rows of routes in memory: a list of keys with their values as cells, four to each; rows of the call's own, and what is read of them. No condition but those that stand in each.
-/
set_option linter.unusedSimpArgs false
set_option linter.unusedVariables false
namespace Go.Proofs.YtoihkbanmnagkaaGreat
open Go.RowKit Go.Sort M

def rcell (r : Rt) : List Value := [.int .u64 (r.k.h : Int), .int .u64 (r.k.l : Int), .int .i64 r.k.n, .int .i64 r.v]
def rcs (L : List Rt) : List Value := L.flatMap rcell
theorem rcs_len (L : List Rt) : (rcs L).length = L.length * 4 := by
  unfold rcs
  induction L with
  | nil => rfl
  | cons x L ih => simp only [List.flatMap_cons, List.length_append, ih, rcell, List.length_cons, List.length_nil]; omega
theorem rcs_append (L M : List Rt) : rcs (L ++ M) = rcs L ++ rcs M := by simp [rcs]
theorem rcs_cons (x : Rt) (L : List Rt) : rcs (x :: L) = rcell x ++ rcs L := rfl
theorem rcs_one (p : Rt) : rcs [p] = rcell p := by simp [rcs]
theorem rcs_cell : ∀ (L : List Rt) (k j : Nat) (h : k < L.length), j < 4 → (rcs L)[k * 4 + j]? = (rcell L[k])[j]?
  | x :: L, 0, j, _, hj => by
    rw [rcs_cons, List.getElem?_append_left (by simp [rcell]; omega)]
    simp
  | x :: L, k + 1, j, h, hj => by
    rw [rcs_cons, List.getElem?_append_right (by simp [rcell]; omega), show (k + 1) * 4 + j - (rcell x).length = k * 4 + j by simp [rcell]; omega]
    rw [rcs_cell L k j (by simpa using h) hj]
    simp
theorem rcs_one' (L : List Rt) : ∀ u ∈ rcs L, u.oneCell' = true := by
  intro u hu
  unfold rcs at hu
  rw [List.mem_flatMap] at hu
  obtain ⟨p, -, hp⟩ := hu
  simp only [rcell, List.mem_cons, List.not_mem_nil, or_false] at hp
  rcases hp with rfl | rfl | rfl | rfl <;> rfl
theorem Row.rt {w : World} {p : Option Addr} {L : List Rt} (h : Row w p (rcs L)) {k : Nat} (hk : k < L.length) : ∃ g o, p = some ⟨g, o, none⟩ ∧ g < w.heap.size ∧
    w.cell? ⟨g, o + k * 4, none⟩ = some (.int .u64 (L[k].k.h : Int)) ∧ w.cell? ⟨g, o + k * 4 + 1, none⟩ = some (.int .u64 (L[k].k.l : Int)) ∧ w.cell? ⟨g, o + k * 4 + 2, none⟩ = some (.int .i64 L[k].k.n) ∧ w.cell? ⟨g, o + k * 4 + 3, none⟩ = some (.int .i64 L[k].v) := by
  rcases h with h | ⟨g, o, e, hg, hc⟩
  · have := rcs_len L
    rw [h] at this
    simp at this; omega
  · exact ⟨g, o, e, hg, hc (k * 4) _ (rcs_cell L k 0 hk (by omega)), hc (k * 4 + 1) _ (rcs_cell L k 1 hk (by omega)), hc (k * 4 + 2) _ (rcs_cell L k 2 hk (by omega)), hc (k * 4 + 3) _ (rcs_cell L k 3 hk (by omega))⟩
def NewRts (w w' : World) (e : Ending) (L : List Rt) : Prop := ∃ p c, e = .returned (.slice p L.length c) ∧ w'.ownsRow w.heap.size 58 4 (.slice p L.length c) L.length (rcs L) ∧ Below w.heap.size w w'
theorem infoR : (Tryz.prog.info? 58).map (fun i => (i.zero, i.size, i.bytes)) = some (some (.agg #[.int .u64 0, .int .u64 0, .int .i64 0, .int .i64 0]), 4, 32) := by kernel_rfl
theorem four_new {w : World} {g : Nat} {a b c d : Value} (h0 : w.cell? ⟨g, 0, none⟩ = some a) (h1 : w.cell? ⟨g, 1, none⟩ = some b) (h2 : w.cell? ⟨g, 2, none⟩ = some c) (h3 : w.cell? ⟨g, 3, none⟩ = some d) :
    ∀ j u, [a, b, c, d][j]? = some u → w.cell? ((⟨g, 0, none⟩ : Addr).add j) = some u := by
  intro j u hj
  have hlt : j < 4 := (List.getElem?_eq_some_iff.1 hj).1
  have he : (⟨g, 0, none⟩ : Addr).add j = ⟨g, j, none⟩ := by unfold Addr.add; split <;> simp_all
  rw [he]
  rcases (show j = 0 ∨ j = 1 ∨ j = 2 ∨ j = 3 by omega) with rfl | rfl | rfl | rfl <;> (simp only [List.getElem?_cons_zero, List.getElem?_cons_succ, Option.some.injEq] at hj; subst hj; assumption)
theorem own_rsnoc {w : World} {B n : Nat} {e : TypeId} {v : Value} {L : List Rt} {x : Rt} (h : w.ownsRow B e 4 v (n + 1) (rcs L ++ rcell x)) (hn : n = L.length) : w.ownsRow B e 4 v (L ++ [x]).length (rcs (L ++ [x])) := by
  rw [rcs_append, rcs_one, List.length_append, ← hn]
  exact h
end Go.Proofs.YtoihkbanmnagkaaGreat
/-
  What All of a bucket hands back: a new row of routes, by place. No condition but that the bucket's cells lie in memory.
-/
set_option linter.unusedSimpArgs false
set_option linter.unusedVariables false
namespace Go.Proofs.YtoihkbanmnagkaaGreat
open Go.RowKit Go.Sort M

set_option maxHeartbeats 1000000 in
set_option maxRecDepth 100000 in
theorem all11_any (g o : Nat) (C : List Pl) (w : World) (H : Bkt w g o C) :
    Calls Tryz.prog 91 #[.pointer (some ⟨g, o, none⟩)] w fun e w' => NewRts w w' e (allC C) := by
  have hld := H.range
  have hll : (bcs C).length = 20 := by rw [bcs_len, H.four]
  have HI := Lib.hid (fun i hi => index_arr H.four i hi)
  have h4 := H.four
  have hg := H.lt
  have HS := Lib.hid (fun i h => allC_snoc C i h)
  have HA := Lib.hid (allC_len C)
  obtain ⟨i0, hi0, iz0, iz1, iz2⟩ := info_parts infoR
  generalize bcs C = X at hld hll HI
  clear H
  go_enter Tryz.func91, Tryz.ntmps91
  go_wp2_with (refine wpList_load_arr _ g o X rfl rfl rfl hld hll ?_)
  clear hld hll
  go_loopw [3, 5, 12] (fun s3 s5 i wr => ∃ (j : Nat) (p : Option Addr) (c : Nat) (L : List Rt), j ≤ 4 ∧ i = .int .i64 (j : Int) ∧ s3 = .slice p L.length c ∧ L.length ≤ 4 ∧ Hid (L = allC (C.take j)) ∧ wr.ownsRow w.heap.size 58 4 (.slice p L.length c) L.length (rcs L) ∧ Below w.heap.size w wr) (fun _ _ i _ => 4 - (intOf i).toNat)
  case atStart => exact ⟨0, none, 0, [], by omega, rfl, rfl, by simp, Lib.hid rfl, World.ownsRow_nil _ _ _ _, by go_grown⟩
  case round =>
    obtain ⟨j, p, c, L, hj, rfl, rfl, hL, hLe, hown, hb⟩ := hrel
    have hz := hb.size
    by_cases hlt : j < 4
    · have hi := HI.out j (by omega)
      have hs := HS.out j (by omega)
      rw [← hLe.out] at hs
      have hle := allC_len (C.take (j + 1))
      rw [hs] at hle
      have hle2 : (C.take (j + 1)).length ≤ 4 := by simp; omega
      have HLE : Hid ((L ++ (C[j]'(by omega)).toList).length ≤ 4) := by show _ ≤ 4; omega
      clear hle hle2
      have HN := Lib.hid hs
      clear hs hLe
      generalize hx : (C[j]'(by omega)) = x at hi HN HLE
      clear hx
      cases x with
      | none =>
        simp only [xh, xl, xn, xv, Option.isSome_none] at hi
        have HN' : Hid (L = allC (C.take (j + 1))) := by show L = _; rw [HN.out]; simp
        clear HN
        go_wp2_with (refine wpList_index_arr _ _ _ _ _ rfl rfl rfl rfl hi ?_)
        go_roundw
        case rel => exact ⟨j + 1, p, c, L, by omega, by go_num, rfl, hL, HN', hown.alloc _, by go_grown⟩
        case measure => simp [intOf]; omega
      | some r =>
        simp only [xh, xl, xn, xv, Option.isSome_some] at hi
        have HN' : Hid (L ++ [r] = allC (C.take (j + 1))) := by show L ++ [r] = _; rw [HN.out]; simp
        have HL' : Hid ((L ++ [r]).length ≤ 4) := by show _ ≤ 4; exact HLE.out
        have hLl : L.length ≤ 3 := by have := HL'.out; simp at this; omega
        clear HN HLE
        go_wp2_with (first
          | (refine wpList_index_arr _ _ _ _ _ rfl rfl rfl rfl hi ?_)
          | (at_builtin; go_loud (refine wpList_append_own _ rfl (.tmp 17) (.tmp 23) 47 rfl w.heap.size 58 i0 _ 4 32 Tryz.underlying47 hi0 iz0 iz1 iz2 rfl (by decide) _ _ _ rfl ((hown.alloc _).alloc _) ⟨wr.heap.size + 1, 0, none⟩ 1 1 (rcell r) rfl rfl (four_new (by simp [go_sem]) (by simp [go_sem]) (by simp [go_sem]) (by simp [go_sem])) (by simp [rcell, Value.oneCell']) (by unfold maxLen; omega) (by omega) (by simp; omega) ?_)))
        intro v3 w3 hown3 hg3 _
        have hown4 := own_rsnoc hown3 rfl
        have hw3 : Below w.heap.size w w3 := ((hb.alloc hz _).alloc (by simp; omega) _).grown hg3 (by simp; omega) (fun j hj => (hown.lt j hj).1)
        obtain ⟨p3, c3, rfl⟩ := own_slice hown4
        clear hown3 hg3 hown hb
        go_wp2
        go_roundw
        case rel => exact ⟨j + 1, p3, c3, L ++ [r], by omega, by go_num, rfl, HL'.out, HN', hown4, hw3⟩
        case measure => simp [intOf]; omega
    · go_wp2
      go_ret
      have he : L = allC C := by have := hLe.out; rwa [List.take_of_length_le (by omega)] at this
      subst he
      exact ⟨p, c, rfl, hown, hb⟩
end Go.Proofs.YtoihkbanmnagkaaGreat
/-
  The reference's bucket in memory: twenty cells of a block, from an offset on: four routes, and which of them are there; what its calls hand back, and what it is then. No condition but that its cells lie in memory.
-/
set_option linter.unusedSimpArgs false
set_option linter.unusedVariables false
namespace Go.Proofs.YtoihkbanmnagkaaGreat
open Go.RowKit Go.Sort M

structure RBk (w : World) (g o : Nat) (C : List Pl) : Prop where
  four : C.length = 4
  lt : g < w.heap.size
  rt : ∀ (i : Nat) (hi : i < C.length), w.cell? ⟨g, o + i * 4, none⟩ = some (.int .u64 (xh C[i] : Int)) ∧ w.cell? ⟨g, o + i * 4 + 1, none⟩ = some (.int .u64 (xl C[i] : Int)) ∧ w.cell? ⟨g, o + i * 4 + 2, none⟩ = some (.int .i64 (xn C[i])) ∧ w.cell? ⟨g, o + i * 4 + 3, none⟩ = some (.int .i64 (xv C[i]))
  on : ∀ (i : Nat) (hi : i < C.length), w.cell? ⟨g, o + 16 + i, none⟩ = some (.bool C[i].isSome)
  free : ∀ j, j < 20 → w.frozen? ⟨g, o + j, none⟩ = false
theorem RBk.below {w w' : World} {g o : Nat} {C : List Pl} (H : RBk w g o C) (hb : Below w.heap.size w w') : RBk w' g o C :=
  H.kept hb.size fun x _ => ⟨hb.cell (p := ⟨g, o + x, none⟩) H.lt, hb.frozen (p := ⟨g, o + x, none⟩) H.lt⟩
theorem RBk.apart {w w' : World} {g o g' o' n : Nat} {C : List Pl} (H : RBk w g o C) (h : Turn w w' g' o' n) (hne : g ≠ g' ∨ o + 20 ≤ o' ∨ o' + n ≤ o) : RBk w' g o C := by
  refine H.kept h.grown.size fun x hx => ?_
  by_cases e : g = g'
  · subst e
    exact ⟨h.cell _ (by omega), h.frozen _⟩
  · have hb := h.grown.block g H.lt (by simpa using e)
    exact ⟨World.cell?_of_block hb, by unfold World.frozen?; rw [hb]⟩
end Go.Proofs.YtoihkbanmnagkaaGreat
/-
  A table of buckets in memory: its struct, its row of buckets, its stash; what is kept of it while others are written, and what it is where one of its buckets is written. No condition but those that stand in each.
-/
set_option linter.unusedSimpArgs false
set_option linter.unusedVariables false
namespace Go.Proofs.YtoihkbanmnagkaaGreat
open Go.RowKit Go.Sort M

structure BK (K : World → Nat → Nat → List Pl → Prop) : Prop where
  lt : ∀ {w g o C}, K w g o C → g < w.heap.size
  turn : ∀ {w w' g o o' n C}, K w g o C → Turn w w' g o' n → (o + 20 ≤ o' ∨ o' + n ≤ o) → K w' g o C
  block : ∀ {w w' g o C}, K w g o C → w.heap.size ≤ w'.heap.size → w'.heap[g]? = w.heap[g]? → K w' g o C
theorem bk_bkt : BK Bkt where
  lt := Bkt.lt
  turn := fun H h hne => H.kept h (.inr hne)
  block := fun {w w' g o C} H hs hb => by
    have hc : ∀ x, w'.cell? ⟨g, x, none⟩ = w.cell? ⟨g, x, none⟩ ∧ w'.frozen? ⟨g, x, none⟩ = w.frozen? ⟨g, x, none⟩ := fun x => ⟨World.cell?_of_block (a := ⟨g, x, none⟩) hb, World.frozen?_of_block (a := ⟨g, x, none⟩) hb⟩
    exact ⟨H.four, Nat.lt_of_lt_of_le H.lt hs, fun i hi j u hu => (hc _).1.trans (H.cell i hi j u hu), fun j hj => (hc _).2.trans (H.free j hj)⟩
theorem bk_rbk : BK RBk where
  lt := RBk.lt
  turn := fun H h hne => H.apart h (.inr hne)
  block := fun {w w' g o C} H hs hb => H.kept hs fun x _ => ⟨World.cell?_of_block (a := ⟨g, o + x, none⟩) hb, World.frozen?_of_block (a := ⟨g, o + x, none⟩) hb⟩
def Blk (t g : Nat) (v : Value) (k : Nat) : Prop := k = t ∨ k = g ∨ v.ownBlock = some k
structure Tb (K : World → Nat → Nat → List Pl → Prop) (w : World) (t g : Nat) (v : Value) (T : Tab) : Prop where
  bk : ∀ i, i < T.B.length → K w g (i * 20) (T.bk i)
  blt : g < w.heap.size
  tlt : t < w.heap.size
  c0 : w.cell? ⟨t, 0, none⟩ = some (.int .u64 (T.s : Int))
  c1 : w.cell? ⟨t, 1, none⟩ = some (.slice (some ⟨g, 0, none⟩) T.B.length T.B.length)
  c2 : w.cell? ⟨t, 2, none⟩ = some v
  f : ∀ j, w.frozen? ⟨t, j, none⟩ = false
  own : w.ownsRow 0 58 4 v T.st.length (rcs T.st)
  tg : t ≠ g
  tv : v.ownBlock ≠ some t
  gv : v.ownBlock ≠ some g
section
variable {K : World → Nat → Nat → List Pl → Prop} {w w' : World} {t g : Nat} {v : Value} {T : Tab}
theorem Tb.blk (H : Tb K w t g v T) : ∀ k, Blk t g v k → k < w.heap.size := by
  intro k h
  rcases h with rfl | rfl | h
  · exact H.tlt
  · exact H.blt
  · exact (H.own.lt k h).2
theorem own_block {w w' : World} {B n k : Nat} {e : TypeId} {v : Value} {xs : List Value} (h : w.ownsRow B e k v n xs) (hb : ∀ j, v.ownBlock = some j → w'.heap[j]? = w.heap[j]?) : w'.ownsRow B e k v n xs := by
  refine ⟨h.1, ?_⟩
  rcases h.2 with hx | ⟨g, cap, cur, rfl, hb2, hgg, rest⟩
  · exact .inl hx
  · exact .inr ⟨g, cap, cur, rfl, hb2, (hb g rfl).trans hgg, rest⟩
theorem Tb.blocks (hK : BK K) (H : Tb K w t g v T) (hs : w.heap.size ≤ w'.heap.size) (hb : ∀ k, Blk t g v k → w'.heap[k]? = w.heap[k]?) : Tb K w' t g v T := by
  have ht := hb t (.inl rfl)
  have hg := hb g (.inr (.inl rfl))
  exact ⟨fun i hi => hK.block (H.bk i hi) hs hg, Nat.lt_of_lt_of_le H.blt hs, Nat.lt_of_lt_of_le H.tlt hs, (World.cell?_of_block (a := ⟨t, 0, none⟩) ht).trans H.c0, (World.cell?_of_block (a := ⟨t, 1, none⟩) ht).trans H.c1,
    (World.cell?_of_block (a := ⟨t, 2, none⟩) ht).trans H.c2, fun j => (World.frozen?_of_block (a := ⟨t, j, none⟩) ht).trans (H.f j), own_block H.own (fun j e => hb j (.inr (.inr e))), H.tg, H.tv, H.gv⟩
theorem Tb.below (hK : BK K) (H : Tb K w t g v T) (hb : Below w.heap.size w w') : Tb K w' t g v T := H.blocks hK hb.size fun k hk => hb.block k (H.blk k hk)
theorem Tb.touched (hK : BK K) (H : Tb K w t g v T) {S : Nat → Prop} (ht : Touch S w w') (hn : ∀ k, Blk t g v k → ¬ S k) : Tb K w' t g v T := H.blocks hK ht.size fun k hk => ht.block k (H.blk k hk) (hn k hk)
theorem Turn.touch {o n : Nat} {S : Nat → Prop} (h : Turn w w' g o n) (hS : S g) : Touch S w w' := Touch.of_grown h.grown fun k e => by injection e with e; exact e ▸ hS
theorem Tb.turn (hK : BK K) (H : Tb K w t g v T) {i : Nat} (hi : i < T.B.length) {C : List Pl} (h : Turn w w' g (i * 20) 20) (hC : K w' g (i * 20) C) : Tb K w' t g v (T.set i C) ∧ Touch (Blk t g v) w w' := by
  have ht : w'.heap[t]? = w.heap[t]? := h.grown.block t H.tlt (by intro e; injection e with e; exact H.tg e)
  refine ⟨⟨fun k hk => ?_, Nat.lt_of_lt_of_le H.blt h.grown.size, Nat.lt_of_lt_of_le H.tlt h.grown.size, (World.cell?_of_block (a := ⟨t, 0, none⟩) ht).trans H.c0, ?_, (World.cell?_of_block (a := ⟨t, 2, none⟩) ht).trans H.c2,
    fun j => (World.frozen?_of_block (a := ⟨t, j, none⟩) ht).trans (H.f j), own_block H.own (fun j e => h.grown.block j (H.own.lt j e).2 (fun e2 => H.gv (e.trans e2))), H.tg, H.tv, H.gv⟩, h.touch (.inr (.inl rfl))⟩
  · rw [set_len] at hk
    rw [bk_set T i hi]
    split
    · rename_i e; subst e; exact hC
    · rename_i e
      exact hK.turn (H.bk k hk) h (by omega)
  · rw [set_len]
    exact (World.cell?_of_block (a := ⟨t, 1, none⟩) ht).trans H.c1
end
structure CT (w : World) (t g : Nat) (v : Value) (T : Tab) (m : Int) : Prop where
  tb : Tb Bkt w t g v T
  c3 : w.cell? ⟨t, 3, none⟩ = some (.int .i64 m)
section
variable {w w' : World} {t g : Nat} {v : Value} {T : Tab} {m : Int}
theorem CT.blocks (H : CT w t g v T m) (hs : w.heap.size ≤ w'.heap.size) (hb : ∀ k, Blk t g v k → w'.heap[k]? = w.heap[k]?) : CT w' t g v T m :=
  ⟨H.tb.blocks bk_bkt hs hb, (World.cell?_of_block (a := ⟨t, 3, none⟩) (hb t (.inl rfl))).trans H.c3⟩
theorem CT.below (H : CT w t g v T m) (hb : Below w.heap.size w w') : CT w' t g v T m := H.blocks hb.size fun k hk => hb.block k (H.tb.blk k hk)
theorem CT.touched (H : CT w t g v T m) {S : Nat → Prop} (ht : Touch S w w') (hn : ∀ k, Blk t g v k → ¬ S k) : CT w' t g v T m := H.blocks ht.size fun k hk => ht.block k (H.tb.blk k hk) (hn k hk)
theorem CT.turn (H : CT w t g v T m) {i : Nat} (hi : i < T.B.length) {C : List Pl} (h : Turn w w' g (i * 20) 20) (hC : Bkt w' g (i * 20) C) : CT w' t g v (T.set i C) m ∧ Touch (Blk t g v) w w' := by
  have ht : w'.heap[t]? = w.heap[t]? := h.grown.block t H.tb.tlt (by intro e; injection e with e; exact H.tb.tg e)
  have := H.tb.turn bk_bkt hi h hC
  exact ⟨⟨this.1, (World.cell?_of_block (a := ⟨t, 3, none⟩) ht).trans H.c3⟩, this.2⟩
end
def CStep (w w' : World) (t g : Nat) (v : Value) (T' : Tab) (m' : Int) : Prop := ∃ g' v', CT w' t g' v' T' m' ∧ Touch (Blk t g v) w w' ∧ ∀ k, Blk t g' v' k → k < w.heap.size → Blk t g v k
def RStep (w w' : World) (t g : Nat) (v : Value) (T' : Tab) : Prop := ∃ g' v', Tb RBk w' t g' v' T' ∧ Touch (Blk t g v) w w' ∧ ∀ k, Blk t g' v' k → k < w.heap.size → Blk t g v k
theorem Touch.then {a b c : World} {t g g' : Nat} {v v' : Value} (h : Touch (Blk t g v) a b) (hs : ∀ k, Blk t g' v' k → k < a.heap.size → Blk t g v k) (k : Touch (Blk t g' v') b c) : Touch (Blk t g v) a c :=
  ⟨k.os.trans h.os, k.tape.trans h.tape, k.output.trans h.output, Nat.le_trans h.size k.size, fun i hi hn => (k.block i (Nat.lt_of_lt_of_le hi h.size) (fun x => hn (hs i x hi))).trans (h.block i hi hn)⟩
theorem CStep.trans {a b c : World} {t g g' : Nat} {v v' : Value} {T' : Tab} {m' : Int} (h : Touch (Blk t g v) a b) (hs : ∀ k, Blk t g' v' k → k < a.heap.size → Blk t g v k) (k : CStep b c t g' v' T' m') : CStep a c t g v T' m' := by
  obtain ⟨g2, v2, h1, h2, h3⟩ := k
  exact ⟨g2, v2, h1, h.then hs h2, fun k hk hl => hs k (h3 k hk (Nat.lt_of_lt_of_le hl h.size)) hl⟩
theorem RStep.trans {a b c : World} {t g g' : Nat} {v v' : Value} {T' : Tab} (h : Touch (Blk t g v) a b) (hs : ∀ k, Blk t g' v' k → k < a.heap.size → Blk t g v k) (k : RStep b c t g' v' T') : RStep a c t g v T' := by
  obtain ⟨g2, v2, h1, h2, h3⟩ := k
  exact ⟨g2, v2, h1, h.then hs h2, fun k hk hl => hs k (h3 k hk (Nat.lt_of_lt_of_le hl h.size)) hl⟩
theorem CStep.quiet {a b : World} {t g : Nat} {v : Value} {T : Tab} {m : Int} (H : CT a t g v T m) (h : Below a.heap.size a b) : CStep a b t g v T m := ⟨g, v, H.below h, Touch.quiet h, fun _ h _ => h⟩
theorem RStep.quiet {a b : World} {t g : Nat} {v : Value} {T : Tab} (H : Tb RBk a t g v T) (h : Below a.heap.size a b) : RStep a b t g v T := ⟨g, v, H.below bk_rbk h, Touch.quiet h, fun _ h _ => h⟩
theorem CStep.same {a b : World} {t g : Nat} {v : Value} {T : Tab} {m : Int} (H : CT b t g v T m) (h : Touch (Blk t g v) a b) : CStep a b t g v T m := ⟨g, v, H, h, fun _ h _ => h⟩
theorem RStep.same {a b : World} {t g : Nat} {v : Value} {T : Tab} (H : Tb RBk b t g v T) (h : Touch (Blk t g v) a b) : RStep a b t g v T := ⟨g, v, H, h, fun _ h _ => h⟩
end Go.Proofs.YtoihkbanmnagkaaGreat
