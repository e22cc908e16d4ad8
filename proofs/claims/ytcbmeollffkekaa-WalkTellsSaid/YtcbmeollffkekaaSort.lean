/-
  A row of elements of k cells that is sorted by a test which may make blocks of its own: what is carried from call to call. No condition but those that stand in each.
-/
import Derived.Test.YtcbmeollffkekaaOwn
import Derived.Test.YtcbmeollffkekaaM4
import Derived.WalkKit
import Derived.Maps.AppendAt
import Derived.Test.YtcbmeollffkekaaRows
import Derived.WalkSpells
import Derived.WalkLawsBesides
import Derived.Handy
import Derived.Lib.Hide
import Derived.Test.YtcbmeollffkekaaM1
import Derived.Shelf.GgSortFunc.SmallK
import Derived.Shelf.SlSortFuncK.RowK2
import Derived.Sort.WalkB2
import Derived.Sort.WalkB3
import Derived.Deep.LoopGhost
import Derived.Deep.DeepCutAuto
/-
  Rows of prefixes in memory: a list of prefixes as cells, three to each; rows of the call's own, and what is read of them. No condition but those that stand in each.
-/
set_option linter.unusedSimpArgs false
set_option linter.unusedVariables false
namespace Go.Proofs.Ytcbmeollffkekaa
open Go.RowKit Go.Sort M

/-- The cells of a list of prefixes. -/
def pcell (p : Pf) : List Value := [.int .u64 (hiW p.a : Nat), .int .u64 (loW p.a : Nat), .int .i64 p.n]
def pcs (L : List Pf) : List Value := L.flatMap pcell
theorem pcs_len (L : List Pf) : (pcs L).length = L.length * 3 := by
  unfold pcs
  induction L with
  | nil => rfl
  | cons x L ih => simp only [List.flatMap_cons, List.length_append, ih, pcell, List.length_cons, List.length_nil]; omega
theorem pcs_append (L M : List Pf) : pcs (L ++ M) = pcs L ++ pcs M := by simp [pcs]
theorem pcs_cons (x : Pf) (L : List Pf) : pcs (x :: L) = pcell x ++ pcs L := rfl
theorem pcs_one (p : Pf) : pcs [p] = pcell p := by simp [pcs]
theorem pcs_cell : ∀ (L : List Pf) (k j : Nat) (h : k < L.length), j < 3 → (pcs L)[k * 3 + j]? = (pcell L[k])[j]?
  | x :: L, 0, j, _, hj => by
    rw [pcs_cons, List.getElem?_append_left (by simp [pcell]; omega)]
    simp
  | x :: L, k + 1, j, h, hj => by
    rw [pcs_cons, List.getElem?_append_right (by simp [pcell]; omega), show (k + 1) * 3 + j - (pcell x).length = k * 3 + j by simp [pcell]; omega]
    rw [pcs_cell L k j (by simpa using h) hj]
    simp
theorem pcs_one' (L : List Pf) : ∀ u ∈ pcs L, u.oneCell' = true := by
  intro u hu
  unfold pcs at hu
  rw [List.mem_flatMap] at hu
  obtain ⟨p, -, hp⟩ := hu
  simp only [pcell, List.mem_cons, List.not_mem_nil, or_false] at hp
  rcases hp with rfl | rfl | rfl <;> rfl

/-- A row that 'make' lays, of a length and capacity reckoned. -/
theorem make_row {P : Program} {t e : TypeId} {z : Value} {size bytes : Nat} (ht : P.underlying t = some (.slice e)) (hz : (P.info? e).map (fun i => (i.zero, i.size, i.bytes)) = some (some z, size, bytes)) (c : Nat) (hb : bytes * c ≤ 281474976710656) (hm : c ≤ maxLen) (w : World) :
    (Instr.makeSlice t (.int .i64 (c : Int)) (.int .i64 (c : Int))).run P w = .ok (.slice (some ⟨w.heap.size, 0, none⟩) c c) (w.alloc (.cells (madeCells z.cells (c * size)) e)) := by
  obtain ⟨i0, hi0, iz0, iz1, iz2⟩ := info_parts hz
  have h := run_make (P := P) w t e i0 z ht hi0 iz0 .i64 .i64 c c (by omega) (by omega) (by rw [iz2]; have e : ((bytes * c : Nat) : Int) ≤ 281474976710656 := (by omega); rwa [Int.natCast_mul] at e) (by unfold maxLen at hm; omega)
  rw [Int.toNat_natCast, iz1] at h
  exact h
/-- The cells xs lie at p. -/
def Row (w : World) (p : Option Addr) (xs : List Value) : Prop := xs = [] ∨ ∃ g o, p = some ⟨g, o, none⟩ ∧ g < w.heap.size ∧ ∀ j u, xs[j]? = some u → w.cell? ⟨g, o + j, none⟩ = some u
theorem Row.below {w w' : World} {p : Option Addr} {xs : List Value} (h : Row w p xs) (hb : Below w.heap.size w w') : Row w' p xs := by
  rcases h with h | ⟨g, o, e, hg, hc⟩
  · exact .inl h
  · exact .inr ⟨g, o, e, Nat.lt_of_lt_of_le hg hb.size, fun j u hu => (hb.cell (p := ⟨g, o + j, none⟩) hg).trans (hc j u hu)⟩
theorem Row.of_own {w : World} {B n k c : Nat} {e : TypeId} {p : Option Addr} {xs : List Value} (h : w.ownsRow B e k (.slice p n c) n xs) : Row w p xs := by
  by_cases h0 : xs = []
  · exact .inl h0
  · have hc := fun g hg => h.cells (g := g) hg
    have hl := h.lt
    rcases h.2 with ⟨e, h1⟩ | ⟨g, cap, cur, e, -, -, -, -, -, -⟩
    · exact absurd (List.length_eq_zero_iff.1 (by rw [h.1, h1, Nat.zero_mul])) h0
    · injection e with e1 e2 e3
      subst e1
      refine .inr ⟨g, 0, rfl, (hl g rfl).2, fun j u hu => ?_⟩
      have := hc g rfl j u hu
      rw [Nat.zero_add]
      rwa [show (⟨g, 0, none⟩ : Addr).add j = ⟨g, j, none⟩ by unfold Addr.add; split <;> simp_all] at this
/-- Number k of a row of prefixes. -/
theorem Row.at {w : World} {p : Option Addr} {L : List Pf} (h : Row w p (pcs L)) {k : Nat} (hk : k < L.length) : ∃ g o, p = some ⟨g, o, none⟩ ∧ g < w.heap.size ∧
    w.cell? ⟨g, o + k * 3, none⟩ = some (.int .u64 (hiW L[k].a : Nat)) ∧ w.cell? ⟨g, o + k * 3 + 1, none⟩ = some (.int .u64 (loW L[k].a : Nat)) ∧ w.cell? ⟨g, o + k * 3 + 2, none⟩ = some (.int .i64 L[k].n) := by
  rcases h with h | ⟨g, o, e, hg, hc⟩
  · have := pcs_len L
    rw [h] at this
    simp at this; omega
  · exact ⟨g, o, e, hg, hc (k * 3) _ (pcs_cell L k 0 hk (by omega)), hc (k * 3 + 1) _ (pcs_cell L k 1 hk (by omega)), hc (k * 3 + 2) _ (pcs_cell L k 2 hk (by omega))⟩
/-- Three cells are stored in a row of the call's own. -/
theorem store3 {w : World} {B g n c : Nat} {e : TypeId} {xs : List Value} (h : w.ownsRow B e 3 (.slice (some ⟨g, 0, none⟩) n c) n xs) (k : Nat) (u0 u1 u2 : Value) :
    (((w.setCell ⟨g, k * 3, none⟩ u0).setCell ⟨g, k * 3 + 1, none⟩ u1).setCell ⟨g, k * 3 + 2, none⟩ u2).ownsRow B e 3 (.slice (some ⟨g, 0, none⟩) n c) n (((xs.set (k * 3) u0).set (k * 3 + 1) u1).set (k * 3 + 2) u2) :=
  (((h.stored _ _).1.stored _ _).1.stored _ _).1
theorem set3_take (xs : List Value) (k : Nat) (u0 u1 u2 : Value) (h : k * 3 + 3 ≤ xs.length) : (((xs.set (k * 3) u0).set (k * 3 + 1) u1).set (k * 3 + 2) u2).take ((k + 1) * 3) = xs.take (k * 3) ++ [u0, u1, u2] := by
  apply List.ext_getElem?
  intro i
  rw [List.getElem?_take, List.getElem?_append, List.length_take, Nat.min_eq_left (by omega), List.getElem?_take]
  by_cases h1 : i < k * 3
  · rw [if_pos (by omega), if_pos h1, if_pos h1]
    simp only [List.getElem?_set]
    rw [if_neg (by omega), if_neg (by omega), if_neg (by omega)]
  · rw [if_neg h1]
    by_cases h2 : i < (k + 1) * 3
    · rw [if_pos h2]
      simp only [List.getElem?_set, List.length_set]
      rcases (show i = k * 3 ∨ i = k * 3 + 1 ∨ i = k * 3 + 2 by omega) with rfl | rfl | rfl
      · rw [if_neg (by omega), if_neg (by omega), if_pos rfl, if_pos (by omega)]; simp
      · rw [if_neg (by omega), if_pos rfl, if_pos (by omega)]; simp
      · rw [if_pos rfl, if_pos (by omega)]; simp
    · rw [if_neg h2, List.getElem?_eq_none (by simp; omega)]
/-- The cells of a block that has just been laid. -/
theorem new_cells (w : World) (cs : Array Value) (t : TypeId) : ∀ j u, cs.toList[j]? = some u → (w.alloc (.cells cs t)).cell? ((⟨w.heap.size, 0, none⟩ : Addr).add j) = some u := by
  intro j u hu
  rw [show (⟨w.heap.size, 0, none⟩ : Addr).add j = ⟨w.heap.size, j, none⟩ by unfold Addr.add; split <;> simp_all]
  rw [cell_of_row _ _ j cs t (0, 0) (heap_alloc_new w _)]
  simpa using hu
/-- The keys at one length, as prefixes. -/
def pfs (L : List Nat) (m : Int) : List Pf := L.map fun x => ⟨x, m⟩
theorem pfs_len (L : List Nat) (m : Int) : (pfs L m).length = L.length := by simp [pfs]
theorem pfs_at (L : List Nat) (m : Int) (k : Nat) (h : k < (pfs L m).length) : (pfs L m)[k] = ⟨L[k]'(by rw [pfs_len] at h; exact h), m⟩ := by simp [pfs]
theorem pfs_append (L M : List Nat) (m : Int) : pfs (L ++ M) m = pfs L m ++ pfs M m := by simp [pfs]
theorem Row.at_pfs {w : World} {p : Option Addr} {L : List Nat} {m : Int} (h : Row w p (pcs (pfs L m))) {k : Nat} (hk : k < L.length) : ∃ g o, p = some ⟨g, o, none⟩ ∧ g < w.heap.size ∧
    w.cell? ⟨g, o + k * 3, none⟩ = some (.int .u64 (hiW L[k] : Nat)) ∧ w.cell? ⟨g, o + k * 3 + 1, none⟩ = some (.int .u64 (loW L[k] : Nat)) ∧ w.cell? ⟨g, o + k * 3 + 2, none⟩ = some (.int .i64 m) := by
  have := h.at (k := k) (by rw [pfs_len]; exact hk)
  rwa [pfs_at] at this
/-- An old cell, behind a call that leaves all old memory alone, a new block, and an append to a row that lies elsewhere. -/
theorem keep_app {w0 w1 w4 : World} {O : Obj} {B n k : Nat} {e : TypeId} {v : Value} {xs : List Value} (hb : Below w0.heap.size w0 w1) (hY : (w1.alloc O).ownsRow B e k v n xs) (hg : (w1.alloc O).grownBy w4 v.ownBlock) {g o : Nat} {u : Value}
    (hlt : g < B) (hlt0 : g < w0.heap.size) (c : w0.cell? ⟨g, o, none⟩ = some u) : w4.cell? ⟨g, o, none⟩ = some u := by
  have h1 : w1.cell? ⟨g, o, none⟩ = some u := (hb.cell (p := ⟨g, o, none⟩) hlt0).trans c
  have h2 : (w1.alloc O).cell? ⟨g, o, none⟩ = some u := (World.cell?_alloc_lt w1 O ⟨g, o, none⟩ (Nat.lt_of_lt_of_le hlt0 hb.size)).trans h1
  refine hg.cell h2 fun e => ?_
  have := (hY.lt g e.symm).1
  omega
end Go.Proofs.Ytcbmeollffkekaa
/-
  What is kept of old memory where some blocks may be written: a set of blocks aside, all is as it was. No condition but those that stand in each.
-/
set_option linter.unusedSimpArgs false
set_option linter.unusedVariables false
namespace Go.Proofs.Ytcbmeollffkekaa
open Go.RowKit Go.Sort M

/-- The blocks of S aside, all old memory is as it was. -/
structure Touch (S : Nat → Prop) (w w' : World) : Prop where
  os : w'.os = w.os
  tape : w'.tape = w.tape
  output : w'.output = w.output
  size : w.heap.size ≤ w'.heap.size
  block : ∀ k, k < w.heap.size → ¬ S k → w'.heap[k]? = w.heap[k]?
/-- The blocks from lo on, below hi. -/
def In (lo hi : Nat) (k : Nat) : Prop := lo ≤ k ∧ k < hi
section
variable {S T : Nat → Prop} {a b c : World}
theorem Touch.refl (S : Nat → Prop) (w : World) : Touch S w w := ⟨rfl, rfl, rfl, Nat.le_refl _, fun _ _ _ => rfl⟩
theorem Touch.trans (h : Touch S a b) (k : Touch S b c) : Touch S a c :=
  ⟨k.os.trans h.os, k.tape.trans h.tape, k.output.trans h.output, Nat.le_trans h.size k.size, fun i hi hn => (k.block i (Nat.lt_of_lt_of_le hi h.size) hn).trans (h.block i hi hn)⟩
theorem Touch.mono (h : Touch S a b) (hs : ∀ k, k < a.heap.size → S k → T k) : Touch T a b :=
  ⟨h.os, h.tape, h.output, h.size, fun i hi hn => h.block i hi (fun x => hn (hs i hi x))⟩
theorem Touch.of_grown {row : Option Nat} (h : a.grownBy b row) (hs : ∀ k, some k = row → S k) : Touch S a b :=
  ⟨h.os, h.tape, h.output, h.size, fun i hi hn => h.block i hi (fun e => hn (hs i e))⟩
theorem Touch.of_below {B : Nat} (h : Below B a b) (hs : ∀ k, k < a.heap.size → B ≤ k → S k) : Touch S a b :=
  ⟨h.os, h.tape, h.output, h.size, fun i hi hn => h.block i (by
    by_cases e : B ≤ i
    · exact absurd (hs i hi e) hn
    · omega)⟩
theorem Touch.quiet (h : Below a.heap.size a b) : Touch S a b := Touch.of_below h (fun k h1 h2 => absurd h1 (by omega))
theorem Touch.below {B : Nat} (h : Touch S a b) (hB : B ≤ a.heap.size) (hs : ∀ k, S k → B ≤ k) : Below B a b :=
  ⟨h.os, h.tape, h.output, h.size, fun i hi => h.block i (by omega) (fun x => by have := hs i x; omega)⟩
theorem Touch.cell (h : Touch S a b) {p : Addr} {v : Value} (hc : a.cell? p = some v) (hn : ¬ S p.block) : b.cell? p = some v :=
  (World.cell?_of_block (h.block p.block (World.block_lt_of_cell? a p hc) hn)).trans hc
theorem Touch.own {B n k : Nat} {e : TypeId} {v : Value} {xs : List Value} (h : a.ownsRow B e k v n xs) (ht : Touch S a b) (hn : ∀ j, v.ownBlock = some j → ¬ S j) : b.ownsRow B e k v n xs := by
  refine ⟨h.1, ?_⟩
  rcases h.2 with hx | ⟨g, cap, cur, rfl, hb, hgg, rest⟩
  · exact .inl hx
  · refine .inr ⟨g, cap, cur, rfl, hb, ?_, rest⟩
    rw [ht.block g (Array.getElem?_eq_some_iff.1 hgg).1 (hn g rfl)]
    exact hgg
end
end Go.Proofs.Ytcbmeollffkekaa
/-
  What the functions of package addr, and the reference's answers to them, hand back, for every address, prefix and number. No condition but that the words are words of 64 bits.
-/
set_option linter.unusedSimpArgs false
set_option linter.unusedVariables false
namespace Go.Proofs.Ytcbmeollffkekaa
open Go.RowKit Go.Sort M

def firstN (n : Int) : Nat := (2 ^ 64 - 1) ^^^ ((2 ^ 64 - 1) / 2 ^ n.toNat)
theorem firstN_eq (n : Int) (h0 : 0 ≤ n) : bits BinOp.xor IntKind.u64 IntKind.u64.max (18446744073709551615 / 2 ^ n.toNat) = (firstN n : Int) := by
  obtain ⟨k, rfl⟩ := Int.eq_ofNat_of_zero_le h0
  unfold firstN
  have h2 : (2 ^ 64 - 1) / 2 ^ k < 2 ^ 64 := Nat.lt_of_le_of_lt (Nat.div_le_self _ _) (by decide)
  have e : (18446744073709551615 / 2 ^ (k : Int).toNat : Int) = (((2 ^ 64 - 1) / 2 ^ k : Nat) : Int) := by
    rw [Int.toNat_natCast, Int.natCast_ediv]; simp
  rw [e, show IntKind.u64.max = ((2 ^ 64 - 1 : Nat) : Int) from by decide, bits_xor_u64_nat _ _ (by decide) (by simpa using h2)]
  simp

theorem shr_and (x k : Nat) (hx : W64 x) : bits BinOp.and IntKind.u64 ((x : Int) / 2 ^ k) 1 = ((x / 2 ^ k &&& 1 : Nat) : Int) := by
  have h2 : x / 2 ^ k < 18446744073709551616 := Nat.lt_of_le_of_lt (Nat.div_le_self _ _) hx.lt
  have e : ((x : Int) / 2 ^ k) = ((x / 2 ^ k : Nat) : Int) := by simp
  rw [e, show (1 : Int) = ((1 : Nat) : Int) from rfl, bits_and_u64_nat _ _ h2 (by decide)]
theorem shr_and_wrap (x k : Nat) (hx : W64 x) : wrap64 (bits BinOp.and IntKind.u64 ((x : Int) / 2 ^ k) 1) = ((x / 2 ^ k &&& 1 : Nat) : Int) := by
  rw [shr_and x k hx, Nat.and_one_is_mod]
  unfold wrap64
  omega

theorem and_first (x : Nat) (m : Int) (hx : W64 x) (h0 : 0 ≤ m) (h1 : m ≤ 64) : bits BinOp.and IntKind.u64 (x : Int) (firstN m) = (cutW x m.toNat : Nat) := by
  have h2 : firstN m < 2 ^ 64 := by
    unfold firstN
    exact Nat.xor_lt_two_pow (by decide) (Nat.lt_of_le_of_lt (Nat.div_le_self _ _) (by decide))
  rw [bits_and_u64_nat _ _ hx.lt (by simpa using h2)]
  unfold firstN
  rw [mask_and x m.toNat hx (by omega)]
theorem cut_eq (hi lo : Nat) (n m k : Int) (ha : W64 hi) (hb : W64 lo) (h0 : 0 ≤ m) (h1 : m ≤ 64) (h2 : 0 ≤ k) (h3 : k ≤ 64) (e1 : m.toNat = min n.toNat 64) (e2 : k.toNat = min (n.toNat - 64) 64) :
    Ending.returned (.agg #[.int .u64 (bits BinOp.and IntKind.u64 (hi : Int) (firstN m)), .int .u64 (bits BinOp.and IntKind.u64 (lo : Int) (firstN k))]) =
      Ending.returned (.agg #[.int .u64 (cutW hi n.toNat : Nat), .int .u64 (cutW lo (n.toNat - 64) : Nat)]) := by
  rw [and_first hi m ha h0 h1, and_first lo k hb h2 h3, e1, e2]
  have g : ∀ x k, cutW x (min k 64) = cutW x k := fun x k => by unfold cutW; rw [show 64 - min k 64 = 64 - k by omega]
  rw [g, g]

end Go.Proofs.Ytcbmeollffkekaa
/-
  A row of elements of k cells that is sorted by a test which may make blocks of its own: what is carried from call to call. No condition but those that stand in each.
-/
set_option linter.unusedSimpArgs false
set_option linter.unusedVariables false
namespace Go.Proofs.Ytcbmeollffkekaa
open Go.RowKit Go.Sort M

section
variable {α : Type} [Inhabited α] {enc : α → List Value} {k : Nat} {w0 W W' : World} {blk off n : Nat} {d d' : Array α} {lt : α → α → Bool} {g : Nat} {lb : Array Value} {sf : Nat} {sb : Array Value}
theorem holdsK_below (h : HoldsK enc k W blk off d) (hl : blk < W.heap.size) (hb : RowKit.Below W.heap.size W W') : HoldsK enc k W' blk off d := by
  intro j hj
  obtain ⟨h1, h2⟩ := h j hj
  exact ⟨(hb.cell (p := ⟨blk, off + j, none⟩) hl).trans h1, (hb.frozen (p := ⟨blk, off + j, none⟩) hl).trans h2⟩
/-- The row at block blk holds d; of what was there in w0 nothing else has turned. -/
structure Srt (enc : α → List Value) (k : Nat) (w0 : World) (blk off n : Nat) (d : Array α) (W : World) : Prop where
  size : d.size = n
  holds : HoldsK enc k W blk off d
  touch : Touch (· = blk) w0 W
  lt : blk < w0.heap.size
theorem Srt.lt2 (S : Srt enc k w0 blk off n d W) : blk < W.heap.size := Nat.lt_of_lt_of_le S.lt S.touch.size
theorem Srt.below (S : Srt enc k w0 blk off n d W) (hb : RowKit.Below W.heap.size W W') : Srt enc k w0 blk off n d W' := ⟨S.size, holdsK_below S.holds S.lt2 hb, S.touch.trans (.quiet hb), S.lt⟩
theorem Srt.start (h : HoldsK enc k W blk off d) (hl : blk < W.heap.size) (hn : d.size = n) : Srt enc k W blk off n d W := ⟨hn, h, Touch.refl _ _, hl⟩
/-- Another world ahead of it may be taken for the first one. -/
theorem Srt.since (S : Srt enc k w0 blk off n d W) (T : Srt enc k W blk off n d' W') : Srt enc k w0 blk off n d' W' := ⟨T.size, T.holds, S.touch.trans T.touch, S.lt⟩
/-- What is asked of the test. -/
def LessB (g : Nat) (lb : Array Value) (enc : α → List Value) (k : Nat) (lt : α → α → Bool) (w0 : World) (blk off n : Nat) : Prop :=
  ∀ (W : World) (d : Array α), Srt enc k w0 blk off n d W → ∀ i j : Nat, i < n → j < n → Calls Try.prog g (#[.int .i64 (i : Int), .int .i64 (j : Int)] ++ lb) W fun e w' => e = .returned (.bool (lt d[i]! d[j]!)) ∧ RowKit.Below W.heap.size W w'
theorem Srt.less (S : Srt enc k w0 blk off n d W) (hL : LessB g lb enc k lt w0 blk off n) (x y : Int) (i j : Nat) (hi : i < n) (hj : j < n) (hx : (i : Int) = x) (hy : (j : Int) = y) :
    Calls Try.prog g (#[.int .i64 x, .int .i64 y] ++ lb) W fun e w' => e = .returned (.bool (lt d[i]! d[j]!)) ∧ Srt enc k w0 blk off n d w' ∧ Touch (· = blk) W w' := by
  subst hx hy
  exact (hL W d S i j hi hj).mono fun _ _ ⟨he, hb⟩ => ⟨he, S.below hb, .quiet hb⟩
theorem putRowK_touch (W : World) (d : Array α) : Touch (· = blk) W (putRowK enc k W blk off d) := by
  refine ⟨rfl, rfl, rfl, Nat.le_of_eq (size_putRowK enc k W blk off d).symm, fun j hj hn => ?_⟩
  show (W.heap.modify blk _)[j]? = W.heap[j]?
  rw [Array.getElem?_modify, if_neg (fun e => hn e.symm)]
theorem Srt.swap (S : Srt enc k w0 blk off n d W) (hS : SwapSwapsK Try.prog sf sb enc k blk off n) (hk : ∀ x, (enc x).length = k) (x y : Int) (i j : Nat) (hi : i < n) (hj : j < n) (hx : (i : Int) = x) (hy : (j : Int) = y) :
    ∃ w', (callFunc sf (#[.int .i64 x, .int .i64 y] ++ sb)).run Try.prog W = .ok (.value (.tuple #[])) w' ∧ Srt enc k w0 blk off n (swp d i j) w' ∧ Touch (· = blk) W w' := by
  subst hx hy
  have hs := S.size
  have h := hS W d S.holds S.size i j hi hj
  have e := putRowK_swp enc k hk W blk off d i j (by omega) (by omega)
  rw [putRowK_self enc k W blk off d S.holds] at e
  rw [e] at h
  exact ⟨_, h, ⟨by rw [size_swp]; exact S.size, holdsK_putRowK enc k W blk off d _ S.holds (size_swp _ _ _), S.touch.trans (putRowK_touch W _), S.lt⟩, putRowK_touch W _⟩
/-- A box of two cells in a block of its own. -/
structure Bxd (x y : Value) (B blk : Nat) (W : World) : Prop where
  c0 : W.cell? ⟨B, 0, none⟩ = some x
  c1 : W.cell? ⟨B, 1, none⟩ = some y
  lt : B < W.heap.size
  ne : B ≠ blk
theorem Bxd.touch {x y : Value} {B : Nat} (h : Bxd x y B blk W) (t : Touch (· = blk) W W') : Bxd x y B blk W' := ⟨t.cell h.c0 h.ne, t.cell h.c1 h.ne, Nat.lt_of_lt_of_le h.lt t.size, h.ne⟩
/-- What is carried in a function of the sort: its own box at block W.heap.size, the row, and that nothing else turned. -/
structure Srd (enc : α → List Value) (k : Nat) (w0 : World) (blk off n : Nat) (x y : Value) (W : World) (d : Array α) (wr : World) : Prop where
  srt : Srt enc k w0 blk off n d wr
  touch : Touch (· = blk) W wr
  box : Bxd x y W.heap.size blk wr
theorem Srd.start {x y : Value} (S : Srt enc k w0 blk off n d W) (t : TypeId) : Srd enc k w0 blk off n x y W d (W.alloc (.cells #[x, y] t)) := by
  have hb : RowKit.Below W.heap.size W (W.alloc (.cells #[x, y] t)) := by go_grown
  have hl := S.lt2
  exact ⟨S.below hb, .quiet hb, ⟨by simp, by simp, by simp, by omega⟩⟩
theorem Srd.next {x y : Value} {wr : World} (R : Srd enc k w0 blk off n x y W d wr) (S : Srt enc k w0 blk off n d' W') (t : Touch (· = blk) wr W') : Srd enc k w0 blk off n x y W d' W' := ⟨S, R.touch.trans t, R.box.touch t⟩
end
end Go.Proofs.Ytcbmeollffkekaa
