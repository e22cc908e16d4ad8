/-
  TrieNested as a walk: it hands back true, for every input. No condition but that the addresses are two words each, and that the rows lie in old memory.
-/
import Derived.Test.YtokjhoiacidofaaAppR
import Derived.Test.YtokjhoiacidofaaW6
import Derived.Test.YtokjhoiacidofaaSlice
import Derived.Test.YtokjhoiacidofaaL14b
/-
  How many bits two addresses have in common, by the reference's count one by one; and the given laws' own example. No condition but that the words are words of 64 bits.
-/
set_option linter.unusedSimpArgs false
set_option linter.unusedVariables false
namespace Go.Proofs.Ytokjhoiacidofaa
open Go.RowKit Go.Sort M

set_option maxHeartbeats 400000 in
theorem rcommon_any (h1 l1 h2 l2 : Nat) (ha : W64 h1) (hb : W64 l1) (hc : W64 h2) (hd : W64 l2) :
    Gives Try.prog 17 #[.agg #[.int .u64 h1, .int .u64 l1], .agg #[.int .u64 h2, .int .u64 l2]] (.int .i64 (commonN h1 l1 h2 l2)) := by
  intro w
  go_enter Try.func17, Try.ntmps17
  go_wp2_with fail
  go_loopw [5] (fun i wr => ∃ k : Nat, k ≤ 128 ∧ i = .int .i64 k ∧ Hid (∀ j, j < k → bitN h1 l1 j = bitN h2 l2 j) ∧ Below w.heap.size w wr ∧ w.heap.size + 2 ≤ wr.heap.size ∧ wr.cell? ⟨w.heap.size, 0, none⟩ = some (.int .u64 h1) ∧ wr.cell? ⟨w.heap.size, 1, none⟩ = some (.int .u64 l1) ∧
      wr.cell? ⟨w.heap.size + 1, 0, none⟩ = some (.int .u64 h2) ∧ wr.cell? ⟨w.heap.size + 1, 1, none⟩ = some (.int .u64 l2))
    (fun i _ => 128 - (intOf i).toNat)
  case atStart =>
    refine ⟨0, Nat.zero_le _, rfl, fun j hj => absurd hj (Nat.not_lt_zero _), by go_grown, by go_size, ?_⟩
    simp [go_sem]
  case round =>
    obtain ⟨k, hk, rfl, same, hw0, hz, c0, c1, c2, c3⟩ := hrel
    have z0 : w.heap.size < wr.heap.size := by omega
    have z1 : w.heap.size + 1 < wr.heap.size := by omega
    by_cases hlt : k < 128
    · have d0 : decide ((k : Int) < 128) = true := by simp; omega
      have hA : Gives Try.prog 26 #[.agg #[.int .u64 h1, .int .u64 l1], .int .i64 (k : Int)] (.int .i64 (bitI h1 l1 k)) := rbit_any h1 l1 k ha hb
      have hB : Gives Try.prog 26 #[.agg #[.int .u64 h2, .int .u64 l2], .int .i64 (k : Int)] (.int .i64 (bitI h2 l2 k)) := rbit_any h2 l2 k hc hd
      cases b1 : bitN h1 l1 k <;> cases b2 : bitN h2 l2 k
      all_goals
        rw [bitI_of _ _ _ _ b1] at hA
        rw [bitI_of _ _ _ _ b2] at hB
        simp only [cond_true, cond_false] at hA hB
        have HA := Lib.hid hA
        have HB := Lib.hid hB
        have B1 := Lib.hid b1
        have B2 := Lib.hid b2
        clear hA hB b1 b2
        go_wp2_with fail
        have kg := cell_grow
        refine region_whole (by kernel_rfl) (by kernel_rfl) ?_
        repeat (any_goals (first | go_big_quiet_step ((go_at_call 26; (first | (with_reducible exact Gives.at HA.out _ _ _) | (with_reducible exact Gives.at HB.out _ _ _)))) | quiet_step ((go_at_call 26; (first | (with_reducible exact Gives.at HA.out _ _ _) | (with_reducible exact Gives.at HB.out _ _ _))))))
        refine wpQuiet_nil ?_
        clear kg
        intro w1 hb1
        obtain ⟨hc1, hf1⟩ := bcell hb1
        have hw1 : Below w.heap.size w w1 := by
          refine Below.trans ?_ (hb1.mono ?_)
          · go_grown
          · first | omega | go_size
        obtain ⟨hc1, hf1⟩ := bcell hb1
        have c0 := (hc1 _ _ (by omega)).trans c0
        have c1 := (hc1 _ _ (by omega)).trans c1
        have c2 := (hc1 _ _ (by omega)).trans c2
        have c3 := (hc1 _ _ (by omega)).trans c3
        have hw0 := Below.trans hw0 (hb1.mono (by omega))
        have hz := Nat.lt_of_lt_of_le hz hb1.size
        clear hc1 hf1 hb1
        go_wp2
      all_goals first
        | (go_ret
           exact ⟨ret_num (by rw [commonN_unique h1 l1 h2 l2 k ha hb hc hd hk same.out (fun _ => by rw [B1.out, B2.out]; decide)]), by go_grown⟩)
        | (go_roundw
           case rel =>
             refine ⟨k + 1, by omega, by go_num, fun j hj => ?_, hw0, hz, c0, c1, c2, c3⟩
             by_cases hjk : j = k
             · rw [hjk, B1.out, B2.out]
             · exact same.out j (by omega)
           case measure => simp [intOf]; omega)
    · have d0 : decide ((k : Int) < 128) = false := by simp; omega
      go_wp2_with fail
      have kg := cell_grow
      refine region_whole (by kernel_rfl) (by kernel_rfl) ?_
      repeat (any_goals (first | go_big_quiet_step (fail) | quiet_step (fail)))
      refine wpQuiet_nil ?_
      clear kg
      intro w1 hb1
      obtain ⟨hc1, hf1⟩ := bcell hb1
      have hw1 : Below w.heap.size w w1 := by
        refine Below.trans ?_ (hb1.mono ?_)
        · go_grown
        · first | omega | go_size
      obtain ⟨hc1, hf1⟩ := bcell hb1
      have c0 := (hc1 _ _ (by omega)).trans c0
      have c1 := (hc1 _ _ (by omega)).trans c1
      have c2 := (hc1 _ _ (by omega)).trans c2
      have c3 := (hc1 _ _ (by omega)).trans c3
      have hw0 := Below.trans hw0 (hb1.mono (by omega))
      have hz := Nat.lt_of_lt_of_le hz hb1.size
      clear hc1 hf1 hb1
      go_wp2
      go_ret
      exact ⟨ret_num (by rw [commonN_unique h1 l1 h2 l2 k ha hb hc hd hk same.out (fun h => absurd h hlt)]), by go_grown⟩
end Go.Proofs.Ytokjhoiacidofaa
/-
  How rows of whole numbers come in as arguments. No condition but those that stand in each.
-/
set_option linter.unusedSimpArgs false
set_option linter.unusedVariables false
namespace Go.Proofs.Ytokjhoiacidofaa
open Go.ChangeShapes Go.WideShapes Go.ChangeAt Go.RowKit Go.Joins Go.Deep Go.Sort M

theorem RowA.ints {w : World} {p : Option Addr} {L : List Int} (h : RowA 1 (fun x => [Value.int .i64 x]) w p L) : IRow w p L := by
  rcases h with h | ⟨g, o, e, hg, hc⟩
  · exact .inl h
  · refine .inr ⟨g, o, e, hg, fun j u hu => ?_⟩
    have hj : j < L.length := by
      have := (List.getElem?_eq_some_iff.1 hu).1
      rwa [ics_len] at this
    rw [ics_cell L j hj] at hu
    have := hc j hj 0 u (by simpa using hu)
    rwa [Nat.mul_one, Nat.add_zero] at this
section
variable {H : Type} {enc : TypeId × Value → H} {w : World} {base : Nat} {spare : Nat → Bool} {held : Bool} {r : Reach} {b0 : Nat}
theorem elemI (n : Nat) (cs : List Value) (x : DataW H × List MemPlace) (h : DataW.trod enc Try.prog w base spare held n 3 cs = some x) : ∃ a : Int, cs = [Value.int .i64 a] ∧ (Lit.int .i64 a).wf = true := by
  obtain ⟨a, e, -, wa⟩ := DataW.trod_int Try.underlying3 h
  exact ⟨a, e, wa⟩
set_option maxRecDepth 100000 in
theorem open_ints {v : Value} {d : DataW H} {p : List MemPlace} (hv : Value.okWide Try.prog w r b0 48 v) (h : DataW.Trod enc Try.prog w base spare held 48 v d p) :
    ∃ (q : Option Addr) (c : Nat) (L : List Int), v = .slice q L.length c ∧ IRow w q L ∧ (∀ x ∈ L, (Lit.int .i64 x).wf = true) ∧ L.length ≤ maxLen := by
  obtain ⟨q, c, L, e, hr, hg, hl⟩ := open_elems Try.underlying48 (show Try.prog.cellsOf 3 = 1 by kernel_rfl) (by decide) (fun _ _ => by simp) elemI hv h
  exact ⟨q, c, L, e, hr.ints, hg, hl⟩
end
end Go.Proofs.Ytokjhoiacidofaa
/-
  TrieNested as a walk: it hands back true, for every input. No condition but that the addresses are two words each, and that the rows lie in old memory.
-/
set_option linter.unusedSimpArgs false
set_option linter.unusedVariables false
namespace Go.Proofs.Ytokjhoiacidofaa
open Go.RowKit Go.Sort M

theorem mask14 (x : Int) : bits BinOp.and IntKind.i64 x 1023 = ((x % 1024).toNat : Int) := by
  have h : (BitVec.ofInt 64 x &&& BitVec.ofInt 64 1023).toNat = (x % 1024).toNat := by
    rw [BitVec.toNat_and, BitVec.toNat_ofInt, show (BitVec.ofInt 64 1023).toNat = 2 ^ 10 - 1 by decide, Nat.and_two_pow_sub_one_eq_mod]
    omega
  show IntKind.i64.wrap (((BitVec.ofInt 64 x &&& BitVec.ofInt 64 1023).toNat : Nat) : Int) = _
  rw [h, IntKind.wrap_i64]
  omega
/-! ### Prefixes within one another -/
theorem get_none14 {T : Pt} (ho : T.ok) {p : Ky} (pg : p.good) (pr : rightK p) (h : getV p T = none) : ∀ x, T.mem x → x.k ≠ p := by
  intro x hx e
  unfold getV covV at h
  rw [if_pos (show rightB p.h p.l p.n = true from pr), show min p.n p.n = p.n by omega] at h
  have := (cover_none pg.1 pg.2 ho).1 h x hx
  have hn := rightK_le pr
  rw [cand_iff.2 ⟨by rw [e]; omega, by rw [e]; omega, by rw [e]; exact (has_pre pg pr pg.1 pg.2).2 (pathN_pre _ _ (by omega))⟩] at this
  cases this
theorem del_mem {T : Pt} (ho : T.ok) {p : Ky} (pg : p.good) (pr : rightK p) (q : Rt) : (delT14 p T).mem q ↔ T.mem q ∧ q.k ≠ p := by
  unfold delT14
  cases h : getV p T with
  | none =>
    rw [if_neg (by simp)]
    exact ⟨fun hq => ⟨hq, get_none14 ho pg pr h q hq⟩, And.left⟩
  | some r =>
    rw [if_pos (show (some r).isSome = true from rfl)]
    exact without_mem q ho
theorem del_ok14 {T : Pt} (ho : T.ok) (p : Ky) : (delT14 p T).ok := by
  unfold delT14
  split
  · exact without_ok ho
  · exact ho
theorem put_mem14 {T : Pt} (ho : T.ok) {p : Ky} (pg : p.good) (pr : rightK p) (x : Int) (q : Rt) : (putT p x T).mem q ↔ q = ⟨p, x⟩ ∨ (T.mem q ∧ q.k ≠ p) := by
  unfold putT
  rw [if_pos (show rightB p.h p.l p.n = true from pr)]
  exact with_mem (x := ⟨p, x⟩) pg pr q ho
theorem put_ok14 {T : Pt} (ho : T.ok) {p : Ky} (pg : p.good) (x : Int) : (putT p x T).ok := by
  unfold putT
  split
  · rename_i h
    exact with_ok (x := ⟨p, x⟩) pg h ho
  · exact ho
/-- The trie has just the prefixes of an address whose lengths are marked. -/
structure Nest (ah al : Nat) (T : Pt) (F : List Bool) : Prop where
  len : F.length = 129
  ok : T.ok
  mem : ∀ q, T.mem q ↔ ∃ n : Nat, n < 129 ∧ F[n]? = some true ∧ q = ⟨cutK ah al n, (n : Int)⟩
theorem Nest.empty (ah al : Nat) : Nest ah al .nil (List.replicate 129 false) := ⟨by simp, trivial, fun q => by
  constructor
  · exact fun h => h.elim
  · rintro ⟨n, hn, h, -⟩
    rw [List.getElem?_replicate, if_pos hn] at h
    cases h⟩
theorem Nest.put {ah al : Nat} {T : Pt} {F : List Bool} (H : Nest ah al T F) (a : W64 ah) (b : W64 al) {n : Nat} (hn : n < 129) : Nest ah al (putT (cutK ah al n) (n : Int) T) (F.set n true) := by
  refine ⟨by simpa using H.len, put_ok14 H.ok (cutK_good a b) _, fun q => ?_⟩
  rw [put_mem14 H.ok (cutK_good a b) (cutK_right (by omega)), H.mem]
  have hl := H.len
  constructor
  · rintro (h | ⟨⟨m, hm, h1, h2⟩, h3⟩)
    · exact ⟨n, hn, by rw [List.getElem?_set_self (by omega)], h⟩
    · refine ⟨m, hm, ?_, h2⟩
      have : n ≠ m := fun e => h3 (by rw [h2, e])
      rw [List.getElem?_set_ne this]
      exact h1
  · rintro ⟨m, hm, h1, h2⟩
    by_cases e : n = m
    · subst e
      exact .inl h2
    · rw [List.getElem?_set_ne e] at h1
      refine .inr ⟨⟨m, hm, h1, h2⟩, fun e2 => e ?_⟩
      rw [h2] at e2
      exact (cutK_n e2).symm
theorem Nest.del {ah al : Nat} {T : Pt} {F : List Bool} (H : Nest ah al T F) (a : W64 ah) (b : W64 al) {n : Nat} (hn : n < 129) : Nest ah al (delT14 (cutK ah al n) T) (F.set n false) := by
  refine ⟨by simpa using H.len, del_ok14 H.ok _, fun q => ?_⟩
  rw [del_mem H.ok (cutK_good a b) (cutK_right (by omega)), H.mem]
  have hl := H.len
  constructor
  · rintro ⟨⟨m, hm, h1, h2⟩, h3⟩
    refine ⟨m, hm, ?_, h2⟩
    have : n ≠ m := fun e => h3 (by rw [h2, e])
    rw [List.getElem?_set_ne this]
    exact h1
  · rintro ⟨m, hm, h1, h2⟩
    by_cases e : n = m
    · subst e
      rw [List.getElem?_set_self (by omega)] at h1
      cases h1
    · rw [List.getElem?_set_ne e] at h1
      refine ⟨⟨m, hm, h1, h2⟩, fun e2 => e ?_⟩
      rw [h2] at e2
      exact (cutK_n e2).symm
/-- The greatest length marked, of so many. -/
def topM (F : List Bool) : Nat → Int
  | 0 => -1
  | j + 1 => if F.getD j false = true then (j : Int) else topM F j
theorem top_ok (F : List Bool) : ∀ j, (topM F j = -1 ∧ ∀ n, n < j → F.getD n false = false) ∨ ∃ n, n < j ∧ topM F j = (n : Int) ∧ F.getD n false = true ∧ ∀ m, n < m → m < j → F.getD m false = false
  | 0 => .inl ⟨rfl, fun n h => absurd h (by omega)⟩
  | j + 1 => by
    unfold topM
    cases h : F.getD j false with
    | true =>
      rw [if_pos rfl]
      exact .inr ⟨j, by omega, rfl, h, fun m h1 h2 => absurd h2 (by omega)⟩
    | false =>
      rw [if_neg (by simp)]
      rcases top_ok F j with ⟨e, h2⟩ | ⟨n, hn, e, h1, h2⟩
      · refine .inl ⟨e, fun n hn => ?_⟩
        by_cases e2 : n = j
        · rw [e2]; exact h
        · exact h2 n (by omega)
      · refine .inr ⟨n, by omega, e, h1, fun m hm hmj => ?_⟩
        by_cases e2 : m = j
        · rw [e2]; exact h
        · exact h2 m hm (by omega)
theorem getD_q {F : List Bool} {n : Nat} : F.getD n false = true ↔ F[n]? = some true := by
  rw [List.getD_eq_getElem?_getD]
  cases F[n]? <;> simp
/-- What the other address finds. -/
theorem Nest.longest {ah al bh bl : Nat} {T : Pt} {F : List Bool} (H : Nest ah al T F) (a : W64 ah) (b : W64 al) (c : W64 bh) (d : W64 bl) :
    (topM F (commonN ah al bh bl + 1) = -1 ∧ lonV bh bl T = none) ∨ ∃ n : Nat, topM F (commonN ah al bh bl + 1) = (n : Int) ∧ lonV bh bl T = some ⟨cutK ah al n, (n : Int)⟩ := by
  have hcl := commonN_le ah al bh bl
  have hcand : ∀ n : Nat, n < 129 → (candB bh bl (-1) 128 ⟨cutK ah al n, (n : Int)⟩ = true ↔ n ≤ commonN ah al bh bl) := by
    intro n hn
    rw [cand_iff]
    constructor
    · rintro ⟨-, -, h⟩
      obtain ⟨m, -, e⟩ := (has_cutK _ _ _).1 h
      exact ((cutK_common a b c d (by omega)).1 e).2
    · intro h
      refine ⟨by show (-1 : Int) < (n : Int); omega, by show (n : Int) ≤ 128; omega, (has_cutK _ _ _).2 ⟨n, by omega, (cutK_common a b c d (by omega)).2 ⟨rfl, h⟩⟩⟩
  rcases top_ok F (commonN ah al bh bl + 1) with ⟨e, h⟩ | ⟨n, hn, e, h1, h2⟩
  · refine .inl ⟨e, (cover_none c d H.ok).2 fun x hx => ?_⟩
    obtain ⟨m, hm, g1, rfl⟩ := (H.mem x).1 hx
    cases hcx : candB bh bl (-1) 128 ⟨cutK ah al m, (m : Int)⟩ with
    | false => rfl
    | true =>
      have := h m (by have := (hcand m hm).1 hcx; omega)
      rw [getD_q.2 g1] at this
      cases this
  · refine .inr ⟨n, e, (cover_some c d H.ok).2 ⟨(H.mem _).2 ⟨n, by omega, getD_q.1 h1, rfl⟩, (hcand n (by omega)).2 (by omega), fun y hy hcy => ?_⟩⟩
    obtain ⟨m, hm, g1, rfl⟩ := (H.mem y).1 hy
    have hmc := (hcand m hm).1 hcy
    show (m : Int) ≤ (n : Int)
    by_cases hlt : n < m
    · have := h2 m hlt (by omega)
      rw [getD_q.2 g1] at this
      cases this
    · omega
/-! ### The trie and the law's own marks -/
def mcs (C : List Bool) : List Value := C.map fun b => .bool b
theorem mcs_len (C : List Bool) : (mcs C).length = C.length := by simp [mcs]
theorem mcs_at (C : List Bool) (k : Nat) (h : k < C.length) : (mcs C)[k]? = some (.bool C[k]) := by simp [mcs, h]
theorem mcs_set (C : List Bool) (k : Nat) (v : Bool) : (mcs C).set k (.bool v) = mcs (C.set k v) := by simp [mcs, List.map_set]
theorem mcs_zero (n : Nat) : mcs (List.replicate n false) = (madeCells #[.bool false] n).toList := by
  rw [toList_madeCells_one]
  simp [mcs]
structure NestP (w wr : World) (t g : Nat) (T : Pt) (n : Int) (F : List Bool) : Prop where
  tri : Tri wr (fun k => k ≠ t ∧ k ≠ g) t T n
  own : wr.ownsRow w.heap.size 4 1 (.slice (some ⟨g, 0, none⟩) 129 129) 129 (mcs F)
  ne : g ≠ t
  low : w.heap.size ≤ t
  below : Below w.heap.size w wr
theorem NestP.quiet {w wr wx : World} {t g : Nat} {T : Pt} {n : Int} {F : List Bool} (H : NestP w wr t g T n F) (hb : Below wr.heap.size wr wx) : NestP w wx t g T n F :=
  ⟨H.tri.below hb, own_below H.own hb, H.ne, H.low, H.below.trans (hb.mono H.below.size)⟩
theorem NestP.turn {w wr wx : World} {t g : Nat} {T T' : Pt} {n n' : Int} {F : List Bool} (H : NestP w wr t g T n F) (hs : Tri wx (fun k => k ≠ t ∧ k ≠ g) t T' n') (ht : Touch (fun k => k = t) wr wx) : NestP w wx t g T' n' F :=
  ⟨hs, Touch.own H.own ht (fun j e hj => by cases e; exact H.ne hj), H.ne, H.low, H.below.trans (ht.below H.below.size fun k hk => by rw [hk]; exact H.low)⟩
theorem NestP.store {w wr : World} {t g : Nat} {T : Pt} {n : Int} {F : List Bool} (H : NestP w wr t g T n F) (m : Nat) (v : Bool) : NestP w (wr.setCell ⟨g, m, none⟩ (.bool v)) t g T n (F.set m v) := by
  have hs := H.own.stored m (.bool v)
  rw [mcs_set F m v] at hs
  exact ⟨H.tri.touched (S := fun k => k = g) (Touch.of_grown hs.2 (fun k e => by cases e; rfl)) (fun k hk e => hk.2 e) (fun e => H.ne e.symm), hs.1, H.ne, H.low, below_write H.below H.below.size hs.2 (H.own.lt g rfl).1⟩
end Go.Proofs.Ytokjhoiacidofaa
