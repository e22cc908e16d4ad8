/-
  Plain mathematics of what a level holds: the keys that a route makes there, the hop of a key, the set of a level; that a sorted row is known by its members; what an address finds. No condition but those that stand in each.
-/
import Derived.Test.YtlmampklgghngaaRow
import Derived.Test.YtlmampklgghngaaM14
import Derived.Test.YtlmampklgghngaaM15
/-
  What spread.Keys hands back: a new row of prefixes. No condition but that the words are words of 64 bits.
-/
set_option linter.unusedSimpArgs false
set_option linter.unusedVariables false
namespace Go.Proofs.Ytlmampklgghngaa
open Go.RowKit Go.Sort M

/-- The keys of a prefix, to m bits. -/
def keysV (h l : Nat) (n m : Int) : List Pf := if rightB h l n = true ∧ n ≤ m ∧ m ≤ 128 ∧ m - n ≤ 8 then pfs (keysN (val h l) n.toNat m.toNat) m else []
theorem keysV_none {h l : Nat} {n m : Int} (hc : ¬ (rightB h l n = true ∧ n ≤ m ∧ m ≤ 128 ∧ m - n ≤ 8)) : keysV h l n m = [] := if_neg hc
theorem keysV_some {h l : Nat} {n m : Int} (hc : rightB h l n = true ∧ n ≤ m ∧ m ≤ 128 ∧ m - n ≤ 8) : keysV h l n m = pfs (keysN (val h l) n.toNat m.toNat) m := if_pos hc
theorem keysV_len (h l : Nat) (n m : Int) (b : W64 l) : (keysV h l n m).length = cntN h l n m := by
  unfold keysV cntN
  by_cases hc : rightB h l n = true ∧ n ≤ m ∧ m ≤ 128 ∧ m - n ≤ 8
  · rw [if_pos hc, if_pos hc, pfs_len, keys_len]
    obtain ⟨h0, -⟩ := (rightB_val h l n b).1 hc.1
    congr 1
    omega
  · rw [if_neg hc, if_neg hc]; rfl
/-- What a function that hands back a new row of prefixes does. -/
def GivesRow (f : FuncId) (args : Array Value) (L : List Pf) : Prop := ∀ w, Calls Try.prog f args w fun e w' => ∃ p c, e = .returned (.slice p L.length c) ∧ w'.ownsRow w.heap.size 27 3 (.slice p L.length c) L.length (pcs L) ∧ Below w.heap.size w w'
theorem infoP : (Try.prog.info? 27).map (fun i => (i.zero, i.size, i.bytes)) = some (some (.agg #[.int .u64 0, .int .u64 0, .int .i64 0]), 3, 24) := by kernel_rfl

theorem raiseH_w (x k : Nat) (h : x < 2 ^ 64) : W64 (raiseH x k) := by
  unfold raiseH W64
  split
  · exact Nat.mod_lt _ (by decide)
  · exact Nat.lt_of_le_of_lt (Nat.div_le_self _ _) h
theorem raiseL_w (x k : Nat) : W64 (raiseL x k) := by
  unfold raiseL W64
  split
  · decide
  · exact Nat.mod_lt _ (by decide)
theorem keysV_at {h l : Nat} {n m : Int} (hc : rightB h l n = true ∧ n ≤ m ∧ m ≤ 128 ∧ m - n ≤ 8) (b : W64 l) (k : Nat) (hk : k < (keysV h l n m).length) : (keysV h l n m)[k] = ⟨val h l + k * 2 ^ (128 - m.toNat), m⟩ := by
  have e := keysV_some hc
  have : (keysV h l n m)[k]? = some ⟨val h l + k * 2 ^ (128 - m.toNat), m⟩ := by
    rw [e]
    rw [e, pfs_len, keys_len] at hk
    simp [pfs, keysN, hk]
  rw [List.getElem?_eq_getElem hk] at this
  injection this
set_option maxHeartbeats 1000000 in
theorem keys_any (hi lo : Nat) (n m : Int) (ha : W64 hi) (hb : W64 lo) :
    GivesRow 44 #[.agg #[.int .u64 hi, .int .u64 lo, .int .i64 n], .int .i64 m] (keysV hi lo n m) := by
  intro w
  have hc := count_any hi lo n m ha hb
  have hl := keysV_len hi lo n m hb
  have hle := cnt_le hi lo n m
  obtain ⟨c, hcn⟩ : ∃ c, c = cntN hi lo n m := ⟨_, rfl⟩
  rw [← hcn] at hc hl hle
  have hmk := make_row (P := Try.prog) (t := 59) Try.underlying59 infoP c (by omega) (by unfold maxLen; omega)
  have HC := Lib.hid hc
  have HL := Lib.hid hl
  have HN := Lib.hid hcn
  clear hc hl hcn
  go_enter Try.func44, Try.ntmps44
  go_wp2_with fail
  refine (HC.out _).mono ?_
  rintro e0 w0 ⟨rfl, hb0⟩
  have hw0 : Below w.heap.size w w0 := by
    refine Below.trans ?_ (hb0.mono ?_)
    · go_grown
    · go_size
  have c0 : w0.cell? ⟨w.heap.size, 0, none⟩ = some (.int .u64 hi) := by
    rw [hb0.cell (by simp <;> omega)]
    first | assumption | (simp [go_sem]; done) | (simp [go_sem, *]; done)
  have c1 : w0.cell? ⟨w.heap.size, 1, none⟩ = some (.int .u64 lo) := by
    rw [hb0.cell (by simp <;> omega)]
    first | assumption | (simp [go_sem]; done) | (simp [go_sem, *]; done)
  obtain ⟨zs, hzs⟩ : ∃ zs, zs = (madeCells #[.int .u64 0, .int .u64 0, .int .i64 0] (c * 3)).toList := ⟨_, rfl⟩
  have hw0z : w.heap.size < w0.heap.size := by have := hb0.size; simp at this; omega
  have hown0 : (w0.alloc (.cells (madeCells #[.int .u64 0, .int .u64 0, .int .i64 0] (c * 3)) 27)).ownsRow w.heap.size 27 3 (.slice (some ⟨w0.heap.size, 0, none⟩) c c) c (madeCells #[.int .u64 0, .int .u64 0, .int .i64 0] (c * 3)).toList :=
    World.ownsRow_lit _ _ c (by omega) (by unfold maxLen; omega) (by simp [madeCells])
  go_wp2
  go_loopw [14] (fun i wr => ∃ (k : Nat) (xs : List Value), k ≤ c ∧ i = .int .i64 k ∧ wr.ownsRow w.heap.size 27 3 (.slice (some ⟨w0.heap.size, 0, none⟩) c c) c xs ∧ Hid (xs.take (k * 3) = pcs ((keysV hi lo n m).take k)) ∧
      Below w.heap.size w wr ∧ wr.cell? ⟨w.heap.size, 0, none⟩ = some (.int .u64 hi) ∧ wr.cell? ⟨w.heap.size, 1, none⟩ = some (.int .u64 lo)) (fun i _ => c - (intOf i).toNat)
  case atStart => exact ⟨0, _, Nat.zero_le _, rfl, hown0, Lib.hid (by simp [pcs]), by go_grown, by rw [World.cell?_alloc_lt _ _ _ hw0z]; exact c0, by rw [World.cell?_alloc_lt _ _ _ hw0z]; exact c1⟩
  case round =>
    clear hown0
    obtain ⟨k, xs, hk, rfl, hown, hxs, hw1, c0, c1⟩ := hrel
    by_cases hlt : k < c
    · have hcond : rightB hi lo n = true ∧ n ≤ m ∧ m ≤ 128 ∧ m - n ≤ 8 := by
        by_cases hx : rightB hi lo n = true ∧ n ≤ m ∧ m ≤ 128 ∧ m - n ≤ 8
        · exact hx
        · have := HN.out
          rw [cnt_none hx] at this
          omega
      obtain ⟨hr0, hr1, hr2⟩ := (rightB_val hi lo n hb).1 hcond.1
      obtain ⟨j, hj⟩ : ∃ j : Nat, (j : Int) = 128 - m := ⟨(128 - m).toNat, by omega⟩
      have hcv : c = 2 ^ (m.toNat - n.toNat) := by
        have := HN.out
        rw [cnt_some hcond] at this
        rw [this]; congr 1; omega
      obtain ⟨hkh, hkl, hkw⟩ := key_words (val hi lo) k n.toNat m.toNat (by omega) (by omega) (ha.val hb) hr2 (by omega)
      rw [hi_val hi lo hb, show 128 - m.toNat = j by omega] at hkh
      rw [lo_val hi lo hb, show 128 - m.toNat = j by omega] at hkl
      have hR := raise_any k j (by omega)
      rw [hj] at hR
      have o1 : bits BinOp.or IntKind.u64 (hi : Int) (raiseH k j : Nat) = ((hiW (val hi lo + k * 2 ^ j) : Nat) : Int) := by rw [bits_or_u64_nat _ _ ha.lt (raiseH_w k j (by omega)).lt, hkh]
      have o2 : bits BinOp.or IntKind.u64 (lo : Int) (raiseL k j : Nat) = ((loW (val hi lo + k * 2 ^ j) : Nat) : Int) := by rw [bits_or_u64_nat _ _ hb.lt (raiseL_w k j).lt, hkl]
      have hm0 : 0 ≤ m := by omega
      have hm1 : m ≤ 128 := by omega
      have HR := Lib.hid hR
      have HO := Lib.hid (And.intro hcond (And.intro hj hkw))
      clear hR hcond hj hkh hkl hkw hcv hr0 hr1 hr2
      go_wp2_with fail
      refine (HR.out _).mono ?_
      rintro e w1 ⟨rfl, hb1⟩
      have hz1 := hw1.size
      have hgz := (hown.lt w0.heap.size rfl).2
      have hgz1 : w0.heap.size < w1.heap.size := Nat.lt_of_lt_of_le hgz hb1.size
      have hown1 := own_below hown hb1
      have hw2 := hw1.trans (hb1.mono hz1)
      obtain ⟨hc1, -⟩ := bcell hb1
      have c0 := (hc1 _ _ (by omega)).trans c0
      have c1 := (hc1 _ _ (by omega)).trans c1
      have hxl : xs.length = c * 3 := hown1.1
      obtain ⟨v0, d0⟩ : ∃ v, w1.cell? ⟨w0.heap.size, k * 3, none⟩ = some v := ⟨_, (hown1.cellAt (k * 3) (by omega)).trans (List.getElem?_eq_getElem (by omega))⟩
      obtain ⟨v1, d1⟩ : ∃ v, w1.cell? ⟨w0.heap.size, k * 3 + 1, none⟩ = some v := ⟨_, (hown1.cellAt (k * 3 + 1) (by omega)).trans (List.getElem?_eq_getElem (by omega))⟩
      obtain ⟨v2, d2⟩ : ∃ v, w1.cell? ⟨w0.heap.size, k * 3 + 2, none⟩ = some v := ⟨_, (hown1.cellAt (k * 3 + 2) (by omega)).trans (List.getElem?_eq_getElem (by omega))⟩
      have f0 := hown1.frozenAt (k * 3)
      have f1 := hown1.frozenAt (k * 3 + 1)
      have f2 := hown1.frozenAt (k * 3 + 2)
      have HXL := Lib.hid hxl
      have hwz1 : w.heap.size < w1.heap.size := by omega
      clear hc1 hown hw1 hb1 hxl
      go_wp2
      go_roundw
      case rel =>
        have S := (store3 hown1 k (.int .u64 (hiW (val hi lo + k * 2 ^ j) : Nat)) (.int .u64 (loW (val hi lo + k * 2 ^ j) : Nat)) (.int .i64 m)).alloc (.cells #[.int .u64 (raiseH k j : Nat), .int .u64 (raiseL k j : Nat)] 25)
        refine ⟨k + 1, _, by omega, by go_num, S, Lib.hid ?_, by go_grown, ?_, ?_⟩
        · have hcl : k < (keysV hi lo n m).length := by rw [HL.out]; exact hlt
          rw [set3_take _ _ _ _ _ (by have := HXL.out; omega), hxs.out, List.take_succ_eq_append_getElem hcl, pcs_append, pcs_one, keysV_at HO.out.1 hb k hcl, show 128 - m.toNat = j by have := HO.out.2.1; omega]
          rfl
        · simp [go_sem, c0, c1, hwz1]
        · simp [go_sem, c0, c1, hwz1]
      case measure => simp [intOf]; omega
    · go_wp2
      go_ret
      have hL := HL.out
      have hx := hxs.out
      have hkc : k = c := by omega
      rw [List.take_of_length_le (by rw [hown.1, hkc]; exact Nat.le_refl _), List.take_of_length_le (by omega)] at hx
      refine ⟨some ⟨w0.heap.size, 0, none⟩, c, by rw [hL]; rfl, ?_, hw1⟩
      rw [hL, ← hx]
      exact hown
end Go.Proofs.Ytlmampklgghngaa
/-
  Plain mathematics of what a level holds: the keys that a route makes there, the hop of a key, the set of a level; that a sorted row is known by its members; what an address finds. No condition but those that stand in each.
-/
set_option linter.unusedSimpArgs false
set_option linter.unusedVariables false
namespace Go.Proofs.Ytlmampklgghngaa
open M

def kyP (p : Pf) : Ky := ⟨hiW p.a, loW p.a, p.n⟩
/-- The keys of a prefix at length m. -/
def sprK (k : Ky) (m : Int) : List Ky := (keysV k.h k.l k.n m).map kyP
theorem mem_keysN (a m n x : Nat) : x ∈ keysN a m n ↔ ∃ i, i < 2 ^ (n - m) ∧ x = a + i * 2 ^ (128 - n) := by
  unfold keysN
  rw [List.mem_map]
  constructor
  · rintro ⟨i, hi, rfl⟩
    exact ⟨i, by simpa using hi, rfl⟩
  · rintro ⟨i, hi, rfl⟩
    exact ⟨i, by simpa using hi, rfl⟩
theorem has_right (h l : Nat) (n : Int) (a b : Nat) (hh : hasB h l n a b = true) : rightB h l n = true := ((hasB_iff _ _ _ _ _).1 hh).1
/-- WHICH KEYS A PREFIX MAKES. -/
theorem mem_spr {k : Ky} (g1 : W64 k.h) (g2 : W64 k.l) (q : Ky) (m : Int) :
    q ∈ sprK k m ↔ k.n ≤ m ∧ m ≤ 128 ∧ m - k.n ≤ 8 ∧ q.n = m ∧ W64 q.h ∧ W64 q.l ∧ rightB q.h q.l m = true ∧ hasB k.h k.l k.n q.h q.l = true := by
  obtain ⟨kh, kl, kn⟩ := k
  unfold sprK
  simp only at *
  by_cases hc : rightB kh kl kn = true ∧ kn ≤ m ∧ m ≤ 128 ∧ m - kn ≤ 8
  · rw [keysV_some hc]
    obtain ⟨c1, c2, c3, c4⟩ := hc
    obtain ⟨r0, r1, r2⟩ := (rightB_val _ _ _ g2).1 c1
    obtain ⟨n, rfl⟩ := Int.eq_ofNat_of_zero_le r0
    obtain ⟨M, rfl⟩ := Int.eq_ofNat_of_zero_le (show 0 ≤ m by omega)
    simp only [Int.toNat_natCast] at r2 ⊢
    have hnM : n ≤ M := by omega
    have hM2 : M ≤ 128 := by omega
    have hV := g1.val g2
    unfold pfs
    rw [List.map_map, List.mem_map]
    constructor
    · rintro ⟨x, hx, rfl⟩
      have hxw := keys_w _ n M hnM hM2 hV r2 x hx
      obtain ⟨i, hi, rfl⟩ := (mem_keysN _ _ _ _).1 hx
      refine ⟨by omega, by omega, by omega, rfl, hxw.1.hi, W128.lo, ?_, ?_⟩
      · show rightB (hiW _) (loW _) _ = true
        rw [rightB_val _ _ _ W128.lo, val_hl]
        exact ⟨by omega, by omega, by simpa using hxw.2⟩
      · show hasB kh kl _ (hiW _) (loW _) = true
        rw [hasB_val _ _ _ _ _ g2 W128.lo, val_hl]
        exact ⟨c1, by simpa using key_in _ n M i hnM hM2 r2 hi⟩
    · rintro ⟨-, -, -, q1, q2, q3, q4, q5⟩
      obtain ⟨-, -, d1⟩ := (rightB_val _ _ _ q3).1 q4
      have d2 := ((hasB_val _ _ _ _ _ g2 q3).1 q5).2
      simp only [Int.toNat_natCast] at d1 d2
      obtain ⟨X, hX⟩ : ∃ X, X = val q.h q.l := ⟨_, rfl⟩
      rw [← hX] at d1 d2
      refine ⟨X, (mem_keysN _ _ _ _).2 ?_, ?_⟩
      · obtain ⟨y, hy⟩ := d1
        obtain ⟨v, hv⟩ := r2
        have e1 : 2 ^ (128 - n) = 2 ^ (128 - M) * 2 ^ (M - n) := by rw [← Nat.pow_add]; congr 1; omega
        have p1 : 0 < 2 ^ (128 - n) := Nat.two_pow_pos _
        have p2 : 0 < 2 ^ (128 - M) := Nat.two_pow_pos _
        have p3 : 0 < 2 ^ (M - n) := Nat.two_pow_pos _
        have d3 : val kh kl / 2 ^ (128 - n) = v := by rw [hv, Nat.mul_div_cancel_left _ p1]
        rw [d3, hy, e1, Nat.mul_div_mul_left _ _ p2] at d2
        refine ⟨y % 2 ^ (M - n), Nat.mod_lt _ p3, ?_⟩
        have h5 := Nat.div_add_mod y (2 ^ (M - n))
        rw [d2] at h5
        rw [hv, e1, hy, Nat.mul_assoc, Nat.mul_comm (y % _), ← Nat.mul_add, h5]
      · show (⟨hiW X, loW X, (M : Int)⟩ : Ky) = q
        obtain ⟨a, b, c⟩ := q
        simp only at *
        rw [hX, hi_val _ _ q3, lo_val _ _ q3, q1]
  · rw [keysV_none hc]
    refine ⟨fun h => (by cases h), fun h => absurd ⟨has_right _ _ _ _ _ h.2.2.2.2.2.2.2, h.1, h.2.1, h.2.2.1⟩ hc⟩
/-- The hop of a key. -/
def hopK (N : List Rt) (low : Int) (k : Ky) : Option Int := (lngI N (candB k.h k.l low k.n) N.length).map fun i => (N.getD i ⟨⟨0, 0, 0⟩, 0⟩).v
def hopV (N : List Rt) (low : Int) (k : Ky) : Int := (hopK N low k).getD 0
def insB (low high : Int) (r : Rt) : Bool := decide (low < r.k.n) && decide (r.k.n ≤ high)
/-- The keys of a level, in whichever order, some of them twice. -/
def keysS (N : List Rt) (low high : Int) : List Ky := (N.filter (insB low high)).flatMap fun r => sprK r.k high
/-- WHAT A LEVEL HOLDS. -/
def setS (N : List Rt) (low high : Int) : List Rt := if low < high then sortR ((keysS N low high).map fun k => ⟨k, hopV N low k⟩) else []
theorem sorted_ext {L M : List Rt} (hL : Sorted L) (hM : Sorted M) (h : ∀ q, q ∈ L ↔ q ∈ M) : L = M :=
  sorted_eq hL hM ((List.perm_ext_iff_of_nodup (nodup_sorted hL) (nodup_sorted hM)).2 h)
theorem filter_fun (f : Ky → Int) (k : Ky) : ∀ K : List Ky, ((K.map fun k => (⟨k, f k⟩ : Rt)).filter fun r => decide (r.k = k)).getLast? = if k ∈ K then some ⟨k, f k⟩ else none
  | [] => rfl
  | a :: K => by
    have ih := filter_fun f k K
    rw [List.map_cons, List.filter_cons]
    by_cases h : a = k
    · subst h
      simp only [decide_true, if_true]
      rw [List.getLast?_cons, ih]
      by_cases h2 : a ∈ K
      · rw [if_pos h2, if_pos (List.mem_cons_self)]
        rfl
      · rw [if_neg h2, if_pos (List.mem_cons_self)]
        rfl
    · rw [if_neg (by simpa using h), ih]
      by_cases h2 : k ∈ K
      · rw [if_pos h2, if_pos (List.mem_cons_of_mem _ h2)]
      · rw [if_neg h2, if_neg (fun e => by rcases List.mem_cons.1 e with e | e; exact h e.symm; exact h2 e)]
theorem sortR_fun (K : List Ky) (f : Ky → Int) : Sorted (sortR (K.map fun k => ⟨k, f k⟩)) ∧ ∀ q, q ∈ sortR (K.map fun k => (⟨k, f k⟩ : Rt)) ↔ q.k ∈ K ∧ q.v = f q.k := by
  obtain ⟨h1, h2⟩ := sortR_mem (K.map fun k => (⟨k, f k⟩ : Rt))
  refine ⟨h1, fun q => ?_⟩
  rw [h2]
  unfold lst
  rw [filter_fun]
  obtain ⟨k, v⟩ := q
  by_cases h : k ∈ K
  · rw [if_pos h]
    simp only [h, true_and]
    constructor
    · intro e
      injection e with e
      injection e with _ e
      exact e.symm
    · rintro rfl; rfl
  · rw [if_neg h]
    simp [h]
theorem set_sorted (N : List Rt) (low high : Int) : Sorted (setS N low high) := by
  unfold setS
  split
  · exact (sortR_fun _ _).1
  · exact List.Pairwise.nil
theorem mem_setS (N : List Rt) (low high : Int) (q : Rt) : q ∈ setS N low high ↔ low < high ∧ q.k ∈ keysS N low high ∧ q.v = hopV N low q.k := by
  unfold setS
  by_cases h : low < high
  · rw [if_pos h, (sortR_fun _ _).2]
    simp [h]
  · rw [if_neg h]
    simp [h]
/-- A row that is sorted and has just these members is the level's. -/
theorem set_one {M N : List Rt} {low high : Int} (hM : Sorted M) (h : ∀ q, q ∈ M ↔ low < high ∧ q.k ∈ keysS N low high ∧ q.v = hopV N low q.k) : M = setS N low high :=
  sorted_ext hM (set_sorted N low high) fun q => by rw [h, mem_setS]
theorem mem_outK18 {L : List Rt} {k : Ky} {q : Rt} : q ∈ outS L k ↔ q ∈ L ∧ q.k ≠ k := by unfold outS; rw [List.mem_filter]; simp
theorem one_key18 {L : List Rt} (hn : (keysR L).Nodup) {a b : Rt} (ha : a ∈ L) (hb : b ∈ L) (h : a.k = b.k) : a = b := by
  have := (split_key hn hb).mem_iff.1 ha
  rcases List.mem_cons.1 this with e | e
  · exact e
  · exact absurd h (mem_outK18.1 e).2
/-- Sorted again it is as it was. -/
theorem sortR_sorted {L : List Rt} (h : Sorted L) : sortR L = L := by
  obtain ⟨h1, h2⟩ := sortR_mem L
  refine sorted_ext h1 h fun q => ?_
  rw [h2]
  have hn := h.nodup
  constructor
  · intro e
    unfold lst at e
    exact (List.mem_filter.1 (List.mem_of_getLast? e)).1
  · intro hq
    unfold lst
    have hall : ∀ x ∈ L.filter (fun r => decide (r.k = q.k)), x = q := fun x hx => by
      obtain ⟨h3, h4⟩ := List.mem_filter.1 hx
      have h4 : x.k = q.k := of_decide_eq_true h4
      exact one_key18 hn h3 hq h4
    cases hl : (L.filter fun r => decide (r.k = q.k)).getLast? with
    | none =>
      have := List.getLast?_eq_none_iff.1 hl
      have hm : q ∈ L.filter (fun r => decide (r.k = q.k)) := List.mem_filter.2 ⟨hq, by simp⟩
      rw [this] at hm
      cases hm
    | some x => rw [hall x (List.mem_of_getLast? hl)]
end Go.Proofs.Ytlmampklgghngaa
