/-
  What the reference's Set hands back. No condition but that the routes lie in memory, their words are words, and they are at most 4000.
-/
import Derived.Test.YtcfioplbbbaeoaaM14
import Derived.Test.YtcfioplbbbaeoaaRef15
import Derived.Test.YtcfioplbbbaeoaaW4b
import Derived.Test.YtcfioplbbbaeoaaAppR
import Derived.Deep.RegionHeld3
import Derived.Deep.AppendLies
import Derived.Test.YtcfioplbbbaeoaaRL14
/-
  Plain mathematics of what a level holds: the keys that a route makes there, the hop of a key, the set of a level; that a sorted row is known by its members; what an address finds. No condition but those that stand in each.
-/
set_option linter.unusedSimpArgs false
set_option linter.unusedVariables false
namespace Go.Proofs.Ytcfioplbbbaeoaa
open M

def kyP (p : Pf) : Ky := ⟨hiW p.a, loW p.a, p.n⟩
/-- The keys of a prefix at length m. -/
def sprK (k : Ky) (m : Int) : List Ky := (keysV k.h k.l k.n m).map kyP
theorem mem_keysN (a m n x : Nat) : x ∈ keysN a m n ↔ ∃ i, i < 2 ^ (n - m) ∧ x = a + i * 2 ^ (128 - n) := by
  unfold keysN
  rw [List.mem_map]
  constructor
  · rintro ⟨i, hi, rfl⟩
    exact ⟨i, by simpa using hi, rfl⟩
  · rintro ⟨i, hi, rfl⟩
    exact ⟨i, by simpa using hi, rfl⟩
theorem has_right (h l : Nat) (n : Int) (a b : Nat) (hh : hasB h l n a b = true) : rightB h l n = true := ((hasB_iff _ _ _ _ _).1 hh).1
/-- WHICH KEYS A PREFIX MAKES. -/
theorem mem_spr {k : Ky} (g1 : W64 k.h) (g2 : W64 k.l) (q : Ky) (m : Int) :
    q ∈ sprK k m ↔ k.n ≤ m ∧ m ≤ 128 ∧ m - k.n ≤ 8 ∧ q.n = m ∧ W64 q.h ∧ W64 q.l ∧ rightB q.h q.l m = true ∧ hasB k.h k.l k.n q.h q.l = true := by
  obtain ⟨kh, kl, kn⟩ := k
  unfold sprK
  simp only at *
  by_cases hc : rightB kh kl kn = true ∧ kn ≤ m ∧ m ≤ 128 ∧ m - kn ≤ 8
  · rw [keysV_some hc]
    obtain ⟨c1, c2, c3, c4⟩ := hc
    obtain ⟨r0, r1, r2⟩ := (rightB_val _ _ _ g2).1 c1
    obtain ⟨n, rfl⟩ := Int.eq_ofNat_of_zero_le r0
    obtain ⟨M, rfl⟩ := Int.eq_ofNat_of_zero_le (show 0 ≤ m by omega)
    simp only [Int.toNat_natCast] at r2 ⊢
    have hnM : n ≤ M := by omega
    have hM2 : M ≤ 128 := by omega
    have hV := g1.val g2
    unfold pfs
    rw [List.map_map, List.mem_map]
    constructor
    · rintro ⟨x, hx, rfl⟩
      have hxw := keys_w _ n M hnM hM2 hV r2 x hx
      obtain ⟨i, hi, rfl⟩ := (mem_keysN _ _ _ _).1 hx
      refine ⟨by omega, by omega, by omega, rfl, hxw.1.hi, W128.lo, ?_, ?_⟩
      · show rightB (hiW _) (loW _) _ = true
        rw [rightB_val _ _ _ W128.lo, val_hl]
        exact ⟨by omega, by omega, by simpa using hxw.2⟩
      · show hasB kh kl _ (hiW _) (loW _) = true
        rw [hasB_val _ _ _ _ _ g2 W128.lo, val_hl]
        exact ⟨c1, by simpa using key_in _ n M i hnM hM2 r2 hi⟩
    · rintro ⟨-, -, -, q1, q2, q3, q4, q5⟩
      obtain ⟨-, -, d1⟩ := (rightB_val _ _ _ q3).1 q4
      have d2 := ((hasB_val _ _ _ _ _ g2 q3).1 q5).2
      simp only [Int.toNat_natCast] at d1 d2
      obtain ⟨X, hX⟩ : ∃ X, X = val q.h q.l := ⟨_, rfl⟩
      rw [← hX] at d1 d2
      refine ⟨X, (mem_keysN _ _ _ _).2 ?_, ?_⟩
      · obtain ⟨y, hy⟩ := d1
        obtain ⟨v, hv⟩ := r2
        have e1 : 2 ^ (128 - n) = 2 ^ (128 - M) * 2 ^ (M - n) := by rw [← Nat.pow_add]; congr 1; omega
        have p1 : 0 < 2 ^ (128 - n) := Nat.two_pow_pos _
        have p2 : 0 < 2 ^ (128 - M) := Nat.two_pow_pos _
        have p3 : 0 < 2 ^ (M - n) := Nat.two_pow_pos _
        have d3 : val kh kl / 2 ^ (128 - n) = v := by rw [hv, Nat.mul_div_cancel_left _ p1]
        rw [d3, hy, e1, Nat.mul_div_mul_left _ _ p2] at d2
        refine ⟨y % 2 ^ (M - n), Nat.mod_lt _ p3, ?_⟩
        have h5 := Nat.div_add_mod y (2 ^ (M - n))
        rw [d2] at h5
        rw [hv, e1, hy, Nat.mul_assoc, Nat.mul_comm (y % _), ← Nat.mul_add, h5]
      · show (⟨hiW X, loW X, (M : Int)⟩ : Ky) = q
        obtain ⟨a, b, c⟩ := q
        simp only at *
        rw [hX, hi_val _ _ q3, lo_val _ _ q3, q1]
  · rw [keysV_none hc]
    refine ⟨fun h => (by cases h), fun h => absurd ⟨has_right _ _ _ _ _ h.2.2.2.2.2.2.2, h.1, h.2.1, h.2.2.1⟩ hc⟩
/-- The hop of a key. -/
def hopK (N : List Rt) (low : Int) (k : Ky) : Option Int := (lngI N (candB k.h k.l low k.n) N.length).map fun i => (N.getD i ⟨⟨0, 0, 0⟩, 0⟩).v
def hopV (N : List Rt) (low : Int) (k : Ky) : Int := (hopK N low k).getD 0
def insB (low high : Int) (r : Rt) : Bool := decide (low < r.k.n) && decide (r.k.n ≤ high)
/-- The keys of a level, in whichever order, some of them twice. -/
def keysS (N : List Rt) (low high : Int) : List Ky := (N.filter (insB low high)).flatMap fun r => sprK r.k high
/-- WHAT A LEVEL HOLDS. -/
def setS (N : List Rt) (low high : Int) : List Rt := if low < high then sortR ((keysS N low high).map fun k => ⟨k, hopV N low k⟩) else []
theorem sorted_ext {L M : List Rt} (hL : Sorted L) (hM : Sorted M) (h : ∀ q, q ∈ L ↔ q ∈ M) : L = M :=
  sorted_eq hL hM ((List.perm_ext_iff_of_nodup (nodup_sorted hL) (nodup_sorted hM)).2 h)
theorem filter_fun (f : Ky → Int) (k : Ky) : ∀ K : List Ky, ((K.map fun k => (⟨k, f k⟩ : Rt)).filter fun r => decide (r.k = k)).getLast? = if k ∈ K then some ⟨k, f k⟩ else none
  | [] => rfl
  | a :: K => by
    have ih := filter_fun f k K
    rw [List.map_cons, List.filter_cons]
    by_cases h : a = k
    · subst h
      simp only [decide_true, if_true]
      rw [List.getLast?_cons, ih]
      by_cases h2 : a ∈ K
      · rw [if_pos h2, if_pos (List.mem_cons_self)]
        rfl
      · rw [if_neg h2, if_pos (List.mem_cons_self)]
        rfl
    · rw [if_neg (by simpa using h), ih]
      by_cases h2 : k ∈ K
      · rw [if_pos h2, if_pos (List.mem_cons_of_mem _ h2)]
      · rw [if_neg h2, if_neg (fun e => by rcases List.mem_cons.1 e with e | e; exact h e.symm; exact h2 e)]
theorem sortR_fun (K : List Ky) (f : Ky → Int) : Sorted (sortR (K.map fun k => ⟨k, f k⟩)) ∧ ∀ q, q ∈ sortR (K.map fun k => (⟨k, f k⟩ : Rt)) ↔ q.k ∈ K ∧ q.v = f q.k := by
  obtain ⟨h1, h2⟩ := sortR_mem (K.map fun k => (⟨k, f k⟩ : Rt))
  refine ⟨h1, fun q => ?_⟩
  rw [h2]
  unfold lst
  rw [filter_fun]
  obtain ⟨k, v⟩ := q
  by_cases h : k ∈ K
  · rw [if_pos h]
    simp only [h, true_and]
    constructor
    · intro e
      injection e with e
      injection e with _ e
      exact e.symm
    · rintro rfl; rfl
  · rw [if_neg h]
    simp [h]
theorem set_sorted (N : List Rt) (low high : Int) : Sorted (setS N low high) := by
  unfold setS
  split
  · exact (sortR_fun _ _).1
  · exact List.Pairwise.nil
theorem mem_setS (N : List Rt) (low high : Int) (q : Rt) : q ∈ setS N low high ↔ low < high ∧ q.k ∈ keysS N low high ∧ q.v = hopV N low q.k := by
  unfold setS
  by_cases h : low < high
  · rw [if_pos h, (sortR_fun _ _).2]
    simp [h]
  · rw [if_neg h]
    simp [h]
/-- A row that is sorted and has just these members is the level's. -/
theorem set_one {M N : List Rt} {low high : Int} (hM : Sorted M) (h : ∀ q, q ∈ M ↔ low < high ∧ q.k ∈ keysS N low high ∧ q.v = hopV N low q.k) : M = setS N low high :=
  sorted_ext hM (set_sorted N low high) fun q => by rw [h, mem_setS]
theorem mem_outK18 {L : List Rt} {k : Ky} {q : Rt} : q ∈ outS L k ↔ q ∈ L ∧ q.k ≠ k := by unfold outS; rw [List.mem_filter]; simp
theorem one_key18 {L : List Rt} (hn : (keysR L).Nodup) {a b : Rt} (ha : a ∈ L) (hb : b ∈ L) (h : a.k = b.k) : a = b := by
  have := (split_key hn hb).mem_iff.1 ha
  rcases List.mem_cons.1 this with e | e
  · exact e
  · exact absurd h (mem_outK18.1 e).2
/-- Sorted again it is as it was. -/
theorem sortR_sorted {L : List Rt} (h : Sorted L) : sortR L = L := by
  obtain ⟨h1, h2⟩ := sortR_mem L
  refine sorted_ext h1 h fun q => ?_
  rw [h2]
  have hn := h.nodup
  constructor
  · intro e
    unfold lst at e
    exact (List.mem_filter.1 (List.mem_of_getLast? e)).1
  · intro hq
    unfold lst
    have hall : ∀ x ∈ L.filter (fun r => decide (r.k = q.k)), x = q := fun x hx => by
      obtain ⟨h3, h4⟩ := List.mem_filter.1 hx
      have h4 : x.k = q.k := of_decide_eq_true h4
      exact one_key18 hn h3 hq h4
    cases hl : (L.filter fun r => decide (r.k = q.k)).getLast? with
    | none =>
      have := List.getLast?_eq_none_iff.1 hl
      have hm : q ∈ L.filter (fun r => decide (r.k = q.k)) := List.mem_filter.2 ⟨hq, by simp⟩
      rw [this] at hm
      cases hm
    | some x => rw [hall x (List.mem_of_getLast? hl)]
end Go.Proofs.Ytcfioplbbbaeoaa
/-
  What the reference's Keys and SamePrefixes hand back. No condition but that the words are words of 64 bits, and that the rows compared lie where they are said to.
-/
set_option linter.unusedSimpArgs false
set_option linter.unusedVariables false
namespace Go.Proofs.Ytcfioplbbbaeoaa
open Go.RowKit Go.Sort M

theorem neq_pf (a b : Pf) (w : World) : (binOp .neq 41 (.agg #[.int .u64 (hiW a.a : Nat), .int .u64 (loW a.a : Nat), .int .i64 a.n]) (.agg #[.int .u64 (hiW b.a : Nat), .int .u64 (loW b.a : Nat), .int .i64 b.n])).run Try.prog w =
    .ok (.bool (!decide (a = b))) w := by
  have e1 : decide (a = b) = (decide ((hiW a.a : Int) = hiW b.a) && (decide ((loW a.a : Int) = loW b.a) && decide (a.n = b.n))) := by
    rw [← Bool.decide_and, ← Bool.decide_and, decide_eq_decide]
    constructor
    · rintro rfl; exact ⟨rfl, rfl, rfl⟩
    · rintro ⟨h1, h2, h3⟩
      have := hl_inj (by omega : hiW a.a = hiW b.a) (by omega)
      cases a; cases b
      simp_all
  rw [e1]
  by_cases h1 : (hiW a.a : Int) = hiW b.a <;> by_cases h2 : (loW a.a : Int) = loW b.a <;> by_cases h3 : a.n = b.n <;> simp [go_sem, h1, h2, h3]

end Go.Proofs.Ytcfioplbbbaeoaa
/-
  What the reference's Hop and Set hand back. No condition but that the routes lie in memory, their words are words, and they are short of a million.
-/
set_option linter.unusedSimpArgs false
set_option linter.unusedVariables false
namespace Go.Proofs.Ytcfioplbbbaeoaa
open Go Go.RowKit Go.Sort M

/-- A key as a value. -/
def kyA (k : Ky) : Value := .agg #[.int .u64 (k.h : Int), .int .u64 (k.l : Int), .int .i64 k.n]
theorem sortR_sub {l : List Rt} {q : Rt} (h : q ∈ sortR l) : q ∈ l := by
  have h := ((sortR_mem l).2 q).1 h
  unfold lst at h
  exact (List.mem_filter.1 (List.mem_of_getLast? h)).1
/-- What Hop hands back. -/
def hopA (N : List Rt) (low : Int) (k : Ky) : Value := .tuple #[.int .i64 (hopV N low k), .bool (hopK N low k).isSome]
set_option maxHeartbeats 1000000 in
theorem rhop18_any (p : Option Addr) (c : Nat) (L : List Rt) (k : Ky) (low : Int) (w : World) (hR : Row w p (rcs L)) (hg : ∀ x ∈ L, x.k.good) (hk : k.good) (hl : L.length < 1048576) :
    Calls Try.prog 15 #[.slice p L.length c, kyA k, .int .i64 low] w fun e w' => e = .returned (hopA (sortR L) low k) ∧ Below w.heap.size w w' := by
  have hS := fun W (hW : Below w.heap.size w W) => rsorted_any p c L W (hR.below hW) hl
  have hlen := sortR_len L
  obtain ⟨N, hN⟩ : ∃ N, N = sortR L := ⟨_, rfl⟩
  have hgN : ∀ x ∈ N, x.k.good := fun x hx => hg x (sortR_sub (by rw [← hN]; exact hx))
  rw [← hN] at hS hlen ⊢
  have hLg := fun (q : Option Addr) d W (h : Row W q (rcs N)) => rlongest_any q d N k.h k.l low k.n hk.1 hk.2 W h hgN (by omega)
  obtain ⟨kh, kl, kn⟩ := k
  unfold kyA
  simp only at hLg ⊢
  cases hlg : lngI N (candB kh kl low kn) N.length with
  | none =>
    have hA : hopA N low ⟨kh, kl, kn⟩ = .tuple #[.int .i64 0, .bool false] := by unfold hopA hopV hopK; simp only; rw [hlg]; rfl
    rw [hA]
    rw [hlg] at hLg
    have HS := Lib.hid hS
    have HLG : Hid (∀ (q : Option Addr) d W, Row W q (rcs N) → Calls Try.prog 22 #[.slice q N.length d, .agg #[.int .u64 (kh : Int), .int .u64 (kl : Int)], .int .i64 low, .int .i64 kn] W fun e w' => e = .returned (.int .i64 (-1)) ∧ Below W.heap.size W w') := Lib.hid hLg
    clear hS hLg hA hN hgN hg hR hk hlg
    go_enter Try.func15, Try.ntmps15
    go_wp2_with fail
    refine (HS.out _ (by go_grown)).mono ?_
    rintro e w1 ⟨p1, c1, rfl, ho1, hb1⟩
    have c0 : w1.cell? ⟨w.heap.size, 0, none⟩ = some (.int .u64 (kh : Int)) := by
      rw [hb1.cell (by simp <;> omega)]
      first | assumption | (simp [go_sem]; done) | (simp [go_sem, *]; done)
    have c1' : w1.cell? ⟨w.heap.size, 1, none⟩ = some (.int .u64 (kl : Int)) := by
      rw [hb1.cell (by simp <;> omega)]
      first | assumption | (simp [go_sem]; done) | (simp [go_sem, *]; done)
    have c2 : w1.cell? ⟨w.heap.size, 2, none⟩ = some (.int .i64 kn) := by
      rw [hb1.cell (by simp <;> omega)]
      first | assumption | (simp [go_sem]; done) | (simp [go_sem, *]; done)
    have hw1 : Below w.heap.size w w1 := Below.trans (by go_grown) (hb1.mono (by simp))
    have hrow := Lib.hid (Row.of_own ho1)
    clear ho1 hb1
    go_wp2_with fail
    refine (HLG.out _ _ _ hrow.out).mono ?_
    rintro e w2 ⟨rfl, hb2⟩
    have hw2 := hw1.trans (hb2.mono hw1.size)
    go_wp2
    go_ret2
    exact ⟨rfl, hw2⟩
  | some b =>
    have hbl := lng_lt hlg
    have hA : hopA N low ⟨kh, kl, kn⟩ = .tuple #[.int .i64 N[b].v, .bool true] := by
      unfold hopA hopV hopK
      simp only
      rw [hlg]
      show Value.tuple #[.int .i64 (N.getD b _).v, .bool true] = _
      rw [getD_at hbl]
    rw [hA]
    rw [hlg] at hLg
    have HS := Lib.hid hS
    have HLG : Hid (∀ (q : Option Addr) d W, Row W q (rcs N) → Calls Try.prog 22 #[.slice q N.length d, .agg #[.int .u64 (kh : Int), .int .u64 (kl : Int)], .int .i64 low, .int .i64 kn] W fun e w' => e = .returned (.int .i64 (b : Int)) ∧ Below W.heap.size W w') := Lib.hid hLg
    have i1 : (0 : Int) ≤ (b : Int) := by omega
    have i2 : (b : Int) < (N.length : Int) := by omega
    obtain ⟨v, hv⟩ : ∃ v, v = N[b].v := ⟨_, rfl⟩
    rw [← hv]
    have HV := Lib.hid hv
    clear hS hLg hA hN hgN hg hR hk hlg hv
    go_enter Try.func15, Try.ntmps15
    go_wp2_with fail
    refine (HS.out _ (by go_grown)).mono ?_
    rintro e w1 ⟨p1, c1, rfl, ho1, hb1⟩
    have c0 : w1.cell? ⟨w.heap.size, 0, none⟩ = some (.int .u64 (kh : Int)) := by
      rw [hb1.cell (by simp <;> omega)]
      first | assumption | (simp [go_sem]; done) | (simp [go_sem, *]; done)
    have c1' : w1.cell? ⟨w.heap.size, 1, none⟩ = some (.int .u64 (kl : Int)) := by
      rw [hb1.cell (by simp <;> omega)]
      first | assumption | (simp [go_sem]; done) | (simp [go_sem, *]; done)
    have c2 : w1.cell? ⟨w.heap.size, 2, none⟩ = some (.int .i64 kn) := by
      rw [hb1.cell (by simp <;> omega)]
      first | assumption | (simp [go_sem]; done) | (simp [go_sem, *]; done)
    have hw1 : Below w.heap.size w w1 := Below.trans (by go_grown) (hb1.mono (by simp))
    have hrow := Row.of_own ho1
    have HROW := Lib.hid hrow
    obtain ⟨g, o, rfl, hg1, -, -, -, x3⟩ := hrow.rt hbl
    rw [← HV.out] at x3
    clear ho1 hb1 hrow
    go_wp2_with fail
    refine (HLG.out _ _ _ HROW.out).mono ?_
    rintro e w2 ⟨rfl, hb2⟩
    have hw2 := hw1.trans (hb2.mono hw1.size)
    have x3 := (hb2.cell (p := ⟨g, o + b * 4 + 3, none⟩) hg1).trans x3
    go_wp2
    go_ret2
    exact ⟨rfl, hw2⟩
end Go.Proofs.Ytcfioplbbbaeoaa
/-
  What the reference's Set hands back. No condition but that the routes lie in memory, their words are words, and they are at most 4000.
-/
set_option linter.unusedSimpArgs false
set_option linter.unusedVariables false
namespace Go.Proofs.Ytcfioplbbbaeoaa
open Go Go.RowKit Go.Sort M

/-- The routes of keys, each once, in order. -/
def fS (N : List Rt) (low : Int) (K : List Ky) : List Rt := sortR (K.map fun k => ⟨k, hopV N low k⟩)
theorem fS_snoc (N : List Rt) (low : Int) (K : List Ky) (k : Ky) : fS N low (K ++ [k]) = intoS (fS N low K) ⟨k, hopV N low k⟩ := by
  unfold fS
  rw [List.map_append, List.map_cons, List.map_nil, sortR_snoc]
theorem fS_len (N : List Rt) (low : Int) (K : List Ky) : (fS N low K).length ≤ K.length := by
  have := sortR_len (K.map fun k => (⟨k, hopV N low k⟩ : Rt))
  rwa [List.length_map] at this
theorem spr_len (k : Ky) (g : W64 k.l) (m : Int) : (sprK k m).length ≤ 256 := by
  unfold sprK
  rw [List.length_map, keysV_len _ _ _ _ g]
  exact cnt_le _ _ _ _
theorem keysS_in (N : List Rt) (low high : Int) (i : Nat) (h : i < N.length) (hc : insB low high N[i] = true) : keysS (N.take (i + 1)) low high = keysS (N.take i) low high ++ sprK N[i].k high := by
  unfold keysS
  rw [List.take_succ_eq_append_getElem h, List.filter_append, List.flatMap_append]
  congr 1
  simp [hc]
theorem keysS_out (N : List Rt) (low high : Int) (i : Nat) (h : i < N.length) (hc : insB low high N[i] = false) : keysS (N.take (i + 1)) low high = keysS (N.take i) low high := by
  unfold keysS
  rw [List.take_succ_eq_append_getElem h, List.filter_append, List.flatMap_append]
  simp [hc]
theorem keysS_len (N : List Rt) (low high : Int) (hg : ∀ r ∈ N, r.k.good) : ∀ i, i ≤ N.length → (keysS (N.take i) low high).length ≤ 256 * i
  | 0, _ => by simp [keysS]
  | i + 1, h => by
    have ih := keysS_len N low high hg i (by omega)
    have hi : i < N.length := by omega
    cases hc : insB low high N[i] with
    | true =>
      rw [keysS_in N low high i hi hc, List.length_append]
      have := spr_len N[i].k (hg _ (List.getElem_mem hi)).2 high
      omega
    | false =>
      rw [keysS_out N low high i hi hc]
      omega
theorem spr_at (k : Ky) (m : Int) (j : Nat) (h : j < (keysV k.h k.l k.n m).length) : (sprK k m)[j]'(by unfold sprK; rw [List.length_map]; exact h) = kyP (keysV k.h k.l k.n m)[j] := by simp [sprK]
theorem spr_good {k : Ky} (g : k.good) (m : Int) {q : Ky} (h : q ∈ sprK k m) : q.good := by
  have := (mem_spr g.1 g.2 q m).1 h
  exact ⟨this.2.2.2.2.1, this.2.2.2.2.2.1⟩
end Go.Proofs.Ytcfioplbbbaeoaa
