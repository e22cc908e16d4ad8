/-
  What the reference's Hop and Set hand back. No condition but that the routes lie in memory, their words are words, and they are short of a million.
-/
import Derived.Test.YtlmampklgghngaaAppR
import Derived.Test.YtlmampklgghngaaM18
import Derived.Deep.RegionHeld3
import Derived.Deep.AppendLies
import Derived.Test.YtlmampklgghngaaRef15
import Derived.Test.YtlmampklgghngaaRL14
/-
  What the reference's Keys and SamePrefixes hand back. No condition but that the words are words of 64 bits, and that the rows compared lie where they are said to.
-/
set_option linter.unusedSimpArgs false
set_option linter.unusedVariables false
namespace Go.Proofs.Ytlmampklgghngaa
open Go.RowKit Go.Sort M

theorem neq_pf (a b : Pf) (w : World) : (binOp .neq 27 (.agg #[.int .u64 (hiW a.a : Nat), .int .u64 (loW a.a : Nat), .int .i64 a.n]) (.agg #[.int .u64 (hiW b.a : Nat), .int .u64 (loW b.a : Nat), .int .i64 b.n])).run Try.prog w =
    .ok (.bool (!decide (a = b))) w := by
  have e1 : decide (a = b) = (decide ((hiW a.a : Int) = hiW b.a) && (decide ((loW a.a : Int) = loW b.a) && decide (a.n = b.n))) := by
    rw [← Bool.decide_and, ← Bool.decide_and, decide_eq_decide]
    constructor
    · rintro rfl; exact ⟨rfl, rfl, rfl⟩
    · rintro ⟨h1, h2, h3⟩
      have := hl_inj (by omega : hiW a.a = hiW b.a) (by omega)
      cases a; cases b
      simp_all
  rw [e1]
  by_cases h1 : (hiW a.a : Int) = hiW b.a <;> by_cases h2 : (loW a.a : Int) = loW b.a <;> by_cases h3 : a.n = b.n <;> simp [go_sem, h1, h2, h3]

set_option maxHeartbeats 2000000 in
theorem rkeys_any (hi lo : Nat) (n m : Int) (ha : W64 hi) (hb : W64 lo) :
    GivesRow 39 #[.agg #[.int .u64 hi, .int .u64 lo, .int .i64 n], .int .i64 m] (keysV hi lo n m) := by
  intro w
  have hr := rright_any hi lo n ha hb
  by_cases hcond : rightB hi lo n = true ∧ n ≤ m ∧ m ≤ 128 ∧ m - n ≤ 8
  · obtain ⟨hr0, hr1, hr2⟩ := (rightB_val hi lo n hb).1 hcond.1
    rw [hcond.1] at hr
    rw [keysV_some hcond]
    obtain ⟨-, h1, h2, h3⟩ := hcond
    obtain ⟨a, rfl⟩ := Int.eq_ofNat_of_zero_le hr0
    obtain ⟨b, rfl⟩ := Int.eq_ofNat_of_zero_le (show 0 ≤ m by omega)
    rw [Int.toNat_natCast] at hr2 ⊢
    rw [Int.toNat_natCast]
    have hab : a ≤ b := by omega
    have hb1 : b ≤ 128 := by omega
    have hb8 : b ≤ a + 8 := by omega
    have d1 : decide ((b : Int) < (a : Int)) = false := by simp; omega
    have d2 : decide ((128 : Int) < (b : Int)) = false := by simp; omega
    have d3 : decide ((8 : Int) < (b : Int) - (a : Int)) = false := by simp; omega
    have d4 : IntKind.i64.wrap ((b : Int) - (a : Int)) = (b : Int) - (a : Int) := by rw [IntWalk.i64_in _ (by omega)]
    have d5 : decide (b < a) = false := by simp; omega
    have hV := ha.val hb
    have e1 := hi_val hi lo hb
    have e2 := lo_val hi lo hb
    generalize val hi lo = V at hr2 hV e1 e2 ⊢
    have HV := Lib.hid (And.intro hr2 (And.intro hV (And.intro e1 e2)))
    have HR := Lib.hid hr
    clear hV e1 e2
    clear hr hr0 hr1 hr2 h1 h2 h3
    go_enter Try.func39, Try.ntmps39
    go_wp2_with fail
    refine (HR.out _).mono ?_
    rintro e0 w0 ⟨rfl, hb0⟩
    have hw0 : Below w.heap.size w w0 := by
      refine Below.trans ?_ (hb0.mono ?_)
      · go_grown
      · go_size
    have c0 : w0.cell? ⟨w.heap.size, 0, none⟩ = some (.int .u64 hi) := by
      rw [hb0.cell (by simp <;> omega)]
      first | assumption | (simp [go_sem]; done) | (simp [go_sem, *]; done)
    have c1 : w0.cell? ⟨w.heap.size, 1, none⟩ = some (.int .u64 lo) := by
      rw [hb0.cell (by simp <;> omega)]
      first | assumption | (simp [go_sem]; done) | (simp [go_sem, *]; done)
    have c2 : w0.cell? ⟨w.heap.size, 2, none⟩ = some (.int .i64 a) := by
      rw [hb0.cell (by simp <;> omega)]
      first | assumption | (simp [go_sem]; done) | (simp [go_sem, *]; done)
    have z0 : w.heap.size < w0.heap.size := by
      have hs := hb0.size
      try simp only [World.size_alloc, World.size_setCell] at hs
      omega
    have hownA : (w0.alloc (.cells #[.int .u64 hi, .int .u64 lo, .int .i64 b] 27)).ownsRow w.heap.size 27 3 (.slice (some ⟨w0.heap.size, 0, none⟩) 1 1) 1 [.int .u64 hi, .int .u64 lo, .int .i64 b] :=
      World.ownsRow_lit _ _ 1 (by omega) (by unfold maxLen; omega) rfl
    go_wp2
    go_loopw [5, 6] (fun l i wr => ∃ (s q : Nat) (p : Option Addr) (X : List Nat), a ≤ s ∧ s ≤ b ∧ i = .int .i64 s ∧ l = .slice p X.length q ∧ X.length ≤ 256 ∧ Hid (X = keysN V a s) ∧ wr.ownsRow w.heap.size 27 3 (.slice p X.length q) X.length (pcs (pfs X b)) ∧ Below w.heap.size w wr) (fun _ i _ => b - (intOf i).toNat)
    case atStart =>
      refine ⟨a, 1, some ⟨w0.heap.size, 0, none⟩, [V], Nat.le_refl _, hab, rfl, rfl, by simp, Lib.hid (keys_self V a).symm, ?_, by go_grown⟩
      have := HV.out.2.2
      have e : pcs (pfs [V] b) = [.int .u64 hi, .int .u64 lo, .int .i64 b] := by simp [pcs, pfs, pcell, this.1, this.2]
      rw [e]
      exact hownA
    case round =>
      clear hownA
      rename World => wo
      obtain ⟨s, q, p, X, hs1, hs2, rfl, rfl, hX, hXe, hown, hw1⟩ := hrel
      have hz1 := hw1.size
      by_cases hlt : s < b
      · go_wp2
        go_loopw [7, 8] (fun o i wq => ∃ (k q2 : Nat) (p2 : Option Addr) (Y : List Nat), k ≤ X.length ∧ i = .int .i64 k ∧ o = .slice p2 Y.length q2 ∧ Y.length ≤ 512 ∧ Hid (Y = dblN s (X.take k)) ∧ wq.ownsRow wo.heap.size 27 3 (.slice p2 Y.length q2) Y.length (pcs (pfs Y b)) ∧ Below wo.heap.size wo wq) (fun _ i _ => X.length - (intOf i).toNat)
        case atStart => exact ⟨0, 0, none, [], Nat.zero_le _, rfl, rfl, by simp, Lib.hid (by simp [dblN]), World.ownsRow_nil _ _ _ _, Below.refl _ _⟩
        case round =>
          obtain ⟨k, q2, p2, Y, hk, rfl, rfl, hY, hYe, hown2, hw2⟩ := hrel
          have hz2 := hw2.size
          have hw12 := hw1.trans (hw2.mono hz1)
          have hz12 : w.heap.size ≤ wr.heap.size := by omega
          have hownX := own_below hown hw2
          by_cases hkl : k < X.length
          · obtain ⟨x, hx⟩ : ∃ x, x = X[k] := ⟨_, rfl⟩
            obtain ⟨y, hy⟩ : ∃ y, y = x + 2 ^ (127 - s) := ⟨_, rfl⟩
            have hxw := keys_w V a s hs1 (by omega) HV.out.2.1 HV.out.1 x (by rw [hx, ← hXe.out]; exact List.getElem_mem hkl)
            obtain ⟨y1, y2, y3⟩ := on_words x s (by omega) hxw.1 hxw.2
            rw [← hy] at y1 y2 y3
            have hW : Gives Try.prog 43 #[.agg #[.int .u64 (hiW x : Nat), .int .u64 (loW x : Nat)], .int .i64 (s : Int)] (.agg #[.int .u64 (hiW y : Nat), .int .u64 (loW y : Nat)]) := by
              have := with_any (hiW x) (loW x) s hxw.1.hi W128.lo (by omega)
              unfold onHi onLo at this
              rwa [y1, y2] at this
            obtain ⟨g, o, e, hgo, c0, c1, c2⟩ := (Row.of_own hown).at_pfs hkl
            subst e
            rw [← hx] at c0 c1
            have hg : g < wr.heap.size := Nat.lt_of_lt_of_le hgo hz2
            have c0 := (hw2.cell (p := ⟨g, o + k * 3, none⟩) hgo).trans c0
            have c1 := (hw2.cell (p := ⟨g, o + k * 3 + 1, none⟩) hgo).trans c1
            have c2 := (hw2.cell (p := ⟨g, o + k * 3 + 2, none⟩) hgo).trans c2
            have hYe2 : Y ++ [x, y] = dblN s (X.take (k + 1)) := by rw [dbl_take_succ s X k hkl, hYe.out, hy, hx]
            have hYl : Y.length = 2 * k := by rw [hYe.out, dbl_len, List.length_take]; omega
            have hYl' : Y.length ≤ 510 := by omega
            have HW := Lib.hid hW
            have HY2 := Lib.hid hYe2
            obtain ⟨j0, hj0, jz0, jz1, jz2⟩ := info_parts infoP
            have i1 : (0 : Int) ≤ (k : Int) := by omega
            have i2 : (k : Int) < (X.length : Int) := by omega
            clear hW hYe2 hYe hYl hx hy y1 y2 hxw
            go_wp2_with fail
            go_region_held3 (fun w' => w'.cell? ⟨g, o + k * 3, none⟩ = some (.int .u64 (hiW x : Nat)) ∧ w'.cell? ⟨g, o + k * 3 + 1, none⟩ = some (.int .u64 (loW x : Nat)) ∧ w'.cell? ⟨g, o + k * 3 + 2, none⟩ = some (.int .i64 b))
              (first
                | go_keep
                | exact ⟨(hb3.cell (p := ⟨g, o + k * 3, none⟩) hg).trans c0, (hb3.cell (p := ⟨g, o + k * 3 + 1, none⟩) hg).trans c1, (hb3.cell (p := ⟨g, o + k * 3 + 2, none⟩) hg).trans c2⟩
                | exact ⟨keep_app (w0 := wr.drew) hb3 ((own_below (w := wr.drew) hown2 hb3).alloc _) hg4 hgo hg c0, keep_app (w0 := wr.drew) hb3 ((own_below (w := wr.drew) hown2 hb3).alloc _) hg4 hgo hg c1, keep_app (w0 := wr.drew) hb3 ((own_below (w := wr.drew) hown2 hb3).alloc _) hg4 hgo hg c2⟩)
              (first
                | (go_at_call 43; refine (HW.out _).mono ?_; rintro e w3 ⟨rfl, hb3⟩)
                | (refine step_append_lies _ (by rfl) _ _ _ (by rfl) wo.heap.size 27 j0 _ 3 24 Try.underlying59 hj0 jz0 jz1 jz2 rfl (by omega) (.slice p2 Y.length q2) Y.length (pcs (pfs Y b)) (by rfl) ((own_below (w := wr.drew) hown2 hb3).alloc _) ⟨w3.heap.size, 0, none⟩ 2 2 (pcell ⟨x, b⟩ ++ pcell ⟨y, b⟩) (by rfl) (by rfl) (new_cells w3 _ _) (by simp [pcell, Value.oneCell']) (by omega) (by unfold maxLen; omega) (by omega) (by have := hb3.size; simp at this ⊢; omega) _ rfl ?_; intro g4 q4 w4 hown4 hg4 hat4 hlt4))
            have hb3' : Below wo.heap.size wo w3 := hw2.drew.trans (hb3.mono hz2)
            have hb4 : Below wo.heap.size wo w4 := (hb3'.alloc hb3'.size _).grown hg4 (by have := hb3'.size; simp; omega) (fun j hj => (hown2.lt j hj).1)
            have hownN : w4.ownsRow wo.heap.size 27 3 (.slice (some ⟨g4, 0, none⟩) (Y ++ [x, y]).length q4) (Y ++ [x, y]).length (pcs (pfs (Y ++ [x, y]) b)) := by
              have e1 : pcs (pfs (Y ++ [x, y]) b) = pcs (pfs Y b) ++ (pcell ⟨x, b⟩ ++ pcell ⟨y, b⟩) := by simp [pfs_append, pcs_append, pfs, pcs]
              rw [e1, List.length_append]
              exact hown4
            have hLe : (Y ++ [x, y]).length = Y.length + 2 := by simp
            have HLE := Lib.hid hLe
            clear hLe hown4 hg4 hb3 hb3' hown2 hownX hat4
            go_wp2
            go_roundw
            case rel => exact ⟨k + 1, q4, some ⟨g4, 0, none⟩, Y ++ [x, y], by omega, by go_num, by rw [HLE.out], by rw [HLE.out]; omega, HY2, hownN, hb4⟩
            case measure => simp [intOf]; omega
          · have hkX : k = X.length := by omega
            clear hownX
            have hE : Hid (Y = keysN V a (s + 1)) := by
              have := dbl_keys V a (s - a) (by omega)
              rw [show a + (s - a) = s by omega, ← hXe.out] at this
              rw [hYe.out, hkX, List.take_length, this]; exact Lib.hid rfl
            have hYl : Y.length ≤ 256 := by
              rw [hE.out, keys_len]
              exact Nat.pow_le_pow_right (by decide) (by omega : s + 1 - a ≤ 8)
            have hownN := own_le hown2 hz1
            clear hXe hYe hkX hown2
            go_wp2
            go_roundw
            case rel => exact ⟨s + 1, q2, p2, Y, by omega, by omega, by go_num, rfl, hYl, hE, hownN, hw12⟩
            case measure => simp [intOf]; omega
      · have hsb : s = b := by omega
        subst hsb
        go_wp2
        go_ret
        rw [← hXe.out]
        refine ⟨p, q, ?_, ?_, hw1⟩
        · rw [pfs_len]; rfl
        · rw [pfs_len]; exact hown
  · rw [keysV_none hcond]
    cases hR : rightB hi lo n
    · rw [hR] at hr
      have HR := Lib.hid hr
      clear hr hR hcond
      go_enter Try.func39, Try.ntmps39
      go_wp2_with fail
      refine (HR.out _).mono ?_
      rintro e0 w0 ⟨rfl, hb0⟩
      have hw0 : Below w.heap.size w w0 := by
        refine Below.trans ?_ (hb0.mono ?_)
        · go_grown
        · go_size
      have c2 : w0.cell? ⟨w.heap.size, 2, none⟩ = some (.int .i64 n) := by
        rw [hb0.cell (by simp <;> omega)]
        first | assumption | (simp [go_sem]; done) | (simp [go_sem, *]; done)
      go_wp2
      all_goals
        go_ret
        exact ⟨none, 0, rfl, World.ownsRow_nil _ _ _ _, by go_grown⟩
    · have hrv := (rightB_val hi lo n hb).1 hR
      rw [hR] at hr
      have HR := Lib.hid hr
      have n0 : 0 ≤ n := hrv.1
      have n1 : n ≤ 128 := hrv.2.1
      have hc2 : n ≤ m → m ≤ 128 → 8 < m - n := fun h1 h2 => by
        have : ¬ (m - n ≤ 8) := fun h3 => hcond ⟨hR, h1, h2, h3⟩
        omega
      clear hr hR hcond hrv
      by_cases h1 : n ≤ m
      · by_cases h2 : m ≤ 128
        · have h3 := hc2 h1 h2
          clear hc2
          go_enter Try.func39, Try.ntmps39
          go_wp2_with fail
          refine (HR.out _).mono ?_
          rintro e0 w0 ⟨rfl, hb0⟩
          have hw0 : Below w.heap.size w w0 := by
            refine Below.trans ?_ (hb0.mono ?_)
            · go_grown
            · go_size
          have c2 : w0.cell? ⟨w.heap.size, 2, none⟩ = some (.int .i64 n) := by
            rw [hb0.cell (by simp <;> omega)]
            first | assumption | (simp [go_sem]; done) | (simp [go_sem, *]; done)
          go_wp2
          all_goals
            go_ret
            exact ⟨none, 0, rfl, World.ownsRow_nil _ _ _ _, by go_grown⟩
        · clear hc2
          go_enter Try.func39, Try.ntmps39
          go_wp2_with fail
          refine (HR.out _).mono ?_
          rintro e0 w0 ⟨rfl, hb0⟩
          have hw0 : Below w.heap.size w w0 := by
            refine Below.trans ?_ (hb0.mono ?_)
            · go_grown
            · go_size
          have c2 : w0.cell? ⟨w.heap.size, 2, none⟩ = some (.int .i64 n) := by
            rw [hb0.cell (by simp <;> omega)]
            first | assumption | (simp [go_sem]; done) | (simp [go_sem, *]; done)
          go_wp2
          all_goals
            go_ret
            exact ⟨none, 0, rfl, World.ownsRow_nil _ _ _ _, by go_grown⟩
      · clear hc2
        go_enter Try.func39, Try.ntmps39
        go_wp2_with fail
        refine (HR.out _).mono ?_
        rintro e0 w0 ⟨rfl, hb0⟩
        have hw0 : Below w.heap.size w w0 := by
          refine Below.trans ?_ (hb0.mono ?_)
          · go_grown
          · go_size
        have c2 : w0.cell? ⟨w.heap.size, 2, none⟩ = some (.int .i64 n) := by
          rw [hb0.cell (by simp <;> omega)]
          first | assumption | (simp [go_sem]; done) | (simp [go_sem, *]; done)
        go_wp2
        all_goals
          go_ret
          exact ⟨none, 0, rfl, World.ownsRow_nil _ _ _ _, by go_grown⟩
end Go.Proofs.Ytlmampklgghngaa
/-
  What the reference's Hop and Set hand back. No condition but that the routes lie in memory, their words are words, and they are short of a million.
-/
set_option linter.unusedSimpArgs false
set_option linter.unusedVariables false
namespace Go.Proofs.Ytlmampklgghngaa
open Go Go.RowKit Go.Sort M

/-- A key as a value. -/
def kyA (k : Ky) : Value := .agg #[.int .u64 (k.h : Int), .int .u64 (k.l : Int), .int .i64 k.n]
theorem sortR_sub {l : List Rt} {q : Rt} (h : q ∈ sortR l) : q ∈ l := by
  have h := ((sortR_mem l).2 q).1 h
  unfold lst at h
  exact (List.mem_filter.1 (List.mem_of_getLast? h)).1
/-- What Hop hands back. -/
def hopA (N : List Rt) (low : Int) (k : Ky) : Value := .tuple #[.int .i64 (hopV N low k), .bool (hopK N low k).isSome]
set_option maxHeartbeats 1000000 in
theorem rhop18_any (p : Option Addr) (c : Nat) (L : List Rt) (k : Ky) (low : Int) (w : World) (hR : Row w p (rcs L)) (hg : ∀ x ∈ L, x.k.good) (hk : k.good) (hl : L.length < 1048576) :
    Calls Try.prog 40 #[.slice p L.length c, kyA k, .int .i64 low] w fun e w' => e = .returned (hopA (sortR L) low k) ∧ Below w.heap.size w w' := by
  have hS := fun W (hW : Below w.heap.size w W) => rsorted_any p c L W (hR.below hW) hl
  have hlen := sortR_len L
  obtain ⟨N, hN⟩ : ∃ N, N = sortR L := ⟨_, rfl⟩
  have hgN : ∀ x ∈ N, x.k.good := fun x hx => hg x (sortR_sub (by rw [← hN]; exact hx))
  rw [← hN] at hS hlen ⊢
  have hLg := fun (q : Option Addr) d W (h : Row W q (rcs N)) => rlongest_any q d N k.h k.l low k.n hk.1 hk.2 W h hgN (by omega)
  obtain ⟨kh, kl, kn⟩ := k
  unfold kyA
  simp only at hLg ⊢
  cases hlg : lngI N (candB kh kl low kn) N.length with
  | none =>
    have hA : hopA N low ⟨kh, kl, kn⟩ = .tuple #[.int .i64 0, .bool false] := by unfold hopA hopV hopK; simp only; rw [hlg]; rfl
    rw [hA]
    rw [hlg] at hLg
    have HS := Lib.hid hS
    have HLG : Hid (∀ (q : Option Addr) d W, Row W q (rcs N) → Calls Try.prog 54 #[.slice q N.length d, .agg #[.int .u64 (kh : Int), .int .u64 (kl : Int)], .int .i64 low, .int .i64 kn] W fun e w' => e = .returned (.int .i64 (-1)) ∧ Below W.heap.size W w') := Lib.hid hLg
    clear hS hLg hA hN hgN hg hR hk hlg
    go_enter Try.func40, Try.ntmps40
    go_wp2_with fail
    refine (HS.out _ (by go_grown)).mono ?_
    rintro e w1 ⟨p1, c1, rfl, ho1, hb1⟩
    have c0 : w1.cell? ⟨w.heap.size, 0, none⟩ = some (.int .u64 (kh : Int)) := by
      rw [hb1.cell (by simp <;> omega)]
      first | assumption | (simp [go_sem]; done) | (simp [go_sem, *]; done)
    have c1' : w1.cell? ⟨w.heap.size, 1, none⟩ = some (.int .u64 (kl : Int)) := by
      rw [hb1.cell (by simp <;> omega)]
      first | assumption | (simp [go_sem]; done) | (simp [go_sem, *]; done)
    have c2 : w1.cell? ⟨w.heap.size, 2, none⟩ = some (.int .i64 kn) := by
      rw [hb1.cell (by simp <;> omega)]
      first | assumption | (simp [go_sem]; done) | (simp [go_sem, *]; done)
    have hw1 : Below w.heap.size w w1 := Below.trans (by go_grown) (hb1.mono (by simp))
    have hrow := Lib.hid (Row.of_own ho1)
    clear ho1 hb1
    go_wp2_with fail
    refine (HLG.out _ _ _ hrow.out).mono ?_
    rintro e w2 ⟨rfl, hb2⟩
    have hw2 := hw1.trans (hb2.mono hw1.size)
    go_wp2
    go_ret2
    exact ⟨rfl, hw2⟩
  | some b =>
    have hbl := lng_lt hlg
    have hA : hopA N low ⟨kh, kl, kn⟩ = .tuple #[.int .i64 N[b].v, .bool true] := by
      unfold hopA hopV hopK
      simp only
      rw [hlg]
      show Value.tuple #[.int .i64 (N.getD b _).v, .bool true] = _
      rw [getD_at hbl]
    rw [hA]
    rw [hlg] at hLg
    have HS := Lib.hid hS
    have HLG : Hid (∀ (q : Option Addr) d W, Row W q (rcs N) → Calls Try.prog 54 #[.slice q N.length d, .agg #[.int .u64 (kh : Int), .int .u64 (kl : Int)], .int .i64 low, .int .i64 kn] W fun e w' => e = .returned (.int .i64 (b : Int)) ∧ Below W.heap.size W w') := Lib.hid hLg
    have i1 : (0 : Int) ≤ (b : Int) := by omega
    have i2 : (b : Int) < (N.length : Int) := by omega
    obtain ⟨v, hv⟩ : ∃ v, v = N[b].v := ⟨_, rfl⟩
    rw [← hv]
    have HV := Lib.hid hv
    clear hS hLg hA hN hgN hg hR hk hlg hv
    go_enter Try.func40, Try.ntmps40
    go_wp2_with fail
    refine (HS.out _ (by go_grown)).mono ?_
    rintro e w1 ⟨p1, c1, rfl, ho1, hb1⟩
    have c0 : w1.cell? ⟨w.heap.size, 0, none⟩ = some (.int .u64 (kh : Int)) := by
      rw [hb1.cell (by simp <;> omega)]
      first | assumption | (simp [go_sem]; done) | (simp [go_sem, *]; done)
    have c1' : w1.cell? ⟨w.heap.size, 1, none⟩ = some (.int .u64 (kl : Int)) := by
      rw [hb1.cell (by simp <;> omega)]
      first | assumption | (simp [go_sem]; done) | (simp [go_sem, *]; done)
    have c2 : w1.cell? ⟨w.heap.size, 2, none⟩ = some (.int .i64 kn) := by
      rw [hb1.cell (by simp <;> omega)]
      first | assumption | (simp [go_sem]; done) | (simp [go_sem, *]; done)
    have hw1 : Below w.heap.size w w1 := Below.trans (by go_grown) (hb1.mono (by simp))
    have hrow := Row.of_own ho1
    have HROW := Lib.hid hrow
    obtain ⟨g, o, rfl, hg1, -, -, -, x3⟩ := hrow.rt hbl
    rw [← HV.out] at x3
    clear ho1 hb1 hrow
    go_wp2_with fail
    refine (HLG.out _ _ _ HROW.out).mono ?_
    rintro e w2 ⟨rfl, hb2⟩
    have hw2 := hw1.trans (hb2.mono hw1.size)
    have x3 := (hb2.cell (p := ⟨g, o + b * 4 + 3, none⟩) hg1).trans x3
    go_wp2
    go_ret2
    exact ⟨rfl, hw2⟩
end Go.Proofs.Ytlmampklgghngaa
