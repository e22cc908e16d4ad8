/-
  TrieCovers as a walk: it hands back true, for every input. No condition but that the key's address is two words, the bounds whole numbers of 64 bits, and that the row of routes lies in old memory.
-/
import Derived.Test.YtokjhoiacidofaaSlice
import Derived.Test.YtokjhoiacidofaaAct14
set_option linter.unusedSimpArgs false
set_option linter.unusedVariables false
namespace Go.Proofs.Ytokjhoiacidofaa
open Go.RowKit Go.Sort M

theorem ok_unique {x y : Rt} (e : x.k = y.k) : ∀ {T : Pt}, T.ok → T.mem x → T.mem y → x = y
  | .node k v on l r, ⟨kg, kr, hl, hr, lo, ro⟩, hx, hy => by
    rcases hx with hx | hx | hx <;> rcases hy with hy | hy | hy
    · rw [hx.2, hy.2]
    · exact absurd (by rw [← e, hx.2]) (kid_ne (Pt.all_mem hl hy))
    · exact absurd (by rw [← e, hx.2]) (kid_ne (Pt.all_mem hr hy))
    · exact absurd (by rw [e, hy.2]) (kid_ne (Pt.all_mem hl hx))
    · exact ok_unique e lo hx hy
    · have h1 := (kid_bit (Pt.all_mem hl hx)).1
      have h2 := (kid_bit (Pt.all_mem hr hy)).1
      rw [e, h2] at h1
      cases h1
    · exact absurd (by rw [e, hy.2]) (kid_ne (Pt.all_mem hr hx))
    · have h1 := (kid_bit (Pt.all_mem hr hx)).1
      have h2 := (kid_bit (Pt.all_mem hl hy)).1
      rw [e, h2] at h1
      cases h1
    · exact ok_unique e ro hx hy
theorem cover_none {ah al : Nat} (a : W64 ah) (b : W64 al) {low high : Int} {T : Pt} (ho : T.ok) : coverP ah al low high T none = none ↔ ∀ x, T.mem x → candB ah al low high x = false := by
  rcases cover_ok a b low high none ho with ⟨e, h⟩ | ⟨x, e, hx, hc, -⟩
  · exact ⟨fun _ => h, fun _ => e⟩
  · rw [e]
    exact ⟨fun h => by (cases h), fun h => by rw [h x hx] at hc; cases hc⟩
theorem cover_some {ah al : Nat} (a : W64 ah) (b : W64 al) {low high : Int} {T : Pt} (ho : T.ok) {x : Rt} : coverP ah al low high T none = some x ↔ T.mem x ∧ candB ah al low high x = true ∧ ∀ y, T.mem y → candB ah al low high y = true → y.k.n ≤ x.k.n := by
  rcases cover_ok a b low high none ho with ⟨e, h⟩ | ⟨z, e, hz, hcz, hmz⟩
  · rw [e]
    exact ⟨fun h => by (cases h), fun ⟨h1, h2, _⟩ => by rw [h x h1] at h2; cases h2⟩
  · rw [e]
    constructor
    · intro h
      injection h with h
      subst h
      exact ⟨hz, hcz, hmz⟩
    · rintro ⟨h1, h2, h3⟩
      have g1 := hmz x h1 h2
      have g2 := h3 z hz hcz
      obtain ⟨m, -, em⟩ := (has_cutK _ _ _).1 (cand_iff.1 hcz).2.2
      obtain ⟨m', -, em'⟩ := (has_cutK _ _ _).1 (cand_iff.1 h2).2.2
      have hm : m = m' := by
        have e3 : z.k.n = (m : Int) := by rw [em]; rfl
        have e4 : x.k.n = (m' : Int) := by rw [em']; rfl
        omega
      rw [ok_unique (by rw [em, em', hm]) ho hz h1]
/-- The longest of two ranges that meet. -/
theorem cov_meet {T : Pt} (ho : T.ok) {p : Ky} (pg : p.good) {low mid high : Int} (h1 : low ≤ mid) (h2 : mid ≤ high) :
    ((covV p mid high T).isSome = true → covV p low high T = covV p mid high T) ∧ (covV p mid high T = none → covV p low high T = covV p low mid T) := by
  unfold covV
  by_cases hr : rightB p.h p.l p.n = true
  · rw [if_pos hr, if_pos hr, if_pos hr]
    constructor
    · intro h
      obtain ⟨x, hx⟩ := Option.isSome_iff_exists.1 h
      rw [hx]
      obtain ⟨a1, a2, a3⟩ := (cover_some pg.1 pg.2 ho).1 hx
      obtain ⟨b1, b2, b3⟩ := cand_iff.1 a2
      refine (cover_some pg.1 pg.2 ho).2 ⟨a1, cand_iff.2 ⟨by omega, b2, b3⟩, fun y hy hc => ?_⟩
      obtain ⟨c1, c2, c3⟩ := cand_iff.1 hc
      by_cases e : mid < y.k.n
      · exact a3 y hy (cand_iff.2 ⟨e, c2, c3⟩)
      · omega
    · intro h
      have hn := (cover_none pg.1 pg.2 ho).1 h
      have same : ∀ y, T.mem y → (candB p.h p.l low (min high p.n) y = true ↔ candB p.h p.l low (min mid p.n) y = true) := by
        intro y hy
        rw [cand_iff, cand_iff]
        constructor
        · rintro ⟨c1, c2, c3⟩
          by_cases e : mid < y.k.n
          · have := hn y hy
            rw [cand_iff.2 ⟨e, c2, c3⟩] at this
            cases this
          · exact ⟨c1, by omega, c3⟩
        · rintro ⟨c1, c2, c3⟩
          exact ⟨c1, by omega, c3⟩
      cases e : coverP p.h p.l low (min mid p.n) T none with
      | none =>
        have hm := (cover_none pg.1 pg.2 ho).1 e
        refine (cover_none pg.1 pg.2 ho).2 fun y hy => ?_
        have h3 := same y hy
        rw [hm y hy] at h3
        cases hc : candB p.h p.l low (min high p.n) y with
        | false => rfl
        | true => exact absurd (h3.1 hc) (by simp)
      | some x =>
        obtain ⟨a1, a2, a3⟩ := (cover_some pg.1 pg.2 ho).1 e
        exact (cover_some pg.1 pg.2 ho).2 ⟨a1, (same x a1).2 a2, fun y hy hc => a3 y hy ((same y hy).1 hc)⟩
  · rw [if_neg hr, if_neg hr, if_neg hr]
    exact ⟨fun _ => rfl, fun _ => rfl⟩
theorem eqlR (a b : Nat) (n x : Int) (c d : Nat) (m y : Int) (w : World) : (binOp .eql 40 (.agg #[.int .u64 a, .int .u64 b, .int .i64 n, .int .i64 x]) (.agg #[.int .u64 c, .int .u64 d, .int .i64 m, .int .i64 y])).run Try.prog w =
    .ok (.bool (decide (a = c ∧ b = d ∧ n = m ∧ x = y))) w := by
  have e1 : decide (a = c ∧ b = d ∧ n = m ∧ x = y) = (decide ((a : Int) = c) && (decide ((b : Int) = d) && (decide (n = m) && decide (x = y)))) := by
    rw [← Bool.decide_and, ← Bool.decide_and, ← Bool.decide_and, decide_eq_decide]; omega
  rw [e1]
  by_cases h1 : (a : Int) = c <;> by_cases h2 : (b : Int) = d <;> by_cases h3 : n = m <;> by_cases h4 : x = y <;> simp [go_sem, h1, h2, h3, h4]
set_option maxRecDepth 100000 in
set_option maxHeartbeats 8000000 in
theorem covers_walk (a : Option Addr) (c : Nat) (L : List Rt) (p : Ky) (low mid high : Int) (pg : p.good) (w : World) (hR : Row w a (rcs L)) (hg : ∀ x ∈ L, x.k.good) (hL : L.length ≤ maxLen) :
    Calls Try.prog 5 #[.slice a L.length c, kyV p, .int .i64 low, .int .i64 mid, .int .i64 high] w fun e w' => e = .returned (.bool true) ∧ Below w.heap.size w w' := by
  have HA := Lib.hid alive14_any
  have HR := Lib.hid hR
  have HG := Lib.hid hg
  have HPG := Lib.hid pg
  unfold maxLen at hL
  unfold kyV
  clear hR hg pg
  by_cases l0 : (40 : Int) < (L.length : Int)
  · skip
    go_enter Try.func5, Try.ntmps5
    go_wp2_with fail
    generalize hwB : World.alloc w _ = wB
    have hB : Below w.heap.size w wB := by rw [← hwB]; go_grown
    have q0 : wB.cell? ⟨w.heap.size, 0, none⟩ = some (.int .u64 (p.h : Int)) := by rw [← hwB]; simp [go_sem]
    have q1 : wB.cell? ⟨w.heap.size, 1, none⟩ = some (.int .u64 (p.l : Int)) := by rw [← hwB]; simp [go_sem]
    have q2 : wB.cell? ⟨w.heap.size, 2, none⟩ = some (.int .i64 p.n) := by rw [← hwB]; simp [go_sem]
    have hzB : w.heap.size < wB.heap.size := by rw [← hwB]; simp
    clear hwB
    have HQ := Lib.hid (fun (wx : World) (hb : Below wB.heap.size wB wx) => And.intro ((hb.cell (p := ⟨w.heap.size, 0, none⟩) hzB).trans q0) (And.intro ((hb.cell (p := ⟨w.heap.size, 1, none⟩) hzB).trans q1) (And.intro ((hb.cell (p := ⟨w.heap.size, 2, none⟩) hzB).trans q2) (Nat.lt_of_lt_of_le hzB hb.size))))
    clear q0 q1 q2
    refine (HA.out _).mono ?_
    rintro e w0 ⟨rfl, hb0⟩
    go_wp2
    go_ret
    exact ⟨rfl, hB.trans (hb0.mono hB.size)⟩
  · by_cases n1 : mid < low
    · skip
      go_enter Try.func5, Try.ntmps5
      go_wp2_with fail
      generalize hwB : World.alloc w _ = wB
      have hB : Below w.heap.size w wB := by rw [← hwB]; go_grown
      have q0 : wB.cell? ⟨w.heap.size, 0, none⟩ = some (.int .u64 (p.h : Int)) := by rw [← hwB]; simp [go_sem]
      have q1 : wB.cell? ⟨w.heap.size, 1, none⟩ = some (.int .u64 (p.l : Int)) := by rw [← hwB]; simp [go_sem]
      have q2 : wB.cell? ⟨w.heap.size, 2, none⟩ = some (.int .i64 p.n) := by rw [← hwB]; simp [go_sem]
      have hzB : w.heap.size < wB.heap.size := by rw [← hwB]; simp
      clear hwB
      have HQ := Lib.hid (fun (wx : World) (hb : Below wB.heap.size wB wx) => And.intro ((hb.cell (p := ⟨w.heap.size, 0, none⟩) hzB).trans q0) (And.intro ((hb.cell (p := ⟨w.heap.size, 1, none⟩) hzB).trans q1) (And.intro ((hb.cell (p := ⟨w.heap.size, 2, none⟩) hzB).trans q2) (Nat.lt_of_lt_of_le hzB hb.size))))
      clear q0 q1 q2
      refine (HA.out _).mono ?_
      rintro e w0 ⟨rfl, hb0⟩
      go_wp2
      go_ret
      exact ⟨rfl, hB.trans (hb0.mono hB.size)⟩
    · by_cases n2 : high < mid
      · skip
        go_enter Try.func5, Try.ntmps5
        go_wp2_with fail
        generalize hwB : World.alloc w _ = wB
        have hB : Below w.heap.size w wB := by rw [← hwB]; go_grown
        have q0 : wB.cell? ⟨w.heap.size, 0, none⟩ = some (.int .u64 (p.h : Int)) := by rw [← hwB]; simp [go_sem]
        have q1 : wB.cell? ⟨w.heap.size, 1, none⟩ = some (.int .u64 (p.l : Int)) := by rw [← hwB]; simp [go_sem]
        have q2 : wB.cell? ⟨w.heap.size, 2, none⟩ = some (.int .i64 p.n) := by rw [← hwB]; simp [go_sem]
        have hzB : w.heap.size < wB.heap.size := by rw [← hwB]; simp
        clear hwB
        have HQ := Lib.hid (fun (wx : World) (hb : Below wB.heap.size wB wx) => And.intro ((hb.cell (p := ⟨w.heap.size, 0, none⟩) hzB).trans q0) (And.intro ((hb.cell (p := ⟨w.heap.size, 1, none⟩) hzB).trans q1) (And.intro ((hb.cell (p := ⟨w.heap.size, 2, none⟩) hzB).trans q2) (Nat.lt_of_lt_of_le hzB hb.size))))
        clear q0 q1 q2
        refine (HA.out _).mono ?_
        rintro e w0 ⟨rfl, hb0⟩
        go_wp2
        go_ret
        exact ⟨rfl, hB.trans (hb0.mono hB.size)⟩
      · skip
        go_enter Try.func5, Try.ntmps5
        go_wp2_with fail
        generalize hwB : World.alloc w _ = wB
        have hB : Below w.heap.size w wB := by rw [← hwB]; go_grown
        have q0 : wB.cell? ⟨w.heap.size, 0, none⟩ = some (.int .u64 (p.h : Int)) := by rw [← hwB]; simp [go_sem]
        have q1 : wB.cell? ⟨w.heap.size, 1, none⟩ = some (.int .u64 (p.l : Int)) := by rw [← hwB]; simp [go_sem]
        have q2 : wB.cell? ⟨w.heap.size, 2, none⟩ = some (.int .i64 p.n) := by rw [← hwB]; simp [go_sem]
        have hzB : w.heap.size < wB.heap.size := by rw [← hwB]; simp
        clear hwB
        have HQ := Lib.hid (fun (wx : World) (hb : Below wB.heap.size wB wx) => And.intro ((hb.cell (p := ⟨w.heap.size, 0, none⟩) hzB).trans q0) (And.intro ((hb.cell (p := ⟨w.heap.size, 1, none⟩) hzB).trans q1) (And.intro ((hb.cell (p := ⟨w.heap.size, 2, none⟩) hzB).trans q2) (Nat.lt_of_lt_of_le hzB hb.size))))
        clear q0 q1 q2
        refine (HA.out _).mono ?_
        rintro e w0 ⟨rfl, hb0⟩
        go_wp2_with fail
        obtain ⟨t, ht⟩ : ∃ t, t = w0.heap.size := ⟨_, rfl⟩
        have H0 := Tri.made w0 (fun g => g ≠ w0.heap.size) 32 (fun g hg => by omega) (by simp)
        have HT0 : Hid (Tri (w0.alloc (.cells #[.pointer none, .int .i64 0] 32)) (fun g => g ≠ t) t .nil 0 ∧ (0 : Int) ≤ 0 ∧ (0 : Int) ≤ ((0 : Nat) : Int)) := by
          rw [ht]
          exact ⟨H0, by decide, by decide⟩
        have hBt : wB.heap.size ≤ t := by rw [ht]; exact hb0.size
        have HB0 : Hid (Below wB.heap.size wB (w0.alloc (.cells #[.pointer none, .int .i64 0] 32))) := hb0.alloc hb0.size _
        rw [← ht]
        generalize w0.alloc (.cells #[.pointer none, .int .i64 0] 32) = w1 at *
        clear ht H0 hb0
        go_loopg [13] L.length (fun gk s13 wr => ∃ (i : Nat) (T : Pt) (n : Int), gk + i = L.length ∧ s13 = .int .i64 (i : Int) ∧ Hid (Tri wr (fun g => g ≠ t) t T n ∧ 0 ≤ n ∧ n ≤ (i : Int)) ∧ Hid (Below wB.heap.size wB wr))
        case atStart => exact ⟨0, .nil, 0, by omega, rfl, HT0, HB0⟩
        case round =>
          clear HT0 HB0
          obtain ⟨i, T, n, hi, rfl, HT, HB⟩ := hrel
          have hwr := hB.trans (HB.out.mono hB.size)
          by_cases hlt : i < L.length
          · obtain ⟨gr, o, rfl, hgr, r0, r1, r2, r3⟩ := HR.out.rt hlt
            have hgk := HG.out _ (List.getElem_mem hlt)
            have r0 := (hwr.cell (p := ⟨gr, o + i * 4, none⟩) hgr).trans r0
            have r1 := (hwr.cell (p := ⟨gr, o + i * 4 + 1, none⟩) hgr).trans r1
            have r2 := (hwr.cell (p := ⟨gr, o + i * 4 + 2, none⟩) hgr).trans r2
            have r3 := (hwr.cell (p := ⟨gr, o + i * 4 + 3, none⟩) hgr).trans r3
            have hgr2 := Nat.lt_of_lt_of_le hgr hwr.size
            generalize L[i] = x at hgk r0 r1 r2 r3
            have i1 : (i : Int) < (L.length : Int) := by omega
            go_wp2_with fail
            have kg := cell_grow
            refine region_tail 11 (by kernel_rfl) (by kernel_rfl) ?_
            simp only [List.take_succ_cons, List.take_zero, List.drop_succ_cons, List.drop_zero]
            repeat (any_goals (first | go_big_quiet_step (fail) | quiet_step (fail)))
            refine wpQuiet_nil ?_
            clear kg
            intro w2 hb2
            obtain ⟨hc2, hf2⟩ := bcell hb2
            have H2 := HT.out.1.below hb2
            go_wp2_with fail
            refine (tput_any H2 x.k x.v hgk (by have := HT.out.2; omega) (by have := HT.out.2; omega)).mono ?_
            rintro e w3 ⟨rfl, H3, ht3⟩
            have HB3 : Hid (Below wB.heap.size wB w3) := by
              have hb : Below wB.heap.size wB w2 := HB.out.trans (hb2.mono HB.out.size)
              exact hb.trans (ht3.below hb.size fun k e => by rw [e]; exact hBt)
            have HT3 : Hid (Tri w3 (fun g => g ≠ t) t (putT x.k x.v T) (putC14 x.k T n) ∧ 0 ≤ putC14 x.k T n ∧ putC14 x.k T n ≤ ((i + 1 : Nat) : Int)) := by
              refine ⟨H3, ?_⟩
              have := HT.out.2
              unfold putC14
              split <;> omega
            clear H2 H3 ht3 hb2 hc2 hf2 HT HB
            unfold getN14
            go_wp2_with fail
            go_roundg (gk - 1)
            case measure => omega
            case rel => exact ⟨i + 1, _, _, by omega, by go_num, HT3, HB3⟩
          · have i1 : ¬ (i : Int) < (L.length : Int) := by omega
            have hmeet := cov_meet HT.out.1.ok HPG.out (show low ≤ mid by omega) (show mid ≤ high by omega)
            have HC := Lib.hid (fun (W : World) (lo hi : Int) (hW : Below wr.heap.size wr W) => cover_any (HT.out.1.below hW) p lo hi HPG.out)
            obtain ⟨VA, hVA⟩ : ∃ V, V = covV p low high T := ⟨_, rfl⟩
            obtain ⟨VB, hVB⟩ : ∃ V, V = covV p mid high T := ⟨_, rfl⟩
            obtain ⟨VC, hVC⟩ : ∃ V, V = covV p low mid T := ⟨_, rfl⟩
            have hCA := fun W hW => HC.out W low high hW
            have hCB := fun W hW => HC.out W mid high hW
            have hCC := fun W hW => HC.out W low mid hW
            rw [← hVA] at hCA hmeet
            rw [← hVB] at hCB hmeet
            rw [← hVC] at hCC hmeet
            unfold kyV rtA at hCA hCB hCC
            have HCA := Lib.hid hCA
            have HCB := Lib.hid hCB
            have HCC := Lib.hid hCC
            obtain ⟨q0, q1, q2, hzq⟩ := HQ.out _ HB.out
            clear hVA hVB hVC hCA hCB hCC HC
            cases VB with
            | some x =>
              obtain rfl : VA = some x := hmeet.1 rfl
              have hE := eqlR x.k.h x.k.l x.k.n x.v x.k.h x.k.l x.k.n x.v
              rw [decide_eq_true ⟨rfl, rfl, rfl, rfl⟩] at hE
              clear hmeet
              simp only [Option.getD_some, Option.isSome_some] at HCA HCB
              obtain ⟨c0, hc0⟩ : ∃ c, c = VC.isSome := ⟨_, rfl⟩
              obtain ⟨z, hz⟩ : ∃ z, z = VC.getD zr := ⟨_, rfl⟩
              rw [← hc0, ← hz] at HCC
              clear hc0 hz
              go_wp2_with fail
              refine (HCA.out _ (Below.refl _ _)).mono ?_
              rintro e w1 ⟨rfl, hb1⟩
              have q0 := (hb1.cell (p := ⟨w.heap.size, 0, none⟩) hzq).trans q0
              have q1 := (hb1.cell (p := ⟨w.heap.size, 1, none⟩) hzq).trans q1
              have q2 := (hb1.cell (p := ⟨w.heap.size, 2, none⟩) hzq).trans q2
              have hzq := Nat.lt_of_lt_of_le hzq hb1.size
              go_wp2_with fail
              generalize hwA : World.alloc w1 _ = wA1
              have hbA : Below w1.heap.size w1 wA1 := by rw [← hwA]; go_grown
              have a0 : wA1.cell? ⟨w1.heap.size, 0, none⟩ = some (.int .u64 (x.k.h : Int)) := by rw [← hwA]; first | (simp [go_sem]; done) | (simp [go_sem, zr]; done)
              have a1 : wA1.cell? ⟨w1.heap.size, 1, none⟩ = some (.int .u64 (x.k.l : Int)) := by rw [← hwA]; first | (simp [go_sem]; done) | (simp [go_sem, zr]; done)
              have a2 : wA1.cell? ⟨w1.heap.size, 2, none⟩ = some (.int .i64 x.k.n) := by rw [← hwA]; first | (simp [go_sem]; done) | (simp [go_sem, zr]; done)
              have a3 : wA1.cell? ⟨w1.heap.size, 3, none⟩ = some (.int .i64 x.v) := by rw [← hwA]; first | (simp [go_sem]; done) | (simp [go_sem, zr]; done)
              have hza : w1.heap.size < wA1.heap.size := by rw [← hwA]; simp
              clear hwA
              have q0 := (hbA.cell (p := ⟨w.heap.size, 0, none⟩) hzq).trans q0
              have q1 := (hbA.cell (p := ⟨w.heap.size, 1, none⟩) hzq).trans q1
              have q2 := (hbA.cell (p := ⟨w.heap.size, 2, none⟩) hzq).trans q2
              have hzq := Nat.lt_of_lt_of_le hzq hbA.size
              have hr2 := hb1.trans (hbA.mono hb1.size)
              clear hbA hb1
              refine (HCB.out _ hr2).mono ?_
              rintro e w2 ⟨rfl, hb2⟩
              have a0 := (hb2.cell (p := ⟨w1.heap.size, 0, none⟩) hza).trans a0
              have a1 := (hb2.cell (p := ⟨w1.heap.size, 1, none⟩) hza).trans a1
              have a2 := (hb2.cell (p := ⟨w1.heap.size, 2, none⟩) hza).trans a2
              have a3 := (hb2.cell (p := ⟨w1.heap.size, 3, none⟩) hza).trans a3
              have hza := Nat.lt_of_lt_of_le hza hb2.size
              have q0 := (hb2.cell (p := ⟨w.heap.size, 0, none⟩) hzq).trans q0
              have q1 := (hb2.cell (p := ⟨w.heap.size, 1, none⟩) hzq).trans q1
              have q2 := (hb2.cell (p := ⟨w.heap.size, 2, none⟩) hzq).trans q2
              have hzq := Nat.lt_of_lt_of_le hzq hb2.size
              go_wp2_with fail
              generalize hwA : World.alloc w2 _ = wA2
              have hbA : Below w2.heap.size w2 wA2 := by rw [← hwA]; go_grown
              have b0 : wA2.cell? ⟨w2.heap.size, 0, none⟩ = some (.int .u64 (x.k.h : Int)) := by rw [← hwA]; first | (simp [go_sem]; done) | (simp [go_sem, zr]; done)
              have b1 : wA2.cell? ⟨w2.heap.size, 1, none⟩ = some (.int .u64 (x.k.l : Int)) := by rw [← hwA]; first | (simp [go_sem]; done) | (simp [go_sem, zr]; done)
              have b2 : wA2.cell? ⟨w2.heap.size, 2, none⟩ = some (.int .i64 x.k.n) := by rw [← hwA]; first | (simp [go_sem]; done) | (simp [go_sem, zr]; done)
              have b3 : wA2.cell? ⟨w2.heap.size, 3, none⟩ = some (.int .i64 x.v) := by rw [← hwA]; first | (simp [go_sem]; done) | (simp [go_sem, zr]; done)
              have hzb : w2.heap.size < wA2.heap.size := by rw [← hwA]; simp
              clear hwA
              have a0 := (hbA.cell (p := ⟨w1.heap.size, 0, none⟩) hza).trans a0
              have a1 := (hbA.cell (p := ⟨w1.heap.size, 1, none⟩) hza).trans a1
              have a2 := (hbA.cell (p := ⟨w1.heap.size, 2, none⟩) hza).trans a2
              have a3 := (hbA.cell (p := ⟨w1.heap.size, 3, none⟩) hza).trans a3
              have hza := Nat.lt_of_lt_of_le hza hbA.size
              have q0 := (hbA.cell (p := ⟨w.heap.size, 0, none⟩) hzq).trans q0
              have q1 := (hbA.cell (p := ⟨w.heap.size, 1, none⟩) hzq).trans q1
              have q2 := (hbA.cell (p := ⟨w.heap.size, 2, none⟩) hzq).trans q2
              have hzq := Nat.lt_of_lt_of_le hzq hbA.size
              have hr3 := (hr2.trans (hb2.mono hr2.size)).trans (hbA.mono (Nat.le_trans hr2.size hb2.size))
              clear hbA hb2 hr2
              refine (HCC.out _ hr3).mono ?_
              rintro e w3 ⟨rfl, hb3⟩
              have a0 := (hb3.cell (p := ⟨w1.heap.size, 0, none⟩) hza).trans a0
              have a1 := (hb3.cell (p := ⟨w1.heap.size, 1, none⟩) hza).trans a1
              have a2 := (hb3.cell (p := ⟨w1.heap.size, 2, none⟩) hza).trans a2
              have a3 := (hb3.cell (p := ⟨w1.heap.size, 3, none⟩) hza).trans a3
              have hza := Nat.lt_of_lt_of_le hza hb3.size
              have b0 := (hb3.cell (p := ⟨w2.heap.size, 0, none⟩) hzb).trans b0
              have b1 := (hb3.cell (p := ⟨w2.heap.size, 1, none⟩) hzb).trans b1
              have b2 := (hb3.cell (p := ⟨w2.heap.size, 2, none⟩) hzb).trans b2
              have b3 := (hb3.cell (p := ⟨w2.heap.size, 3, none⟩) hzb).trans b3
              have hzb := Nat.lt_of_lt_of_le hzb hb3.size
              have hw3 := hwr.trans ((hr3.trans (hb3.mono hr3.size)).mono hwr.size)
              clear q0 q1 q2 hzq hb3 hr3 HCA HCB HCC HQ HT HB
              go_wp2
              go_ret
              exact ⟨rfl, by go_grown⟩
            | none =>
              obtain rfl : VA = VC := hmeet.2 rfl
              clear hmeet
              simp only [Option.getD_none, Option.isSome_none, zr] at HCB
              obtain ⟨c0, hc0⟩ : ∃ c, c = VA.isSome := ⟨_, rfl⟩
              obtain ⟨z, hz⟩ : ∃ z, z = VA.getD zr := ⟨_, rfl⟩
              rw [← hc0, ← hz] at HCA HCC
              clear hc0 hz
              have hE := eqlR z.k.h z.k.l z.k.n z.v z.k.h z.k.l z.k.n z.v
              rw [decide_eq_true ⟨rfl, rfl, rfl, rfl⟩] at hE
              cases c0 with
              | true =>
                go_wp2_with fail
                refine (HCA.out _ (Below.refl _ _)).mono ?_
                rintro e w1 ⟨rfl, hb1⟩
                have q0 := (hb1.cell (p := ⟨w.heap.size, 0, none⟩) hzq).trans q0
                have q1 := (hb1.cell (p := ⟨w.heap.size, 1, none⟩) hzq).trans q1
                have q2 := (hb1.cell (p := ⟨w.heap.size, 2, none⟩) hzq).trans q2
                have hzq := Nat.lt_of_lt_of_le hzq hb1.size
                go_wp2_with fail
                generalize hwA : World.alloc w1 _ = wA1
                have hbA : Below w1.heap.size w1 wA1 := by rw [← hwA]; go_grown
                have a0 : wA1.cell? ⟨w1.heap.size, 0, none⟩ = some (.int .u64 (z.k.h : Int)) := by rw [← hwA]; first | (simp [go_sem]; done) | (simp [go_sem, zr]; done)
                have a1 : wA1.cell? ⟨w1.heap.size, 1, none⟩ = some (.int .u64 (z.k.l : Int)) := by rw [← hwA]; first | (simp [go_sem]; done) | (simp [go_sem, zr]; done)
                have a2 : wA1.cell? ⟨w1.heap.size, 2, none⟩ = some (.int .i64 z.k.n) := by rw [← hwA]; first | (simp [go_sem]; done) | (simp [go_sem, zr]; done)
                have a3 : wA1.cell? ⟨w1.heap.size, 3, none⟩ = some (.int .i64 z.v) := by rw [← hwA]; first | (simp [go_sem]; done) | (simp [go_sem, zr]; done)
                have hza : w1.heap.size < wA1.heap.size := by rw [← hwA]; simp
                clear hwA
                have q0 := (hbA.cell (p := ⟨w.heap.size, 0, none⟩) hzq).trans q0
                have q1 := (hbA.cell (p := ⟨w.heap.size, 1, none⟩) hzq).trans q1
                have q2 := (hbA.cell (p := ⟨w.heap.size, 2, none⟩) hzq).trans q2
                have hzq := Nat.lt_of_lt_of_le hzq hbA.size
                have hr2 := hb1.trans (hbA.mono hb1.size)
                clear hbA hb1
                refine (HCB.out _ hr2).mono ?_
                rintro e w2 ⟨rfl, hb2⟩
                have a0 := (hb2.cell (p := ⟨w1.heap.size, 0, none⟩) hza).trans a0
                have a1 := (hb2.cell (p := ⟨w1.heap.size, 1, none⟩) hza).trans a1
                have a2 := (hb2.cell (p := ⟨w1.heap.size, 2, none⟩) hza).trans a2
                have a3 := (hb2.cell (p := ⟨w1.heap.size, 3, none⟩) hza).trans a3
                have hza := Nat.lt_of_lt_of_le hza hb2.size
                have q0 := (hb2.cell (p := ⟨w.heap.size, 0, none⟩) hzq).trans q0
                have q1 := (hb2.cell (p := ⟨w.heap.size, 1, none⟩) hzq).trans q1
                have q2 := (hb2.cell (p := ⟨w.heap.size, 2, none⟩) hzq).trans q2
                have hzq := Nat.lt_of_lt_of_le hzq hb2.size
                go_wp2_with fail
                generalize hwA : World.alloc w2 _ = wA2
                have hbA : Below w2.heap.size w2 wA2 := by rw [← hwA]; go_grown
                have b0 : wA2.cell? ⟨w2.heap.size, 0, none⟩ = some (.int .u64 (zr.k.h : Int)) := by rw [← hwA]; first | (simp [go_sem]; done) | (simp [go_sem, zr]; done)
                have b1 : wA2.cell? ⟨w2.heap.size, 1, none⟩ = some (.int .u64 (zr.k.l : Int)) := by rw [← hwA]; first | (simp [go_sem]; done) | (simp [go_sem, zr]; done)
                have b2 : wA2.cell? ⟨w2.heap.size, 2, none⟩ = some (.int .i64 zr.k.n) := by rw [← hwA]; first | (simp [go_sem]; done) | (simp [go_sem, zr]; done)
                have b3 : wA2.cell? ⟨w2.heap.size, 3, none⟩ = some (.int .i64 zr.v) := by rw [← hwA]; first | (simp [go_sem]; done) | (simp [go_sem, zr]; done)
                have hzb : w2.heap.size < wA2.heap.size := by rw [← hwA]; simp
                clear hwA
                have a0 := (hbA.cell (p := ⟨w1.heap.size, 0, none⟩) hza).trans a0
                have a1 := (hbA.cell (p := ⟨w1.heap.size, 1, none⟩) hza).trans a1
                have a2 := (hbA.cell (p := ⟨w1.heap.size, 2, none⟩) hza).trans a2
                have a3 := (hbA.cell (p := ⟨w1.heap.size, 3, none⟩) hza).trans a3
                have hza := Nat.lt_of_lt_of_le hza hbA.size
                have q0 := (hbA.cell (p := ⟨w.heap.size, 0, none⟩) hzq).trans q0
                have q1 := (hbA.cell (p := ⟨w.heap.size, 1, none⟩) hzq).trans q1
                have q2 := (hbA.cell (p := ⟨w.heap.size, 2, none⟩) hzq).trans q2
                have hzq := Nat.lt_of_lt_of_le hzq hbA.size
                have hr3 := (hr2.trans (hb2.mono hr2.size)).trans (hbA.mono (Nat.le_trans hr2.size hb2.size))
                clear hbA hb2 hr2
                refine (HCC.out _ hr3).mono ?_
                rintro e w3 ⟨rfl, hb3⟩
                have a0 := (hb3.cell (p := ⟨w1.heap.size, 0, none⟩) hza).trans a0
                have a1 := (hb3.cell (p := ⟨w1.heap.size, 1, none⟩) hza).trans a1
                have a2 := (hb3.cell (p := ⟨w1.heap.size, 2, none⟩) hza).trans a2
                have a3 := (hb3.cell (p := ⟨w1.heap.size, 3, none⟩) hza).trans a3
                have hza := Nat.lt_of_lt_of_le hza hb3.size
                have b0 := (hb3.cell (p := ⟨w2.heap.size, 0, none⟩) hzb).trans b0
                have b1 := (hb3.cell (p := ⟨w2.heap.size, 1, none⟩) hzb).trans b1
                have b2 := (hb3.cell (p := ⟨w2.heap.size, 2, none⟩) hzb).trans b2
                have b3 := (hb3.cell (p := ⟨w2.heap.size, 3, none⟩) hzb).trans b3
                have hzb := Nat.lt_of_lt_of_le hzb hb3.size
                have hw3 := hwr.trans ((hr3.trans (hb3.mono hr3.size)).mono hwr.size)
                clear q0 q1 q2 hzq hb3 hr3 HCA HCB HCC HQ HT HB
                go_wp2
                go_ret
                exact ⟨rfl, by go_grown⟩
              | false =>
                go_wp2_with fail
                refine (HCA.out _ (Below.refl _ _)).mono ?_
                rintro e w1 ⟨rfl, hb1⟩
                have q0 := (hb1.cell (p := ⟨w.heap.size, 0, none⟩) hzq).trans q0
                have q1 := (hb1.cell (p := ⟨w.heap.size, 1, none⟩) hzq).trans q1
                have q2 := (hb1.cell (p := ⟨w.heap.size, 2, none⟩) hzq).trans q2
                have hzq := Nat.lt_of_lt_of_le hzq hb1.size
                go_wp2_with fail
                generalize hwA : World.alloc w1 _ = wA1
                have hbA : Below w1.heap.size w1 wA1 := by rw [← hwA]; go_grown
                have a0 : wA1.cell? ⟨w1.heap.size, 0, none⟩ = some (.int .u64 (z.k.h : Int)) := by rw [← hwA]; first | (simp [go_sem]; done) | (simp [go_sem, zr]; done)
                have a1 : wA1.cell? ⟨w1.heap.size, 1, none⟩ = some (.int .u64 (z.k.l : Int)) := by rw [← hwA]; first | (simp [go_sem]; done) | (simp [go_sem, zr]; done)
                have a2 : wA1.cell? ⟨w1.heap.size, 2, none⟩ = some (.int .i64 z.k.n) := by rw [← hwA]; first | (simp [go_sem]; done) | (simp [go_sem, zr]; done)
                have a3 : wA1.cell? ⟨w1.heap.size, 3, none⟩ = some (.int .i64 z.v) := by rw [← hwA]; first | (simp [go_sem]; done) | (simp [go_sem, zr]; done)
                have hza : w1.heap.size < wA1.heap.size := by rw [← hwA]; simp
                clear hwA
                have q0 := (hbA.cell (p := ⟨w.heap.size, 0, none⟩) hzq).trans q0
                have q1 := (hbA.cell (p := ⟨w.heap.size, 1, none⟩) hzq).trans q1
                have q2 := (hbA.cell (p := ⟨w.heap.size, 2, none⟩) hzq).trans q2
                have hzq := Nat.lt_of_lt_of_le hzq hbA.size
                have hr2 := hb1.trans (hbA.mono hb1.size)
                clear hbA hb1
                refine (HCB.out _ hr2).mono ?_
                rintro e w2 ⟨rfl, hb2⟩
                have a0 := (hb2.cell (p := ⟨w1.heap.size, 0, none⟩) hza).trans a0
                have a1 := (hb2.cell (p := ⟨w1.heap.size, 1, none⟩) hza).trans a1
                have a2 := (hb2.cell (p := ⟨w1.heap.size, 2, none⟩) hza).trans a2
                have a3 := (hb2.cell (p := ⟨w1.heap.size, 3, none⟩) hza).trans a3
                have hza := Nat.lt_of_lt_of_le hza hb2.size
                have q0 := (hb2.cell (p := ⟨w.heap.size, 0, none⟩) hzq).trans q0
                have q1 := (hb2.cell (p := ⟨w.heap.size, 1, none⟩) hzq).trans q1
                have q2 := (hb2.cell (p := ⟨w.heap.size, 2, none⟩) hzq).trans q2
                have hzq := Nat.lt_of_lt_of_le hzq hb2.size
                go_wp2_with fail
                generalize hwA : World.alloc w2 _ = wA2
                have hbA : Below w2.heap.size w2 wA2 := by rw [← hwA]; go_grown
                have b0 : wA2.cell? ⟨w2.heap.size, 0, none⟩ = some (.int .u64 (zr.k.h : Int)) := by rw [← hwA]; first | (simp [go_sem]; done) | (simp [go_sem, zr]; done)
                have b1 : wA2.cell? ⟨w2.heap.size, 1, none⟩ = some (.int .u64 (zr.k.l : Int)) := by rw [← hwA]; first | (simp [go_sem]; done) | (simp [go_sem, zr]; done)
                have b2 : wA2.cell? ⟨w2.heap.size, 2, none⟩ = some (.int .i64 zr.k.n) := by rw [← hwA]; first | (simp [go_sem]; done) | (simp [go_sem, zr]; done)
                have b3 : wA2.cell? ⟨w2.heap.size, 3, none⟩ = some (.int .i64 zr.v) := by rw [← hwA]; first | (simp [go_sem]; done) | (simp [go_sem, zr]; done)
                have hzb : w2.heap.size < wA2.heap.size := by rw [← hwA]; simp
                clear hwA
                have a0 := (hbA.cell (p := ⟨w1.heap.size, 0, none⟩) hza).trans a0
                have a1 := (hbA.cell (p := ⟨w1.heap.size, 1, none⟩) hza).trans a1
                have a2 := (hbA.cell (p := ⟨w1.heap.size, 2, none⟩) hza).trans a2
                have a3 := (hbA.cell (p := ⟨w1.heap.size, 3, none⟩) hza).trans a3
                have hza := Nat.lt_of_lt_of_le hza hbA.size
                have q0 := (hbA.cell (p := ⟨w.heap.size, 0, none⟩) hzq).trans q0
                have q1 := (hbA.cell (p := ⟨w.heap.size, 1, none⟩) hzq).trans q1
                have q2 := (hbA.cell (p := ⟨w.heap.size, 2, none⟩) hzq).trans q2
                have hzq := Nat.lt_of_lt_of_le hzq hbA.size
                have hr3 := (hr2.trans (hb2.mono hr2.size)).trans (hbA.mono (Nat.le_trans hr2.size hb2.size))
                clear hbA hb2 hr2
                refine (HCC.out _ hr3).mono ?_
                rintro e w3 ⟨rfl, hb3⟩
                have a0 := (hb3.cell (p := ⟨w1.heap.size, 0, none⟩) hza).trans a0
                have a1 := (hb3.cell (p := ⟨w1.heap.size, 1, none⟩) hza).trans a1
                have a2 := (hb3.cell (p := ⟨w1.heap.size, 2, none⟩) hza).trans a2
                have a3 := (hb3.cell (p := ⟨w1.heap.size, 3, none⟩) hza).trans a3
                have hza := Nat.lt_of_lt_of_le hza hb3.size
                have b0 := (hb3.cell (p := ⟨w2.heap.size, 0, none⟩) hzb).trans b0
                have b1 := (hb3.cell (p := ⟨w2.heap.size, 1, none⟩) hzb).trans b1
                have b2 := (hb3.cell (p := ⟨w2.heap.size, 2, none⟩) hzb).trans b2
                have b3 := (hb3.cell (p := ⟨w2.heap.size, 3, none⟩) hzb).trans b3
                have hzb := Nat.lt_of_lt_of_le hzb hb3.size
                have hw3 := hwr.trans ((hr3.trans (hb3.mono hr3.size)).mono hwr.size)
                clear q0 q1 q2 hzq hb3 hr3 HCA HCB HCC HQ HT HB
                go_wp2
                go_ret
                exact ⟨rfl, by go_grown⟩
end Go.Proofs.Ytokjhoiacidofaa
