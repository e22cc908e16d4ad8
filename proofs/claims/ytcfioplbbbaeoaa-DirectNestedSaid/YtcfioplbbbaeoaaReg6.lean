/-
  One statement whose order is open, with calls in a chain each of which leaves old memory as it was, and a tail in one order: what only reads, or builds a value, is taken first, wherever it stands, between the calls too. No condition on the program but that it draws orders in the wide manner.
-/
import Derived.Test.YtcfioplbbbaeoaaW18d
import Derived.Test.YtcfioplbbbaeoaaReg4
/-
  cover.Set and cover.Hop, as chapter 18's laws ask them. No condition but that the routes lie in memory, and their words are words.
-/
set_option linter.unusedSimpArgs false
set_option linter.unusedVariables false
namespace Go.Proofs.Ytcfioplbbbaeoaa
open Go Go.RowKit Go.Sort M

set_option maxRecDepth 100000 in
set_option maxHeartbeats 4000000 in
theorem set_ok : SetC := by
  intro p c L low high w hR hg hcap hc hl
  have hS := wsorted_any p c L w hR hcap (by omega)
  have hlen := sortR_len L
  have hsrt := (sortR_mem L).1
  obtain ⟨N, hN⟩ : ∃ N, N = sortR L := ⟨_, rfl⟩
  have hgN : ∀ x ∈ N, x.k.good := fun x hx => hg x (sortR_sub (by rw [← hN]; exact hx))
  rw [← hN] at hS hlen hsrt ⊢
  have HS := Lib.hid hS
  have HG := Lib.hid hgN
  have HSRT := Lib.hid hsrt
  have HLN : N.length ≤ 4000 := by omega
  have HBT := Lib.hid between_any
  clear hS hgN hsrt hR hg hN hlen hcap
  go_enter Try.func14, Try.ntmps14
  go_wp2_with fail
  refine HS.out.mono ?_
  rintro e w1 ⟨p1, c1, rfl, ho1, hb1⟩
  have HROW := Lib.hid (Row.of_own ho1)
  have hz1 := hb1.size
  clear ho1 HS
  go_wp2
  go_loopg [7, 13] N.length (fun kx s7 s13 wr => ∃ (i n : Nat) (K : List Rt) (q : Option Addr) (cq : Nat), s13 = .int .i64 (i : Int) ∧ N.length - i ≤ kx ∧ i ≤ N.length ∧ s7 = .slice q n cq ∧ Hid (n = K.length) ∧ Hid (InvS N low high i K) ∧
    Hid (wr.ownsRow w1.heap.size 43 4 (.slice q n cq) n (rcs K)) ∧ Below w1.heap.size w1 wr)
  case atStart => exact ⟨0, 0, [], none, 0, rfl, by omega, by omega, rfl, Lib.hid rfl, Lib.hid (InvS.start _ _ _), Lib.hid (World.ownsRow_nil _ _ _ _), Below.refl _ _⟩
  case round =>
    obtain ⟨i, n, K, q, cq, rfl, k1, k2, rfl, HN, HI, HO, hb⟩ := hrel
    by_cases hi : i < N.length
    · obtain ⟨g, o, rfl, hgs, x0, x1, x2, x3⟩ := (HROW.out.below hb).rt hi
      have hgd := HG.out _ (List.getElem_mem hi)
      have hout := HI.out.out HG.out hi
      have hnone := HI.out.none HSRT.out HG.out hi
      have hlay := HI.out.lay HSRT.out HG.out hi
      have hKl := HI.out.len HG.out k2
      have hsK := HI.out.sorted
      generalize N[i] = r at *
      obtain ⟨⟨kh, kl, kn⟩, v⟩ := r
      simp only at x0 x1 x2 x3 hout hnone hlay
      obtain ⟨hg1, hg2⟩ : W64 kh ∧ W64 kl := hgd
      have hbt := HBT.out kh kl kn v low high
      have i1 : (0 : Int) ≤ (i : Int) := by omega
      have i2 : (i : Int) < (N.length : Int) := by omega
      unfold insB at hout hnone hlay
      simp only at hout hnone hlay
      cases hc : (decide (low < kn) && decide (kn ≤ high)) with
      | false =>
        rw [hc] at hbt
        have HB := Lib.hid hbt
        have HI2 := Lib.hid (hout hc)
        clear hout hnone hlay hbt hc hsK
        go_wp2_with fail
        refine (HB.out _).mono ?_
        rintro e w2 ⟨rfl, hb2⟩
        have hbr := hb.trans ((Below.trans (by go_grown) (hb2.mono (by simp)) : Below wr.heap.size wr w2).mono hb.size)
        have HO2 := Lib.hid (own_below HO.out (Below.trans (by go_grown) (hb2.mono (by simp))))
        go_wp2
        go_roundg (N.length - (i + 1))
        case measure => omega
        case rel => exact ⟨i + 1, n, K, q, cq, by go_num, by omega, by omega, rfl, HN, HI2, HO2, hbr⟩
      | true =>
        rw [hc] at hbt
        have HB := Lib.hid hbt
        have hL : ∃ K', InvS N low high (i + 1) K' ∧ ∀ W q cq, w1.heap.size ≤ W.heap.size → W.ownsRow w1.heap.size 43 4 (.slice q K.length cq) K.length (rcs K) →
            Calls Try.prog 20 #[.slice q K.length cq, .agg #[.int .u64 (kh : Int), .int .u64 (kl : Int), .int .i64 kn, .int .i64 v], .int .i64 high] W fun e w' => LayR w1.heap.size W w' e K' := by
          by_cases h0 : 0 < (sprK ⟨kh, kl, kn⟩ high).length
          · obtain ⟨P, Mm, S, e1, e2, e3, e4⟩ := hlay hc h0
            exact ⟨_, e4, fun W q cq hz ho => lay_some _ q cq K P Mm S kh kl kn v high W ho hz hsK (by omega) hg1 hg2 h0 e1 e2 e3⟩
          · have h0 : sprK ⟨kh, kl, kn⟩ high = [] := List.length_eq_zero_iff.1 (by omega)
            exact ⟨K, hnone hc h0, fun W q cq hz ho => lay_none _ q cq K kh kl kn v high W ho hz hg1 hg2 h0⟩
        obtain ⟨K', hI2, hcall⟩ := hL
        rw [← HN.out] at hcall
        have HI2 := Lib.hid hI2
        have HC := Lib.hid hcall
        clear hout hnone hlay hbt hc hsK hI2 hcall hKl
        go_wp2_with fail
        refine (HB.out _).mono ?_
        rintro e w2 ⟨rfl, hb2⟩
        have hw2 : Below wr.heap.size wr w2 := Below.trans (by go_grown) (hb2.mono (by simp))
        obtain ⟨nc, -⟩ := bcell hb2
        have r0 := (nc wr.heap.size 0 (by simp)).trans (show _ = some (Value.int .u64 (kh : Int)) by simp [go_sem])
        have r1 := (nc wr.heap.size 1 (by simp)).trans (show _ = some (Value.int .u64 (kl : Int)) by simp [go_sem])
        have r2 := (nc wr.heap.size 2 (by simp)).trans (show _ = some (Value.int .i64 kn) by simp [go_sem])
        have r3 := (nc wr.heap.size 3 (by simp)).trans (show _ = some (Value.int .i64 v) by simp [go_sem])
        have hz2 : wr.heap.size < w2.heap.size := by have := hb2.size; simp at this; omega
        have HO2 := Lib.hid (own_below HO.out hw2)
        have hb2' := hb.trans (hw2.mono hb.size)
        clear nc hb2 hw2 x0 x1 x2 x3 HO
        go_wp2_with fail
        refine (HC.out w2 q cq hb2'.size HO2.out).mono ?_
        rintro e w3 ⟨q3, c3, rfl, ho3, hb3⟩
        have hb3' := hb2'.trans hb3
        have HO3 := Lib.hid ho3
        clear ho3 hb3 HC
        go_wp2
        go_roundg (N.length - (i + 1))
        case measure => omega
        case rel => exact ⟨i + 1, K'.length, K', q3, c3, by go_num, by omega, by omega, rfl, Lib.hid rfl, HI2, HO3, hb3'⟩
    · have hil : i = N.length := by omega
      have hd : K = setS N low high := by
        have := HI.out
        rw [hil] at this
        exact this.done
      have HD := Lib.hid hd
      have hbw := hb1.trans (hb.mono hz1)
      clear hil hd
      go_wp2
      go_ret
      refine ⟨q, cq, ?_, ?_, hbw⟩
      · rw [← HD.out, HN.out]; rfl
      · have h := own_le HO.out hz1
        rw [HN.out, HD.out] at h
        exact h
end Go.Proofs.Ytcfioplbbbaeoaa
/-
  One statement whose order is open, with calls in a chain each of which leaves old memory as it was, and a tail in one order: what only reads, or builds a value, is taken first, wherever it stands, between the calls too. No condition on the program but that it draws orders in the wide manner.
-/
set_option linter.unusedSimpArgs false
set_option linter.unusedVariables false
namespace Go.Proofs.Ytcfioplbbbaeoaa
open Go Go.RowKit Go.Sort

section
variable {P : Program} {ops : Array Oper} {md : Region.Mode} {C : World → Prop} {Q : Exit → Act → World → Prop} {S : World → Prop} {pre : Nat → Bool}
/-- The calls one behind the other, each leaves the memory of w as it was; behind them the tail. -/
def chainQ (P : Program) (ops : Array Oper) (Q : Exit → Act → World → Prop) (w : World) (tl : List Nat) : List Nat → Act → World → Prop
  | [], a, w' => wpList P ops Q (pickL ops tl) a w'
  | x :: xs, a, w' => ∀ K : Act → World → Prop, (∀ a3 w3, Below w.heap.size w w3 → chainQ P ops Q w tl xs a3 w3 → K a3 w3) → oneOp P ops Q x K a w'
def chainTailB (ops : Array Oper) (tl : List Nat) : List Nat → Array Bool → Bool
  | [], listed => tailB .any ops tl listed
  | x :: xs, listed => decide (Region.ready .any ops listed = [x]) && (ops[x]?).isSome && chainTailB ops tl xs (listed.setIfInBounds x true)
def rowB (ops : Array Oper) (tA tB xs tl : List Nat) : Bool :=
  decide (ops.size = tA.length + (tB.length + (xs.length + tl.length))) &&
  takeD .any ops (fun _ => true) (fun l1 => takeD .any ops (fun i => laterB .any ops (fun j => !tl.contains j) i) (fun l2 => chainTailB ops tl xs l2) tB l1) tA (Array.replicate ops.size false)
theorem anyP_chain {w : World} (tl : List Nat) (pre2 : ∀ i ∈ tl, pre i = false) (rgb : ∀ {w'}, Below w.heap.size w w' → S w') : ∀ (xs : List Nat) (listed : Array Bool) (a : Act) (w' : World), chainTailB ops tl xs listed = true → chainQ P ops Q w tl xs a w' → anyP P .any ops Q S pre (xs.length + tl.length) listed a w'
  | [], listed, a, w', hB, h => by
    rw [List.length_nil, Nat.zero_add]
    exact anyP_tail tl listed a w' pre2 hB h
  | x :: xs, listed, a, w', hB, h => by
    simp only [chainTailB, Bool.and_eq_true, decide_eq_true_eq] at hB
    obtain ⟨⟨r0, hx⟩, ht⟩ := hB
    rw [List.length_cons, show xs.length + 1 + tl.length = (xs.length + tl.length) + 1 by omega]
    refine ⟨fun h1 => (by rw [r0] at h1; cases h1), fun i hi => ?_⟩
    rw [r0] at hi
    have hix : i = x := by simpa using hi
    subst hix
    exact (h _ (fun a3 w3 hb3 h3 => ⟨fun _ _ => rgb hb3, anyP_chain tl pre2 rgb xs _ a3 w3 ht h3⟩)).wpOp hx
theorem region_row {id : Nat} {a : Act} {w : World} {l : List Oper} (tA tB xs tl : List Nat) (hm : P.follows .mixedOrders = true) (hQ : ∀ c a w, Q (.panic c) a w → False) (hsel : Region.noSelect l.toArray = true) (hB : rowB l.toArray tA tB xs tl = true)
    (h : wpQuiet P l.toArray (fun _ => True) (fun a1 => wpQuiet P l.toArray (fun w' => ∃ p : Regrown, w' = grow (redrawn w p.d) p.os) (fun a2 => ∀ w', Below w.heap.size w w' → chainQ P l.toArray Q w tl xs a2 w') (pickL l.toArray tB) a1) (pickL l.toArray tA) a) :
    (Code.region id l.toArray true).wp P Q a w := by
  generalize l.toArray = ops at *
  simp only [rowB, Bool.and_eq_true, decide_eq_true_eq] at hB
  obtain ⟨hsz, hB⟩ := hB
  refine wp_region_any hm ?_
  have inv0 : HeadInv .any ops ops.size (Array.replicate ops.size false) :=
    ⟨by simp, fun j oj _ hl => (by rw [getD_replicate_false] at hl; cases hl), fun t h1 h2 => absurd h2 (by omega)⟩
  have hS0 : Rg w { w with drawn := w.drawn + 1 } := ⟨⟨w.drawn + 1, #[]⟩, by rw [grow_empty]; rfl⟩
  have pre2 : ∀ i ∈ tl, (!tl.contains i) = false := fun i hi => by simp [hi]
  refine wpAny_of_anyP (S := Rg w) (pre := fun j => !tl.contains j) _ _ _ _ ?_
  suffices hh : anyP P .any ops Q (Rg w) (fun j => !tl.contains j) (tA.length + (tB.length + (xs.length + tl.length))) (Array.replicate ops.size false) a { w with drawn := w.drawn + 1 } by
    rw [← hsz] at hh
    exact hh
  refine anyP_takesC (T := fun _ => True) hsel hQ (fun _ _ => trivial) (fun _ _ => .inr (fun _ => trivial)) hS0 (fun l1 a1 hF1 inv1 h1 => ?_) tA _ a hB inv0 h
  refine anyP_takesC (T := fun w' => ∃ p : Regrown, w' = grow (redrawn w p.d) p.os) hsel hQ (fun _ h => h) (fun i hi => .inl hi) hS0 (fun l2 a2 hF2 inv2 h2 => ?_) tB l1 a1 hF1 inv1 h1
  have hb0 : Below w.heap.size w { w with drawn := w.drawn + 1 } := ⟨rfl, rfl, rfl, Nat.le_refl _, fun _ _ => rfl⟩
  exact anyP_chain tl pre2 (fun h => regrown_of_below h) xs l2 a2 _ hF2 (h2 _ hb0)
end
end Go.Proofs.Ytcfioplbbbaeoaa
