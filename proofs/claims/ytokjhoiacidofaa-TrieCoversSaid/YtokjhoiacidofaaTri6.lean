/-
  A trie's struct in memory, and what Cover hands back: the longest on the way to an address. No condition but those that stand in each.
-/
import Derived.Test.YtokjhoiacidofaaTri4
import Derived.Test.YtokjhoiacidofaaTri5
import Derived.Deep.LoopGhost
set_option linter.unusedSimpArgs false
set_option linter.unusedVariables false
namespace Go.Proofs.Ytokjhoiacidofaa
open Go.RowKit Go.Sort M

/-- A trie T of n routes at block t, its nodes in blocks that K allows. -/
structure Tri (w : World) (K : Nat → Prop) (t : Nat) (T : Pt) (n : Int) : Prop where
  lt : t < w.heap.size
  at' : ∃ q, w.cell? ⟨t, 0, none⟩ = some (.pointer q) ∧ NdAt w K T q
  c1 : w.cell? ⟨t, 1, none⟩ = some (.int .i64 n)
  f : ∀ j, w.frozen? ⟨t, j, none⟩ = false
  off : ¬ K t
  new : ∀ g, w.heap.size ≤ g → K g
  ok : T.ok
theorem Tri.touched {w w' : World} {K S : Nat → Prop} {t : Nat} {T : Pt} {n : Int} (H : Tri w K t T n) (ht : Touch S w w') (hS : ∀ g, K g → ¬ S g) (hst : ¬ S t) : Tri w' K t T n := by
  obtain ⟨q, c0, hq⟩ := H.at'
  have hb := ht.block t H.lt hst
  exact ⟨Nat.lt_of_lt_of_le H.lt ht.size, ⟨q, (World.cell?_of_block (a := ⟨t, 0, none⟩) hb).trans c0, hq.touched ht hS⟩, (World.cell?_of_block (a := ⟨t, 1, none⟩) hb).trans H.c1, fun j => (World.frozen?_of_block (a := ⟨t, j, none⟩) hb).trans (H.f j), H.off, fun g hg => H.new g (Nat.le_trans ht.size hg), H.ok⟩
theorem Tri.below {w w' : World} {K : Nat → Prop} {t : Nat} {T : Pt} {n : Int} (H : Tri w K t T n) (hb : Below w.heap.size w w') : Tri w' K t T n :=
  H.touched (S := fun _ => False) (Touch.quiet hb) (fun _ _ h => h) (fun h => h)
def zr : Rt := ⟨⟨0, 0, 0⟩, 0⟩
/-- What Cover finds. -/
def covV (p : Ky) (low high : Int) (T : Pt) : Option Rt := if rightB p.h p.l p.n = true then coverP p.h p.l low (min high p.n) T none else none
def Pt.size : Pt → Nat
  | .nil => 0
  | .node _ _ _ l r => l.size + r.size + 1
/-- The best so far. -/
def BestAt (w : World) : Option Rt → Option Addr → Prop
  | none, q => q = none
  | some x, q => ∃ g, q = some ⟨g, 0, none⟩ ∧ g < w.heap.size ∧ w.cell? ⟨g, 0, none⟩ = some (.int .u64 (x.k.h : Int)) ∧ w.cell? ⟨g, 1, none⟩ = some (.int .u64 (x.k.l : Int)) ∧ w.cell? ⟨g, 2, none⟩ = some (.int .i64 x.k.n) ∧ w.cell? ⟨g, 3, none⟩ = some (.int .i64 x.v)
theorem BestAt.below {w w' : World} : ∀ {o : Option Rt} {q : Option Addr}, BestAt w o q → Below w.heap.size w w' → BestAt w' o q
  | none, _, h, _ => h
  | some _, _, ⟨g, e, hg, a, b, c, d⟩, hb => ⟨g, e, Nat.lt_of_lt_of_le hg hb.size, (hb.cell (p := ⟨g, 0, none⟩) hg).trans a, (hb.cell (p := ⟨g, 1, none⟩) hg).trans b, (hb.cell (p := ⟨g, 2, none⟩) hg).trans c, (hb.cell (p := ⟨g, 3, none⟩) hg).trans d⟩
theorem tlen_any {K : Nat → Prop} {t : Nat} {T : Pt} {n : Int} {w : World} (H : Tri w K t T n) :
    Calls Try.prog 14 #[.pointer (some ⟨t, 0, none⟩)] w fun e w' => e = .returned (.int .i64 n) ∧ Below w.heap.size w w' := by
  have hl := H.lt
  have c1 := H.c1
  clear H
  go_enter Try.func14, Try.ntmps14
  go_wp2
  go_ret
  exact ⟨rfl, by go_grown⟩
/-- A route written at the head of a block. -/
def give4 (w : World) (b : Nat) (x : Rt) : World :=
  (((w.setCell ⟨b, 0, none⟩ (.int .u64 (x.k.h : Int))).setCell ⟨b, 1, none⟩ (.int .u64 (x.k.l : Int))).setCell ⟨b, 2, none⟩ (.int .i64 x.k.n)).setCell ⟨b, 3, none⟩ (.int .i64 x.v)
theorem give4_ok {w : World} {b : Nat} {u0 u1 u2 u3 : Value} (x : Rt) (y0 : w.cell? ⟨b, 0, none⟩ = some u0) (y1 : w.cell? ⟨b, 1, none⟩ = some u1) (y2 : w.cell? ⟨b, 2, none⟩ = some u2) (y3 : w.cell? ⟨b, 3, none⟩ = some u3) {B : Nat} {w0 : World} (hw : Below B w0 w) (hB : B ≤ b) :
    (give4 w b x).cell? ⟨b, 0, none⟩ = some (.int .u64 (x.k.h : Int)) ∧ (give4 w b x).cell? ⟨b, 1, none⟩ = some (.int .u64 (x.k.l : Int)) ∧ (give4 w b x).cell? ⟨b, 2, none⟩ = some (.int .i64 x.k.n) ∧ (give4 w b x).cell? ⟨b, 3, none⟩ = some (.int .i64 x.v) ∧ Below B w0 (give4 w b x) ∧ (give4 w b x).heap.size = w.heap.size := by
  have hne : ∀ (w : World) (i j : Nat) (v : Value), j ≠ i → (w.setCell ⟨b, i, none⟩ v).cell? ⟨b, j, none⟩ = w.cell? ⟨b, j, none⟩ := fun w i j v h => set_ne w b i j v h
  unfold give4
  refine ⟨?_, ?_, ?_, ?_, below_set (below_set (below_set (below_set hw hB) hB) hB) hB, by simp only [World.size_setCell]⟩
  · rw [hne _ _ _ _ (by decide), hne _ _ _ _ (by decide), hne _ _ _ _ (by decide)]
    exact World.cell?_setCell_same _ _ _ y0
  · rw [hne _ _ _ _ (by decide), hne _ _ _ _ (by decide)]
    exact World.cell?_setCell_same _ _ _ ((hne _ _ _ _ (by decide)).trans y1)
  · rw [hne _ _ _ _ (by decide)]
    exact World.cell?_setCell_same _ _ _ ((hne _ _ _ _ (by decide)).trans ((hne _ _ _ _ (by decide)).trans y2))
  · exact World.cell?_setCell_same _ _ _ ((hne _ _ _ _ (by decide)).trans ((hne _ _ _ _ (by decide)).trans ((hne _ _ _ _ (by decide)).trans y3)))
set_option maxRecDepth 100000 in
set_option maxHeartbeats 8000000 in
theorem cover_any {K : Nat → Prop} {t : Nat} {T : Pt} {n : Int} {w : World} (H : Tri w K t T n) (p : Ky) (low high : Int) (pg : p.good) :
    Calls Try.prog 19 #[.pointer (some ⟨t, 0, none⟩), kyV p, .int .i64 low, .int .i64 high] w fun e w' => e = .returned (.tuple #[rtA ((covV p low high T).getD zr), .bool (covV p low high T).isSome]) ∧ Below w.heap.size w w' := by
  obtain ⟨q, cq, hq⟩ := H.at'
  have ho := H.ok
  have hl := H.lt
  have hR := right_any p.h p.l p.n pg.1 pg.2
  obtain ⟨V, hV⟩ : ∃ V, V = covV p low high T := ⟨_, rfl⟩
  rw [← hV]
  unfold covV at hV
  clear H
  by_cases hr : rightB p.h p.l p.n = true
  · rw [hr] at hR
    rw [if_pos hr] at hV
    have HRT := Lib.hid hR
    have HQ := Lib.hid hq
    have HO := Lib.hid ho
    have hM : ∀ (ts : Array TypeId) (t : TypeId) (w : World), (Builtin.min_ ts t #[.int .i64 high, .int .i64 p.n]).run Try.prog w = .ok (.int .i64 (min high p.n)) w := by
      intro ts t w
      have e : (if p.n < high then p.n else high) = min high p.n := by split <;> omega
      rw [← e]
      simp [Builtin.min_, Builtin.min2]
    obtain ⟨m, hm⟩ : ∃ m, m = min high p.n := ⟨_, rfl⟩
    rw [← hm] at hM hV
    have HV := Lib.hid hV
    clear hR hr hq ho hm hV
    unfold kyV
    go_enter Try.func19, Try.ntmps19
    go_wp2_with fail
    refine (HRT.out _).mono ?_
    rintro e w1 ⟨rfl, hb1⟩
    generalize hwB : World.alloc (World.alloc w _) _ = wB at hb1
    have hB : Below w.heap.size w wB := by rw [← hwB]; go_grown
    have hzB : w.heap.size + 1 < wB.heap.size := by rw [← hwB]; simp
    have HW : Hid (∀ wx, Below wB.heap.size wB wx → wx.cell? ⟨w.heap.size, 0, none⟩ = some (.int .u64 (p.h : Int)) ∧ wx.cell? ⟨w.heap.size, 1, none⟩ = some (.int .u64 (p.l : Int)) ∧ wx.cell? ⟨w.heap.size, 2, none⟩ = some (.int .i64 p.n) ∧
        wx.cell? ⟨w.heap.size + 1, 0, none⟩ = some (.int .u64 0) ∧ wx.cell? ⟨w.heap.size + 1, 1, none⟩ = some (.int .u64 0) ∧ wx.cell? ⟨w.heap.size + 1, 2, none⟩ = some (.int .i64 0) ∧ wx.cell? ⟨w.heap.size + 1, 3, none⟩ = some (.int .i64 0) ∧ (∀ j, wx.frozen? ⟨w.heap.size + 1, j, none⟩ = false) ∧ w.heap.size < wx.heap.size ∧ w.heap.size + 1 < wx.heap.size) := by
      intro wx hb
      have hz0 : w.heap.size < wB.heap.size := by omega
      refine ⟨(hb.cell (p := ⟨w.heap.size, 0, none⟩) hz0).trans ?_, (hb.cell (p := ⟨w.heap.size, 1, none⟩) hz0).trans ?_, (hb.cell (p := ⟨w.heap.size, 2, none⟩) hz0).trans ?_, (hb.cell (p := ⟨w.heap.size + 1, 0, none⟩) hzB).trans ?_, (hb.cell (p := ⟨w.heap.size + 1, 1, none⟩) hzB).trans ?_, (hb.cell (p := ⟨w.heap.size + 1, 2, none⟩) hzB).trans ?_, (hb.cell (p := ⟨w.heap.size + 1, 3, none⟩) hzB).trans ?_, fun j => (hb.frozen (p := ⟨w.heap.size + 1, j, none⟩) hzB).trans ?_, by have := hb.size; omega, by have := hb.size; omega⟩ <;> rw [← hwB] <;> simp [go_sem]
    have hlB : t < wB.heap.size := Nat.lt_of_lt_of_le hl hB.size
    have cqB := (hB.cell (p := ⟨t, 0, none⟩) hl).trans cq
    clear hwB hl cq
    have cq1 := (hb1.cell (p := ⟨t, 0, none⟩) hlB).trans cqB
    have hl1 := Nat.lt_of_lt_of_le hlB hb1.size
    obtain ⟨p0, p1, p2, -, -, -, -, -, hz1, -⟩ := HW.out w1 hb1
    have hQ1 := (HQ.out.below hB).below hb1
    go_wp2_with fail
    have HT1 := Lib.hid hQ1
    clear hQ1 HQ cq1 cqB p0 p1 p2 hz1 hl1 hlB HRT
    go_loopg [10, 11] T.size (fun gk s10 s11 wr => ∃ (C : Pt) (cur bq : Option Addr) (acc : Option Rt), C.size ≤ gk ∧ s10 = .pointer bq ∧ s11 = .pointer cur ∧ Hid (NdAt wr K C cur ∧ C.ok) ∧ Hid (BestAt wr acc bq) ∧ Hid (coverP p.h p.l low m C acc = V) ∧ Below wB.heap.size wB wr)
    case atStart =>
      exact ⟨T, _, none, none, Nat.le_refl _, rfl, rfl, ⟨HT1.out, HO.out⟩, rfl, HV.out.symm, hb1⟩
    case round =>
      clear HT1 hb1 HV HO
      obtain ⟨C, cur, bq, acc, hsz, rfl, rfl, HN, HB, HC, hb⟩ := hrel
      obtain ⟨p0, p1, p2, y0, y1, y2, y3, yf, hz1, hz2⟩ := HW.out wr hb
      have hwr := hB.trans (hb.mono hB.size)
      cases C with
      | nil =>
        obtain rfl : cur = none := HN.out.1
        have HVE : Hid (acc = V) := HC.out
        clear HN HC hsz
        go_wp2_with fail
        have kg := cell_grow
        refine region_whole (by kernel_rfl) (by kernel_rfl) ?_
        repeat (any_goals (first | go_big_quiet_step (fail) | quiet_step (fail)))
        refine wpQuiet_nil ?_
        clear kg
        intro w2 hb2
        obtain ⟨hc2, hf2⟩ := bcell hb2
        have hw2 : Below w.heap.size w w2 := by
          refine Below.trans ?_ (hb2.mono ?_)
          · go_grown
          · first | omega | go_size
        have hb2' := hb.trans (hb2.mono hb.size)
        obtain ⟨p0, p1, p2, y0, y1, y2, y3, yf, hz1, hz2⟩ := HW.out w2 hb2'
        have hwE := hB.trans (hb2'.mono hB.size)
        have HBE := Lib.hid (HB.out.below hb2)
        clear HB hb2' hc2 hf2
        cases acc with
        | none =>
          obtain rfl : bq = none := HBE.out
          go_wp2
          have hg4 := give4_ok zr y0 y1 y2 y3 hwE (show w.heap.size ≤ w.heap.size + 1 by omega)
          have hw3 : ((((w2.setCell ⟨w.heap.size + 1, 0, none⟩ (.int .u64 (0))).setCell ⟨w.heap.size + 1, 1, none⟩ (.int .u64 (0))).setCell ⟨w.heap.size + 1, 2, none⟩ (.int .i64 (0))).setCell ⟨w.heap.size + 1, 3, none⟩ (.int .i64 (0))) = give4 w2 (w.heap.size + 1) zr := rfl
          rw [hw3]
          clear hw3
          generalize give4 w2 (w.heap.size + 1) zr = w3 at hg4 ⊢
          obtain ⟨j0, j1, j2, j3, hwG, hsG⟩ := hg4
          clear y0 y1 y2 y3 yf
          refine bodyPost_ret (by simp [results, Try.results19, go_sem, j0, j1, j2, j3]; try rfl) rfl ?_
          exact ⟨by rw [← HVE.out]; rfl, hwG⟩
        | some x =>
          obtain ⟨gb, rfl, hgb, x0, x1, x2, x3⟩ := HBE.out
          go_wp2
          have hg4 := give4_ok x y0 y1 y2 y3 hwE (show w.heap.size ≤ w.heap.size + 1 by omega)
          have hw3 : ((((w2.setCell ⟨w.heap.size + 1, 0, none⟩ (.int .u64 (x.k.h))).setCell ⟨w.heap.size + 1, 1, none⟩ (.int .u64 (x.k.l))).setCell ⟨w.heap.size + 1, 2, none⟩ (.int .i64 (x.k.n))).setCell ⟨w.heap.size + 1, 3, none⟩ (.int .i64 (x.v))) = give4 w2 (w.heap.size + 1) x := rfl
          rw [hw3]
          clear hw3
          generalize give4 w2 (w.heap.size + 1) x = w3 at hg4 ⊢
          obtain ⟨j0, j1, j2, j3, hwG, hsG⟩ := hg4
          clear y0 y1 y2 y3 yf
          refine bodyPost_ret (by simp [results, Try.results19, go_sem, j0, j1, j2, j3]; try rfl) rfl ?_
          exact ⟨by rw [← HVE.out]; rfl, hwG⟩
      | node k v on l r =>
        obtain ⟨⟨g, ql, qr, rfl, hg, hnc, hal, har⟩, hok⟩ := HN.out
        have kg := hok.1
        have kr := hok.2.1
        have h0 := (rightK_le kr).1
        have hz := hnc.lt
        have c0 := hnc.c0
        have c1 := hnc.c1
        have c2 := hnc.c2
        have HSZ := Lib.hid (fun (W : World) (hb : Below wr.heap.size wr W) => size14_at g k.n W (Nat.lt_of_lt_of_le hz hb.size) ((hb.cell (p := ⟨g, 2, none⟩) hz).trans c2))
        by_cases hle : k.n ≤ m
        · have hd : decide (k.n ≤ m) = true := decide_eq_true hle
          cases hh : hasB k.h k.l k.n p.h p.l with
          | false =>
            have HHA := has_any k.h k.l k.n p.h p.l kg.1 kg.2 pg.1 pg.2
            rw [hh] at HHA
            have HHA := Lib.hid HHA
            have HVE : Hid (acc = V) := by
              have h := HC.out
              unfold coverP at h
              rw [if_neg (fun h => by rw [hh] at h; cases h.2)] at h
              exact h
            clear HN HC hsz hok hnc hal har hh
            go_wp2_with fail
            have kg := cell_grow
            refine region_whole (by kernel_rfl) (by kernel_rfl) ?_
            repeat (any_goals (first | go_big_quiet_step ((first | exact HHA.out.at _ _ _ | exact HSZ.out _ (Below.refl _ _) _ _)) | quiet_step ((first | exact HHA.out.at _ _ _ | exact HSZ.out _ (Below.refl _ _) _ _))))
            refine wpQuiet_nil ?_
            clear kg
            intro w2 hb2
            obtain ⟨hc2, hf2⟩ := bcell hb2
            have hw2 : Below w.heap.size w w2 := by
              refine Below.trans ?_ (hb2.mono ?_)
              · go_grown
              · first | omega | go_size
            have hb2' := hb.trans (hb2.mono hb.size)
            obtain ⟨p0, p1, p2, y0, y1, y2, y3, yf, hz1, hz2⟩ := HW.out w2 hb2'
            have hwE := hB.trans (hb2'.mono hB.size)
            have HBE := Lib.hid (HB.out.below hb2)
            clear HB hb2' hc2 hf2
            cases acc with
            | none =>
              obtain rfl : bq = none := HBE.out
              go_wp2
              have hg4 := give4_ok zr y0 y1 y2 y3 hwE (show w.heap.size ≤ w.heap.size + 1 by omega)
              have hw3 : ((((w2.setCell ⟨w.heap.size + 1, 0, none⟩ (.int .u64 (0))).setCell ⟨w.heap.size + 1, 1, none⟩ (.int .u64 (0))).setCell ⟨w.heap.size + 1, 2, none⟩ (.int .i64 (0))).setCell ⟨w.heap.size + 1, 3, none⟩ (.int .i64 (0))) = give4 w2 (w.heap.size + 1) zr := rfl
              rw [hw3]
              clear hw3
              generalize give4 w2 (w.heap.size + 1) zr = w3 at hg4 ⊢
              obtain ⟨j0, j1, j2, j3, hwG, hsG⟩ := hg4
              clear y0 y1 y2 y3 yf
              refine bodyPost_ret (by simp [results, Try.results19, go_sem, j0, j1, j2, j3]; try rfl) rfl ?_
              exact ⟨by rw [← HVE.out]; rfl, hwG⟩
            | some x =>
              obtain ⟨gb, rfl, hgb, x0, x1, x2, x3⟩ := HBE.out
              go_wp2
              have hg4 := give4_ok x y0 y1 y2 y3 hwE (show w.heap.size ≤ w.heap.size + 1 by omega)
              have hw3 : ((((w2.setCell ⟨w.heap.size + 1, 0, none⟩ (.int .u64 (x.k.h))).setCell ⟨w.heap.size + 1, 1, none⟩ (.int .u64 (x.k.l))).setCell ⟨w.heap.size + 1, 2, none⟩ (.int .i64 (x.k.n))).setCell ⟨w.heap.size + 1, 3, none⟩ (.int .i64 (x.v))) = give4 w2 (w.heap.size + 1) x := rfl
              rw [hw3]
              clear hw3
              generalize give4 w2 (w.heap.size + 1) x = w3 at hg4 ⊢
              obtain ⟨j0, j1, j2, j3, hwG, hsG⟩ := hg4
              clear y0 y1 y2 y3 yf
              refine bodyPost_ret (by simp [results, Try.results19, go_sem, j0, j1, j2, j3]; try rfl) rfl ?_
              exact ⟨by rw [← HVE.out]; rfl, hwG⟩
          | true =>
            have HHA := has_any k.h k.l k.n p.h p.l kg.1 kg.2 pg.1 pg.2
            rw [hh] at HHA
            have HHA := Lib.hid HHA
            have HCN : Hid (coverP p.h p.l low m (cond (bitK p k.n.toNat) r l) (if on = true ∧ low < k.n then some ⟨k, v⟩ else acc) = V) := by
              have h := HC.out
              unfold coverP at h
              rw [if_pos ⟨hle, hh⟩] at h
              show _ = _
              rw [← h]
              unfold bitK
              cases bitN p.h p.l k.n.toNat <;> rfl
            have HND := Lib.hid hnc
            have HKL := Lib.hid hal
            have HKR := Lib.hid har
            have HOL := Lib.hid hok.2.2.2.2.1
            have HOR := Lib.hid hok.2.2.2.2.2
            have hszl : l.size + r.size + 1 ≤ gk := hsz
            have c4 := hnc.c4
            clear HN HC hsz hok hnc hal har hh
            cases on with
            | false =>
              have HAC : Hid ((if false = true ∧ low < k.n then some (⟨k, v⟩ : Rt) else acc) = acc) := if_neg (fun h => by cases h.1)
              go_wp2_with fail
              have kg := cell_grow
              refine region_whole (by kernel_rfl) (by kernel_rfl) ?_
              repeat (any_goals (first | go_big_quiet_step ((first | exact HHA.out.at _ _ _ | exact HSZ.out _ (Below.refl _ _) _ _)) | quiet_step ((first | exact HHA.out.at _ _ _ | exact HSZ.out _ (Below.refl _ _) _ _))))
              refine wpQuiet_nil ?_
              clear kg
              intro w2 hb2
              obtain ⟨hc2, hf2⟩ := bcell hb2
              have hw2 : Below w.heap.size w w2 := by
                refine Below.trans ?_ (hb2.mono ?_)
                · go_grown
                · first | omega | go_size
              have p0 := (hc2 _ _ hz1).trans p0
              have p1 := (hc2 _ _ hz1).trans p1
              have p2 := (hc2 _ _ hz1).trans p2
              have c4 := (hc2 _ _ hz).trans c4
              have c2 := (hc2 _ _ hz).trans c2
              have hz := Nat.lt_of_lt_of_le hz hb2.size
              have hz1 := Nat.lt_of_lt_of_le hz1 hb2.size
              clear y0 y1 y2 y3 yf hz2 c0 c1 hc2 hf2
              have hbr := hb2
              clear hb2
              go_wp2_with fail
              have ht := toward_any g k v _ ql qr p _ (HND.out.below hbr) pg h0
              refine ht.mono ?_
              rintro e w5 ⟨rfl, hb5⟩
              have hbr := hbr.trans (hb5.mono hbr.size)
              clear hb5 ht p0 p1 p2 hz hz1
              go_wp2_with fail
              have HNT := Lib.hid (HND.out.below hbr)
              go_roundg (gk - 1)
              case measure => omega
              case rel =>
                refine ⟨cond (bitK p k.n.toNat) r l, cond (bitK p k.n.toNat) qr ql, bq, acc, ?_, rfl, rfl, ?_, (HB.out.below hbr), ?_, hb.trans (hbr.mono hb.size)⟩
                · cases bitK p k.n.toNat
                  · show l.size ≤ _; omega
                  · show r.size ≤ _; omega
                · cases bitK p k.n.toNat
                  · exact ⟨HKL.out.below hbr, HOL.out⟩
                  · exact ⟨HKR.out.below hbr, HOR.out⟩
                · have h := HCN.out
                  rw [HAC.out] at h
                  exact h
            | true =>
              by_cases hlow : low < k.n
              · have HAC : Hid ((if true = true ∧ low < k.n then some (⟨k, v⟩ : Rt) else acc) = some ⟨k, v⟩) := if_pos ⟨rfl, hlow⟩
                go_wp2_with fail
                have kg := cell_grow
                refine region_whole (by kernel_rfl) (by kernel_rfl) ?_
                repeat (any_goals (first | go_big_quiet_step ((first | exact HHA.out.at _ _ _ | exact HSZ.out _ (Below.refl _ _) _ _)) | quiet_step ((first | exact HHA.out.at _ _ _ | exact HSZ.out _ (Below.refl _ _) _ _))))
                refine wpQuiet_nil ?_
                clear kg
                intro w2 hb2
                obtain ⟨hc2, hf2⟩ := bcell hb2
                have hw2 : Below w.heap.size w w2 := by
                  refine Below.trans ?_ (hb2.mono ?_)
                  · go_grown
                  · first | omega | go_size
                have p0 := (hc2 _ _ hz1).trans p0
                have p1 := (hc2 _ _ hz1).trans p1
                have p2 := (hc2 _ _ hz1).trans p2
                have c4 := (hc2 _ _ hz).trans c4
                have c2 := (hc2 _ _ hz).trans c2
                have hz := Nat.lt_of_lt_of_le hz hb2.size
                have hz1 := Nat.lt_of_lt_of_le hz1 hb2.size
                clear y0 y1 y2 y3 yf hz2 c0 c1 hc2 hf2
                have hbr := hb2
                clear hb2
                go_wp2_with fail
                refine (size14_any g k.n w2 hz c2).mono ?_
                rintro e w4 ⟨rfl, hb4⟩
                have hbr := hbr.trans (hb4.mono hbr.size)
                have p0 := (hb4.cell (p := ⟨w.heap.size, 0, none⟩) hz1).trans p0
                have p1 := (hb4.cell (p := ⟨w.heap.size, 1, none⟩) hz1).trans p1
                have p2 := (hb4.cell (p := ⟨w.heap.size, 2, none⟩) hz1).trans p2
                have hz1 := Nat.lt_of_lt_of_le hz1 hb4.size
                have hz := Nat.lt_of_lt_of_le hz hb4.size
                clear c4 c2 hb4
                go_wp2_with fail
                have ht := toward_any g k v _ ql qr p _ (HND.out.below hbr) pg h0
                refine ht.mono ?_
                rintro e w5 ⟨rfl, hb5⟩
                have hbr := hbr.trans (hb5.mono hbr.size)
                clear hb5 ht p0 p1 p2 hz hz1
                go_wp2_with fail
                have HNT := Lib.hid (HND.out.below hbr)
                go_roundg (gk - 1)
                case measure => omega
                case rel =>
                  refine ⟨cond (bitK p k.n.toNat) r l, cond (bitK p k.n.toNat) qr ql, (some ⟨g, 0, none⟩), (some ⟨k, v⟩), ?_, rfl, rfl, ?_, ⟨g, rfl, HNT.out.lt, HNT.out.c0, HNT.out.c1, HNT.out.c2, HNT.out.c3⟩, ?_, hb.trans (hbr.mono hb.size)⟩
                  · cases bitK p k.n.toNat
                    · show l.size ≤ _; omega
                    · show r.size ≤ _; omega
                  · cases bitK p k.n.toNat
                    · exact ⟨HKL.out.below hbr, HOL.out⟩
                    · exact ⟨HKR.out.below hbr, HOR.out⟩
                  · have h := HCN.out
                    rw [HAC.out] at h
                    exact h
              · have HAC : Hid ((if true = true ∧ low < k.n then some (⟨k, v⟩ : Rt) else acc) = acc) := if_neg (fun h => hlow h.2)
                go_wp2_with fail
                have kg := cell_grow
                refine region_whole (by kernel_rfl) (by kernel_rfl) ?_
                repeat (any_goals (first | go_big_quiet_step ((first | exact HHA.out.at _ _ _ | exact HSZ.out _ (Below.refl _ _) _ _)) | quiet_step ((first | exact HHA.out.at _ _ _ | exact HSZ.out _ (Below.refl _ _) _ _))))
                refine wpQuiet_nil ?_
                clear kg
                intro w2 hb2
                obtain ⟨hc2, hf2⟩ := bcell hb2
                have hw2 : Below w.heap.size w w2 := by
                  refine Below.trans ?_ (hb2.mono ?_)
                  · go_grown
                  · first | omega | go_size
                have p0 := (hc2 _ _ hz1).trans p0
                have p1 := (hc2 _ _ hz1).trans p1
                have p2 := (hc2 _ _ hz1).trans p2
                have c4 := (hc2 _ _ hz).trans c4
                have c2 := (hc2 _ _ hz).trans c2
                have hz := Nat.lt_of_lt_of_le hz hb2.size
                have hz1 := Nat.lt_of_lt_of_le hz1 hb2.size
                clear y0 y1 y2 y3 yf hz2 c0 c1 hc2 hf2
                have hbr := hb2
                clear hb2
                go_wp2_with fail
                refine (size14_any g k.n w2 hz c2).mono ?_
                rintro e w4 ⟨rfl, hb4⟩
                have hbr := hbr.trans (hb4.mono hbr.size)
                have p0 := (hb4.cell (p := ⟨w.heap.size, 0, none⟩) hz1).trans p0
                have p1 := (hb4.cell (p := ⟨w.heap.size, 1, none⟩) hz1).trans p1
                have p2 := (hb4.cell (p := ⟨w.heap.size, 2, none⟩) hz1).trans p2
                have hz1 := Nat.lt_of_lt_of_le hz1 hb4.size
                have hz := Nat.lt_of_lt_of_le hz hb4.size
                clear c4 c2 hb4
                go_wp2_with fail
                have ht := toward_any g k v _ ql qr p _ (HND.out.below hbr) pg h0
                refine ht.mono ?_
                rintro e w5 ⟨rfl, hb5⟩
                have hbr := hbr.trans (hb5.mono hbr.size)
                clear hb5 ht p0 p1 p2 hz hz1
                go_wp2_with fail
                have HNT := Lib.hid (HND.out.below hbr)
                go_roundg (gk - 1)
                case measure => omega
                case rel =>
                  refine ⟨cond (bitK p k.n.toNat) r l, cond (bitK p k.n.toNat) qr ql, bq, acc, ?_, rfl, rfl, ?_, (HB.out.below hbr), ?_, hb.trans (hbr.mono hb.size)⟩
                  · cases bitK p k.n.toNat
                    · show l.size ≤ _; omega
                    · show r.size ≤ _; omega
                  · cases bitK p k.n.toNat
                    · exact ⟨HKL.out.below hbr, HOL.out⟩
                    · exact ⟨HKR.out.below hbr, HOR.out⟩
                  · have h := HCN.out
                    rw [HAC.out] at h
                    exact h
        · have HVE : Hid (acc = V) := by
            have h := HC.out
            unfold coverP at h
            rw [if_neg (fun h => hle h.1)] at h
            exact h
          have hd : decide (k.n ≤ m) = false := decide_eq_false hle
          clear HN HC hsz hok hnc hal har
          go_wp2_with fail
          have kg := cell_grow
          refine region_whole (by kernel_rfl) (by kernel_rfl) ?_
          repeat (any_goals (first | go_big_quiet_step ((exact HSZ.out _ (Below.refl _ _) _ _)) | quiet_step ((exact HSZ.out _ (Below.refl _ _) _ _))))
          refine wpQuiet_nil ?_
          clear kg
          intro w2 hb2
          obtain ⟨hc2, hf2⟩ := bcell hb2
          have hw2 : Below w.heap.size w w2 := by
            refine Below.trans ?_ (hb2.mono ?_)
            · go_grown
            · first | omega | go_size
          have hb2' := hb.trans (hb2.mono hb.size)
          obtain ⟨p0, p1, p2, y0, y1, y2, y3, yf, hz1, hz2⟩ := HW.out w2 hb2'
          have hwE := hB.trans (hb2'.mono hB.size)
          have HBE := Lib.hid (HB.out.below hb2)
          clear HB hb2' hc2 hf2
          cases acc with
          | none =>
            obtain rfl : bq = none := HBE.out
            go_wp2
            have hg4 := give4_ok zr y0 y1 y2 y3 hwE (show w.heap.size ≤ w.heap.size + 1 by omega)
            have hw3 : ((((w2.setCell ⟨w.heap.size + 1, 0, none⟩ (.int .u64 (0))).setCell ⟨w.heap.size + 1, 1, none⟩ (.int .u64 (0))).setCell ⟨w.heap.size + 1, 2, none⟩ (.int .i64 (0))).setCell ⟨w.heap.size + 1, 3, none⟩ (.int .i64 (0))) = give4 w2 (w.heap.size + 1) zr := rfl
            rw [hw3]
            clear hw3
            generalize give4 w2 (w.heap.size + 1) zr = w3 at hg4 ⊢
            obtain ⟨j0, j1, j2, j3, hwG, hsG⟩ := hg4
            clear y0 y1 y2 y3 yf
            refine bodyPost_ret (by simp [results, Try.results19, go_sem, j0, j1, j2, j3]; try rfl) rfl ?_
            exact ⟨by rw [← HVE.out]; rfl, hwG⟩
          | some x =>
            obtain ⟨gb, rfl, hgb, x0, x1, x2, x3⟩ := HBE.out
            go_wp2
            have hg4 := give4_ok x y0 y1 y2 y3 hwE (show w.heap.size ≤ w.heap.size + 1 by omega)
            have hw3 : ((((w2.setCell ⟨w.heap.size + 1, 0, none⟩ (.int .u64 (x.k.h))).setCell ⟨w.heap.size + 1, 1, none⟩ (.int .u64 (x.k.l))).setCell ⟨w.heap.size + 1, 2, none⟩ (.int .i64 (x.k.n))).setCell ⟨w.heap.size + 1, 3, none⟩ (.int .i64 (x.v))) = give4 w2 (w.heap.size + 1) x := rfl
            rw [hw3]
            clear hw3
            generalize give4 w2 (w.heap.size + 1) x = w3 at hg4 ⊢
            obtain ⟨j0, j1, j2, j3, hwG, hsG⟩ := hg4
            clear y0 y1 y2 y3 yf
            refine bodyPost_ret (by simp [results, Try.results19, go_sem, j0, j1, j2, j3]; try rfl) rfl ?_
            exact ⟨by rw [← HVE.out]; rfl, hwG⟩
  · have hr0 : rightB p.h p.l p.n = false := by simpa using hr
    rw [hr0] at hR
    rw [if_neg hr] at hV
    have HRT := Lib.hid hR
    have HVE : Hid ((none : Option Rt) = V) := hV.symm
    clear hR hr hr0 hq ho hV
    unfold kyV
    go_enter Try.func19, Try.ntmps19
    go_wp2_with fail
    refine (HRT.out _).mono ?_
    rintro e w1 ⟨rfl, hb1⟩
    generalize hwB : World.alloc (World.alloc w _) _ = wB at hb1
    have hB : Below w.heap.size w wB := by rw [← hwB]; go_grown
    have hzB : w.heap.size + 1 < wB.heap.size := by rw [← hwB]; simp
    have y0 : w1.cell? ⟨w.heap.size + 1, 0, none⟩ = some (.int .u64 0) := by rw [hb1.cell (p := ⟨w.heap.size + 1, 0, none⟩) hzB, ← hwB]; simp [go_sem]
    have y1 : w1.cell? ⟨w.heap.size + 1, 1, none⟩ = some (.int .u64 0) := by rw [hb1.cell (p := ⟨w.heap.size + 1, 1, none⟩) hzB, ← hwB]; simp [go_sem]
    have y2 : w1.cell? ⟨w.heap.size + 1, 2, none⟩ = some (.int .i64 0) := by rw [hb1.cell (p := ⟨w.heap.size + 1, 2, none⟩) hzB, ← hwB]; simp [go_sem]
    have y3 : w1.cell? ⟨w.heap.size + 1, 3, none⟩ = some (.int .i64 0) := by rw [hb1.cell (p := ⟨w.heap.size + 1, 3, none⟩) hzB, ← hwB]; simp [go_sem]
    have yf : ∀ j, w1.frozen? ⟨w.heap.size + 1, j, none⟩ = false := fun j => by rw [hb1.frozen (p := ⟨w.heap.size + 1, j, none⟩) hzB, ← hwB]; simp [go_sem]
    have hwE := hB.trans (hb1.mono hB.size)
    have hz2 := Nat.lt_of_lt_of_le hzB hb1.size
    clear hwB hb1 hB hzB HRT hl cq
    go_wp2
    generalize w1 = w2 at *
    have hg4 := give4_ok zr y0 y1 y2 y3 hwE (show w.heap.size ≤ w.heap.size + 1 by omega)
    have hw3 : ((((w2.setCell ⟨w.heap.size + 1, 0, none⟩ (.int .u64 (0))).setCell ⟨w.heap.size + 1, 1, none⟩ (.int .u64 (0))).setCell ⟨w.heap.size + 1, 2, none⟩ (.int .i64 (0))).setCell ⟨w.heap.size + 1, 3, none⟩ (.int .i64 (0))) = give4 w2 (w.heap.size + 1) zr := rfl
    rw [hw3]
    clear hw3
    generalize give4 w2 (w.heap.size + 1) zr = w3 at hg4 ⊢
    obtain ⟨j0, j1, j2, j3, hwG, hsG⟩ := hg4
    clear y0 y1 y2 y3 yf
    refine bodyPost_ret (by simp [results, Try.results19, go_sem, j0, j1, j2, j3]; try rfl) rfl ?_
    exact ⟨by rw [← HVE.out]; rfl, hwG⟩
end Go.Proofs.Ytokjhoiacidofaa
