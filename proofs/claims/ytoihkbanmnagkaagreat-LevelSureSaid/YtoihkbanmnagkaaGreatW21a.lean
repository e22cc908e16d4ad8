/-
  The program's level in memory, how it is kept, and what New hands back. No condition but that words are words.
-/
import Derived.Test.YtoihkbanmnagkaaGreatW12m
import Derived.Test.YtoihkbanmnagkaaGreatW12l
import Derived.Test.YtoihkbanmnagkaaGreatAct12
import Derived.Test.YtoihkbanmnagkaaGreatRT2
import Derived.Test.YtoihkbanmnagkaaGreatL21b
import Derived.Deep.RegionHeld3
import Derived.Deep.LoopGhost
import Derived.Test.YtoihkbanmnagkaaGreatW11
import Derived.Test.YtoihkbanmnagkaaGreatW12b
import Derived.Test.YtoihkbanmnagkaaGreatCT
import Derived.Test.YtoihkbanmnagkaaGreatAppR
import Derived.Test.YtoihkbanmnagkaaGreatReg6
import Derived.Test.YtoihkbanmnagkaaGreatW11e
import Derived.Test.YtoihkbanmnagkaaGreatW12f
import Derived.Test.YtoihkbanmnagkaaGreatW12g
import Derived.Test.YtoihkbanmnagkaaGreatW12h
import Derived.Test.YtoihkbanmnagkaaGreatL21
import Derived.Test.YtoihkbanmnagkaaGreatW6c
import Derived.Test.YtoihkbanmnagkaaGreatSort
/-
  CuckooKeeps as a walk: it hands back true, for every input. No condition but that the seed is a word of 64 bits, the count a whole number of 64 bits, and that the row of calls lies in old memory.
-/
set_option linter.unusedSimpArgs false
set_option linter.unusedVariables false
namespace Go.Proofs.YtoihkbanmnagkaaGreat
open Go.RowKit Go.Sort M

theorem outS_len : ∀ (L : List Rt) (k : Ky), (keysR L).Nodup → (outS L k).length + (if k ∈ keysR L then 1 else 0) = L.length
  | [], k, _ => by simp [outS, keysR]
  | a :: L, k, h => by
    have h1 : a.k ∉ keysR L ∧ (keysR L).Nodup := by
      unfold keysR at *
      rw [List.map_cons, List.nodup_cons] at h
      exact h
    have ih := outS_len L k h1.2
    by_cases e : a.k = k
    · have e1 : outS (a :: L) k = outS L k := by unfold outS; rw [List.filter_cons, if_neg (by simp [e])]
      have e2 : k ∈ keysR (a :: L) := by unfold keysR; simp [e]
      have e3 : k ∉ keysR L := by rw [← e]; exact h1.1
      rw [e1, if_pos e2, List.length_cons]
      rw [if_neg e3] at ih
      omega
    · have e1 : outS (a :: L) k = a :: outS L k := by unfold outS; rw [List.filter_cons, if_pos (by simp [e])]
      have e2 : k ∈ keysR (a :: L) ↔ k ∈ keysR L := by unfold keysR; simp [Ne.symm e]
      rw [e1, List.length_cons, List.length_cons]
      by_cases hm : k ∈ keysR L
      · rw [if_pos (e2.2 hm)]
        rw [if_pos hm] at ih
        omega
      · rw [if_neg (fun x => hm (e2.1 x))]
        rw [if_neg hm] at ih
        omega
theorem Kept.nodup {T : Tab} {N : List Rt} (H : Kept T N) : (keysR (contT T)).Nodup := (keysR_perm H.all).nodup_iff.2 H.sort.nodup
theorem Kept.del_len {T : Tab} {N : List Rt} (H : Kept T N) (k : Ky) : (if (delT T k).2 = true then ((contT T).length : Int) - 1 else ((contT T).length : Int)) = ((contT (delT T k).1).length : Int) := by
  have h := delT_ok H.inv k
  have h1 := h.2.1.length_eq
  have h2 := outS_len (contT T) k H.nodup
  by_cases e : (delT T k).2 = true
  · rw [if_pos e]
    rw [if_pos (h.2.2.1 e)] at h2
    omega
  · rw [if_neg e]
    rw [if_neg (fun x => e (h.2.2.2 x))] at h2
    omega
theorem Seat.del {P : Nat → Prop} (t : Nat) (T : Tab) {N : List Rt} (k : Ky) (w : World) (H : Seat P w t T) (HK : Kept T N) (hk : k.good) (hfew : (contT T).length < 262144) (hP : ∀ k, w.heap.size ≤ k → P k) :
    Calls Tryz.prog 47 #[.pointer (some ⟨t, 0, none⟩), kyV k] w fun e w' => e = .returned (.bool (delT T k).2) ∧ Seat P w' t (delT T k).1 ∧ Touch P w w' := by
  obtain ⟨g, v, h, hp⟩ := H
  have hst := st_le T
  refine (delete12_any t g v T _ k w h HK.inv.num hk (by omega) (by omega) HK.inv.sort (by omega)).mono ?_
  rintro e w' ⟨rfl, g', v', h', ht, hs⟩
  rw [HK.del_len] at h'
  refine ⟨rfl, ⟨g', v', h', fun k hk' => ?_⟩, ht.mono fun k _ hk => hp k hk⟩
  by_cases e : k < w.heap.size
  · exact hp k (hs k hk' e)
  · exact hP k (by omega)
theorem Seat.all {P : Nat → Prop} (t : Nat) (T : Tab) {N : List Rt} (w : World) (H : Seat P w t T) (HK : Kept T N) (hfew : (contT T).length < 262144) :
    Calls Tryz.prog 39 #[.pointer (some ⟨t, 0, none⟩)] w fun e w' => ∃ p c, e = .returned (.slice p N.length c) ∧ Row w' p (rcs N) ∧ Below w.heap.size w w' := by
  obtain ⟨g, v, h, hp⟩ := H
  have hst := st_le T
  refine (all12_any t g v T _ w h HK.inv.num (by omega) HK.nodup).mono ?_
  rintro e w' ⟨p, c, M, rfl, hr, m1, m2, hb⟩
  have := HK.sorted m2 m1
  subst this
  exact ⟨p, c, rfl, hr, hb⟩
structure KeepsP (w wr : World) (t : Nat) (T : Tab) (N : List Rt) (vn : Value) : Prop where
  seat : Seat (fun k => w.heap.size ≤ k ∧ vn.ownBlock ≠ some k) wr t T
  own : wr.ownsRow w.heap.size 58 4 vn N.length (rcs N)
  below : Below w.heap.size w wr
theorem KeepsP.quiet {w wr wx : World} {t : Nat} {T : Tab} {N : List Rt} {vn : Value} (H : KeepsP w wr t T N vn) (hb : Below wr.heap.size wr wx) : KeepsP w wx t T N vn := ⟨H.seat.below hb, own_below H.own hb, H.below.trans (hb.mono H.below.size)⟩
theorem KeepsP.turn {w wr wx : World} {t : Nat} {T T' : Tab} {N : List Rt} {vn : Value} (H : KeepsP w wr t T N vn) (hs : Seat (fun k => w.heap.size ≤ k ∧ vn.ownBlock ≠ some k) wx t T') (ht : Touch (fun k => w.heap.size ≤ k ∧ vn.ownBlock ≠ some k) wr wx) : KeepsP w wx t T' N vn :=
  ⟨hs, Touch.own H.own ht (fun j e hj => hj.2 e), H.below.trans (ht.below H.below.size fun k hk => hk.1)⟩
theorem KeepsP.new {w wr : World} {t : Nat} {T : Tab} {N : List Rt} {vn : Value} (H : KeepsP w wr t T N vn) : ∀ k, wr.heap.size ≤ k → w.heap.size ≤ k ∧ vn.ownBlock ≠ some k := by
  intro k hk
  exact ⟨Nat.le_trans H.below.size hk, fun e => by have := (H.own.lt k e).2; omega⟩
end Go.Proofs.YtoihkbanmnagkaaGreat
/-
  What Add of the reference's filter does. No condition but those that stand in each.
-/
set_option linter.unusedSimpArgs false
set_option linter.unusedVariables false
namespace Go.Proofs.YtoihkbanmnagkaaGreat
open Go.RowKit Go.Sort M

end Go.Proofs.YtoihkbanmnagkaaGreat
/-
  What Remove of the reference's filter does. No condition but those that stand in each.
-/
set_option linter.unusedSimpArgs false
set_option linter.unusedVariables false
namespace Go.Proofs.YtoihkbanmnagkaaGreat
open Go.RowKit Go.Sort M

end Go.Proofs.YtoihkbanmnagkaaGreat
/-
  What the reference's NewFilter makes. No condition but those that stand in each.
-/
set_option linter.unusedSimpArgs false
set_option linter.unusedVariables false
namespace Go.Proofs.YtoihkbanmnagkaaGreat
open Go.RowKit Go.Sort M

end Go.Proofs.YtoihkbanmnagkaaGreat
/-
  What All of the reference's bucket hands back: a new row of routes, by place. No condition but that the bucket's cells lie in memory.
-/
set_option linter.unusedSimpArgs false
set_option linter.unusedVariables false
namespace Go.Proofs.YtoihkbanmnagkaaGreat
open Go.RowKit Go.Sort M

end Go.Proofs.YtoihkbanmnagkaaGreat
/-
  What Delete of the reference's table does. No condition but that the table's cells lie in memory.
-/
set_option linter.unusedSimpArgs false
set_option linter.unusedVariables false
namespace Go.Proofs.YtoihkbanmnagkaaGreat
open Go.RowKit Go.Sort M

end Go.Proofs.YtoihkbanmnagkaaGreat
/-
  Put of the reference's bucket: what it hands back, and what it is then. No condition but that its cells lie in memory.
-/
set_option linter.unusedSimpArgs false
set_option linter.unusedVariables false
namespace Go.Proofs.YtoihkbanmnagkaaGreat
open Go.RowKit Go.Sort M

end Go.Proofs.YtoihkbanmnagkaaGreat
/-
  What Put of the reference's table does, one way through it at a time, without kicks. No condition but that the table's cells lie in memory.
-/
set_option linter.unusedSimpArgs false
set_option linter.unusedVariables false
namespace Go.Proofs.YtoihkbanmnagkaaGreat
open Go.RowKit Go.Sort M

end Go.Proofs.YtoihkbanmnagkaaGreat
/-
  What Put of the reference's table does where the first bucket is full: the second, kicks, the stash. No condition but that the table's cells lie in memory, and those that stand in each.
-/
set_option linter.unusedSimpArgs false
set_option linter.unusedVariables false
namespace Go.Proofs.YtoihkbanmnagkaaGreat
open Go.RowKit Go.Sort M

theorem Tb.low {K : World → Nat → Nat → List Pl → Prop} (hK : BK K) {a b : World} {t g lim : Nat} {v : Value} {T : Tab} (H : Tb K a t g v T) (hl : ∀ k, Blk t g v k → k < lim) (hb : Below lim a b) : Tb K b t g v T := H.blocks hK hb.size fun k hk => hb.block k (hl k hk)
end Go.Proofs.YtoihkbanmnagkaaGreat
/-
  What All of the reference's table hands back: all that it has, sorted. No condition but that the table's cells lie in memory, and that its stash is short of 2^19.
-/
set_option linter.unusedSimpArgs false
set_option linter.unusedVariables false
namespace Go.Proofs.YtoihkbanmnagkaaGreat
open Go.RowKit Go.Sort M

end Go.Proofs.YtoihkbanmnagkaaGreat
/-
  What grow of the reference's table does, what Put does then is a contract. No condition but that the table's cells lie in memory, and that it has fewer than 2^18 keys.
-/
set_option linter.unusedSimpArgs false
set_option linter.unusedVariables false
namespace Go.Proofs.YtoihkbanmnagkaaGreat
open Go.RowKit Go.Sort M

end Go.Proofs.YtoihkbanmnagkaaGreat
/-
  What Put of the reference's table does, however often the table grows meanwhile. No condition but that the table's cells lie in memory, and that it has fewer than 2^18 keys.
-/
set_option linter.unusedSimpArgs false
set_option linter.unusedVariables false
namespace Go.Proofs.YtoihkbanmnagkaaGreat
open Go.RowKit Go.Sort M

end Go.Proofs.YtoihkbanmnagkaaGreat
/-
  The reference's level: what New, and Turn, leave. No condition but that the level lies in memory, that words are words, and that there are at most 100000 keys.
-/
set_option linter.unusedSimpArgs false
set_option linter.unusedVariables false
namespace Go.Proofs.YtoihkbanmnagkaaGreat
open Go Go.RowKit Go.Sort M

theorem RLevB.touched {w w' : World} {K S : Nat → Prop} {t : Nat} {V : Lv} {lo hi f g u b : Nat} {v : Value} (H : RLevB w K t V lo hi f g u b v) (ht : Touch S w w') (hn : ∀ j, K j → ¬ S j) : RLevB w' K t V lo hi f g u b v :=
  ⟨Nat.lt_of_lt_of_le H.lt ht.size, ht.cell H.c0 (hn _ H.kt), ht.cell H.c1 (hn _ H.kt), ht.cell H.c2 (hn _ H.kt), H.fil.touched ht (fun j h1 h2 => hn _ (H.kf j ⟨h1, h2⟩)), H.tab.touched bk_rbk ht (fun j hj => hn _ (H.kb j hj)), H.kt, H.kf, H.kb, H.tf, H.tb, H.fb⟩
theorem RLevB.below {w w' : World} {K : Nat → Prop} {t : Nat} {V : Lv} {lo hi f g u b : Nat} {v : Value} (H : RLevB w K t V lo hi f g u b v) (hb : Below w.heap.size w w') : RLevB w' K t V lo hi f g u b v := H.touched (S := fun _ => False) (Touch.quiet hb) (fun _ _ x => x)
theorem RLevB.mono {w : World} {K K' : Nat → Prop} {t : Nat} {V : Lv} {lo hi f g u b : Nat} {v : Value} (H : RLevB w K t V lo hi f g u b v) (h : ∀ j, K j → K' j) : RLevB w K' t V lo hi f g u b v :=
  ⟨H.lt, H.c0, H.c1, H.c2, H.fil, H.tab, h _ H.kt, fun j hj => h _ (H.kf j hj), fun j hj => h _ (H.kb j hj), H.tf, H.tb, H.fb⟩
theorem RLevB.fil_step {w w' : World} {K : Nat → Prop} {t : Nat} {V : Lv} {lo hi f g u b : Nat} {v : Value} {C' : List Nat} (H : RLevB w K t V lo hi f g u b v) (hf : RFil w' lo hi f g V.s V.k C') (ht : Touch (In lo hi) w w') :
    RLevB w' K t { V with C := C' } lo hi f g u b v ∧ Touch K w w' :=
  ⟨⟨Nat.lt_of_lt_of_le H.lt ht.size, ht.cell H.c0 H.tf, ht.cell H.c1 H.tf, ht.cell H.c2 H.tf, hf, H.tab.touched bk_rbk ht (fun j hj hn => H.fb j hj hn), H.kt, H.kf, H.kb, H.tf, H.tb, H.fb⟩, ht.mono fun k _ hk => H.kf k hk⟩
end Go.Proofs.YtoihkbanmnagkaaGreat
/-
  What the reference's Turn leaves of a level: the changes, one by one. No condition but that the level lies in memory apart from the changes, that words are words, and that there are at most 100000 keys.
-/
set_option linter.unusedSimpArgs false
set_option linter.unusedVariables false
namespace Go.Proofs.YtoihkbanmnagkaaGreat
open Go Go.RowKit Go.Sort M

def RoundR (w wr : World) (K : Nat → Prop) (t : Nat) (V : Lv) (N : List Rt) : Prop := LvOk V N ∧ ∃ K', RLev wr K' t V ∧ Touch K w wr ∧ ∀ g, K' g → K g ∨ In w.heap.size wr.heap.size g
theorem RoundR.below {w wr w' : World} {K : Nat → Prop} {t : Nat} {V : Lv} {N : List Rt} (h : RoundR w wr K t V N) (hb : Below wr.heap.size wr w') : RoundR w w' K t V N := by
  obtain ⟨h1, K', h2, h3, h4⟩ := h
  refine ⟨h1, K', h2.below hb, h3.trans (.quiet hb), fun g hg => ?_⟩
  rcases h4 g hg with h | h
  · exact .inl h
  · exact .inr ⟨h.1, Nat.lt_of_lt_of_le h.2 hb.size⟩
theorem touch_then {a b c : World} {K K1 : Nat → Prop} (h : Touch K a b) (hs : ∀ g, K1 g → K g ∨ a.heap.size ≤ g) (k : Touch K1 b c) : Touch K a c :=
  ⟨k.os.trans h.os, k.tape.trans h.tape, k.output.trans h.output, Nat.le_trans h.size k.size, fun i hi hn => (k.block i (Nat.lt_of_lt_of_le hi h.size) (fun x => by
    rcases hs i x with h | h
    · exact hn h
    · omega)).trans (h.block i hi hn)⟩
end Go.Proofs.YtoihkbanmnagkaaGreat
/-
  The program's level in memory, how it is kept, and what New hands back. No condition but that words are words.
-/
set_option linter.unusedSimpArgs false
set_option linter.unusedVariables false
namespace Go.Proofs.YtoihkbanmnagkaaGreat
open Go Go.RowKit Go.Sort M

structure LevB (w : World) (K : Nat → Prop) (t : Nat) (V : Lv) (lo hi f u : Nat) : Prop where
  lt : t < w.heap.size
  c0 : w.cell? ⟨t, 0, none⟩ = some (.int .i64 V.n)
  c1 : w.cell? ⟨t, 1, none⟩ = some (.pointer (some ⟨f, 0, none⟩))
  c2 : w.cell? ⟨t, 2, none⟩ = some (.pointer (some ⟨u, 0, none⟩))
  fil : Fil w lo hi f V.s V.k V.C
  tab : Seat (fun j => K j ∧ ¬ In lo hi j ∧ j ≠ t) w u V.T
  kt : K t
  kf : ∀ j, In lo hi j → K j
  tf : ¬ In lo hi t
  pos : 1 ≤ V.C.length
def LevP (w : World) (K : Nat → Prop) (t : Nat) (V : Lv) : Prop := ∃ lo hi f u, LevB w K t V lo hi f u
section
variable {w w' : World} {K S : Nat → Prop} {t : Nat} {V : Lv} {lo hi f u : Nat}
theorem LevB.top (H : LevB w K t V lo hi f u) : hi ≤ w.heap.size := by
  obtain ⟨_, _, _, _, h⟩ := H.fil
  exact h.top
theorem LevB.touched (H : LevB w K t V lo hi f u) (ht : Touch S w w') (hn : ∀ j, K j → ¬ S j) : LevB w' K t V lo hi f u :=
  ⟨Nat.lt_of_lt_of_le H.lt ht.size, ht.cell H.c0 (hn _ H.kt), ht.cell H.c1 (hn _ H.kt), ht.cell H.c2 (hn _ H.kt), H.fil.touched ht (fun j h1 h2 => hn _ (H.kf j ⟨h1, h2⟩)), H.tab.touched ht (fun j hj => hn _ hj.1), H.kt, H.kf, H.tf, H.pos⟩
theorem LevB.below (H : LevB w K t V lo hi f u) (hb : Below w.heap.size w w') : LevB w' K t V lo hi f u := H.touched (S := fun _ => False) (Touch.quiet hb) (fun _ _ x => x)
theorem LevB.old (H : LevB w K t V lo hi f u) : LevB w (fun j => K j ∧ j < w.heap.size) t V lo hi f u :=
  ⟨H.lt, H.c0, H.c1, H.c2, H.fil, H.tab.mono fun _ hj h => ⟨⟨h.1, hj⟩, h.2⟩, ⟨H.kt, H.lt⟩, fun j hj => ⟨H.kf j hj, Nat.lt_of_lt_of_le hj.2 H.top⟩, H.tf, H.pos⟩
def SeatOf (w : World) (K : Nat → Prop) (t lo hi : Nat) (j : Nat) : Prop := (K j ∨ w.heap.size ≤ j) ∧ ¬ In lo hi j ∧ j ≠ t
theorem LevB.seat (H : LevB w K t V lo hi f u) : Seat (SeatOf w K t lo hi) w u V.T := H.tab.mono fun _ _ h => ⟨.inl h.1, h.2⟩
theorem LevB.fresh (H : LevB w K t V lo hi f u) : ∀ j, w.heap.size ≤ j → SeatOf w K t lo hi j := fun j hj => ⟨.inr hj, fun h => by
  have := h.2
  have := H.top
  omega, fun h => by
  have := H.lt
  omega⟩
theorem LevB.tab_step {T' : Tab} (H : LevB w K t V lo hi f u) (hs : Seat (SeatOf w K t lo hi) w' u T') (ht : Touch (SeatOf w K t lo hi) w w') :
    LevB w' (fun j => K j ∨ In w.heap.size w'.heap.size j) t { V with T := T' } lo hi f u ∧ Touch K w w' := by
  refine ⟨⟨Nat.lt_of_lt_of_le H.lt ht.size, ht.cell H.c0 (fun h => h.2.2 rfl), ht.cell H.c1 (fun h => h.2.2 rfl), ht.cell H.c2 (fun h => h.2.2 rfl), H.fil.touched ht (fun j h1 h2 h => h.2.1 ⟨h1, h2⟩), hs.mono fun j hj h => ⟨?_, h.2⟩, .inl H.kt, fun j hj => .inl (H.kf j hj), H.tf, H.pos⟩, ht.mono fun j hj h => ?_⟩
  · rcases h.1 with h | h
    · exact .inl h
    · exact .inr ⟨h, hj⟩
  · rcases h.1 with h | h
    · exact h
    · omega
theorem LevB.fil_step {C' : List Nat} (H : LevB w K t V lo hi f u) (hf : Fil w' lo hi f V.s V.k C') (ht : Touch (In lo hi) w w') (hl : C'.length = V.C.length) :
    LevB w' K t { V with C := C' } lo hi f u ∧ Touch K w w' :=
  ⟨⟨Nat.lt_of_lt_of_le H.lt ht.size, ht.cell H.c0 H.tf, ht.cell H.c1 H.tf, ht.cell H.c2 H.tf, hf, H.tab.touched ht (fun j hj hn => hj.2.1 hn), H.kt, H.kf, H.tf, by show 1 ≤ C'.length; have := H.pos; omega⟩, ht.mono fun k _ hk => H.kf k hk⟩
end
theorem LevP.touched {w w' : World} {K S : Nat → Prop} {t : Nat} {V : Lv} (H : LevP w K t V) (ht : Touch S w w') (hn : ∀ j, K j → ¬ S j) : LevP w' K t V := by
  obtain ⟨lo, hi, f, u, H⟩ := H
  exact ⟨lo, hi, f, u, H.touched ht hn⟩
theorem LevP.below {w w' : World} {K : Nat → Prop} {t : Nat} {V : Lv} (H : LevP w K t V) (hb : Below w.heap.size w w') : LevP w' K t V := H.touched (S := fun _ => False) (Touch.quiet hb) (fun _ _ x => x)
set_option maxRecDepth 100000 in
set_option maxHeartbeats 2000000 in
theorem plevel_bad (n k m b : Int) (s : Nat) (w : World) (ws : W64 s) (h : badV n k m b) :
    Calls Tryz.prog 6 #[.int .i64 n, .int .u64 (s : Int), .int .i64 k, .int .i64 m, .int .i64 b] w fun e w' => e = .returned (.tuple #[.pointer none, .int .i64 1]) ∧ Below w.heap.size w w' := by
  unfold badV at h
  by_cases h1 : n < 1
  · go_enter Tryz.func6, Tryz.ntmps6
    go_wp2
    go_ret2
    exact ⟨rfl, by go_grown⟩
  · by_cases h2 : 128 < n
    · go_enter Tryz.func6, Tryz.ntmps6
      go_wp2
      go_ret2
      exact ⟨rfl, by go_grown⟩
    · by_cases hf : 1 ≤ k ∧ k ≤ 16 ∧ 1 ≤ m ∧ m ≤ 65536
      · have hF := Lib.hid (fnew_any s k m ws hf.1 hf.2.1 hf.2.2.1 hf.2.2.2 w)
        have hX := Lib.hid (pmix_at s ws)
        have hB := Lib.hid (fun W => new_bad (mixN s) b W (by omega))
        clear h hf
        go_enter Tryz.func6, Tryz.ntmps6
        go_wp2_with fail
        refine hF.out.mono ?_
        rintro e w1 ⟨f, rfl, -, hb1⟩
        clear hF
        go_wp2_with fail
        refine (hX.out _).mono ?_
        rintro e w2 ⟨rfl, hb2⟩
        have hw2 := hb1.trans (hb2.mono hb1.size)
        clear hX hb1 hb2
        go_wp2_with fail
        refine (hB.out _).mono ?_
        rintro e w3 ⟨rfl, hb3⟩
        have hw3 := hw2.trans (hb3.mono hw2.size)
        clear hB hb3 hw2
        go_wp2
        go_ret2
        exact ⟨rfl, hw3⟩
      · have hF := Lib.hid (fnew_bad s k m hf w)
        clear h hf
        go_enter Tryz.func6, Tryz.ntmps6
        go_wp2_with fail
        refine hF.out.mono ?_
        rintro e w1 ⟨rfl, hb1⟩
        clear hF
        go_wp2
        go_ret2
        exact ⟨rfl, hb1⟩
set_option maxRecDepth 100000 in
set_option maxHeartbeats 2000000 in
theorem plevel_new (n k : Int) (s m b : Nat) (w : World) (ws : W64 s) (h : ¬ badV n k m b) :
    Calls Tryz.prog 6 #[.int .i64 n, .int .u64 (s : Int), .int .i64 k, .int .i64 (m : Int), .int .i64 (b : Int)] w fun e w' =>
      ∃ t, e = .returned (.tuple #[.pointer (some ⟨t, 0, none⟩), .int .i64 0]) ∧ LevP w' (In w.heap.size w'.heap.size) t (newV n s k m b) ∧ Below w.heap.size w w' := by
  unfold badV at h
  obtain ⟨h1, h2, hf, h3, h4⟩ := Classical.not_not.1 h
  have hF := Lib.hid (fnew_any s k m ws hf.1 hf.2.1 (by omega) (by omega) w)
  have hX := Lib.hid (pmix_at s ws)
  have hB := Lib.hid (fun W => Seat.new (mixN s) b W (by omega) (by omega))
  have HM : Hid (1 ≤ m) := Lib.hid (by omega)
  have n1 : ¬ n < 1 := by omega
  have n2 : ¬ 128 < n := by omega
  clear h hf h1 h2 h3 h4
  go_enter Tryz.func6, Tryz.ntmps6
  go_wp2_with fail
  refine hF.out.mono ?_
  rintro e w1 ⟨f, rfl, hfil, hb1⟩
  have HF := Lib.hid hfil
  clear hF hfil
  go_wp2_with fail
  refine (hX.out _).mono ?_
  rintro e w2 ⟨rfl, hb2⟩
  have hw2 := hb1.trans (hb2.mono hb1.size)
  have HF2 := Lib.hid (HF.out.below hb2)
  clear hX HF
  go_wp2_with fail
  refine (hB.out _).mono ?_
  rintro e w3 ⟨u, rfl, htb, hb3⟩
  have hw3 := hw2.trans (hb3.mono hw2.size)
  have HF3 := Lib.hid (HF2.out.below hb3)
  have HT := Lib.hid htb
  have hz1 := hb1.size
  have hz2 := hb2.size
  have hz3 := hb3.size
  clear hB hw2 HF2 htb
  go_wp2
  go_ret2
  refine ⟨w3.heap.size, rfl, ⟨w.heap.size, w1.heap.size, f, u, ?_⟩, by go_grown⟩
  have hbl : Below w3.heap.size w3 (w3.alloc (.cells #[.int .i64 n, .pointer (some ⟨f, 0, none⟩), .pointer (some ⟨u, 0, none⟩)] 71)) := by go_grown
  have hsz : (w3.alloc (.cells #[.int .i64 n, .pointer (some ⟨f, 0, none⟩), .pointer (some ⟨u, 0, none⟩)] 71)).heap.size = w3.heap.size + 1 := by simp
  have hfl := HF3.out.below hbl
  rw [Int.toNat_natCast] at hfl
  refine ⟨by simp, by simp [go_sem, newV], by simp [go_sem], by simp [go_sem], hfl, ?_, ⟨by omega, by omega⟩, fun j hj => ⟨hj.1, by have := hj.2; omega⟩, fun hj => by have := hj.2; omega, by simpa [newV] using HM.out⟩
  refine ((HT.out.mono (Q := fun j => w2.heap.size ≤ j ∧ j < w3.heap.size) fun j hj h => ⟨h, hj⟩).below hbl).mono fun j hj h => ⟨⟨by omega, by omega⟩, fun x => ?_, ?_⟩
  · have := x.2
    omega
  · omega
end Go.Proofs.YtoihkbanmnagkaaGreat
