/-
  A table in memory where its stash is written, or is another one. No condition but those that stand in each.
-/
import Derived.Test.YtlglppfkpieabaaM12i
import Derived.Test.YtlglppfkpieabaaSort8
import Derived.Test.YtlglppfkpieabaaW12e
import Derived.Test.YtlglppfkpieabaaW6b
/-
  Plain mathematics of deletions from a table, and of a table beside the sorted row of what it has. No condition but those that stand in each.
-/
set_option linter.unusedSimpArgs false
set_option linter.unusedVariables false
namespace Go.Proofs.Ytlglppfkpieabaa
open M

theorem keys_out {L : List Rt} {k : Ky} (h : (keysR L).Nodup) : (keysR (outS L k)).Nodup := by
  unfold keysR outS at *
  exact h.sublist (List.filter_sublist.map _)
theorem stash_lt {l : List Rt} {k : Ky} : (outS l k).length < l.length ↔ k ∈ keysR l := by
  constructor
  · intro h
    exact Classical.byContradiction fun hn => by rw [outS_self hn] at h; omega
  · intro h
    unfold keysR at h
    rw [List.mem_map] at h
    obtain ⟨r, hr, e⟩ := h
    unfold outS
    rw [List.length_filter_lt_length_iff_exists]
    exact ⟨r, hr, by simp [e]⟩
theorem del_bucket {T : Tab} (H : Inv T) {b : Nat} (hb : b < T.B.length) {k : Ky} {j : Nat} (hj : j < (T.bk b).length) {q : Rt} (hq : (T.bk b)[j] = some q) (hk : q.k = k) :
    Inv (T.set b ((T.bk b).set j none)) ∧ (contT (T.set b ((T.bk b).set j none))).Perm (outS (contT T) k) ∧ k ∈ keysR (contT T) := by
  have h := cont_less H hb hj hq
  rw [hk] at h
  exact ⟨H.place hb hj (fun r e => by cases e) h.1, h.2, hk ▸ mem_keys (mem_bk hb (hq ▸ List.getElem_mem hj))⟩
/-- What a deletion makes of a table. -/
theorem delT_ok {T : Tab} (H : Inv T) (k : Ky) : Inv (delT T k).1 ∧ (contT (delT T k).1).Perm (outS (contT T) k) ∧ ((delT T k).2 = true ↔ k ∈ keysR (contT T)) := by
  unfold delT
  rcases takeC_cases (T.bk (T.x1 k)) k with ⟨e1, n1⟩ | ⟨j, hj, q, e1, hq, hk⟩
  · rw [e1]
    rcases takeC_cases (T.bk (T.x2 k)) k with ⟨e2, n2⟩ | ⟨j, hj, q, e2, hq, hk⟩
    · rw [e2]
      have hno : k ∉ keysR (T.B.flatMap allC) := by
        intro hm
        unfold keysR at hm
        rw [List.mem_map] at hm
        obtain ⟨r, hr, rfl⟩ := hm
        rw [List.mem_flatMap] at hr
        obtain ⟨C, hC, hr⟩ := hr
        obtain ⟨i, hi, rfl⟩ := List.getElem_of_mem hC
        unfold allC at hr
        rw [List.mem_filterMap] at hr
        obtain ⟨x, hx, e⟩ := hr
        simp only [id] at e
        subst e
        rw [← bk_at T i hi] at hx
        rcases H.home i hi r hx with e | e
        · subst e; exact idx_none n1 r hx rfl
        · subst e; exact idx_none n2 r hx rfl
      have hc : contT { T with st := outS T.st k } = outS (contT T) k := by
        show T.B.flatMap allC ++ outS T.st k = outS (T.B.flatMap allC ++ T.st) k
        have := outS_self hno
        unfold outS at *
        rw [List.filter_append, this]
      refine ⟨⟨H.lo, H.hi, H.four, H.word, fun r hr => ?_, H.home, ?_, outS_sorted k H.sort⟩, by rw [hc], ?_⟩
      · rw [hc] at hr
        exact H.good r (mem_outK.1 hr).1
      · rw [hc]
        exact keys_out H.keys
      · rw [decide_eq_true_iff, stash_lt]
        unfold contT keysR at *
        rw [List.map_append, List.mem_append]
        exact ⟨.inr, fun h => h.resolve_left hno⟩
    · rw [e2]
      have h := del_bucket H (H.x2_lt k) hj hq hk
      exact ⟨h.1, h.2.1, fun _ => h.2.2, fun _ => rfl⟩
  · rw [e1]
    have h := del_bucket H (H.x1_lt k) hj hq hk
    exact ⟨h.1, h.2.1, fun _ => h.2.2, fun _ => rfl⟩
/-- A table and the sorted row of what it has. -/
structure Kept (T : Tab) (N : List Rt) : Prop where
  inv : Inv T
  sort : Sorted N
  all : (contT T).Perm N
theorem Kept.empty {s n : Nat} (hs : W64 s) (h1 : 1 ≤ n) (h2 : n ≤ 65536) : Kept (emptyT s n) [] := ⟨empty_inv hs h1 h2, List.Pairwise.nil, by rw [empty_cont]⟩
theorem Kept.len {T : Tab} {N : List Rt} (H : Kept T N) : (contT T).length = N.length := H.all.length_eq
theorem Kept.put {T : Tab} {N : List Rt} (H : Kept T N) (d : Nat) (r : Rt) (hr : r.k.good) : Kept (putF d T r) (intoS N r) := by
  have h := putF_ok d T r H.inv hr
  exact ⟨h.inv, intoS_sorted r H.sort, (h.all.trans ((outS_perm H.all r.k).cons r)).trans (intoS_perm r H.sort).symm⟩
theorem Kept.del {T : Tab} {N : List Rt} (H : Kept T N) (k : Ky) : Kept (delT T k).1 (outS N k) := by
  have h := delT_ok H.inv k
  exact ⟨h.1, outS_sorted k H.sort, h.2.1.trans (outS_perm H.all k)⟩
theorem Kept.del_tells {T : Tab} {N : List Rt} (H : Kept T N) (k : Ky) : ((delT T k).2 = true ↔ k ∈ keysR N) := by
  rw [(delT_ok H.inv k).2.2]
  exact (keysR_perm H.all).mem_iff
theorem Kept.get {T : Tab} {N : List Rt} (H : Kept T N) {r : Rt} (hr : r ∈ N) : getT T r.k = some r.v := get_mem H.inv (H.all.mem_iff.2 hr)
/-- What is there, sorted, is the row. -/
theorem Kept.sorted {T : Tab} {N M : List Rt} (H : Kept T N) (hM : Sorted M) (hp : M.Perm (contT T)) : M = N := sorted_eq hM H.sort (hp.trans H.all)
theorem find_tells {L : List Rt} {k : Ky} : (findS L k).isSome = true ↔ k ∈ keysR L := by
  constructor
  · exact findS_some
  · intro h
    exact Classical.byContradiction fun hn => (findS_none (by simpa using hn)) h
end Go.Proofs.Ytlglppfkpieabaa
/-
  What All of a table hands back: all that it has, sorted. No condition but that the table's cells lie in memory, that no key is twice in it, and that its stash is short of 2^20.
-/
set_option linter.unusedSimpArgs false
set_option linter.unusedVariables false
namespace Go.Proofs.Ytlglppfkpieabaa
open Go.RowKit Go.Sort M

def ltR (a b : Rt) : Bool := lessK a.k b.k
theorem ltR_swo : SWO ltR := by
  refine ⟨fun x => lessK_irr _, fun x y z h g => lessK_trans h g, fun x y z h g => ?_⟩
  unfold ltR at *
  cases hc : lessK x.k z.k with
  | false => rfl
  | true =>
    by_cases e : y.k = z.k
    · rw [e] at h
      rw [h] at hc
      cases hc
    · have h2 := lessK_total e
      rw [g] at h2
      have := lessK_trans hc h2
      rw [h] at this
      cases this
theorem sorted_strict {M : List Rt} (hk : (keysR M).Nodup) (h : M.Pairwise fun a b => ltR b a = false) : Sorted M := by
  unfold keysR List.Nodup at hk
  rw [List.pairwise_map] at hk
  refine (hk.and h).imp ?_
  rintro a b ⟨hne, hl⟩
  have := lessK_total (a := b.k) (b := a.k) (fun e => hne e.symm)
  rw [this]
  unfold ltR at hl
  rw [hl]
  rfl
set_option maxRecDepth 100000 in
set_option maxHeartbeats 1000000 in
theorem allLess_any (bx blk c n : Nat) (hn : n < 1000000000) (w0 : World) (hc : w0.cell? ⟨bx, 0, none⟩ = some (.slice (some ⟨blk, 0, none⟩) n c)) (hne : bx ≠ blk) :
    LessB 47 #[.pointer (some ⟨bx, 0, none⟩)] rcell 4 ltR w0 blk 0 n := by
  intro W d S i j hi hj
  have hb0 : bx < w0.heap.size := World.block_lt_of_cell? w0 _ hc
  have b0 := S.touch.cell hc hne
  have hbl : bx < W.heap.size := Nat.lt_of_lt_of_le hb0 S.touch.size
  have hl := S.lt2
  have hs := S.size
  have x0 := (S.holds.cell (i := i) (c := 0) (by omega) (by decide)).1
  have x1 := (S.holds.cell (i := i) (c := 1) (by omega) (by decide)).1
  have x2 := (S.holds.cell (i := i) (c := 2) (by omega) (by decide)).1
  have y0 := (S.holds.cell (i := j) (c := 0) (by omega) (by decide)).1
  have y1 := (S.holds.cell (i := j) (c := 1) (by omega) (by decide)).1
  have y2 := (S.holds.cell (i := j) (c := 2) (by omega) (by decide)).1
  have HL := less_any d[i]!.k.h d[i]!.k.l d[i]!.k.n d[j]!.k.h d[j]!.k.l d[j]!.k.n
  change Gives _ _ _ (.bool (ltR d[i]! d[j]!)) at HL
  generalize ltR d[i]! d[j]! = ls at *
  change W.cell? _ = some (.int .u64 (d[i]!.k.h : Int)) at x0
  change W.cell? _ = some (.int .u64 (d[i]!.k.l : Int)) at x1
  change W.cell? _ = some (.int .i64 d[i]!.k.n) at x2
  change W.cell? _ = some (.int .u64 (d[j]!.k.h : Int)) at y0
  change W.cell? _ = some (.int .u64 (d[j]!.k.l : Int)) at y1
  change W.cell? _ = some (.int .i64 d[j]!.k.n) at y2
  generalize d[i]!.k = q at *
  generalize d[j]!.k = r at *
  rw [Nat.zero_add] at x0 x1 x2 y0 y1 y2
  rw [Nat.add_zero] at x0 y0
  have HL := Lib.hid HL
  have i1 : (0 : Int) ≤ (i : Int) := by omega
  have i2 : (i : Int) < (n : Int) := by omega
  have j1 : (0 : Int) ≤ (j : Int) := by omega
  have j2 : (j : Int) < (n : Int) := by omega
  clear S hc hb0
  show Calls _ _ #[.int .i64 (i : Int), .int .i64 (j : Int), .pointer (some ⟨bx, 0, none⟩)] _ _
  obtain ⟨w, hw⟩ : ∃ w, w = W := ⟨_, rfl⟩
  subst hw
  go_enter Try.func47, Try.ntmps47
  go_wp2_with fail
  have kg := cell_grow
  refine region_whole (by kernel_rfl) (by kernel_rfl) ?_
  repeat (any_goals (first | go_big_quiet_step ((exact HL.out.at _ _ _)) | quiet_step ((exact HL.out.at _ _ _))))
  refine wpQuiet_nil ?_
  clear kg
  intro w1 hb1
  obtain ⟨hc1, hf1⟩ := bcell hb1
  have hw1 : Below w.heap.size w w1 := by
    refine Below.trans ?_ (hb1.mono ?_)
    · go_grown
    · first | omega | go_size
  go_wp2
  go_ret
  exact ⟨rfl, hw1⟩
set_option maxRecDepth 100000 in
set_option maxHeartbeats 1000000 in
theorem all12_any (t g : Nat) (v : Value) (T : Tab) (m : Int) (w : World) (H : CT w t g v T m) (h : Num T) (hf : T.st.length < 1048576) (hk : (keysR (contT T)).Nodup) :
    Calls Try.prog 19 #[.pointer (some ⟨t, 0, none⟩)] w fun e w' => ∃ p c M, e = .returned (.slice p M.length c) ∧ Row w' p (rcs M) ∧ M.Perm (contT T) ∧ Sorted M ∧ RowKit.Below w.heap.size w w' := by
  have hl := H.tb.tlt
  have HLI := Lib.hid (list_any t g v T m w H h hf)
  have hLn : (contT T).length < 1000000000 := by
    have h1 := flat_le T (fun i hi => (H.tb.bk i hi).four) T.B.length (Nat.le_refl _)
    rw [List.take_length] at h1
    have h2 := h.hi
    unfold contT
    rw [List.length_append]
    omega
  obtain ⟨L, hL⟩ : ∃ L, L = contT T := ⟨_, rfl⟩
  rw [← hL] at HLI hk hLn ⊢
  clear H h hf hL
  have HK := Lib.hid hk
  clear hk
  go_enter Try.func19, Try.ntmps19
  go_wp2_with fail
  refine HLI.out.mono ?_
  rintro e w1 ⟨p, c, rfl, hown, hb1⟩
  have eg := enters_of Try.func47 (by kernel_rfl) rfl
  have hz1 := hb1.size
  have hS : ∀ W, RowKit.Below w1.heap.size w1 W → w1.heap.size < W.heap.size → W.cell? ⟨w1.heap.size, 0, none⟩ = some (.slice p L.length c) →
      Calls Try.prog 46 #[.iface 43 (.slice p L.length c), .func (.func 47) #[] #[.pointer (some ⟨w1.heap.size, 0, none⟩)]] W fun e w' => e = .returned (.tuple #[]) ∧ ∃ M : List Rt, M.length = L.length ∧ M.Perm L ∧ Sorted M ∧ Row w' p (rcs M) ∧ RowKit.Below w.heap.size W w' ∧ w'.cell? ⟨w1.heap.size, 0, none⟩ = some (.slice p L.length c) := by
    intro W hW hz hc
    have hownW := own_below hown hW
    by_cases h2 : 2 ≤ L.length
    · rcases hown.2 with ⟨e, h0⟩ | ⟨blk, cap', cur, e, hB, -, -, -, -, -⟩
      · omega
      · injection e with e1 e2 e3
        subst e1
        have hbk : blk < w1.heap.size := (hown.lt blk rfl).2
        refine (sliceR_any _ _ ltR ltR_swo eg blk c L h2 (by omega) W (holds_own hownW) (by omega) (allLess_any w1.heap.size blk c L.length hLn W hc (by omega))).mono ?_
        rintro e w' ⟨rfl, M, m1, m2, m3, m4⟩
        refine ⟨rfl, M, m1.length_eq, m1, sorted_strict ((keysR_perm m1).nodup_iff.2 HK.out) m2, row_holds m3 (by have := m4.size; omega), m4.below (by omega) (fun j hj => by omega), m4.cell hc (by show w1.heap.size ≠ blk; omega)⟩
    · refine (sliceR_none _ _ p c L.length (by omega) W).mono ?_
      rintro e w' ⟨rfl, hb⟩
      have hs : Sorted L := by
        rcases L with _ | ⟨a, _ | ⟨b, L⟩⟩
        · exact List.Pairwise.nil
        · exact List.pairwise_singleton _ _
        · simp at h2
      exact ⟨rfl, L, rfl, List.Perm.refl _, hs, (Row.of_own hownW).below hb, hb.mono (by have := hW.size; omega), (hb.cell (p := ⟨w1.heap.size, 0, none⟩) hz).trans hc⟩
  have HS := Lib.hid hS
  have HOWN := Lib.hid hown
  clear hS hown eg
  go_wp2_with fail
  refine (HS.out _ (by go_grown) (by simp) (by simp [go_sem])).mono ?_
  rintro e w2 ⟨rfl, M, m1, m2, m3, m4, hb2, b0⟩
  have hbl : w1.heap.size < w2.heap.size := World.block_lt_of_cell? w2 _ b0
  have HM := Lib.hid (And.intro m1 (And.intro m2 (And.intro m3 m4)))
  have hw2 : RowKit.Below w.heap.size w w2 := by
    refine RowKit.Below.trans ?_ hb2
    exact hb1.trans (by go_grown)
  clear m1 m2 m3 m4 hb2
  go_wp2
  go_ret
  obtain ⟨m1, m2, m3, m4⟩ := HM.out
  exact ⟨p, c, M, by rw [m1]; rfl, m4, m2, m3, hw2⟩
end Go.Proofs.Ytlglppfkpieabaa
/-
  A table in memory where its stash is written, or is another one. No condition but those that stand in each.
-/
set_option linter.unusedSimpArgs false
set_option linter.unusedVariables false
namespace Go.Proofs.Ytlglppfkpieabaa
open Go.RowKit Go.Sort M

section
variable {K : World → Nat → Nat → List Pl → Prop} {w w1 : World} {t g : Nat} {v v' : Value} {T : Tab} {m : Int}
/-- All but the stash's block is as it was, and the struct's third cell. -/
theorem Tb.newStash (hK : BK K) (H : Tb K w t g v T) {st' : List Rt} (hg : w.grownBy w1 v.ownBlock) (own1 : w1.ownsRow 0 48 4 v' st'.length (rcs st')) (hat : v'.ownBlock = v.ownBlock ∨ ∃ k, v'.ownBlock = some k ∧ w.heap.size ≤ k) :
    Tb K (w1.setCell ⟨t, 2, none⟩ v') t g v' { T with st := st' } ∧ Touch (Blk t g v) w (w1.setCell ⟨t, 2, none⟩ v') ∧ ∀ k, Blk t g v' k → k < w.heap.size → Blk t g v k := by
  have ht1 : w1.heap[t]? = w.heap[t]? := hg.block t H.tlt (fun e => H.tv e.symm)
  have hg1 : w1.heap[g]? = w.heap[g]? := hg.block g H.blt (fun e => H.gv e.symm)
  have hb2 : ∀ k, k ≠ t → (w1.setCell ⟨t, 2, none⟩ v').heap[k]? = w1.heap[k]? := fun k hk => Below.heap_setCell w1 ⟨t, 2, none⟩ v' k (by simpa using hk)
  have hs2 : (w1.setCell ⟨t, 2, none⟩ v').heap.size = w1.heap.size := World.size_setCell _ _ _
  have c0 := (World.cell?_of_block (a := ⟨t, 0, none⟩) ht1).trans H.c0
  have c1 := (World.cell?_of_block (a := ⟨t, 1, none⟩) ht1).trans H.c1
  have c2 := (World.cell?_of_block (a := ⟨t, 2, none⟩) ht1).trans H.c2
  have ne : ∀ j, j ≠ 2 → (w1.setCell ⟨t, 2, none⟩ v').cell? ⟨t, j, none⟩ = w1.cell? ⟨t, j, none⟩ := fun j hj => by
    rw [World.cell?_setCell_other]
    intro e
    injection e with _ e2
    exact hj e2.symm
  have hvt : v'.ownBlock ≠ some t := by
    rcases hat with e | ⟨k, e, hk⟩
    · rw [e]; exact H.tv
    · rw [e]; intro e2; injection e2 with e2; have := H.tlt; omega
  have hvg : v'.ownBlock ≠ some g := by
    rcases hat with e | ⟨k, e, hk⟩
    · rw [e]; exact H.gv
    · rw [e]; intro e2; injection e2 with e2; have := H.blt; omega
  refine ⟨⟨fun i hi => hK.block (H.bk i hi) (by rw [hs2]; exact hg.size) ((hb2 g (fun e => H.tg e.symm)).trans hg1), by rw [hs2]; exact Nat.lt_of_lt_of_le H.blt hg.size, by rw [hs2]; exact Nat.lt_of_lt_of_le H.tlt hg.size,
    (ne 0 (by decide)).trans c0, (ne 1 (by decide)).trans c1, World.cell?_setCell_same _ _ _ c2, fun j => by rw [World.frozen?_setCell, World.frozen?_of_block (a := ⟨t, j, none⟩) ht1]; exact H.f j,
    own_block own1 (fun j e => hb2 j (fun e2 => hvt (e2 ▸ e))), H.tg, hvt, hvg⟩, ⟨hg.os, hg.tape, hg.output, by rw [hs2]; exact hg.size, fun k hk hn => ?_⟩, fun k hk hl => ?_⟩
  · rw [hb2 k (fun e => hn (.inl e))]
    exact hg.block k hk (fun e => hn (.inr (.inr e.symm)))
  · rcases hk with e | e | e
    · exact .inl e
    · exact .inr (.inl e)
    · rcases hat with e2 | ⟨j, e2, hj⟩
      · exact .inr (.inr (e2 ▸ e))
      · rw [e2] at e
        injection e with e
        omega
theorem CT.newStash (H : CT w t g v T m) {st' : List Rt} (hg : w.grownBy w1 v.ownBlock) (own1 : w1.ownsRow 0 48 4 v' st'.length (rcs st')) (hat : v'.ownBlock = v.ownBlock ∨ ∃ k, v'.ownBlock = some k ∧ w.heap.size ≤ k) :
    CT (w1.setCell ⟨t, 2, none⟩ v') t g v' { T with st := st' } m ∧ Touch (Blk t g v) w (w1.setCell ⟨t, 2, none⟩ v') ∧ ∀ k, Blk t g v' k → k < w.heap.size → Blk t g v k := by
  have h := H.tb.newStash bk_bkt hg own1 hat
  have ht1 : w1.heap[t]? = w.heap[t]? := hg.block t H.tb.tlt (fun e => H.tb.tv e.symm)
  refine ⟨⟨h.1, ?_⟩, h.2⟩
  rw [World.cell?_setCell_other]
  · exact (World.cell?_of_block (a := ⟨t, 3, none⟩) ht1).trans H.c3
  · intro e
    injection e with _ e2
    exact absurd e2 (by decide)
/-- The stash is written in place. -/
theorem Tb.inStash (hK : BK K) (H : Tb K w t g v T) {st' : List Rt} (hg : w.grownBy w1 v.ownBlock) (own1 : w1.ownsRow 0 48 4 v st'.length (rcs st')) : Tb K w1 t g v { T with st := st' } ∧ Touch (Blk t g v) w w1 := by
  have ht1 : w1.heap[t]? = w.heap[t]? := hg.block t H.tlt (fun e => H.tv e.symm)
  have hg1 : w1.heap[g]? = w.heap[g]? := hg.block g H.blt (fun e => H.gv e.symm)
  exact ⟨⟨fun i hi => hK.block (H.bk i hi) hg.size hg1, Nat.lt_of_lt_of_le H.blt hg.size, Nat.lt_of_lt_of_le H.tlt hg.size, (World.cell?_of_block (a := ⟨t, 0, none⟩) ht1).trans H.c0, (World.cell?_of_block (a := ⟨t, 1, none⟩) ht1).trans H.c1,
    (World.cell?_of_block (a := ⟨t, 2, none⟩) ht1).trans H.c2, fun j => (World.frozen?_of_block (a := ⟨t, j, none⟩) ht1).trans (H.f j), own1, H.tg, H.tv, H.gv⟩, Touch.of_grown hg (fun k e => .inr (.inr e.symm))⟩
theorem CT.inStash (H : CT w t g v T m) {st' : List Rt} (hg : w.grownBy w1 v.ownBlock) (own1 : w1.ownsRow 0 48 4 v st'.length (rcs st')) : CT w1 t g v { T with st := st' } m ∧ Touch (Blk t g v) w w1 := by
  have h := H.tb.inStash bk_bkt hg own1
  exact ⟨⟨h.1, (World.cell?_of_block (a := ⟨t, 3, none⟩) (hg.block t H.tb.tlt (fun e => H.tb.tv e.symm))).trans H.c3⟩, h.2⟩
/-- How many keys there are, written. -/
theorem CT.count (H : CT w t g v T m) (m' : Int) : CT (w.setCell ⟨t, 3, none⟩ (.int .i64 m')) t g v T m' ∧ Touch (Blk t g v) w (w.setCell ⟨t, 3, none⟩ (.int .i64 m')) := by
  have hb2 : ∀ k, k ≠ t → (w.setCell ⟨t, 3, none⟩ (.int .i64 m')).heap[k]? = w.heap[k]? := fun k hk => Below.heap_setCell w ⟨t, 3, none⟩ _ k (by simpa using hk)
  have hs2 : (w.setCell ⟨t, 3, none⟩ (.int .i64 m')).heap.size = w.heap.size := World.size_setCell _ _ _
  have ne : ∀ j, j ≠ 3 → (w.setCell ⟨t, 3, none⟩ (.int .i64 m')).cell? ⟨t, j, none⟩ = w.cell? ⟨t, j, none⟩ := fun j hj => by
    rw [World.cell?_setCell_other]
    intro e
    injection e with _ e2
    exact hj e2.symm
  have B := H.tb
  exact ⟨⟨⟨fun i hi => bk_bkt.block (B.bk i hi) (by rw [hs2]; exact Nat.le_refl _) (hb2 g (fun e => B.tg e.symm)), by rw [hs2]; exact B.blt, by rw [hs2]; exact B.tlt, (ne 0 (by decide)).trans B.c0, (ne 1 (by decide)).trans B.c1, (ne 2 (by decide)).trans B.c2, fun j => by rw [World.frozen?_setCell]; exact B.f j,
    own_block B.own (fun j e => hb2 j (fun e2 => B.tv (e2 ▸ e))), B.tg, B.tv, B.gv⟩, World.cell?_setCell_same _ _ _ H.c3⟩, ⟨rfl, rfl, rfl, by rw [hs2]; exact Nat.le_refl _, fun k _ hn => hb2 k (fun e => hn (.inl e))⟩⟩
end
/-- A hop is written in a row of routes. -/
theorem rcs_hop : ∀ (L : List Rt) (i : Nat) (h : i < L.length) (x : Int), (rcs L).set (i * 4 + 3) (.int .i64 x) = rcs (L.set i ⟨L[i].k, x⟩)
  | a :: L, 0, _, x => by
    show (rcell a ++ rcs L).set 3 _ = rcell ⟨a.k, x⟩ ++ rcs L
    rfl
  | a :: L, i + 1, h, x => by
    have ih := rcs_hop L i (by simpa using h) x
    show (rcell a ++ rcs L).set ((i + 1) * 4 + 3) _ = rcell a ++ rcs (L.set i ⟨(L[i]'(by simpa using h)).k, x⟩)
    rw [List.set_append_right _ _ (by simp [rcell]; omega), show (i + 1) * 4 + 3 - (rcell a).length = i * 4 + 3 by simp [rcell]; omega, ih]
theorem put_of_get {C : List Pl} {k : Ky} {v : Int} (h : (getC C k).isSome = true) : (putC C k v).isSome = true := by
  obtain ⟨i, hi, e, -⟩ := getC_some h
  rw [putC_hit e]; rfl
end Go.Proofs.Ytlglppfkpieabaa
