/-
  cover.lay: the keys of a route, laid into the keys that are there. No condition but that those keys lie in memory, in order, and are fewer than a million.
-/
import Derived.Test.YtcfioplbbbaeoaaSort
import Derived.Test.YtcfioplbbbaeoaaW12b
import Derived.Test.YtcfioplbbbaeoaaW15b
/-
  cover.lay: the keys of a route, laid into the keys that are there. No condition but that those keys lie in memory, in order, and are fewer than a million.
-/
set_option linter.unusedSimpArgs false
set_option linter.unusedVariables false
namespace Go.Proofs.Ytcfioplbbbaeoaa
open Go Go.RowKit Go.Sort M

set_option maxRecDepth 100000 in
set_option maxHeartbeats 1000000 in
/-- The test of the search. -/
theorem laytest_any (bk bo : Nat) (p p2 : Option Addr) (c c2 : Nat) (K : List Rt) (V : List Pf) (u : Ky) (i : Nat) (w : World) (hK : Row w p (rcs K)) (hV : Row w p2 (pcs V)) (hs : Sorted K) (hi : i < K.length) (h0 : 0 < V.length) (hu : u = kyP V[0])
    (l0 : bk < w.heap.size) (l1 : bo < w.heap.size) (k0 : w.cell? ⟨bk, 0, none⟩ = some (.slice p K.length c)) (o0 : w.cell? ⟨bo, 0, none⟩ = some (.slice p2 V.length c2)) :
    Calls Try.prog 29 #[.int .i64 (i : Int), .pointer (some ⟨bk, 0, none⟩), .pointer (some ⟨bo, 0, none⟩)] w fun e w' => e = .returned (.bool (decide (bh K u ≤ i))) ∧ Below w.heap.size w w' := by
  obtain ⟨gr, o, rfl, hgr, r0, r1, r2, -⟩ := hK.rt hi
  obtain ⟨gv, ov, rfl, hgv, v0, v1, v2⟩ := hV.at h0
  have hT := bh_test K u hs i hi
  have HL := less_any K[i].k.h K[i].k.l K[i].k.n (hiW V[0].a) (loW V[0].a) V[0].n
  rw [show lessB K[i].k.h K[i].k.l K[i].k.n (hiW V[0].a) (loW V[0].a) V[0].n = lessK K[i].k u by rw [hu]; rfl] at HL
  have HL := Lib.hid HL
  have i1 : (0 : Int) ≤ (i : Int) := by omega
  have i2 : (i : Int) < (K.length : Int) := by omega
  have i3 : (0 : Int) < (V.length : Int) := by omega
  simp only [Nat.zero_mul, Nat.add_zero] at v0 v1 v2
  generalize lessK K[i].k u = ls at *
  generalize decide (bh K u ≤ i) = ds at *
  subst hT
  generalize K[i].k = q at *
  generalize V[0] = pv at *
  generalize K.length = n at *
  generalize V.length = m at *
  clear hK hV hs
  go_enter Try.func29, Try.ntmps29
  go_wp2_with fail
  have kg := cell_grow
  refine region_whole (by kernel_rfl) (by kernel_rfl) ?_
  repeat (any_goals (first | go_big_quiet_step ((exact HL.out.at _ _ _)) | quiet_step ((exact HL.out.at _ _ _))))
  refine wpQuiet_nil ?_
  clear kg
  intro w1 hb1
  obtain ⟨hc1, hf1⟩ := bcell hb1
  have hw1 : Below w.heap.size w w1 := by
    refine Below.trans ?_ (hb1.mono ?_)
    · go_grown
    · first | omega | go_size
  go_wp2
  go_ret
  exact ⟨rfl, hw1⟩
/-- What is there, behind so many of the route's keys. -/
def curL (P M S : List Rt) (U : List Ky) (v : Int) (i : Nat) : List Rt := P ++ ((U.take i).map (fun q => ⟨q, v⟩) ++ (M.drop i ++ S))
theorem cur_start (P M S : List Rt) (U : List Ky) (v : Int) : curL P M S U v 0 = P ++ (M ++ S) := by simp [curL]
theorem cur_done (P M S : List Rt) (U : List Ky) (v : Int) (h : M.length ≤ U.length) : curL P M S U v U.length = P ++ (U.map (fun q => ⟨q, v⟩) ++ S) := by
  unfold curL
  rw [List.take_of_length_le (Nat.le_refl _), List.drop_eq_nil_of_le h, List.nil_append]
theorem cur_set {P M S : List Rt} {U : List Ky} {v : Int} {i : Nat} (hM : M.length = U.length) (hi : i < U.length) : curL P M S U v (i + 1) = (curL P M S U v i).set (P.length + i) ⟨U[i], v⟩ := by
  unfold curL
  rw [List.set_append_right _ _ (by omega), List.set_append_right _ _ (by rw [List.length_map, List.length_take]; omega), List.length_map, List.length_take, List.take_succ_eq_append_getElem hi, List.map_append, List.map_singleton, List.append_assoc]
  congr 2
  have hiM : i < M.length := by omega
  rw [show P.length + i - P.length - min i U.length = 0 by omega, List.drop_eq_getElem_cons hiM]
  rfl
theorem cur_app {P : List Rt} {U : List Ky} {v : Int} {i : Nat} (hi : i < U.length) : curL P [] [] U v (i + 1) = curL P [] [] U v i ++ [⟨U[i], v⟩] := by
  unfold curL
  rw [List.take_succ_eq_append_getElem hi, List.map_append, List.map_singleton]
  simp
theorem cur_len (P M S : List Rt) (U : List Ky) (v : Int) (i : Nat) (hi : i ≤ U.length) : (curL P M S U v i).length = P.length + i + (M.length - i) + S.length := by
  simp [curL]
  omega
theorem cur_at {P M S : List Rt} {U : List Ky} {v : Int} {i : Nat} (hM : M.map Rt.k = U) (hi : i < U.length) (h : P.length + i < (curL P M S U v i).length) : (curL P M S U v i)[P.length + i].k = U[i] := by
  have hl : M.length = U.length := by rw [← hM, List.length_map]
  have e : (curL P M S U v i)[P.length + i]? = some (M[i]'(by omega)) := by
    unfold curL
    rw [List.getElem?_append_right (by omega), List.getElem?_append_right (by rw [List.length_map, List.length_take]; omega), List.length_map, List.length_take, List.getElem?_append_left (by rw [List.length_drop]; omega), List.getElem?_drop, show i + (P.length + i - P.length - min i U.length) = i by omega, List.getElem?_eq_getElem]
  rw [List.getElem?_eq_getElem h] at e
  injection e with e
  rw [e]
  subst hM
  simp
theorem rcs_hop (L : List Rt) (j : Nat) (v : Int) (h : j < L.length) : (rcs L).set (j * 4 + 3) (.int .i64 v) = rcs (L.set j ⟨L[j].k, v⟩) := by
  have := rcs_set L j ⟨L[j].k, v⟩ h
  rw [← this]
  apply List.ext_getElem? 
  intro i
  simp only [List.getElem?_set, List.length_set, rcs_len]
  have c0 := rcs_cell L j 0 h (by omega)
  have c1 := rcs_cell L j 1 h (by omega)
  have c2 := rcs_cell L j 2 h (by omega)
  unfold rcell at c0 c1 c2
  simp only [Nat.add_zero, List.getElem?_cons_zero, List.getElem?_cons_succ] at c0 c1 c2
  by_cases e3 : j * 4 + 3 = i
  · simp [e3]
  · rw [if_neg e3, if_neg e3]
    by_cases e2 : j * 4 + 2 = i
    · subst e2
      simp [c2]
      omega
    · rw [if_neg e2]
      by_cases e1 : j * 4 + 1 = i
      · subst e1
        simp [c1]
        omega
      · rw [if_neg e1]
        by_cases e0 : j * 4 = i
        · subst e0
          simp [c0]
          omega
        · rw [if_neg e0]
end Go.Proofs.Ytcfioplbbbaeoaa
/-
  cover.lay: the keys of a route, laid into the keys that are there. No condition but that those keys lie in memory, in order, and are fewer than a million.
-/
set_option linter.unusedSimpArgs false
set_option linter.unusedVariables false
namespace Go.Proofs.Ytcfioplbbbaeoaa
open Go Go.RowKit Go.Sort M

/-- What lay hands back: a row that began where the elder one did, or later; nothing older is turned. -/
def LayR (B : Nat) (w w' : World) (e : Ending) (L : List Rt) : Prop := ∃ p c, e = .returned (.slice p L.length c) ∧ w'.ownsRow B 43 4 (.slice p L.length c) L.length (rcs L) ∧ Below B w w'
set_option maxRecDepth 100000 in
set_option maxHeartbeats 4000000 in
theorem lay_none (B : Nat) (q : Option Addr) (cq : Nat) (K : List Rt) (kh kl : Nat) (kn v high : Int) (w : World) (hO : w.ownsRow B 43 4 (.slice q K.length cq) K.length (rcs K)) (hB : B ≤ w.heap.size)
    (g1 : W64 kh) (g2 : W64 kl) (hU : sprK ⟨kh, kl, kn⟩ high = []) :
    Calls Try.prog 20 #[.slice q K.length cq, .agg #[.int .u64 (kh : Int), .int .u64 (kl : Int), .int .i64 kn, .int .i64 v], .int .i64 high] w fun e w' => LayR B w w' e K := by
  have hV : keysV kh kl kn high = [] := by
    unfold sprK at hU
    exact List.map_eq_nil_iff.1 hU
  have hk := keys_any kh kl kn high g1 g2
  rw [hV] at hk
  have HK : Hid (∀ W, Calls Try.prog 27 #[.agg #[.int .u64 (kh : Int), .int .u64 (kl : Int), .int .i64 kn], .int .i64 high] W fun e w' => ∃ p c, e = .returned (.slice p 0 c) ∧ w'.ownsRow W.heap.size 41 3 (.slice p 0 c) 0 [] ∧ Below W.heap.size W w') := Lib.hid hk
  have HO := Lib.hid hO
  clear hk hV hU hO
  go_enter Try.func20, Try.ntmps20
  go_wp2_with fail
  refine (HK.out _).mono ?_
  rintro e w1 ⟨p1, c1, rfl, ho1, hb1⟩
  have hw1 : Below w.heap.size w w1 := Below.trans (by go_grown) (hb1.mono (by simp; omega))
  obtain ⟨nc, -⟩ := bcell hb1
  have k0 := (nc w.heap.size 0 (by simp; omega)).trans (show _ = some (Value.slice q K.length cq) by simp [go_sem])
  have hz : w.heap.size < w1.heap.size := by have := hb1.size; simp at this; omega
  clear nc ho1 hb1
  go_wp2
  go_ret
  exact ⟨q, cq, rfl, own_below HO.out (by go_grown), Below.mono (by go_grown) hB⟩
end Go.Proofs.Ytcfioplbbbaeoaa
