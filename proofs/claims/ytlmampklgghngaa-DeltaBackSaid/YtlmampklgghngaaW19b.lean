/-
  slices.DeleteFunc over an own row of routes, at a test that may lay new memory of its own: the row's block holds what stays. No condition but that the row is shorter than a million.
-/
import Derived.Test.YtlmampklgghngaaW19a
set_option linter.unusedSimpArgs false
set_option linter.unusedVariables false
namespace Go.Proofs.Ytlmampklgghngaa
open Go Go.RowKit Go.Sort M

theorem take_set_succ (D : List Rt) (i : Nat) (v : Rt) (h : i < D.length) : (D.set i v).take (i + 1) = D.take i ++ [v] := by
  rw [List.take_succ_eq_append_getElem (by rw [List.length_set]; exact h), List.getElem_set_self, List.take_set]
  congr 1
  rw [List.set_eq_of_length_le (by rw [List.length_take]; omega)]
theorem drop_next {D L : List Rt} {j : Nat} (h : D.drop j = L.drop j) : D.drop (j + 1) = L.drop (j + 1) := by
  have := congrArg (List.drop 1) h
  simpa [List.drop_drop] using this
theorem drop_at {D L : List Rt} {j : Nat} (h : D.drop j = L.drop j) (h1 : j < D.length) (h2 : j < L.length) : D[j] = L[j] := by
  rw [List.drop_eq_getElem_cons h1, List.drop_eq_getElem_cons h2] at h
  injection h
set_option maxHeartbeats 4000000 in
set_option maxRecDepth 100000 in
theorem delfunc_any (g : Nat) (lb : Array Value) (P : Rt → Bool) (B : Nat) (w0 : World) (eg : ∀ args w, (callFunc g args).run Try.prog w = .ok (.enter g args) w) (hP : PredB g lb P B w0) (p : Option Addr) (c : Nat) (L : List Rt) (w : World)
    (hO : w.ownsRow B 38 4 (.slice p L.length c) L.length (rcs L)) (hg : ∀ x ∈ L, x.k.good) (hb0 : Below B w0 w) (hB : B ≤ w.heap.size) (hl : L.length ≤ 1000000) :
    Calls Try.prog 51 #[.slice p L.length c, .func (.func g) #[] lb] w fun e w' =>
      ∃ p' c', e = .returned (.slice p' (L.filter fun r => !P r).length c') ∧ w'.ownsRow B 38 4 (.slice p' (L.filter fun r => !P r).length c') (L.filter fun r => !P r).length (rcs (L.filter fun r => !P r)) ∧ Below B w w' := by
  have hix := index_any g lb P B w0 eg hP p c L w (Row.of_own hO) hg hb0 hB hl
  obtain ⟨M, hM⟩ : ∃ M, M = L.filter fun r => !P r := ⟨_, rfl⟩
  rw [← hM] at hix ⊢
  have HIX := Lib.hid hix
  have HO := Lib.hid hO
  have HP := Lib.hid hP
  have HG := Lib.hid hg
  have HM := Lib.hid hM
  clear hix hO hP hg hM
  go_enter Try.func51, Try.ntmps51
  go_wp2_with fail
  refine HIX.out.mono ?_
  rintro e w1 ⟨hb1, h1⟩
  have hw1 : Below B w w1 := hb1.mono hB
  have HO1 := Lib.hid (own_below HO.out hb1)
  have hB1 := hw1.size
  have hB1' : B ≤ w1.heap.size := by have := hb1.size; omega
  clear HIX HO hb1
  rcases h1 with ⟨i0, hi0, rfl, hfi⟩ | ⟨rfl, hLM⟩
  · obtain ⟨gb, c5, cur5, eq4, hB5, hg5, -, hc5, hc6, -, -⟩ := own_whole HO1.out (by omega)
    injection eq4 with eq4 _ eq6
    subst eq4 eq6
    have HFI := Lib.hid hfi
    have hne : ((i0 : Int) == -1) = false := by rw [beq_eq_false_iff_ne]; omega
    obtain ⟨n, hn⟩ : ∃ n, n = L.length := ⟨_, rfl⟩
    have HN := Lib.hid hn
    rw [← hn] at HO1 hi0 hl hc5 ⊢
    clear hfi hn
    go_wp2
    go_loopg [5, 6] n (fun kx s5 s6 wr => ∃ (i j : Nat) (D : List Rt), s5 = .int .i64 (i : Int) ∧ s6 = .int .i64 (j : Int) ∧ n - j ≤ kx ∧ j ≤ n ∧ i < j ∧ Hid (D.length = n) ∧ Hid ((L.take j).filter (fun r => !P r) = D.take i) ∧ Hid (D.drop j = L.drop j) ∧
      Hid (wr.ownsRow B 38 4 (.slice (some ⟨gb, 0, none⟩) n c) n (rcs D)) ∧ Below B w1 wr)
    case atStart => exact ⟨i0, i0 + 1, L, rfl, by go_num, by omega, by omega, by omega, Lib.hid HN.out.symm, HFI, Lib.hid rfl, HO1, Below.refl _ _⟩
    case round =>
      clear HO1 HFI
      obtain ⟨i, j, D, rfl, rfl, k1, k2, k3, HDL, HDT, HDR, HO, hb⟩ := hrel
      have hz := hb.size
      by_cases hj : j < n
      · have hjD : j < D.length := by rw [HDL.out]; exact hj
        have hiD : i < D.length := by omega
        have hjL : j < L.length := by rw [← HN.out]; exact hj
        obtain ⟨g', o', eq5, hgl, x0, x1, x2, x3⟩ := (Row.of_own HO.out).rt hjD
        injection eq5 with eq5
        injection eq5 with eg' eo'
        subst eg' eo'
        obtain ⟨g', o', eq5, -, z0, z1, z2, z3⟩ := (Row.of_own HO.out).rt hiD
        injection eq5 with eq5
        injection eq5 with eg' eo'
        subst eg' eo'
        simp only [Nat.zero_add] at x0 x1 x2 x3 z0 z1 z2 z3
        have hDj := drop_at HDR.out hjD hjL
        rw [hDj] at x0 x1 x2 x3
        have hsn : L.take (j + 1) = L.take j ++ [L[j]] := List.take_succ_eq_append_getElem hjL
        have hfl : (L.take (j + 1)).filter (fun r => !P r) = D.take i ++ (if P L[j] = true then [] else [L[j]]) := by
          rw [hsn, List.filter_append, HDT.out]
          congr 1
          cases h : P L[j] <;> simp [h]
        have hdn := drop_next HDR.out
        have hgood := HG.out _ (List.getElem_mem hjL)
        have hk := fun (W : World) (h : Below B w1 W) => HP.out W L[j] hgood ((hb0.trans hw1).trans h)
        have i1 : (0 : Int) ≤ (j : Int) := by omega
        have i2 : (j : Int) < (n : Int) := by omega
        have i3 : (0 : Int) ≤ (i : Int) := by omega
        have i4 : (i : Int) < (n : Int) := by omega
        generalize D[i] = q at *
        generalize L[j] = r at *
        have hts := take_set_succ D i r hiD
        have hds : (D.set i r).drop (j + 1) = L.drop (j + 1) := by rw [List.drop_set_of_lt (by omega)]; exact hdn
        have hrs := rcs_set D i r hiD
        obtain ⟨⟨kh, kl, kn⟩, v⟩ := r
        unfold rtA at hk
        simp only at hk x0 x1 x2 x3
        have HK := Lib.hid hk
        have HOa := Lib.hid (HO.out.alloc (.cells #[.int .u64 (kh : Int), .int .u64 (kl : Int), .int .i64 kn, .int .i64 v] 38))
        have hba : Below B w1 (wr.alloc (.cells #[.int .u64 (kh : Int), .int .u64 (kl : Int), .int .i64 kn, .int .i64 v] 38)) := hb.alloc (by omega) _
        clear hk hDj hsn
        cases hv : P ⟨⟨kh, kl, kn⟩, v⟩ with
        | true =>
          rw [hv, if_pos rfl, List.append_nil] at hfl
          rw [hv] at HK
          have HFL := Lib.hid hfl
          have HDN := Lib.hid hdn
          clear hfl hdn hts hds hrs
          go_wp2_with (go_at_fn g; refine (HK.out _ hba).mono ?_; rintro e w3 ⟨rfl, hb3⟩)
          have hw3 := hba.trans (hb3.mono (by simp; omega))
          have HO3 := Lib.hid (own_below HOa.out hb3)
          clear HK hb3 hba HOa HO hb
          go_wp2
          go_roundg (n - (j + 1))
          case measure => omega
          case rel => exact ⟨i, j + 1, D, rfl, by go_num, by omega, by omega, by omega, HDL, HFL, HDN, HO3, hw3⟩
        | false =>
          rw [hv, if_neg (by simp), ← hts] at hfl
          rw [hv] at HK
          have HFL := Lib.hid hfl
          have HDS := Lib.hid hds
          have HRS := Lib.hid hrs
          clear hfl hdn hts hds hrs
          go_wp2_with fail
          go_at_fn g
          refine (HK.out _ hba).mono ?_
          rintro e w3 ⟨rfl, hb3⟩
          have hw3 := hba.trans (hb3.mono (by simp; omega))
          have HO3 := own_below HOa.out hb3
          obtain ⟨hc3, -⟩ := bcell hb3
          have y0 := (hc3 wr.heap.size 0 (by simp)).trans (show _ = some (Value.int .u64 (kh : Int)) by simp [go_sem])
          have y1 := (hc3 wr.heap.size 1 (by simp)).trans (show _ = some (Value.int .u64 (kl : Int)) by simp [go_sem])
          have y2 := (hc3 wr.heap.size 2 (by simp)).trans (show _ = some (Value.int .i64 kn) by simp [go_sem])
          have y3 := (hc3 wr.heap.size 3 (by simp)).trans (show _ = some (Value.int .i64 v) by simp [go_sem])
          have z0 := (hc3 gb (i * 4) (by simp; omega)).trans ((show (wr.alloc _).cell? _ = wr.cell? _ from (Below.refl wr.heap.size wr).alloc (Nat.le_refl _) _ |>.cell (p := ⟨gb, i * 4, none⟩) hgl).trans z0)
          have z1 := (hc3 gb (i * 4 + 1) (by simp; omega)).trans ((show (wr.alloc _).cell? _ = wr.cell? _ from (Below.refl wr.heap.size wr).alloc (Nat.le_refl _) _ |>.cell (p := ⟨gb, i * 4 + 1, none⟩) hgl).trans z1)
          have z2 := (hc3 gb (i * 4 + 2) (by simp; omega)).trans ((show (wr.alloc _).cell? _ = wr.cell? _ from (Below.refl wr.heap.size wr).alloc (Nat.le_refl _) _ |>.cell (p := ⟨gb, i * 4 + 2, none⟩) hgl).trans z2)
          have z3 := (hc3 gb (i * 4 + 3) (by simp; omega)).trans ((show (wr.alloc _).cell? _ = wr.cell? _ from (Below.refl wr.heap.size wr).alloc (Nat.le_refl _) _ |>.cell (p := ⟨gb, i * 4 + 3, none⟩) hgl).trans z3)
          have f0 := HO3.frozenAt (i * 4)
          have f1 := HO3.frozenAt (i * 4 + 1)
          have f2 := HO3.frozenAt (i * 4 + 2)
          have f3 := HO3.frozenAt (i * 4 + 3)
          have s0 := HO3.stored (i * 4) (.int .u64 (kh : Int))
          have s1 := s0.1.stored (i * 4 + 1) (.int .u64 (kl : Int))
          have s2 := s1.1.stored (i * 4 + 2) (.int .i64 kn)
          have s3 := s2.1.stored (i * 4 + 3) (.int .i64 v)
          have h4 := s3.1
          rw [HRS.out] at h4
          have hb4 : Below B w1 ((((w3.setCell ⟨gb, i * 4, none⟩ (.int .u64 (kh : Int))).setCell ⟨gb, i * 4 + 1, none⟩ (.int .u64 (kl : Int))).setCell ⟨gb, i * 4 + 2, none⟩ (.int .i64 kn)).setCell ⟨gb, i * 4 + 3, none⟩ (.int .i64 v)) :=
            (((hw3.setCell hB5 _).setCell hB5 _).setCell hB5 _).setCell hB5 _
          have H4 := Lib.hid h4
          have hgl3 : gb < w3.heap.size := by have := hb3.size; simp at this; omega
          have hnl3 : wr.heap.size < w3.heap.size := by have := hb3.size; simp at this; omega
          have hgne : gb ≠ wr.heap.size := by omega
          clear HK hb3 hba HOa HO hb hc3 s0 s1 s2 s3 h4 HO3 x0 x1 x2 x3
          go_wp2
          go_roundg (n - (j + 1))
          case measure => omega
          case rel => exact ⟨i + 1, j + 1, D.set i ⟨⟨kh, kl, kn⟩, v⟩, by go_num, by go_num, by omega, by omega, by omega, Lib.hid (by rw [List.length_set]; exact HDL.out), HFL, HDS, H4, hb4⟩
      · obtain ⟨gb', c7, cur, eq4, -, hgl, hgc, hnc, hcm, hcs, htk⟩ := own_whole HO.out (by omega)
        injection eq4 with eq4 _ eq6
        injection eq4 with eq4
        injection eq4 with eq4
        subst eq4 eq6
        have hMD : M = D.take i := by
          rw [HM.out, ← HDT.out, List.take_of_length_le (by rw [← HN.out]; omega)]
        have hMl : M.length = i := by rw [hMD, List.length_take, HDL.out]; omega
        obtain ⟨m, hm⟩ : ∃ m, n - i = m + 1 := ⟨n - i - 1, by omega⟩
        obtain ⟨zs, hzs, hzl, hz1⟩ := zero_many (m + 1)
        have hfit : i * 4 + zs.length ≤ cur.size := by rw [hzl, hcs]; omega
        have hcl : ∀ ty, (Builtin.clear_ #[22] ty #[.slice (some ⟨gb, i * 4, none⟩) (n - i) (c - i)]).run Try.prog wr = .ok (.tuple #[]) (wr.setRow gb (splice cur.toList (i * 4) zs).toArray) := fun ty => by
          rw [hm]
          exact run_clear_more wr _ _ ty _ zs m Try.underlying22 zero_rt hzs hz1 gb (i * 4) _ _ _ hgc hfit
        have hw5 := setRow_heap wr gb cur (splice cur.toList (i * 4) zs).toArray 38 (0, 0) hgc
        have hgw5 := grown_setRow wr gb (splice cur.toList (i * 4) zs).toArray
        have hown : (wr.setRow gb (splice cur.toList (i * 4) zs).toArray).ownsRow B 38 4 (.slice (some ⟨gb, 0, none⟩) i c) i (rcs M) := by
          refine own_made hB5 hw5 (by omega) hcm ?_ ?_
          · rw [List.size_toArray, length_splice _ _ _ (by rw [Array.length_toList]; exact hfit), Array.length_toList, hcs]
          · rw [List.toList_toArray, splice_take _ _ _ _ (Nat.le_refl _) (by rw [Array.length_toList]; omega), hMD, ← rcs_take, ← htk, List.take_take, Nat.min_eq_left (by omega)]
        have hb5 : Below B w1 (wr.setRow gb (splice cur.toList (i * 4) zs).toArray) := hb.grown hgw5 (by omega) (fun k e => by injection e with e; omega)
        have HF := Lib.hid (And.intro hown (hw1.trans hb5))
        have HML := Lib.hid hMl
        have j1 : (0 : Int) ≤ (i : Int) := by omega
        have j2 : (i : Int) ≤ (n : Int) := by omega
        have j3 : (i : Int) ≤ (c : Int) := by omega
        have j4 : (n : Int) ≤ (c : Int) := by omega
        have j5 : i < c := by omega
        clear hown hb5 hw5 hgw5 hMD hMl hzs hzl hz1 hm HO HDT HDR HDL hgc htk
        go_wp2
        go_ret
        rw [HML.out]
        exact ⟨some ⟨gb, 0, none⟩, c, rfl, HF.out.1, HF.out.2⟩
  · have HL := Lib.hid hLM
    clear hLM
    go_wp2
    go_ret
    rw [HL.out]
    exact ⟨p, c, rfl, HO1.out, hw1⟩
end Go.Proofs.Ytlmampklgghngaa
