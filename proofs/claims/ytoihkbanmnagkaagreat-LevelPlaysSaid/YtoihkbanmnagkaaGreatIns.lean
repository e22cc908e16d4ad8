/-
  What slices.Insert of one route makes of a row of the call's own: the row with one more, in its place. No condition but that the row is short of 2^20.
-/
import Derived.Test.YtoihkbanmnagkaaGreatCopy
import Derived.Lib.Overlaps
import Derived.Laws.Externs
import Derived.Laws.NewBlocks
import Derived.Deep.RegionLaw
set_option linter.unusedSimpArgs false
set_option linter.unusedVariables false
namespace Go.Proofs.YtoihkbanmnagkaaGreat
open Go.RowKit Go.Sort M

def Inserted (w w' : World) (e : Ending) (v : Value) (L : List Rt) : Prop := ∃ v', e = .returned v' ∧ w'.ownsRow 0 58 4 v' L.length (rcs L) ∧ w.grownBy w' v.ownBlock ∧ (v'.ownBlock = v.ownBlock ∨ ∃ k, v'.ownBlock = some k ∧ w.heap.size ≤ k)
theorem oneR (L : List Rt) (u : Value) (h : u ∈ rcs L) : u.oneCell' = true := rcs_one' L u h
set_option maxRecDepth 100000 in
set_option maxHeartbeats 4000000 in
theorem insert_end (v : Value) (L : List Rt) (r : Rt) (vb : Nat) (w : World) (hown : w.ownsRow 0 58 4 v L.length (rcs L)) (hL : L.length < 1048576) (hvb : w.heap[vb]? = some (.cells (rcell r).toArray 58 (0, 0))) :
    Calls Tryz.prog 79 #[v, .int .i64 (L.length : Int), .slice (some ⟨vb, 0, none⟩) 1 1] w fun e w' => Inserted w w' e v (L ++ [r]) := by
  obtain ⟨i0, hi0, iz0, iz1, iz2⟩ := info_parts infoR
  have hnews := cells_at hvb 0 (rcell r) (by simp [rcell])
  obtain ⟨p, c, rfl⟩ := own_slice hown
  have hlc : L.length ≤ c := by
    rcases hown.2 with ⟨e, h0⟩ | ⟨g, cap, cur, e, -, -, h1, -⟩
    · omega
    · injection e with _ _ e3; omega
  generalize hn : L.length = n at *
  by_cases hcn : c = n
  · subst hcn
    go_enter Tryz.func79, Tryz.ntmps79
    go_wp2_with (at_builtin; go_loud (refine wpList_append_own_at _ rfl (.tmp 23) (.tmp 24) 47 rfl 0 58 i0 _ 4 32 Tryz.underlying47 hi0 iz0 iz1 iz2 rfl (by decide) _ _ _ rfl hown ⟨vb, 0, none⟩ 1 1 (rcell r) rfl rfl hnews (by simp [rcell, Value.oneCell']) (by unfold maxLen; omega) (by omega) (by omega) ?_))
    intro v3 w3 hown3 hg3 _ hat
    go_wp2
    go_ret
    exact ⟨v3, rfl, own_rsnoc hown3 hn.symm, hg3, hat.imp id (fun e => ⟨_, e, Nat.le_refl _⟩)⟩
  · go_enter Tryz.func79, Tryz.ntmps79
    go_wp2_with (at_builtin; go_loud (refine wpList_append_own_at _ rfl (.tmp 23) (.tmp 24) 47 rfl 0 58 i0 _ 4 32 Tryz.underlying47 hi0 iz0 iz1 iz2 rfl (by decide) _ _ _ rfl hown ⟨vb, 0, none⟩ 1 1 (rcell r) rfl rfl hnews (by simp [rcell, Value.oneCell']) (by unfold maxLen; omega) (by omega) (by omega) ?_))
    intro v3 w3 hown3 hg3 _ hat
    go_wp2
    go_ret
    exact ⟨v3, rfl, own_rsnoc hown3 hn.symm, hg3, hat.imp id (fun e => ⟨_, e, Nat.le_refl _⟩)⟩
theorem wpList_append_zeros {P : Program} {ops : Array Oper} {rest : List Oper} {o : Oper} {a : Act} {w : World} {Q : Exit → Act → World → Prop} (hgd : o.guard = none) (s x : Operand) (t tn : TypeId)
    (ho : o.op = .call { callee := .builtin .append, args := #[s, x], argTypes := #[t, tn] }) (e : TypeId) (i : TypeInfo) (z : Value) (size bytes : Nat) (kn : IntKind) (ht : P.underlying t = some (.slice e)) (htn : P.underlying tn = some (.int kn)) (hi : P.info? e = some i) (hz : i.zero = some z)
    (hsz : i.size = size) (hby : i.bytes = bytes) (hzs : z.cells.size = size) (h0s : 0 < size) (g : Nat) (off sLen sCap : Nat) (hs : a.eval s = .slice (some ⟨g, off, none⟩) sLen sCap) (k : Nat) (hx : a.eval x = .int .i64 (k : Int))
    (olds : List Value) (hlo : olds.length = sLen * size) (holds : ∀ j v, olds[j]? = some v → w.cell? ((⟨g, off, none⟩ : Addr).add j) = some v) (h0 : 0 < k) (hg : sCap < sLen + k) (h63 : sLen + k ≤ maxLen) (hbytes : (sLen + k) * bytes ≤ 140737488355328)
    (h : ∀ (cap : Nat) (Z : List Value) w', sLen + k ≤ cap → cap ≤ maxLen → Z.length = (cap - sLen) * size → Hid (w'.heap[w.heap.size]? = some (.cells (olds ++ Z).toArray e (0, 0))) → w.grownBy w' none → wpList P ops Q rest (a.put o.dst (.slice (some ⟨w.heap.size, 0, none⟩) (sLen + k) cap)) w') : wpList P ops Q (o :: rest) a w := by
  subst hsz hby
  have hold : (Builtin.firstCells i.size sLen (.slice (some ⟨g, off, none⟩) sLen sCap)).run P w.drew = .ok olds.toArray w.drew := run_firstCells_some w.drew i.size sLen ⟨g, off, none⟩ sLen sCap olds hlo (fun j v hj => holds j v hj)
  have h63' : sLen + k ≤ 9223372036854775807 := by simp only [maxLen] at h63; omega
  have hkb : k * i.bytes ≤ 281474976710656 := Nat.le_trans (Nat.mul_le_mul_right _ (Nat.le_add_left k sLen)) (by omega)
  have hr := Lib.run_append_grow_zeros (P := P) w t tn o.type e i z .i64 kn ht htn hi hz (some ⟨g, off, none⟩) sLen sCap olds hold k h0 h0s hg (by omega) hkb (growslice_fits hg hbytes)
  refine Lib.wpList_append_run w hgd s x t tn ho _ _ hs hx _ _ hr ?_
  have hge := grownCap_ge w (sLen + k) sCap e
  refine h _ ((Builtin.zeroCells z.cells k).toList ++ (Builtin.zeroCells z.cells (grownCap w (sLen + k) sCap e - (sLen + k))).toList) _ hge (grownCap_le_maxLen w _ _ _ h63) ?_ ?_ ?_
  · rw [List.length_append, Array.length_toList, Array.length_toList, size_zeroCells, size_zeroCells, hzs, ← Nat.add_mul]
    congr 1
    omega
  · show _ = _
    refine (heap_alloc_new w.drew _).trans ?_
    simp [Array.append_assoc]
  · exact ⟨rfl, rfl, rfl, by simp, fun j hj _ => (heap_alloc_old w.drew _ hj).trans rfl⟩
set_option maxRecDepth 100000 in
set_option maxHeartbeats 4000000 in
theorem insert_room (g c n i : Nat) (cur : Array Value) (L : List Rt) (r : Rt) (vb : Nat) (w : World) (hn : L.length = n) (hg : w.heap[g]? = some (.cells cur 58 (0, 0))) (hc : n + 1 ≤ c) (hcm : c ≤ maxLen) (hcs : cur.size = c * 4) (htk : cur.toList.take (n * 4) = rcs L)
    (hi : i < n) (hL : n < 1048576) (hvb : w.heap[vb]? = some (.cells (rcell r).toArray 58 (0, 0))) (hne : vb ≠ g) :
    Calls Tryz.prog 79 #[.slice (some ⟨g, 0, none⟩) n c, .int .i64 (i : Int), .slice (some ⟨vb, 0, none⟩) 1 1] w fun e w' => Inserted w w' e (.slice (some ⟨g, 0, none⟩) n c) (L.take i ++ r :: L.drop i) := by
  obtain ⟨i0, hi0, iz0, iz1, iz2⟩ := info_parts infoR
  have hin : ¬ ((i : Int) = (n : Int)) := by omega
  have hw1 : IntKind.i64.wrap ((i : Int) + 1) = (i : Int) + 1 := by rw [IntKind.wrap_i64]; omega
  have hb1 : (0 : Int) ≤ (i : Int) + 1 := by omega
  have hb2 : ¬ (c = i + 1) := by omega
  have hb3 : (i : Int) ≤ (n : Int) + 1 := by omega
  have hb4 : ¬ (c = i) := by omega
  have hb5 : (i : Int) ≤ (n : Int) := by omega
  have htn : ((i : Int) + 1).toNat = i + 1 := by omega
  have hov : ∀ lb cb, (callFunc 103 #[.slice (some ⟨vb, 0, none⟩) 1 1, .slice (some ⟨g, (i + 1) * 4, none⟩) lb cb]).run Tryz.prog w = .ok (.value (.bool false)) w := fun lb cb => by
    rw [run_callFunc_extern Tryz.func103 (by kernel_rfl) (by kernel_rfl) (by kernel_rfl) (e := Extern.SlicesOverlaps.overlaps #[47, 47] #[4]) (by kernel_rfl),
      Lib.run_overlaps_apart w 47 4 58 Tryz.underlying47 4 Tryz.sizeOf58 ⟨vb, 0, none⟩ ⟨g, (i + 1) * 4, none⟩ 1 1 lb cb hne 58 58 4 (c * 4) (by unfold World.shape?; rw [hvb]; rfl) (by unfold World.shape?; rw [hg]; simp [hcs]) (by omega) (by unfold World.frozen?; rw [hvb]; rfl) (by unfold World.frozen?; rw [hvb]; rfl)]
    rfl
  have hdl : (L.drop i).length = n - i := by rw [List.length_drop, hn]
  have hd4 : (rcs (L.drop i)).length = (n - i) * 4 := by rw [rcs_len, hdl]
  have hX := cells_at hg (i * 4) (rcs (L.drop i)) (by
    rw [hd4, ← rcs_drop, ← htk, List.drop_take]
    congr 1
    omega)
  have hnews := cells_at hvb 0 (rcell r) (by simp [rcell])
  generalize hX2 : rcs (L.drop i) = X2 at *
  go_enter Tryz.func79, Tryz.ntmps79
  go_wp2_with (simp only [hov])
  go_region_law (refine step_copy_rt rfl (.tmp 73) (.tmp 76) 47 47 rfl 58 i0 Tryz.underlying47 hi0 4 iz1 g ((i + 1) * 4) (n + 1 - (i + 1)) (c - (i + 1)) ⟨g, i * 4, none⟩ (n + 1 - i) (c - i) (by simp [Act.eval, Act.put]) (by simp [Act.eval, Act.put]) cur 58 hg X2 (n - i) (by simp only [Nat.min_def]; split <;> omega) hd4 hX (by omega) (by rw [← hX2]; exact oneR _) ?_; intro w4 hg4 hb4)
  have hvb4 : w4.heap[vb]? = some (.cells (rcell r).toArray 58 (0, 0)) := (hb4.block vb (Array.getElem?_eq_some_iff.1 hvb).1 (by intro e; injection e with e; exact hne e)).trans hvb
  have hnews4 := cells_at hvb4 0 (rcell r) (by simp [rcell])
  have hsl : (splice cur.toList ((i + 1) * 4) X2).length = c * 4 := by rw [length_splice _ _ _ (by rw [hd4, Array.length_toList, hcs]; omega), Array.length_toList, hcs]
  obtain ⟨cur4, hcur4⟩ : ∃ x, x = splice cur.toList ((i + 1) * 4) X2 := ⟨_, rfl⟩
  have hg4 : Hid (w4.heap[g]? = some (.cells cur4.toArray 58 (0, 0))) := by show _ = _; rw [hcur4]; exact hg4.out
  rw [← hcur4] at hsl
  have hgw4 : Hid (w.grownBy w4 (some g)) := (⟨hb4.os, hb4.tape, hb4.output, hb4.size, hb4.block⟩ : w.grownBy w4 (some g))
  have HC4 := Lib.hid hcur4.symm
  have HX2 := Lib.hid hX2
  have HTK := Lib.hid htk
  clear hov hcur4 hX hnews hvb hg htk hX2
  have hs1 : (i * 4) + (rcell r).length ≤ cur4.toArray.size := by simp [rcell, hsl]; omega
  have hs2 : ∀ v ∈ rcell r, v.oneCell' = true := by simp [rcell, Value.oneCell']
  have hs3 : Nat.min 1 (n + 1 - i) = 1 := by simp only [Nat.min_def]; split <;> omega
  go_wp2_with (with_reducible refine wpList_copy_rt rfl (.tmp 80) (.tmp 81) 47 47 rfl 58 i0 Tryz.underlying47 hi0 4 iz1 g (i * 4) (n + 1 - i) (c - i) ⟨vb, 0, none⟩ 1 1 rfl rfl cur4.toArray 58 hg4.out (rcell r) 1 hs3 rfl hnews4 hs1 hs2 ?_)
  intro w5 hg5 hb5'
  go_wp2
  go_ret
  refine ⟨_, rfl, ?_, World.grownBy.trans hgw4.out hb5', .inl rfl⟩
  have hlen : (L.take i ++ r :: L.drop i).length = n + 1 := by simp; omega
  rw [hlen]
  refine own_made (Nat.zero_le _) hg5.out (by omega) hcm (by simp [length_splice, rcell, hsl]; rw [length_splice _ _ _ (by simp [rcell, hsl]; omega), hsl]) ?_
  have h1 := splice_in cur.toList (rcs (L.take i)) (rcell r) X2 (i * 4) 4 ((n - i) * 4) (by rw [rcs_len, List.length_take]; omega) rfl hd4 (by
    rw [show i * 4 + (n - i) * 4 = n * 4 by omega, HTK.out, ← HX2.out, ← rcs_append, List.take_append_drop]) (by rw [Array.length_toList, hcs]; omega)
  rw [show i * 4 + 4 + (n - i) * 4 = (n + 1) * 4 by omega, show i * 4 + 4 = (i + 1) * 4 by omega, HC4.out] at h1
  rw [rcs_append, rcs_cons, HX2.out, ← List.append_assoc]
  simpa using h1
set_option maxRecDepth 100000 in
set_option maxHeartbeats 4000000 in
theorem insert_grow (g c n i : Nat) (cur : Array Value) (L : List Rt) (r : Rt) (vb : Nat) (w : World) (hn : L.length = n) (hg : w.heap[g]? = some (.cells cur 58 (0, 0))) (hc : c < n + 1) (hnc : n ≤ c) (hcs : cur.size = c * 4) (htk : cur.toList.take (n * 4) = rcs L)
    (hi : i < n) (hL : n < 1048576) (hvb : w.heap[vb]? = some (.cells (rcell r).toArray 58 (0, 0))) :
    Calls Tryz.prog 79 #[.slice (some ⟨g, 0, none⟩) n c, .int .i64 (i : Int), .slice (some ⟨vb, 0, none⟩) 1 1] w fun e w' => Inserted w w' e (.slice (some ⟨g, 0, none⟩) n c) (L.take i ++ r :: L.drop i) := by
  obtain ⟨i0, hi0, iz0, iz1, iz2⟩ := info_parts infoR
  have hgl := (Array.getElem?_eq_some_iff.1 hg).1
  have hvl := (Array.getElem?_eq_some_iff.1 hvb).1
  have hin : ¬ ((i : Int) = (n : Int)) := by omega
  have hz3 : (c : Int) < (n : Int) + 1 := by omega
  have hw1 : IntKind.i64.wrap ((i : Int) + 1) = (i : Int) + 1 := by rw [IntKind.wrap_i64]; omega
  have hkk : (n : Int) + 1 - (i : Int) = ((n + 1 - i : Nat) : Int) := by omega
  have hb1 : (0 : Int) ≤ (i : Int) + 1 := by omega
  have hb3 : (i : Int) ≤ (n : Int) + 1 := by omega
  have hb4 : ¬ (c = i) := by omega
  have hb5 : (i : Int) ≤ (n : Int) := by omega
  have htn : ((i : Int) + 1).toNat = i + 1 := by omega
  have hdl : (L.drop i).length = n - i := by rw [List.length_drop, hn]
  have hd4 : (rcs (L.drop i)).length = (n - i) * 4 := by rw [rcs_len, hdl]
  have ht4 : (rcs (L.take i)).length = i * 4 := by rw [rcs_len, List.length_take]; omega
  have hX : (cur.toList.drop (i * 4)).take (rcs (L.drop i)).length = rcs (L.drop i) := by
    rw [hd4, ← rcs_drop, ← htk, List.drop_take]
    congr 1
    omega
  have hX1 := cells_at hg 0 (rcs (L.take i)) (by
    rw [ht4, ← rcs_take, ← htk, List.drop_zero, List.take_take]
    congr 1
    omega)
  have h1d : ∀ v ∈ rcs (L.drop i), v.oneCell' = true := oneR _
  obtain ⟨X2, hX2⟩ : ∃ x, x = rcs (L.drop i) := ⟨_, rfl⟩
  obtain ⟨X1, hX1e⟩ : ∃ x, x = rcs (L.take i) := ⟨_, rfl⟩
  rw [← hX2] at hd4 hX h1d
  rw [← hX1e] at ht4 hX1
  have HX := Lib.hid hX
  have HX1 := Lib.hid hX1
  have HX2 := Lib.hid hX2
  have HX1e := Lib.hid hX1e
  have HG := Lib.hid hg
  have HVB := Lib.hid hvb
  have HKK := Lib.hid hkk
  clear hX hX1 hX2 hX1e htk hg hvb hkk
  go_enter Tryz.func79, Tryz.ntmps79
  go_wp2_with (at_builtin; go_loud (refine wpList_append_zeros rfl (.tmp 34) (.tmp 39) 47 3 rfl 58 i0 _ 4 32 .i64 Tryz.underlying47 Tryz.underlying3 hi0 iz0 iz1 iz2 rfl (by decide) g 0 i c rfl (n + 1 - i) (by rw [← HKK.out]; rfl) X1 ht4 HX1.out (by omega) (by omega) (by unfold maxLen; omega) (by omega) ?_))
  intro cap Z w4 hcap hcm hZ hg4 hgw
  rw [show i + (n + 1 - i) = n + 1 by omega] at hcap ⊢
  have hc1 : ¬ (cap = i + 1) := by omega
  have hc2 : ¬ (cap = i) := by omega
  have hc3 : (i : Int) ≤ (cap : Int) := by omega
  have hvb4 : w4.heap[vb]? = some (.cells (rcell r).toArray 58 (0, 0)) := (hgw.block vb hvl (by simp)).trans HVB.out
  have hnews4 := cells_at hvb4 0 (rcell r) (by simp [rcell])
  have hsz4 : (X1 ++ Z).length = cap * 4 := by rw [List.length_append, ht4, hZ]; omega
  have hs1 : (i * 4) + (rcell r).length ≤ (X1 ++ Z).toArray.size := by simp only [List.size_toArray, hsz4, rcell, List.length_cons, List.length_nil]; omega
  have hs2 : ∀ v ∈ rcell r, v.oneCell' = true := by simp [rcell, Value.oneCell']
  have hs3 : Nat.min 1 (n + 1 - i) = 1 := by simp only [Nat.min_def]; split <;> omega
  have HGW := Lib.hid hgw
  have HZ := Lib.hid hZ
  have HS := Lib.hid hsz4
  obtain ⟨R4, hR4⟩ : ∃ x, x = (X1 ++ Z) := ⟨_, rfl⟩
  rw [← hR4] at hs1 hg4 HS
  have HR4 := Lib.hid hR4
  clear hvb4 hgw hZ hsz4 hR4
  go_wp2_with (with_reducible refine wpList_copy_rt rfl (.tmp 43) (.tmp 44) 47 47 rfl 58 i0 Tryz.underlying47 hi0 4 iz1 w.heap.size (i * 4) (n + 1 - i) (cap - i) ⟨vb, 0, none⟩ 1 1 rfl rfl R4.toArray 58 hg4.out (rcell r) 1 hs3 rfl hnews4 hs1 hs2 ?_)
  intro w5 hg5 hgw5
  obtain ⟨R5, hR5⟩ : ∃ x, x = splice R4 (i * 4) (rcell r) := ⟨_, rfl⟩
  have hg5' : w5.heap[w.heap.size]? = some (.cells R5.toArray 58 (0, 0)) := by rw [hR5]; exact hg5.out
  have hl5 : R5.length = cap * 4 := by rw [hR5, length_splice _ _ _ (by rw [HS.out]; simp [rcell]; omega), HS.out]
  have hg05 : w5.heap[g]? = some (.cells cur 58 (0, 0)) := (hgw5.block g (Nat.lt_of_lt_of_le hgl HGW.out.size) (by intro e; injection e with e; omega)).trans ((HGW.out.block g hgl (by simp)).trans HG.out)
  have hX5 := cells_at hg05 (i * 4) X2 HX.out
  have hfit5 : (i + 1) * 4 + X2.length ≤ R5.toArray.size := by rw [List.size_toArray, hl5, hd4]; omega
  have hmin5 : Nat.min (n - i) (n + 1 - (i + 1)) = n - i := by simp only [Nat.min_def]; split <;> omega
  have HW5 := Lib.hid hgw5
  have HR5 := Lib.hid hR5
  clear hg5 hgw5 hR5 hg05 hnews4 hg4 hs1
  go_wp2_with fail
  go_region_law (refine step_copy_rt rfl (.tmp 50) (.tmp 53) 47 47 rfl 58 i0 Tryz.underlying47 hi0 4 iz1 w.heap.size ((i + 1) * 4) (n + 1 - (i + 1)) (cap - (i + 1)) ⟨g, i * 4, none⟩ (n - i) (c - i) (by simp [Act.eval, Act.put]) (by simp [Act.eval, Act.put]) R5.toArray 58 hg5' X2 (n - i) hmin5 hd4 hX5 hfit5 h1d ?_; intro w6 hg6 hb6)
  have hb6' : w5.grownBy w6 (some w.heap.size) := ⟨hb6.os, hb6.tape, hb6.output, hb6.size, hb6.block⟩
  clear hX5 hg5'
  go_wp2
  go_ret
  refine ⟨_, rfl, ?_, ?_, .inr ⟨_, rfl, Nat.le_refl _⟩⟩
  · have hlen : (L.take i ++ r :: L.drop i).length = n + 1 := by simp; omega
    rw [hlen]
    refine own_made (Nat.zero_le _) hg6.out (by omega) hcm (by rw [List.size_toArray, length_splice _ _ _ (by simpa using hfit5)]; simpa using hl5) ?_
    have h1 := splice_new X1 Z (rcell r) X2 (i * 4) 4 ((n - i) * 4) ht4 rfl hd4 (by rw [HZ.out]; omega)
    rw [show i * 4 + 4 + (n - i) * 4 = (n + 1) * 4 by omega, show i * 4 + 4 = (i + 1) * 4 by omega, ← HR4.out, ← HR5.out] at h1
    rw [rcs_append, rcs_cons, ← HX2.out, ← HX1e.out, ← List.append_assoc]
    simpa using h1
  · have h4 := HGW.out
    have h5 := HW5.out
    exact ⟨hb6'.os.trans (h5.os.trans h4.os), hb6'.tape.trans (h5.tape.trans h4.tape), hb6'.output.trans (h5.output.trans h4.output), Nat.le_trans h4.size (Nat.le_trans h5.size hb6'.size), fun k hk _ => (hb6'.block k (Nat.lt_of_lt_of_le hk (Nat.le_trans h4.size h5.size)) (by intro e; injection e with e; omega)).trans ((h5.block k (Nat.lt_of_lt_of_le hk h4.size) (by intro e; injection e with e; omega)).trans (h4.block k hk (by simp)))⟩
theorem insert_any (v : Value) (L : List Rt) (i : Nat) (r : Rt) (vb : Nat) (w : World) (hown : w.ownsRow 0 58 4 v L.length (rcs L)) (hi : i ≤ L.length) (hL : L.length < 1048576) (hvb : w.heap[vb]? = some (.cells (rcell r).toArray 58 (0, 0))) (hne : v.ownBlock ≠ some vb) :
    Calls Tryz.prog 79 #[v, .int .i64 (i : Int), .slice (some ⟨vb, 0, none⟩) 1 1] w fun e w' => Inserted w w' e v (L.take i ++ r :: L.drop i) := by
  by_cases h : i = L.length
  · subst h
    have := insert_end v L r vb w hown hL hvb
    rwa [List.take_length, List.drop_length]
  · obtain ⟨g, cap, cur, rfl, -, hgl, hg, h1, h2, h3, h4⟩ := own_whole hown (by omega)
    by_cases hr : L.length + 1 ≤ cap
    · exact insert_room g cap L.length i cur L r vb w rfl hg hr h2 h3 h4 (by omega) hL hvb (fun e => hne (by rw [e]; rfl))
    · exact insert_grow g cap L.length i cur L r vb w rfl hg (by omega) h1 h3 h4 (by omega) hL hvb
end Go.Proofs.YtoihkbanmnagkaaGreat
