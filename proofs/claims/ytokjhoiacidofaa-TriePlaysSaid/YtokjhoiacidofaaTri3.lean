/-
  What with does: a route put into a trie. No condition but that the trie lies in memory and its keys are such as tries have.
-/
import Derived.Test.YtokjhoiacidofaaReg6
import Derived.Deep.DeepCutAuto
set_option linter.unusedSimpArgs false
set_option linter.unusedVariables false
namespace Go.Proofs.Ytokjhoiacidofaa
open Go.RowKit Go.Sort M

/-- What with makes of a trie T at whatever place: T'. -/
def WithOk (x : Rt) (T T' : Pt) : Prop := ∀ (K : Nat → Prop) (q : Option Addr) (w : World), (∀ g, w.heap.size ≤ g → K g) → NdAt w K T q →
  Calls Try.prog 21 #[.pointer q, rtA x] w fun e w' => ∃ q', e = .returned (.pointer q') ∧ NdAt w' K T' q' ∧ Below w.heap.size w w'
theorem with_nil (x : Rt) : WithOk x .nil (leafP x) := by
  intro K q w hK h
  obtain rfl : q = none := h
  unfold rtA leafP
  go_enter Try.func21, Try.ntmps21
  go_wp2
  go_ret
  refine ⟨_, rfl, ⟨_, none, none, rfl, hK _ (by simp), ⟨by simp, by simp [go_sem], by simp [go_sem], by simp [go_sem], by simp [go_sem], by simp [go_sem], by simp [go_sem], by simp [go_sem]⟩, rfl, rfl⟩, by go_grown⟩
/-- Two prefixes of the call's own: with's p and q. -/
def PQ (wB wx : World) (s5 s6 : Value) (a b : Ky) : Prop := ∃ b5 b6, s5 = .pointer (some ⟨b5, 0, none⟩) ∧ s6 = .pointer (some ⟨b6, 0, none⟩) ∧ b5 < wx.heap.size ∧ b6 < wx.heap.size ∧
  wx.cell? ⟨b5, 0, none⟩ = some (.int .u64 (a.h : Int)) ∧ wx.cell? ⟨b5, 1, none⟩ = some (.int .u64 (a.l : Int)) ∧ wx.cell? ⟨b5, 2, none⟩ = some (.int .i64 a.n) ∧
  wx.cell? ⟨b6, 0, none⟩ = some (.int .u64 (b.h : Int)) ∧ wx.cell? ⟨b6, 1, none⟩ = some (.int .u64 (b.l : Int)) ∧ wx.cell? ⟨b6, 2, none⟩ = some (.int .i64 b.n) ∧ Below wB.heap.size wB wx
set_option maxRecDepth 100000 in
theorem with_same (x : Rt) (k : Ky) (hxk : x.k = k) (v : Int) (on : Bool) (l r : Pt) : WithOk x (.node k v on l r) (.node x.k x.v true l r) := by
  intro K q w hK h
  obtain ⟨g, ql, qr, rfl, hg, H, hl, hr⟩ := h
  have hE := eqlK x.k.h x.k.l x.k.n k.h k.l k.n
  rw [decide_eq_true ((ky_eq _ _).2 hxk)] at hE
  have HX := Lib.hid hxk
  clear hxk
  have HL := Lib.hid hl
  have HR := Lib.hid hr
  clear hl hr
  unfold rtA
  go_enter Try.func21, Try.ntmps21
  go_upto_region 3 with fail
  generalize hwB : World.alloc w _ = wB
  have hB : Below w.heap.size w wB := by rw [← hwB]; go_grown
  have r0 : wB.cell? ⟨w.heap.size, 0, none⟩ = some (.int .u64 (x.k.h : Int)) := by rw [← hwB]; simp [go_sem]
  have r1 : wB.cell? ⟨w.heap.size, 1, none⟩ = some (.int .u64 (x.k.l : Int)) := by rw [← hwB]; simp [go_sem]
  have r2 : wB.cell? ⟨w.heap.size, 2, none⟩ = some (.int .i64 x.k.n) := by rw [← hwB]; simp [go_sem]
  have r3 : wB.cell? ⟨w.heap.size, 3, none⟩ = some (.int .i64 x.v) := by rw [← hwB]; simp [go_sem]
  have hzr : w.heap.size < wB.heap.size := by rw [← hwB]; simp
  have H := H.below hB
  have hz := H.lt
  have c0 := H.c0
  have c1 := H.c1
  have c2 := H.c2
  have c3 := H.c3
  have c4 := H.c4
  have c5 := H.c5
  have c6 := H.c6
  clear hwB
  have HH := Lib.hid H
  clear H
  go_cut [5, 6] (fun s5 s6 wx => Hid (PQ wB wx s5 s6 x.k k))
  case first =>
    go_region
    all_goals
      go_wp2_with fail
      go_meet
      exact ⟨_, _, rfl, rfl, by simp <;> omega, by simp <;> omega, by simp [go_sem], by simp [go_sem], by simp [go_sem], by simp [go_sem], by simp [go_sem], by simp [go_sem], by go_grown⟩
  case rest =>
    obtain ⟨b5, b6, rfl, rfl, z5, z6, d0, d1, d2, e0, e1, e2, hbC⟩ := hcut.out
    have HHC := Lib.hid (HH.out.below hbC)
    have hwC := hB.trans (hbC.mono hB.size)
    have hz := HHC.out.lt
    have c0 := HHC.out.c0
    have c1 := HHC.out.c1
    have c2 := HHC.out.c2
    have c3 := HHC.out.c3
    have c4 := HHC.out.c4
    have c5 := HHC.out.c5
    have c6 := HHC.out.c6
    have r0 := (hbC.cell (p := ⟨w.heap.size, 0, none⟩) hzr).trans r0
    have r1 := (hbC.cell (p := ⟨w.heap.size, 1, none⟩) hzr).trans r1
    have r2 := (hbC.cell (p := ⟨w.heap.size, 2, none⟩) hzr).trans r2
    have r3 := (hbC.cell (p := ⟨w.heap.size, 3, none⟩) hzr).trans r3
    have hzr := Nat.lt_of_lt_of_le hzr hbC.size
    clear hcut HH hB hbC
    go_wp2_with fail
    go_region
    go_wp2
    go_ret
    have hsz := hwC.size
    exact ⟨_, rfl, ⟨_, ql, qr, rfl, hK _ (by omega), ⟨by simp, by simp [go_sem], by simp [go_sem], by simp [go_sem], by simp [go_sem], by simp [go_sem], by simp [go_sem], by simp [go_sem]⟩, (HL.out.below hwC).below (by go_grown), (HR.out.below hwC).below (by go_grown)⟩, by go_grown⟩
/-- How many bits two prefixes have in common, as with reckons it. -/
theorem run_com (a b : Ky) (ra : rightK a) (rb : rightK b) (ts : Array TypeId) (t : TypeId) (w : World) : (Builtin.min_ ts t #[.int .i64 (commonN a.h a.l b.h b.l : Nat), .int .i64 a.n, .int .i64 b.n]).run Try.prog w = .ok (.int .i64 (comK a b : Nat)) w := by
  have h1 := rightK_le ra
  have h2 := rightK_le rb
  have e : (if b.n < (if a.n < (commonN a.h a.l b.h b.l : Nat) then a.n else (commonN a.h a.l b.h b.l : Nat)) then b.n else (if a.n < (commonN a.h a.l b.h b.l : Nat) then a.n else (commonN a.h a.l b.h b.l : Nat))) = (comK a b : Int) := by
    unfold comK
    split <;> split <;> omega
  rw [← e]
  simp [Builtin.min_, Builtin.min2]
/-- .. below a node: its kid on the way is put into. -/
theorem with_down (x : Rt) (k : Ky) (v : Int) (on : Bool) (l r T' : Pt) (xg : x.k.good) (xr : rightK x.k) (kg : k.good) (kr : rightK k) (hne : x.k ≠ k) (hc : comK x.k k = k.n.toNat) (b : Bool) (hb : bitK x.k k.n.toNat = b) (HK : WithOk x (cond b r l) T') :
    WithOk x (.node k v on l r) (.node k v on (cond b l T') (cond b T' r)) := by
  intro K q w hK h
  obtain ⟨g, ql, qr, rfl, hg, H, hl, hr⟩ := h
  have hE := eqlK x.k.h x.k.l x.k.n k.h k.l k.n
  rw [decide_eq_false (fun e => hne ((ky_eq _ _).1 e))] at hE
  have hM := run_com x.k k xr kr
  have HC := Lib.hid (common_any x.k.h x.k.l k.h k.l xg.1 xg.2 kg.1 kg.2)
  obtain ⟨cm, hcm⟩ : ∃ cm, cm = commonN x.k.h x.k.l k.h k.l := ⟨_, rfl⟩
  rw [← hcm] at hM HC
  clear hcm
  have hcn : (comK x.k k : Int) = k.n := by have := rightK_le kr; omega
  rw [hcn] at hM
  have HH2 := Lib.hid HK
  clear hcn HK hc
  have HL := Lib.hid hl
  have HR := Lib.hid hr
  clear hl hr
  unfold rtA
  go_enter Try.func21, Try.ntmps21
  go_upto_region 3 with fail
  generalize hwB : World.alloc w _ = wB
  have hB : Below w.heap.size w wB := by rw [← hwB]; go_grown
  have r0 : wB.cell? ⟨w.heap.size, 0, none⟩ = some (.int .u64 (x.k.h : Int)) := by rw [← hwB]; simp [go_sem]
  have r1 : wB.cell? ⟨w.heap.size, 1, none⟩ = some (.int .u64 (x.k.l : Int)) := by rw [← hwB]; simp [go_sem]
  have r2 : wB.cell? ⟨w.heap.size, 2, none⟩ = some (.int .i64 x.k.n) := by rw [← hwB]; simp [go_sem]
  have r3 : wB.cell? ⟨w.heap.size, 3, none⟩ = some (.int .i64 x.v) := by rw [← hwB]; simp [go_sem]
  have hzr : w.heap.size < wB.heap.size := by rw [← hwB]; simp
  have H := H.below hB
  have hz := H.lt
  have c0 := H.c0
  have c1 := H.c1
  have c2 := H.c2
  have c3 := H.c3
  have c4 := H.c4
  have c5 := H.c5
  have c6 := H.c6
  clear hwB
  have HH := Lib.hid H
  clear H
  go_cut [5, 6] (fun s5 s6 wx => Hid (PQ wB wx s5 s6 x.k k))
  case first =>
    go_region
    all_goals
      go_wp2_with fail
      go_meet
      exact ⟨_, _, rfl, rfl, by simp <;> omega, by simp <;> omega, by simp [go_sem], by simp [go_sem], by simp [go_sem], by simp [go_sem], by simp [go_sem], by simp [go_sem], by go_grown⟩
  case rest =>
    obtain ⟨b5, b6, rfl, rfl, z5, z6, d0, d1, d2, e0, e1, e2, hbC⟩ := hcut.out
    have HHC := Lib.hid (HH.out.below hbC)
    have hwC := hB.trans (hbC.mono hB.size)
    have hz := HHC.out.lt
    have c0 := HHC.out.c0
    have c1 := HHC.out.c1
    have c2 := HHC.out.c2
    have c3 := HHC.out.c3
    have c4 := HHC.out.c4
    have c5 := HHC.out.c5
    have c6 := HHC.out.c6
    have r0 := (hbC.cell (p := ⟨w.heap.size, 0, none⟩) hzr).trans r0
    have r1 := (hbC.cell (p := ⟨w.heap.size, 1, none⟩) hzr).trans r1
    have r2 := (hbC.cell (p := ⟨w.heap.size, 2, none⟩) hzr).trans r2
    have r3 := (hbC.cell (p := ⟨w.heap.size, 3, none⟩) hzr).trans r3
    have hzr := Nat.lt_of_lt_of_le hzr hbC.size
    clear hcut HH hB hbC
    go_wp2_with fail
    have kg := cell_grow
    refine region_whole (by kernel_rfl) (by kernel_rfl) ?_
    repeat (any_goals (first | go_big_quiet_step ((exact HC.out.at _ _ _)) | quiet_step ((exact HC.out.at _ _ _))))
    refine wpQuiet_nil ?_
    clear kg
    intro w6 hb6
    obtain ⟨hc6, hf6⟩ := bcell hb6
    have hw6 : Below w.heap.size w w6 := by
      refine Below.trans ?_ (hb6.mono ?_)
      · go_grown
      · first | omega | go_size
    have HH6 := Lib.hid (HHC.out.below hb6)
    have hw6 := hwC.trans (hb6.mono hwC.size)
    have d0 := (hc6 _ _ z5).trans d0
    have d1 := (hc6 _ _ z5).trans d1
    have d2 := (hc6 _ _ z5).trans d2
    have e0 := (hc6 _ _ z6).trans e0
    have e1 := (hc6 _ _ z6).trans e1
    have e2 := (hc6 _ _ z6).trans e2
    have r0 := (hc6 _ _ hzr).trans r0
    have r1 := (hc6 _ _ hzr).trans r1
    have r2 := (hc6 _ _ hzr).trans r2
    have r3 := (hc6 _ _ hzr).trans r3
    have z5 := Nat.lt_of_lt_of_le z5 hb6.size
    have z6 := Nat.lt_of_lt_of_le z6 hb6.size
    have hzr := Nat.lt_of_lt_of_le hzr hb6.size
    clear hb6 hc6 hf6 HHC hwC c0 c1 c2 c3 c4 c5 c6 hz
    go_wp2_with fail
    have kg := cell_grow
    refine wp_region_noPanic ?_
    generalize hNQ : NoPanic _ = NQ
    refine region_row [0, 2] [1, 3, 5] [4, 6, 7] [8] (by kernel_rfl) (by rw [← hNQ]; exact fun _ _ _ h => h) (by kernel_rfl) (by kernel_rfl) ?_
    simp only [pickL, List.filterMap_cons, List.filterMap_nil, List.getElem?_toArray, List.getElem?_cons_succ, List.getElem?_cons_zero]
    repeat (any_goals (quiet_step (fail)))
    refine wpQuiet_nil ?_
    clear kg
    intro w7 hb7
    have h0 := (rightK_le kr).1
    have hw7 := hw6.trans (hb7.mono hw6.size)
    have HH7 := Lib.hid (HH6.out.below hb7)
    have ht := toward_any g k v on ql qr x.k w7 HH7.out xg h0
    rw [hb] at ht
    intro K1 hK1 o ho
    injection ho with ho
    subst ho
    go_simp
    refine ht.mono ?_
    rintro e w8 ⟨rfl, hb8⟩
    have hw8 := hw7.trans (hb8.mono hw7.size)
    have HH8 := Lib.hid (HH7.out.below hb8)
    have hkid : NdAt w8 K (cond b r l) (cond b qr ql) := by
      cases b
      · exact HL.out.below hw8
      · exact HR.out.below hw8
    refine hK1 _ _ (hb7.trans (hb8.mono hb7.size)) ?_
    clear hK1 K1
    intro K1 hK1 o ho
    injection ho with ho
    subst ho
    go_simp
    refine (HH2.out K _ w8 (fun g hg => hK g (Nat.le_trans hw8.size hg)) hkid).mono ?_
    rintro e w9 ⟨q', rfl, hT, hb9⟩
    have hw9 := hw8.trans (hb9.mono hw8.size)
    have HH9 := Lib.hid (HH8.out.below hb9)
    have hb79 := (hb7.trans (hb8.mono hb7.size)).trans (hb9.mono (Nat.le_trans hb7.size hb8.size))
    refine hK1 _ _ hb79 ?_
    clear hK1 K1
    intro K1 hK1 o ho
    injection ho with ho
    subst ho
    go_simp
    refine (led_any g k v on ql qr x.k q' w9 HH9.out xg h0).mono ?_
    rintro e w10 ⟨g', rfl, hg', hN, hb10⟩
    have hw10 := hw9.trans (hb10.mono hw9.size)
    rw [hb] at hN
    refine hK1 _ _ (hb79.trans (hb10.mono hb79.size)) ?_
    clear hK1 K1
    show wpList _ _ _ _ _ _
    simp only [pickL, List.filterMap_cons, List.filterMap_nil, List.getElem?_toArray, List.getElem?_cons_succ, List.getElem?_cons_zero]
    go_wp2_with fail
    rw [← hNQ]
    refine NoPanic.normal ?_
    clear hNQ
    go_wp2
    go_ret
    refine ⟨_, rfl, ⟨g', _, _, rfl, hK _ (Nat.le_trans hw9.size hg'), hN, ?_, ?_⟩, hw10⟩
    · cases b
      · exact hT.below hb10
      · exact HL.out.below hw10
    · cases b
      · exact HR.out.below hw10
      · exact hT.below hb10
end Go.Proofs.Ytokjhoiacidofaa
