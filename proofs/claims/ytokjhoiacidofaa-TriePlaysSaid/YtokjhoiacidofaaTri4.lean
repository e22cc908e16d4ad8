/-
  What with does beside a node: a fork is laid above it; and so, what with does to any trie. No condition but that the trie lies in memory and its keys are such as tries have.
-/
import Derived.Test.YtokjhoiacidofaaTri3
set_option linter.unusedSimpArgs false
set_option linter.unusedVariables false
namespace Go.Proofs.Ytokjhoiacidofaa
open Go.RowKit Go.Sort M

set_option maxRecDepth 100000 in
/-- .. beside a node: a fork is laid above it. -/
theorem with_fork (x : Rt) (k : Ky) (v : Int) (on : Bool) (l r T' : Pt) (xg : x.k.good) (xr : rightK x.k) (kg : k.good) (kr : rightK k) (hne : x.k ≠ k) (hc : comK x.k k ≠ k.n.toNat) (b : Bool) (hb : bitK k (comK x.k k) = b)
    (HK : WithOk x (.node (forkP x k) 0 false (cond b .nil (.node k v on l r)) (cond b (.node k v on l r) .nil)) T') : WithOk x (.node k v on l r) T' := by
  intro K q w hK h
  obtain ⟨g, ql, qr, rfl, hg, H, hl, hr⟩ := h
  have hE := eqlK x.k.h x.k.l x.k.n k.h k.l k.n
  rw [decide_eq_false (fun e => hne ((ky_eq _ _).1 e))] at hE
  have hM := run_com x.k k xr kr
  have HC := Lib.hid (common_any x.k.h x.k.l k.h k.l xg.1 xg.2 kg.1 kg.2)
  obtain ⟨cm, hcm⟩ : ∃ cm, cm = commonN x.k.h x.k.l k.h k.l := ⟨_, rfl⟩
  rw [← hcm] at hM HC
  clear hcm
  have HH2 := Lib.hid HK
  have HB := Lib.hid hb
  have hcb : (((comK x.k k : Nat) : Int) == k.n) = false := by have := rightK_le kr; simp; omega
  have HF : Hid (forkP x k = ⟨cutW x.k.h (comK x.k k), cutW x.k.l (comK x.k k - 64), (comK x.k k : Int)⟩) := rfl
  have HFN := Lib.hid (fork_n x k)
  have hcut := cut_any x.k.h x.k.l (comK x.k k : Int) xg.1 xg.2
  rw [Int.toNat_natCast] at hcut
  obtain ⟨c, hcc⟩ : ∃ c, c = comK x.k k := ⟨_, rfl⟩
  rw [← hcc] at hM HB hcb HF HFN hcut
  have HCUT := Lib.hid hcut
  have hcb2 : ¬ ((c : Nat) : Int) = k.n := by simpa using hcb
  clear HK hc hb hcut hcc
  have HL := Lib.hid hl
  have HR := Lib.hid hr
  clear hl hr
  unfold rtA
  go_enter Try.func21, Try.ntmps21
  go_upto_region 3 with fail
  generalize hwB : World.alloc w _ = wB
  have hB : Below w.heap.size w wB := by rw [← hwB]; go_grown
  have r0 : wB.cell? ⟨w.heap.size, 0, none⟩ = some (.int .u64 (x.k.h : Int)) := by rw [← hwB]; simp [go_sem]
  have r1 : wB.cell? ⟨w.heap.size, 1, none⟩ = some (.int .u64 (x.k.l : Int)) := by rw [← hwB]; simp [go_sem]
  have r2 : wB.cell? ⟨w.heap.size, 2, none⟩ = some (.int .i64 x.k.n) := by rw [← hwB]; simp [go_sem]
  have r3 : wB.cell? ⟨w.heap.size, 3, none⟩ = some (.int .i64 x.v) := by rw [← hwB]; simp [go_sem]
  have hzr : w.heap.size < wB.heap.size := by rw [← hwB]; simp
  have H := H.below hB
  have hz := H.lt
  have c0 := H.c0
  have c1 := H.c1
  have c2 := H.c2
  have c3 := H.c3
  have c4 := H.c4
  have c5 := H.c5
  have c6 := H.c6
  clear hwB
  have HH := Lib.hid H
  clear H
  go_cut [5, 6] (fun s5 s6 wx => Hid (PQ wB wx s5 s6 x.k k))
  case first =>
    go_region
    all_goals
      go_wp2_with fail
      go_meet
      exact ⟨_, _, rfl, rfl, by simp <;> omega, by simp <;> omega, by simp [go_sem], by simp [go_sem], by simp [go_sem], by simp [go_sem], by simp [go_sem], by simp [go_sem], by go_grown⟩
  case rest =>
    obtain ⟨b5, b6, rfl, rfl, z5, z6, d0, d1, d2, e0, e1, e2, hbC⟩ := hcut.out
    have HHC := Lib.hid (HH.out.below hbC)
    have hwC := hB.trans (hbC.mono hB.size)
    have hz := HHC.out.lt
    have c0 := HHC.out.c0
    have c1 := HHC.out.c1
    have c2 := HHC.out.c2
    have c3 := HHC.out.c3
    have c4 := HHC.out.c4
    have c5 := HHC.out.c5
    have c6 := HHC.out.c6
    have r0 := (hbC.cell (p := ⟨w.heap.size, 0, none⟩) hzr).trans r0
    have r1 := (hbC.cell (p := ⟨w.heap.size, 1, none⟩) hzr).trans r1
    have r2 := (hbC.cell (p := ⟨w.heap.size, 2, none⟩) hzr).trans r2
    have r3 := (hbC.cell (p := ⟨w.heap.size, 3, none⟩) hzr).trans r3
    have hzr := Nat.lt_of_lt_of_le hzr hbC.size
    clear hcut HH hB hbC
    go_wp2_with fail
    have kg := cell_grow
    refine region_whole (by kernel_rfl) (by kernel_rfl) ?_
    repeat (any_goals (first | go_big_quiet_step ((exact HC.out.at _ _ _)) | quiet_step ((exact HC.out.at _ _ _))))
    refine wpQuiet_nil ?_
    clear kg
    intro w6 hb6
    obtain ⟨hc6, hf6⟩ := bcell hb6
    have hw6 : Below w.heap.size w w6 := by
      refine Below.trans ?_ (hb6.mono ?_)
      · go_grown
      · first | omega | go_size
    have HH6 := Lib.hid (HHC.out.below hb6)
    have hw6 := hwC.trans (hb6.mono hwC.size)
    have d0 := (hc6 _ _ z5).trans d0
    have d1 := (hc6 _ _ z5).trans d1
    have d2 := (hc6 _ _ z5).trans d2
    have e0 := (hc6 _ _ z6).trans e0
    have e1 := (hc6 _ _ z6).trans e1
    have e2 := (hc6 _ _ z6).trans e2
    have r0 := (hc6 _ _ hzr).trans r0
    have r1 := (hc6 _ _ hzr).trans r1
    have r2 := (hc6 _ _ hzr).trans r2
    have r3 := (hc6 _ _ hzr).trans r3
    have z5 := Nat.lt_of_lt_of_le z5 hb6.size
    have z6 := Nat.lt_of_lt_of_le z6 hb6.size
    have hzr := Nat.lt_of_lt_of_le hzr hb6.size
    clear hb6 hc6 hf6 HHC hwC c0 c1 c2 c3 c4 c5 c6 hz
    go_wp2_with fail
    refine (HCUT.out _).mono ?_
    rintro e w7 ⟨rfl, hb7⟩
    have hw7 := hw6.trans (hb7.mono hw6.size)
    have hb67 := hb7
    have d0 := (hb7.cell (p := ⟨b5, 0, none⟩) z5).trans d0
    have e0 := (hb7.cell (p := ⟨b6, 0, none⟩) z6).trans e0
    have e1 := (hb7.cell (p := ⟨b6, 1, none⟩) z6).trans e1
    have e2 := (hb7.cell (p := ⟨b6, 2, none⟩) z6).trans e2
    have r0 := (hb7.cell (p := ⟨w.heap.size, 0, none⟩) hzr).trans r0
    have r1 := (hb7.cell (p := ⟨w.heap.size, 1, none⟩) hzr).trans r1
    have r2 := (hb7.cell (p := ⟨w.heap.size, 2, none⟩) hzr).trans r2
    have r3 := (hb7.cell (p := ⟨w.heap.size, 3, none⟩) hzr).trans r3
    have z6 := Nat.lt_of_lt_of_le z6 hb7.size
    have hzr := Nat.lt_of_lt_of_le hzr hb7.size
    clear d0 d1 d2 z5
    go_wp2_with fail
    generalize hwF : World.alloc w7 _ = wF
    have hbF : Below w7.heap.size w7 wF := by rw [← hwF]; go_grown
    obtain ⟨fk, hfk⟩ : ∃ fk, fk = forkP x k := ⟨_, rfl⟩
    rw [← hfk] at HF HFN HH2
    have HNF : Nc wF w7.heap.size fk 0 false none none := by
      rw [← hwF, HF.out]
      exact ⟨by simp, by simp [go_sem], by simp [go_sem], by simp [go_sem], by simp [go_sem], by simp [go_sem], by simp [go_sem], by simp [go_sem]⟩
    have hfn : 0 ≤ fk.n := by rw [HF.out]; exact Int.natCast_nonneg _
    have HHF := Lib.hid ((HH6.out.below hb7).below hbF)
    have hwF2 := hw7.trans (hbF.mono hw7.size)
    have e0 := (hbF.cell (p := ⟨b6, 0, none⟩) z6).trans e0
    have e1 := (hbF.cell (p := ⟨b6, 1, none⟩) z6).trans e1
    have e2 := (hbF.cell (p := ⟨b6, 2, none⟩) z6).trans e2
    have r0 := (hbF.cell (p := ⟨w.heap.size, 0, none⟩) hzr).trans r0
    have r1 := (hbF.cell (p := ⟨w.heap.size, 1, none⟩) hzr).trans r1
    have r2 := (hbF.cell (p := ⟨w.heap.size, 2, none⟩) hzr).trans r2
    have r3 := (hbF.cell (p := ⟨w.heap.size, 3, none⟩) hzr).trans r3
    have z6 := Nat.lt_of_lt_of_le z6 hbF.size
    have hzr := Nat.lt_of_lt_of_le hzr hbF.size
    have HNF2 := Lib.hid HNF
    have hz7 := hw7.size
    clear hwF hb67 HH6 hb7 HNF hfk
    have kg := cell_grow
    refine wp_region_noPanic ?_
    generalize hNQ : NoPanic _ = NQ
    refine region_row [0,2] [1,4] [3,5] [6] (by kernel_rfl) (by rw [← hNQ]; exact fun _ _ _ h => h) (by kernel_rfl) (by kernel_rfl) ?_
    simp only [pickL, List.filterMap_cons, List.filterMap_nil, List.getElem?_toArray, List.getElem?_cons_succ, List.getElem?_cons_zero]
    repeat (any_goals (quiet_step (fail)))
    refine wpQuiet_nil ?_
    clear kg
    intro w8 hb8
    intro K1 hK1 o ho
    injection ho with ho
    subst ho
    go_simp
    have hled := led_any w7.heap.size fk 0 false none none k (some ⟨g, 0, none⟩) w8 (HNF2.out.below hb8) kg hfn
    rw [HFN.out, HB.out] at hled
    refine hled.mono ?_
    rintro e w9 ⟨g', rfl, hg', hN, hb9⟩
    have hw8 := hwF2.trans (hb8.mono hwF2.size)
    have hw9 := hw8.trans (hb9.mono hw8.size)
    have hb89 := hb8.trans (hb9.mono hb8.size)
    have HT9 : NdAt w9 K (.node k v on l r) (some ⟨g, 0, none⟩) := ⟨g, ql, qr, rfl, hg, HHF.out.below hb89, HL.out.below hw9, HR.out.below hw9⟩
    refine hK1 _ _ hb89 ?_
    clear hK1 K1
    intro K1 hK1 o ho
    injection ho with ho
    subst ho
    go_simp
    refine (HH2.out K (some ⟨g', 0, none⟩) w9 (fun g hg => hK g (Nat.le_trans hw9.size hg)) ⟨g', _, _, rfl, hK _ (Nat.le_trans hw8.size hg'), hN, ?_, ?_⟩).mono ?_
    · cases b
      · exact HT9
      · exact rfl
    · cases b
      · exact rfl
      · exact HT9
    rintro e w10 ⟨q', rfl, hT, hb10⟩
    refine hK1 _ _ (hb89.trans (hb10.mono hb89.size)) ?_
    clear hK1 K1
    show wpList _ _ _ _ _ _
    simp only [pickL, List.filterMap_cons, List.filterMap_nil, List.getElem?_toArray, List.getElem?_cons_succ, List.getElem?_cons_zero]
    go_wp2_with fail
    rw [← hNQ]
    refine NoPanic.normal ?_
    clear hNQ
    go_wp2
    go_ret
    exact ⟨_, rfl, hT, hw9.trans (hb10.mono hw9.size)⟩
/-- What with does. -/
theorem twith_any {x : Rt} (xg : x.k.good) (xr : rightK x.k) : ∀ {T : Pt}, T.ok → WithOk x T (withP T x)
  | .nil, _ => with_nil x
  | .node k v on l r, ho => by
    have kg := ho.1
    have kr := ho.2.1
    have il := twith_any xg xr ho.2.2.2.2.1
    have ir := twith_any xg xr ho.2.2.2.2.2
    unfold withP
    split
    · rename_i e
      exact with_same x k e v on l r
    · rename_i e
      split
      · rename_i hc
        split
        · rename_i hb
          exact with_down x k v on l r _ xg xr kg kr e hc true hb ir
        · rename_i hb
          exact with_down x k v on l r _ xg xr kg kr e hc false (by simpa using hb) il
      · rename_i hc
        have fg := fork_good xg k
        have fr := fork_right xr k
        have fn := fork_n x k
        split
        · rename_i e2
          split
          · rename_i hb
            exact with_fork x k v on l r _ xg xr kg kr e hc true hb (with_same x _ e2 0 false _ _)
          · rename_i hb
            exact with_fork x k v on l r _ xg xr kg kr e hc false (by simpa using hb) (with_same x _ e2 0 false _ _)
        · rename_i e2
          have hcom : comK x.k (forkP x k) = (forkP x k).n.toNat := com_of_pre xg fg xr (kid_pre (fork_new xg xr e2))
          have hs := fork_side xg xr kg hc e2
          split
          · rename_i hb
            exact with_fork x k v on l r _ xg xr kg kr e hc true hb (with_down x _ 0 false _ _ _ xg xr fg fr e2 hcom false (by rw [fn, hs, hb]; rfl) (with_nil x))
          · rename_i hb
            have hb : bitK k (comK x.k k) = false := by simpa using hb
            exact with_fork x k v on l r _ xg xr kg kr e hc false hb (with_down x _ 0 false _ _ _ xg xr fg fr e2 hcom true (by rw [fn, hs, hb]; rfl) (with_nil x))
end Go.Proofs.Ytokjhoiacidofaa
