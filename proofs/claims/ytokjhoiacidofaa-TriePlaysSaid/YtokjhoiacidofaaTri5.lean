/-
  What without does: the route of a key taken out of a trie that has one. No condition but that the trie lies in memory and its keys are such as tries have.
-/
import Derived.Test.YtokjhoiacidofaaReg6
set_option linter.unusedSimpArgs false
set_option linter.unusedVariables false
namespace Go.Proofs.Ytokjhoiacidofaa
open Go.RowKit Go.Sort M


set_option maxRecDepth 100000 in
/-- Without, whatever trie that has the key. -/
theorem twithout_any {p : Ky} (pg : p.good) : ∀ {T : Pt}, T.ok → (∃ x, T.mem x ∧ x.k = p) → ∀ (K : Nat → Prop) (q : Option Addr) (w : World), (∀ g, w.heap.size ≤ g → K g) → NdAt w K T q →
    Calls Try.prog 22 #[.pointer q, kyV p] w fun e w' => ∃ q', e = .returned (.pointer q') ∧ NdAt w' K (withoutP T p) q' ∧ Below w.heap.size w w'
  | .nil, _, ⟨_, h, _⟩, _, _, _, _, _ => h.elim
  | .node k v on l r, ho, hm, K, q, w, hK, h => by
    obtain ⟨g, ql, qr, rfl, hg, H, hl, hr⟩ := h
    have h0 := (rightK_le ho.2.1).1
    unfold withoutP
    by_cases e : k = p
    · rw [if_pos e]
      clear ho hm h0
      have hD : decide (k.h = p.h ∧ k.l = p.l ∧ k.n = p.n) = true := decide_eq_true ((ky_eq _ _).2 e)
      have hE := eqlK k.h k.l k.n p.h p.l p.n
      rw [hD] at hE
      clear hD
      have hz := H.lt
      have c0 := H.c0
      have c1 := H.c1
      have c2 := H.c2
      have c5 := H.c5
      have c6 := H.c6
      have HH := Lib.hid H
      have HL := Lib.hid hl
      have HR := Lib.hid hr
      clear H hl hr
      unfold kyV
      go_enter Try.func22, Try.ntmps22
      go_wp2_with fail
      have kg := cell_grow
      refine region_whole (by kernel_rfl) (by kernel_rfl) ?_
      repeat (any_goals (first | go_big_quiet_step (fail) | quiet_step (fail)))
      refine wpQuiet_nil ?_
      clear kg
      intro w1 hb1
      obtain ⟨hc1, hf1⟩ := bcell hb1
      have hw1 : Below w.heap.size w w1 := by
        refine Below.trans ?_ (hb1.mono ?_)
        · go_grown
        · first | omega | go_size
      have p0 : w1.cell? ⟨w.heap.size, 0, none⟩ = some (.int .u64 (p.h : Int)) := by rw [hc1 _ _ (by simp)]; simp [go_sem]
      have p1 : w1.cell? ⟨w.heap.size, 1, none⟩ = some (.int .u64 (p.l : Int)) := by rw [hc1 _ _ (by simp)]; simp [go_sem]
      have p2 : w1.cell? ⟨w.heap.size, 2, none⟩ = some (.int .i64 p.n) := by rw [hc1 _ _ (by simp)]; simp [go_sem]
      have hzp : w.heap.size < w1.heap.size := Nat.lt_of_lt_of_le (by simp) hb1.size
      have HH1 := Lib.hid (HH.out.below hw1)
      have hz := HH1.out.lt
      have c0 := HH1.out.c0
      have c1 := HH1.out.c1
      have c2 := HH1.out.c2
      have c5 := HH1.out.c5
      have c6 := HH1.out.c6
      clear hb1 hc1 hf1 HH
      clear e
      go_wp2_with fail
      have kg := cell_grow
      refine region_tail 7 (by kernel_rfl) (by kernel_rfl) ?_
      simp only [List.take_succ_cons, List.take_zero, List.drop_succ_cons, List.drop_zero]
      repeat (any_goals (first | go_big_quiet_step (fail) | quiet_step (fail)))
      refine wpQuiet_nil ?_
      clear kg
      intro w2 hb2
      obtain ⟨hc2, hf2⟩ := bcell hb2
      have hw2 := hw1.trans (hb2.mono hw1.size)
      go_wp2_with fail
      generalize hwF : World.alloc w2 _ = wF
      have hbF : Below w2.heap.size w2 wF := by rw [← hwF]; go_grown
      have hwF2 := hw2.trans (hbF.mono hw2.size)
      have HNF : Nc wF w2.heap.size p 0 false ql qr := by
        rw [← hwF]
        exact ⟨by simp, by simp [go_sem], by simp [go_sem], by simp [go_sem], by simp [go_sem], by simp [go_sem], by simp [go_sem], by simp [go_sem]⟩
      clear hwF
      refine (joined_any w2.heap.size p 0 false ql qr l r wF (hK _ hw2.size) HNF (HL.out.below hwF2) (HR.out.below hwF2)).mono ?_
      rintro e w3 ⟨q', rfl, hT, hb3⟩
      go_wp2
      go_ret
      exact ⟨_, rfl, hT, hwF2.trans (hb3.mono hwF2.size)⟩
    · rw [if_neg e]
      have main : ∀ (b : Bool) (T' : Pt), bitK p k.n.toNat = b → (∀ (K : Nat → Prop) (q : Option Addr) (w : World), (∀ g, w.heap.size ≤ g → K g) → NdAt w K (cond b r l) q →
          Calls Try.prog 22 #[.pointer q, kyV p] w fun e w' => ∃ q', e = .returned (.pointer q') ∧ NdAt w' K T' q' ∧ Below w.heap.size w w') →
          Calls Try.prog 22 #[.pointer (some ⟨g, 0, none⟩), kyV p] w fun e w' => ∃ q', e = .returned (.pointer q') ∧ NdAt w' K (joinP (.node k v on (cond b l T') (cond b T' r))) q' ∧ Below w.heap.size w w' := by
        intro b T' hb hrec
        have HREC := Lib.hid hrec
        have HB := Lib.hid hb
        clear hrec hb ho hm
        have hD : decide (k.h = p.h ∧ k.l = p.l ∧ k.n = p.n) = false := decide_eq_false (fun h => e ((ky_eq _ _).1 h))
        have hE := eqlK k.h k.l k.n p.h p.l p.n
        rw [hD] at hE
        clear hD
        have hz := H.lt
        have c0 := H.c0
        have c1 := H.c1
        have c2 := H.c2
        have c5 := H.c5
        have c6 := H.c6
        have HH := Lib.hid H
        have HL := Lib.hid hl
        have HR := Lib.hid hr
        clear H hl hr
        unfold kyV
        go_enter Try.func22, Try.ntmps22
        go_wp2_with fail
        have kg := cell_grow
        refine region_whole (by kernel_rfl) (by kernel_rfl) ?_
        repeat (any_goals (first | go_big_quiet_step (fail) | quiet_step (fail)))
        refine wpQuiet_nil ?_
        clear kg
        intro w1 hb1
        obtain ⟨hc1, hf1⟩ := bcell hb1
        have hw1 : Below w.heap.size w w1 := by
          refine Below.trans ?_ (hb1.mono ?_)
          · go_grown
          · first | omega | go_size
        have p0 : w1.cell? ⟨w.heap.size, 0, none⟩ = some (.int .u64 (p.h : Int)) := by rw [hc1 _ _ (by simp)]; simp [go_sem]
        have p1 : w1.cell? ⟨w.heap.size, 1, none⟩ = some (.int .u64 (p.l : Int)) := by rw [hc1 _ _ (by simp)]; simp [go_sem]
        have p2 : w1.cell? ⟨w.heap.size, 2, none⟩ = some (.int .i64 p.n) := by rw [hc1 _ _ (by simp)]; simp [go_sem]
        have hzp : w.heap.size < w1.heap.size := Nat.lt_of_lt_of_le (by simp) hb1.size
        have HH1 := Lib.hid (HH.out.below hw1)
        have hz := HH1.out.lt
        have c0 := HH1.out.c0
        have c1 := HH1.out.c1
        have c2 := HH1.out.c2
        have c5 := HH1.out.c5
        have c6 := HH1.out.c6
        clear hb1 hc1 hf1 HH
        clear e
        go_wp2_with fail
        have kg := cell_grow
        refine wp_region_noPanic ?_
        generalize hNQ : NoPanic _ = NQ
        refine region_row [0,2] [1,3,5] [4,6,7,8] [9] (by kernel_rfl) (by rw [← hNQ]; exact fun _ _ _ h => h) (by kernel_rfl) (by kernel_rfl) ?_
        simp only [pickL, List.filterMap_cons, List.filterMap_nil, List.getElem?_toArray, List.getElem?_cons_succ, List.getElem?_cons_zero]
        repeat (any_goals (quiet_step (fail)))
        refine wpQuiet_nil ?_
        clear kg
        intro w7 hb7
        have hw7 := hw1.trans (hb7.mono hw1.size)
        have HH7 := Lib.hid (HH1.out.below hb7)
        have ht := toward_any g k v on ql qr p w7 HH7.out pg h0
        rw [HB.out] at ht
        intro K1 hK1 o ho
        injection ho with ho
        subst ho
        go_simp
        refine ht.mono ?_
        rintro e w8 ⟨rfl, hb8⟩
        have hw8 := hw7.trans (hb8.mono hw7.size)
        have HH8 := Lib.hid (HH7.out.below hb8)
        have hkid : NdAt w8 K (cond b r l) (cond b qr ql) := by
          cases b
          · exact HL.out.below hw8
          · exact HR.out.below hw8
        refine hK1 _ _ (hb7.trans (hb8.mono hb7.size)) ?_
        clear hK1 K1
        intro K1 hK1 o ho
        injection ho with ho
        subst ho
        go_simp
        refine (HREC.out K _ w8 (fun g hg => hK g (Nat.le_trans hw8.size hg)) hkid).mono ?_
        rintro e w9 ⟨q', rfl, hT, hb9⟩
        have hw9 := hw8.trans (hb9.mono hw8.size)
        have HH9 := Lib.hid (HH8.out.below hb9)
        have hb79 := (hb7.trans (hb8.mono hb7.size)).trans (hb9.mono (Nat.le_trans hb7.size hb8.size))
        refine hK1 _ _ hb79 ?_
        clear hK1 K1
        intro K1 hK1 o ho
        injection ho with ho
        subst ho
        go_simp
        refine (led_any g k v on ql qr p q' w9 HH9.out pg h0).mono ?_
        rintro e w10 ⟨g', rfl, hg', hN, hb10⟩
        have hw10 := hw9.trans (hb10.mono hw9.size)
        have hb710 := hb79.trans (hb10.mono hb79.size)
        rw [HB.out] at hN
        refine hK1 _ _ hb710 ?_
        clear hK1 K1
        have hkl : NdAt w10 K (cond b l T') (cond b ql q') := by
          cases b
          · exact hT.below hb10
          · exact HL.out.below hw10
        have hkr : NdAt w10 K (cond b T' r) (cond b q' qr) := by
          cases b
          · exact HR.out.below hw10
          · exact hT.below hb10
        intro K1 hK1 o ho
        injection ho with ho
        subst ho
        go_simp
        refine (joined_any g' k v on _ _ _ _ w10 (hK _ (Nat.le_trans hw9.size hg')) hN hkl hkr).mono ?_
        rintro e w11 ⟨q2, rfl, hT2, hb11⟩
        refine hK1 _ _ (hb710.trans (hb11.mono hb710.size)) ?_
        clear hK1 K1
        show wpList _ _ _ _ _ _
        simp only [pickL, List.filterMap_cons, List.filterMap_nil, List.getElem?_toArray, List.getElem?_cons_succ, List.getElem?_cons_zero]
        go_wp2_with fail
        rw [← hNQ]
        refine NoPanic.normal ?_
        clear hNQ
        go_wp2
        go_ret
        exact ⟨_, rfl, hT2, hw10.trans (hb11.mono hw10.size)⟩
      obtain ⟨kg, kr, hal, har, lo, ro⟩ := ho
      obtain ⟨x, hx, hxp⟩ := hm
      have hself : ¬ (on = true ∧ x = ⟨k, v⟩) := fun hh => e (by rw [← hxp, hh.2])
      split
      · rename_i hb
        have hxr : r.mem x := by
          rcases hx with h | h | h
          · exact absurd h hself
          · have := (kid_bit (Pt.all_mem hal h)).1
            rw [hxp, hb] at this
            cases this
          · exact h
        exact main true _ hb (fun K q w hK h => twithout_any pg ro ⟨x, hxr, hxp⟩ K q w hK h)
      · rename_i hb
        have hb : bitK p k.n.toNat = false := by simpa using hb
        have hxl : l.mem x := by
          rcases hx with h | h | h
          · exact absurd h hself
          · exact h
          · have := (kid_bit (Pt.all_mem har h)).1
            rw [hxp, hb] at this
            cases this
        exact main false _ hb (fun K q w hK h => twithout_any pg lo ⟨x, hxl, hxp⟩ K q w hK h)
end Go.Proofs.Ytokjhoiacidofaa
