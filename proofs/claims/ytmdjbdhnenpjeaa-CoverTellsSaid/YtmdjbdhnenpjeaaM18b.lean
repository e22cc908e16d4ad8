/-
  Plain mathematics of what a level holds, continued: an address has a key of a level just if it has a route of its lengths, and then with the hop of the longest. No condition but those that stand in each.
-/
import Derived.Test.YtmdjbdhnenpjeaaReg4
import Derived.Test.YtmdjbdhnenpjeaaReg8
import Derived.Test.YtmdjbdhnenpjeaaM18
/-
  CoverTells as a walk: it hands back true, for every input, if the program's Hop and Set hand back what they should. No condition besides.
-/
set_option linter.unusedSimpArgs false
set_option linter.unusedVariables false
namespace Go.Proofs.Ytmdjbdhnenpjeaa
open Go Go.RowKit Go.Sort M

/-- What each operation of the statement that asks the program's Hop hands back. -/
def ctD (L : List Rt) (hv : Int) (hs : Bool) (i : Nat) (v : Value) (W : World) : Prop :=
  match i with
  | 1 => ∃ p' c', v = .slice p' L.length c' ∧ Row W p' (rcs L) ∧ (p' = none → c' = 0) ∧ L.length ≤ c'
  | 4 => v = .tuple #[.int .i64 hv, .bool hs]
  | 5 => v = .tuple #[.int .i64 hv, .bool hs]
  | 6 => v = .int .i64 hv
  | 7 => v = .bool hs
  | 8 => v = .int .i64 hv
  | 9 => v = .bool hs
  | _ => True
theorem ctD_stable (L : List Rt) (hv : Int) (hs : Bool) : ∀ i v W W', Below W.heap.size W W' → ctD L hv hs i v W → ctD L hv hs i v W'
  | 1, _, _, _, hb, ⟨p, c, e, h1, h2⟩ => ⟨p, c, e, h1.below hb, h2⟩
  | 4, _, _, _, _, h => h
  | 5, _, _, _, _, h => h
  | 6, _, _, _, _, h => h
  | 7, _, _, _, _, h => h
  | 8, _, _, _, _, h => h
  | 9, _, _, _, _, h => h
  | 0, _, _, _, _, _ | 2, _, _, _, _, _ | 3, _, _, _, _, _ => trivial
  | _ + 10, _, _, _, _, _ => trivial
set_option maxHeartbeats 2000000 in
set_option maxRecDepth 100000 in
theorem ctell_walk (HH : HopC) (HSC : SetC) (q : Option Addr) (c : Nat) (L : List Rt) (kh kl : Nat) (kn low high : Int) (w : World) (hR : Row w q (rcs L)) (hg : ∀ x ∈ L, x.k.good) (ha : W64 kh) (hb : W64 kl) (hL : L.length ≤ maxLen) :
    Calls Try.prog 3 #[.slice q L.length c, .agg #[.int .u64 (kh : Int), .int .u64 (kl : Int), .int .i64 kn], .int .i64 low, .int .i64 high] w fun e w' => e = .returned (.bool true) ∧ Below w.heap.size w w' := by
  have HA := Lib.hid (fun w => alive18_any HSC w)
  unfold maxLen at hL
  by_cases g1 : L.length ≤ 40
  · have hkg : (⟨kh, kl, kn⟩ : Ky).good := ⟨ha, hb⟩
    have hR0 : Hid (∀ W, Below w.heap.size w W → Row W q (rcs L)) := Lib.hid fun W h => hR.below h
    obtain ⟨hv, hhv⟩ : ∃ hv, hv = hopV (sortR L) low ⟨kh, kl, kn⟩ := ⟨_, rfl⟩
    obtain ⟨hs, hhs⟩ : ∃ hs, hs = (hopK (sortR L) low ⟨kh, kl, kn⟩).isSome := ⟨_, rfl⟩
    have h1 := fun W p c h1 h2 h3 => HH p c L ⟨kh, kl, kn⟩ low W h1 hg hkg h2 h3 (by omega)
    have h2 := fun W (h : Below w.heap.size w W) => rhop18_any q c L ⟨kh, kl, kn⟩ low W (hR.below h) hg hkg (by omega)
    unfold hopA kyA at h1 h2
    rw [← hhv, ← hhs] at h1 h2
    have h3 := fun W p c h1 h2 h3 => HSC p c L low high W h1 hg h2 h3 (by omega)
    have h4 := fun W (h : Below w.heap.size w W) => rset18_any q c L low high W (hR.below h) hg (by omega)
    have hsl : (setS (sortR L) low high).length < 1048576 := by
      have hls := sortR_len L
      unfold setS
      split
      · have e1 := fS_len (sortR L) low (keysS (sortR L) low high)
        have e2 := keysS_len (sortR L) low high (fun r hr => hg r (sortR_sub hr)) (sortR L).length (Nat.le_refl _)
        rw [List.take_length] at e2
        unfold fS at e1
        omega
      · simp
    obtain ⟨S, hS⟩ : ∃ S, S = setS (sortR L) low high := ⟨_, rfl⟩
    rw [← hS] at h3 h4 hsl
    have h5 := fun W p d q d' (h1 : Row W p (rcs S)) (h2 : Row W q (rcs S)) => sameR_any p q d d' S S W h1 h2 hsl hsl
    have H1 : Hid (∀ W (p : Option Addr) c, Row W p (rcs L) → (p = none → c = 0) → L.length ≤ c → Calls Try.prog 6 #[.slice p L.length c, .agg #[.int .u64 (kh : Int), .int .u64 (kl : Int), .int .i64 kn], .int .i64 low] W fun e w' => e = .returned (.tuple #[.int .i64 hv, .bool hs]) ∧ Below W.heap.size W w') := Lib.hid h1
    have H2 : Hid (∀ W, Below w.heap.size w W → Calls Try.prog 7 #[.slice q L.length c, .agg #[.int .u64 (kh : Int), .int .u64 (kl : Int), .int .i64 kn], .int .i64 low] W fun e w' => e = .returned (.tuple #[.int .i64 hv, .bool hs]) ∧ Below W.heap.size W w') := Lib.hid h2
    have H3 := Lib.hid h3
    have H4 := Lib.hid h4
    have H5 : Hid (∀ W (p : Option Addr) d (q : Option Addr) d', Row W p (rcs S) → Row W q (rcs S) → Calls Try.prog 8 #[.slice p S.length d, .slice q S.length d'] W fun e w' => e = .returned (.bool true) ∧ Below W.heap.size W w') := Lib.hid fun W p d q d' e1 e2 => by
      have := h5 W p d q d' e1 e2
      rwa [decide_eq_true rfl] at this
    clear h1 h2 h3 h4 h5 hhv hhs hS hR hg ha hb hkg hsl
    go_enter Try.func3, Try.ntmps3
    go_wp2_with fail
    refine (HA.out _).mono ?_
    rintro e w0 ⟨rfl, hb0⟩
    have b0 : w0.cell? ⟨w.heap.size, 0, none⟩ = some (.int .u64 (kh : Int)) := by
      rw [hb0.cell (by simp <;> omega)]
      first | assumption | (simp [go_sem]; done) | (simp [go_sem, *]; done)
    have b1 : w0.cell? ⟨w.heap.size, 1, none⟩ = some (.int .u64 (kl : Int)) := by
      rw [hb0.cell (by simp <;> omega)]
      first | assumption | (simp [go_sem]; done) | (simp [go_sem, *]; done)
    have b2 : w0.cell? ⟨w.heap.size, 2, none⟩ = some (.int .i64 kn) := by
      rw [hb0.cell (by simp <;> omega)]
      first | assumption | (simp [go_sem]; done) | (simp [go_sem, *]; done)
    have hw0 : Below w.heap.size w w0 := Below.trans (by go_grown) (hb0.mono (by simp))
    have hz0 : w.heap.size < w0.heap.size := by have := hb0.size; simp at this; omega
    clear hb0
    go_wp2_with fail
    have kg := cell_grow
    refine wp_region_noPanic ?_
    generalize hNQ : NoPanic _ = NQ
    refine region_eff [0, 3] [2] [(1, 25, []), (4, 28, [(1, 25)]), (5, 23, [(4, 28)]), (6, 29, [(5, 23)]), (7, 30, [(5, 23)]), (8, 10, [(6, 29)]), (9, 11, [(7, 30)])] [] (ctD L hv hs) (ctD_stable _ _ _) (by kernel_rfl) (by rw [← hNQ]; exact fun _ _ _ h => h) (by kernel_rfl) (by kernel_rfl) (by kernel_rfl) ?_
    simp only [pickL, List.filterMap_cons, List.filterMap_nil, List.getElem?_toArray, List.getElem?_cons_succ, List.getElem?_cons_zero]
    repeat (any_goals (quiet_step (fail)))
    refine wpQuiet_nil ?_
    clear kg
    refine ⟨by rfl, ⟨?_, ?_, ?_, ?_, ?_, ?_, ?_, trivial⟩, ?_⟩
    · skip
      intro W hW K hK o ho
      injection ho with ho
      subst ho
      refine eff_on rfl ?_
      refine wp_append_arg18 _ rfl L q c rfl (hR0.out W (hw0.trans (hW.mono hw0.size))) (by omega) ?_
      intro p' c' w' hb' hr hn hc
      exact hK _ _ hb' ⟨p', c', rfl, hr, hn, hc⟩
    · skip
      intro W hW v1 h1 K hK o ho
      injection ho with ho
      subst ho
      obtain ⟨p', c', rfl, hr, hn, hc⟩ := h1
      go_simp
      go_at_call 6
      refine (H1.out _ _ _ hr hn hc).mono ?_
      rintro e w3 ⟨rfl, hb3⟩
      exact hK _ _ hb3 rfl
    · skip
      intro W hW v1 h1 K hK o ho
      injection ho with ho
      subst ho
      obtain rfl : v1 = _ := h1
      go_simp
      exact hK _ _ (Below.refl _ _) rfl
    · skip
      intro W hW v1 h1 K hK o ho
      injection ho with ho
      subst ho
      obtain rfl : v1 = _ := h1
      go_simp
      exact hK _ _ (Below.refl _ _) rfl
    · skip
      intro W hW v1 h1 K hK o ho
      injection ho with ho
      subst ho
      obtain rfl : v1 = _ := h1
      go_simp
      exact hK _ _ (Below.refl _ _) rfl
    · skip
      intro W hW v1 h1 K hK o ho
      injection ho with ho
      subst ho
      obtain rfl : v1 = _ := h1
      go_simp
      exact hK _ _ (Below.refl _ _) rfl
    · skip
      intro W hW v1 h1 K hK o ho
      injection ho with ho
      subst ho
      obtain rfl : v1 = _ := h1
      go_simp
      exact hK _ _ (Below.refl _ _) rfl
    · intro W hW v1 h1 v4 h4 v5 h5 v6 h6 v7 h7 v8 h8 v9 h9
      obtain rfl : v4 = _ := h4
      obtain rfl : v5 = _ := h5
      obtain rfl : v6 = _ := h6
      obtain rfl : v7 = _ := h7
      obtain rfl : v8 = _ := h8
      obtain rfl : v9 = _ := h9
      obtain ⟨p1, c1, rfl, -⟩ := h1
      have b0 := (hW.cell (p := ⟨w.heap.size, 0, none⟩) hz0).trans b0
      have b1 := (hW.cell (p := ⟨w.heap.size, 1, none⟩) hz0).trans b1
      have b2 := (hW.cell (p := ⟨w.heap.size, 2, none⟩) hz0).trans b2
      have hwW := hw0.trans (hW.mono hw0.size)
      show wpList _ _ _ _ _ _
      simp only [pickL, List.filterMap_nil]
      subst hNQ
      clear hW
      go_wp2_with fail
      refine NoPanic.normal ?_
      go_wp2_with fail
      refine (H2.out _ hwW).mono ?_
      rintro e w5 ⟨rfl, hb5⟩
      have hw5 := hwW.trans (hb5.mono hwW.size)
      clear hb5 b0 b1 b2
      go_wp2_with (at_builtin; go_loud (refine wpList_append_arg18 rfl (.tmp 38) rfl L q c rfl (hR0.out _ hw5) (by omega) ?_))
      intro p6 c6 w6 hb6 hr6 hn6 hc6
      have hw6 := hw5.trans (hb6.mono hw5.size)
      go_wp2_with fail
      refine (H3.out _ _ _ hr6 hn6 hc6).mono ?_
      rintro e w7 ⟨p7, c7, rfl, ho7, hb7⟩
      have hr7 := Row.of_own ho7
      have hw7 := hw6.trans (hb7.mono hw6.size)
      clear ho7 hr6 hb6 hb7
      go_wp2_with fail
      refine (H4.out _ hw7).mono ?_
      rintro e w8 ⟨p8, c8, rfl, ho8, hb8⟩
      have hr8 := Row.of_own ho8
      have hr7 := hr7.below hb8
      have hw8 := hw7.trans (hb8.mono hw7.size)
      clear ho8 hb8
      go_wp2_with fail
      refine (H5.out _ _ _ _ _ hr7 hr8).mono ?_
      rintro e w9 ⟨rfl, hb9⟩
      have hw9 := hw8.trans (hb9.mono hw8.size)
      clear hr7 hr8
      go_wp2
      go_ret
      exact ⟨ret_bool (by simp), hw9⟩
  · clear hR hg
    go_enter Try.func3, Try.ntmps3
    go_wp2_with fail
    refine (HA.out _).mono ?_
    rintro e w0 ⟨rfl, hb0⟩
    have hw0 : Below w.heap.size w w0 := Below.trans (by go_grown) (hb0.mono (by simp))
    go_wp2
    go_ret
    exact ⟨rfl, hw0⟩
end Go.Proofs.Ytmdjbdhnenpjeaa
/-
  Plain mathematics of what a level holds, continued: an address has a key of a level just if it has a route of its lengths, and then with the hop of the longest. No condition but those that stand in each.
-/
set_option linter.unusedSimpArgs false
set_option linter.unusedVariables false
namespace Go.Proofs.Ytmdjbdhnenpjeaa
open M

theorem has_cut_any (r : Rt) (ah al hn : Nat) (h : r.k.n ≤ (hn : Int)) : hasB r.k.h r.k.l r.k.n (cutW ah hn) (cutW al (hn - 64)) = hasB r.k.h r.k.l r.k.n ah al := by
  unfold hasB
  rw [cutW_cutW, cutW_cutW]
  by_cases h0 : 0 ≤ r.k.n
  · rw [show min hn r.k.n.toNat = r.k.n.toNat by omega, show min (hn - 64) (r.k.n.toNat - 64) = r.k.n.toNat - 64 by omega]
  · have : rightB r.k.h r.k.l r.k.n = false := by
      unfold rightB
      exact decide_eq_false (by omega)
    rw [this]
    rfl
theorem cand_cut (ah al hn : Nat) (low : Int) : candB (cutK ah al hn).h (cutK ah al hn).l low (cutK ah al hn).n = candB ah al low (hn : Int) := by
  funext r
  unfold candB cutK
  simp only
  by_cases h : r.k.n ≤ (hn : Int)
  · rw [has_cut_any r ah al hn h]
  · rw [decide_eq_false h]
    simp
theorem lng_is {N : List Rt} {c : Rt → Bool} : (lngI N c N.length).isSome = true ↔ ∃ r ∈ N, c r = true := by
  have h := lng_ok N c N.length (Nat.le_refl _)
  cases e : lngI N c N.length with
  | none =>
    rw [e] at h
    refine ⟨fun h => (by cases h), fun ⟨r, hr, hc⟩ => ?_⟩
    obtain ⟨i, hi, rfl⟩ := List.getElem_of_mem hr
    rw [h i hi hi] at hc
    cases hc
  | some b =>
    rw [e] at h
    obtain ⟨hb, -, hc, -⟩ := h
    exact ⟨fun _ => ⟨N[b], List.getElem_mem hb, hc⟩, fun _ => rfl⟩
theorem key_level {N : List Rt} (hg : ∀ r ∈ N, W64 r.k.h ∧ W64 r.k.l) {ah al hn : Nat} {low : Int} (ha : W64 ah) (hb : W64 al) (h1 : hn ≤ 128) (h8 : (hn : Int) - low ≤ 8) : cutK ah al hn ∈ keysS N low (hn : Int) ↔ ∃ r ∈ N, candB ah al low (hn : Int) r = true := by
  unfold keysS
  simp only [List.mem_flatMap, List.mem_filter]
  refine exists_congr fun r => ?_
  constructor
  · rintro ⟨⟨hr, hi⟩, hk⟩
    refine ⟨hr, ?_⟩
    unfold insB at hi
    simp only [Bool.and_eq_true, decide_eq_true_eq] at hi
    have h := ((mem_spr (hg r hr).1 (hg r hr).2 _ _).1 hk).2.2.2.2.2.2.2
    unfold cutK at h
    simp only at h
    rw [has_cut_any r ah al hn hi.2] at h
    unfold candB
    simp [hi.1, hi.2, h]
  · rintro ⟨hr, hc⟩
    unfold candB at hc
    simp only [Bool.and_eq_true, decide_eq_true_eq] at hc
    obtain ⟨c1, c2, c3⟩ := hc
    refine ⟨⟨hr, by unfold insB; simp [c1, c2]⟩, (mem_spr (hg r hr).1 (hg r hr).2 _ _).2 ⟨c2, by omega, by omega, rfl, ha.cut _, hb.cut _, ?_, ?_⟩⟩
    · have := right_cut ah al (hn : Int) (by omega) (by omega)
      simpa [cutK] using this
    · show hasB _ _ _ (cutW ah hn) (cutW al (hn - 64)) = true
      rw [has_cut_any r ah al hn c2]
      exact c3
theorem find_some18 {l : List Rt} {k : Ky} {i : Nat} (h : findS l k = some i) : ∃ hi : i < l.length, l[i].k = k := by
  unfold findS at h
  obtain ⟨hi, h2, -⟩ := List.findIdx?_eq_some_iff_getElem.1 h
  exact ⟨hi, of_decide_eq_true h2⟩
theorem find_is18 {l : List Rt} {k : Ky} : (findS l k).isSome = true ↔ k ∈ keysR l := by
  unfold findS keysR
  rw [List.findIdx?_isSome, List.any_eq_true, List.mem_map]
  simp only [decide_eq_true_eq]
/-- AN ADDRESS HAS A KEY OF A LEVEL JUST IF IT HAS A ROUTE THERE. -/
theorem cover_is {N : List Rt} (hg : ∀ r ∈ N, W64 r.k.h ∧ W64 r.k.l) {ah al hn : Nat} {low : Int} (ha : W64 ah) (hb : W64 al) (h1 : hn ≤ 128) (hl : low < (hn : Int)) (h8 : (hn : Int) - low ≤ 8) :
    (findS (setS N low (hn : Int)) (cutK ah al hn)).isSome = (lngI N (candB ah al low (hn : Int)) N.length).isSome := by
  rw [Bool.eq_iff_iff, find_is18, lng_is, ← key_level hg ha hb h1 h8]
  unfold keysR
  rw [List.mem_map]
  constructor
  · rintro ⟨q, hq, e⟩
    rw [← e]
    exact ((mem_setS _ _ _ _).1 hq).2.1
  · intro h
    exact ⟨⟨cutK ah al hn, hopV N low (cutK ah al hn)⟩, (mem_setS _ _ _ _).2 ⟨hl, h, rfl⟩, rfl⟩
/-- .. AND THEN WITH THE HOP OF THE LONGEST. -/
theorem cover_hop {N : List Rt} {ah al hn : Nat} {low : Int} {i b : Nat} (hi : findS (setS N low (hn : Int)) (cutK ah al hn) = some i) (hb : lngI N (candB ah al low (hn : Int)) N.length = some b) :
    ((setS N low (hn : Int)).getD i ⟨⟨0, 0, 0⟩, 0⟩).v = (N.getD b ⟨⟨0, 0, 0⟩, 0⟩).v := by
  obtain ⟨hil, hik⟩ := find_some18 hi
  have h := ((mem_setS N low (hn : Int) _).1 (List.getElem_mem hil)).2.2
  rw [hik] at h
  rw [getD_at hil, h]
  unfold hopV hopK
  rw [cand_cut, hb]
  rfl
end Go.Proofs.Ytmdjbdhnenpjeaa
