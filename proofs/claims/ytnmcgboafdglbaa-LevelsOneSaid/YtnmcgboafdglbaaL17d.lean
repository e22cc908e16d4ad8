/-
  LevelsOne as a walk: it hands back true, for every input. No condition.
-/
import Derived.Test.YtnmcgboafdglbaaL17e
import Derived.Test.YtnmcgboafdglbaaRow
set_option linter.unusedSimpArgs false
set_option linter.unusedVariables false
namespace Go.Proofs.Ytnmcgboafdglbaa
open Go Go.RowKit Go.Sort M

theorem okC_last {st b : Nat} : ∀ (L : List Nat) (a : Nat), okC st b a L = true → a < b → b ∈ L
  | [], a, h, hl => by rw [okC_nil] at h; omega
  | c :: L, a, h, hl => by
    rw [okC_cons] at h
    by_cases e : c = b
    · subst e; exact List.mem_cons_self
    · have := okC_le L c h.2.2
      exact List.mem_cons_of_mem _ (okC_last L c h.2.2 (by omega))
/-- Where one length alone counts, and there is room for it, it is a level. -/
theorem chosen_one {C : List Int} {wd lo mo st at' n : Nat} (hab : ablB wd lo mo st = true) (h1 : lo < at') (h2 : at' ≤ wd) (hC : ∀ j, j ≠ at' → atC C j = 0) (hn : atC C at' = n) (hn1 : 1 ≤ n) (hneed : (at' - lo + st - 1) / st + (wd - at' + st - 1) / st ≤ mo) :
    ∃ L, chosen C wd lo mo st = some L ∧ at' ∈ L ∧ coC C lo L = n := by
  have hab2 := hab
  unfold ablB at hab2
  have hb := of_decide_eq_true hab2
  have hst : 1 ≤ st := by omega
  have hdiv : ∀ x : Nat, x ≤ (x + st - 1) / st * st := fun x => by
    have h3 := Nat.div_add_mod (x + st - 1) st
    have h4 := Nat.mod_lt (x + st - 1) (show 0 < st by omega)
    have h5 := Nat.mul_comm st ((x + st - 1) / st)
    omega
  have d1 := hdiv (at' - lo)
  have d2 := hdiv (wd - at')
  obtain ⟨L1, hL1, l1⟩ := okC_few st at' hst ((at' - lo + st - 1) / st) lo (by omega) (by omega)
  obtain ⟨L2, hL2, l2⟩ := okC_few st wd hst ((wd - at' + st - 1) / st) at' h2 (by omega)
  have hL := okC_append L2 hL2 L1 lo hL1
  have hin : at' ∈ L1 ++ L2 := List.mem_append_left _ (okC_last L1 lo hL1 h1)
  have hlen : (L1 ++ L2).length ≤ min mo wd := by
    have h3 := okC_le _ _ hL
    rw [List.length_append] at h3 ⊢
    omega
  have hcost : ∀ M, okC st wd lo M = true → coC C lo M = n * levK M at' := fun M hM => by rw [coC_one C at' hC M lo hM h1 h2, hn]
  obtain ⟨x, hx, hbt⟩ := (bst_min C st wd (min mo wd) lo).2 _ hL hlen
  obtain ⟨k1, k2, k3⟩ := (bst_min C st wd (min mo wd) lo).1 x hx
  have hle := (bt_le hbt).1
  have e1 := levK_one at' _ lo hL h1 h2
  have e2 := levK_one at' _ lo k1 h1 h2
  have h4 : coC C lo (L1 ++ L2) = n := by rw [hcost _ hL, e1.2.2 hin, Nat.mul_one]
  have h5 : x.1 ≤ n := by
    have h6 : x.1 ≤ coC C lo (L1 ++ L2) := hle
    omega
  rw [k3, hcost _ k1] at h5
  have h6 : levK x.2 at' = 1 := by
    rcases Nat.lt_or_ge 1 (levK x.2 at') with h7 | h7
    · have : n * 2 ≤ n * levK x.2 at' := Nat.mul_le_mul_left n h7
      omega
    · have := e2.1
      omega
  refine ⟨x.2, ?_, e2.2.1 h6, by rw [hcost _ k1, h6, Nat.mul_one]⟩
  unfold chosen
  rw [if_pos hab]
  show (bst C st wd (min mo wd) lo).map (·.2) = some x.2
  rw [hx]
  rfl
/-- The counts: one alone. -/
def oneL (a : Nat) (n : Int) : List Int := (List.replicate 129 (0 : Int)).set a n
theorem oneL_len (a : Nat) (n : Int) : (oneL a n).length = 129 := by simp [oneL]
theorem oneL_at (a : Nat) (n : Nat) (ha : a ≤ 128) (hn : n ≤ 1000) : (∀ j, j ≠ a → atC (oneL a n) j = 0) ∧ atC (oneL a n) a = n := by
  refine ⟨fun j hj => ?_, ?_⟩
  · unfold atC oneL
    rw [List.getD_eq_getElem?_getD, List.getElem?_set_ne (by omega), List.getElem?_replicate]
    split <;> rfl
  · unfold atC oneL
    rw [List.getD_eq_getElem?_getD, List.getElem?_set_self (by simp; omega)]
    simp only [Option.getD_some]
    omega
theorem oneL_cost {wd lo mo st : Int} {a n : Nat} {L : List Nat} (ha : (a : Int) ≤ wd) (hwd : wd ≤ 128) (hn : n ≤ 1000) (hr : rightI wd lo mo st (toI L) = true) : costK (oneL a n) (toI L) lo = some (coC (oneL a n) lo.toNat L) := by
  have h := right_cost (C := oneL a n) hr
  obtain ⟨hab, M, hM, hok, -⟩ := right_nat hr
  unfold ablB at hab
  have hb := of_decide_eq_true hab
  obtain ⟨wn, rfl⟩ := Int.eq_ofNat_of_zero_le (show 0 ≤ wd by omega)
  obtain ⟨ln, rfl⟩ := Int.eq_ofNat_of_zero_le (show 0 ≤ lo by omega)
  obtain ⟨sn, rfl⟩ := Int.eq_ofNat_of_zero_le (show 0 ≤ st by omega)
  simp only [Int.toNat_natCast] at hok h ⊢
  have hz := (oneL_at a n (by omega) hn).1
  have h2 := cost_is (oneL a n) (oneL a n) (st := sn) (wd := wn) (by omega) (by omega) (fun _ _ => rfl) (fun j hj => hz j (by omega)) M ln hok
  have h3 := cost_is (oneL a n) ((oneL a n).take (wn + 1)) (st := sn) (wd := wn) (by omega) (by omega) (fun j hj => by unfold atC; rw [List.getD_eq_getElem?_getD, List.getD_eq_getElem?_getD, List.getElem?_take, if_pos (by omega)]) (fun j hj => atC_past _ _ (by rw [List.length_take]; omega)) M ln hok
  rw [← hM] at h2 h3
  rw [h3] at h
  rw [h2, h]
/-- Is it in what was looked through so far? -/
theorem in_snoc (L : List Nat) (a i : Nat) (h : i < L.length) : decide (a ∈ L.take (i + 1)) = (decide (a ∈ L.take i) || decide (L[i] = a)) := by
  rw [List.take_succ_eq_append_getElem h]
  simp only [List.mem_append, List.mem_singleton]
  by_cases h1 : a ∈ L.take i
  · simp [h1]
  · by_cases h2 : L[i] = a
    · simp [h2]
    · simp [h1, h2]
      exact fun e => h2 e.symm
set_option maxHeartbeats 4000000 in
set_option maxRecDepth 100000 in
theorem lone_walk (wd lo mo st a n : Int) (w : World) :
    Calls Try.prog 5 #[.int .i64 wd, .int .i64 lo, .int .i64 mo, .int .i64 st, .int .i64 a, .int .i64 n] w fun e w' => e = .returned (.bool true) ∧ Below w.heap.size w w' := by
  have HA := Lib.hid (alive17_any w)
  by_cases g1 : wd < 1
  · skip
    go_enter Try.func5, Try.ntmps5
    go_wp2_with fail
    refine HA.out.mono ?_
    rintro e w0 ⟨rfl, hb0⟩
    go_wp2
    go_ret
    exact ⟨rfl, hb0⟩
  by_cases g2 : 40 < wd
  · skip
    go_enter Try.func5, Try.ntmps5
    go_wp2_with fail
    refine HA.out.mono ?_
    rintro e w0 ⟨rfl, hb0⟩
    go_wp2
    go_ret
    exact ⟨rfl, hb0⟩
  by_cases g3 : lo < 0
  · skip
    go_enter Try.func5, Try.ntmps5
    go_wp2_with fail
    refine HA.out.mono ?_
    rintro e w0 ⟨rfl, hb0⟩
    go_wp2
    go_ret
    exact ⟨rfl, hb0⟩
  by_cases g4 : wd ≤ lo
  · skip
    go_enter Try.func5, Try.ntmps5
    go_wp2_with fail
    refine HA.out.mono ?_
    rintro e w0 ⟨rfl, hb0⟩
    go_wp2
    go_ret
    exact ⟨rfl, hb0⟩
  by_cases g5 : mo < 2
  · skip
    go_enter Try.func5, Try.ntmps5
    go_wp2_with fail
    refine HA.out.mono ?_
    rintro e w0 ⟨rfl, hb0⟩
    go_wp2
    go_ret
    exact ⟨rfl, hb0⟩
  by_cases g6 : 40 < mo
  · skip
    go_enter Try.func5, Try.ntmps5
    go_wp2_with fail
    refine HA.out.mono ?_
    rintro e w0 ⟨rfl, hb0⟩
    go_wp2
    go_ret
    exact ⟨rfl, hb0⟩
  by_cases g7 : st < 1
  · skip
    go_enter Try.func5, Try.ntmps5
    go_wp2_with fail
    refine HA.out.mono ?_
    rintro e w0 ⟨rfl, hb0⟩
    go_wp2
    go_ret
    exact ⟨rfl, hb0⟩
  by_cases g8 : 20 < st
  · skip
    go_enter Try.func5, Try.ntmps5
    go_wp2_with fail
    refine HA.out.mono ?_
    rintro e w0 ⟨rfl, hb0⟩
    go_wp2
    go_ret
    exact ⟨rfl, hb0⟩
  by_cases g9 : a ≤ lo
  · skip
    go_enter Try.func5, Try.ntmps5
    go_wp2_with fail
    refine HA.out.mono ?_
    rintro e w0 ⟨rfl, hb0⟩
    go_wp2
    go_ret
    exact ⟨rfl, hb0⟩
  by_cases g10 : wd < a
  · skip
    go_enter Try.func5, Try.ntmps5
    go_wp2_with fail
    refine HA.out.mono ?_
    rintro e w0 ⟨rfl, hb0⟩
    go_wp2
    go_ret
    exact ⟨rfl, hb0⟩
  by_cases g11 : n < 1
  · skip
    go_enter Try.func5, Try.ntmps5
    go_wp2_with fail
    refine HA.out.mono ?_
    rintro e w0 ⟨rfl, hb0⟩
    go_wp2
    go_ret
    exact ⟨rfl, hb0⟩
  by_cases g12 : 1000 < n
  · skip
    go_enter Try.func5, Try.ntmps5
    go_wp2_with fail
    refine HA.out.mono ?_
    rintro e w0 ⟨rfl, hb0⟩
    go_wp2
    go_ret
    exact ⟨rfl, hb0⟩
  obtain ⟨wn, rfl⟩ := Int.eq_ofNat_of_zero_le (show 0 ≤ wd by omega)
  obtain ⟨ln, rfl⟩ := Int.eq_ofNat_of_zero_le (show 0 ≤ lo by omega)
  obtain ⟨mn, rfl⟩ := Int.eq_ofNat_of_zero_le (show 0 ≤ mo by omega)
  obtain ⟨sn, rfl⟩ := Int.eq_ofNat_of_zero_le (show 0 ≤ st by omega)
  obtain ⟨an, rfl⟩ := Int.eq_ofNat_of_zero_le (show 0 ≤ a by omega)
  obtain ⟨nn, rfl⟩ := Int.eq_ofNat_of_zero_le (show 0 ≤ n by omega)
  have hmk : ∀ w, (Instr.makeSlice 22 (.int .i64 129) (.int .i64 129)).run Try.prog w = .ok (.slice (some ⟨w.heap.size, 0, none⟩) 129 129) (w.alloc (.cells (madeCells #[.int .i64 0] 129) 3)) := fun w => make_row Try.underlying22 infoI 129 (by decide) (by unfold maxLen; decide) w
  have hown : ∀ W : World, (W.alloc (.cells ((madeCells #[.int .i64 0] 129).setIfInBounds an (.int .i64 (nn : Int))) 3)).ownsRow W.heap.size 3 1 (.slice (some ⟨W.heap.size, 0, none⟩) 129 129) 129 (ics (oneL an nn)) := fun W => by
    have := World.ownsRow_lit (base := W.heap.size) (e := 3) (size := 1) W ((madeCells #[.int .i64 0] 129).setIfInBounds an (.int .i64 (nn : Int))) 129 (Nat.le_refl _) (by unfold maxLen; omega) (by simp [madeCells])
    rwa [show ((madeCells #[.int .i64 0] 129).setIfInBounds an (.int .i64 (nn : Int))).toList = ics (oneL an nn) by
      rw [Array.toList_setIfInBounds, toList_madeCells_one]
      unfold ics oneL
      rw [List.map_set, List.map_replicate]] at this
  have HO := Lib.hid hown
  have hx0 : ∀ W : World, (W.alloc (.cells (madeCells #[.int .i64 0] 129) 3)).cell? ⟨W.heap.size, an, none⟩ = some (.int .i64 0) := fun W => by
    have := new_cells W (madeCells #[.int .i64 0] 129) 3 an (.int .i64 0) (by rw [toList_madeCells_one, List.getElem?_replicate, if_pos (by omega)])
    rwa [show (⟨W.heap.size, 0, none⟩ : Addr).add an = ⟨W.heap.size, an, none⟩ by unfold Addr.add; split <;> simp_all] at this
  have HX0 := Lib.hid hx0
  have ha1 : (an : Int) < 129 := by omega
  have hn0 : (0 : Int) ≤ (an : Int) := by omega
  have HCG : Hid (∀ (W : World) (p : Option Addr), IRow W p (oneL an nn) → Calls Try.prog 8 #[.int .i64 (wn : Int), .int .i64 (ln : Int), .int .i64 (mn : Int), .int .i64 (sn : Int), .slice p 129 129] W fun e w' => (∃ q n d x, e = .returned (.tuple #[.slice q n d, .int .i64 x])) ∧ Below W.heap.size W w') := Lib.hid fun W p h => by
    have := choose_gen (c := 129) (wd := (wn : Int)) (lo := (ln : Int)) (mo := (mn : Int)) (st := (sn : Int)) h (by rw [oneL_len]; omega) (by rw [oneL_len]; exact Nat.le_refl _)
    rwa [oneL_len] at this
  clear hown hx0
  obtain ⟨k1, hk1⟩ : ∃ k1, k1 = (an - ln + sn - 1) / sn := ⟨_, rfl⟩
  obtain ⟨k2, hk2⟩ : ∃ k2, k2 = (wn - an + sn - 1) / sn := ⟨_, rfl⟩
  have b1 : k1 ≤ 100 := by rw [hk1]; exact Nat.le_trans (Nat.div_le_self _ _) (by omega)
  have b2 : k2 ≤ 100 := by rw [hk2]; exact Nat.le_trans (Nat.div_le_self _ _) (by omega)
  have hq : wrap64 (((an : Int) - (ln : Int) + (sn : Int) - 1) / (sn : Int) + ((wn : Int) - (an : Int) + (sn : Int) - 1) / (sn : Int)) = ((k1 + k2 : Nat) : Int) := by
    have e1 : (an : Int) - (ln : Int) + (sn : Int) - 1 = ((an - ln + sn - 1 : Nat) : Int) := by omega
    have e2 : (wn : Int) - (an : Int) + (sn : Int) - 1 = ((wn - an + sn - 1 : Nat) : Int) := by omega
    have e3 : ((an - ln + sn - 1 : Nat) : Int) / (sn : Int) = (k1 : Int) := by rw [hk1]; rfl
    have e4 : ((wn - an + sn - 1 : Nat) : Int) / (sn : Int) = (k2 : Int) := by rw [hk2]; rfl
    rw [e1, e2, e3, e4]
    clear hk1 hk2 e1 e2 e3 e4
    rw [IntWalk.wrap64_in _ (by omega)]
    omega
  have HQ := Lib.hid hq
  have hs0 : ((sn : Int) == 0) = false := by simp; omega
  have hs1 : ¬ (sn : Int) = 0 := by omega
  clear hq
  by_cases hneed : k1 + k2 ≤ mn
  · have hab : ablB (wn : Int) (ln : Int) (mn : Int) (sn : Int) = true := decide_eq_true (by omega)
    have hat := oneL_at an nn (by omega) (by omega)
    obtain ⟨L, hcs, hin, hco⟩ := chosen_one (C := oneL an nn) hab (show ln < an by omega) (show an ≤ wn by omega) hat.1 hat.2 (by omega) (by rw [← hk1, ← hk2]; exact hneed)
    have hcost := oneL_cost (a := an) (n := nn) (L := L) (by omega) (by omega) (by omega) (chosen_right hcs)
    rw [Int.toNat_natCast, hco] at hcost
    have hll := chosen_len hcs
    have HCS : Hid (∀ (W : World) (p : Option Addr), IRow W p (oneL an nn) → Calls Try.prog 8 #[.int .i64 (wn : Int), .int .i64 (ln : Int), .int .i64 (mn : Int), .int .i64 (sn : Int), .slice p 129 129] W fun e w' => (∃ q d, e = .returned (.tuple #[.slice q L.length d, .int .i64 0]) ∧ IRow w' q (toI L) ∧ L.length ≤ d) ∧ Below W.heap.size W w') := Lib.hid fun W p h => by
      have := choose_some (c := 129) hcs h (by rw [oneL_len]; omega) (by rw [oneL_len]; exact Nat.le_refl _)
      rwa [oneL_len] at this
    have HK1 : Hid (∀ (W : World) (p q : Option Addr) d, IRow W p (oneL an nn) → IRow W q (toI L) → Calls Try.prog 14 #[.slice p 129 129, .slice q L.length d, .int .i64 (ln : Int)] W fun e w' => e = .returned (.tuple #[.int .i64 (nn : Int), .bool true]) ∧ Below W.heap.size W w') := Lib.hid fun W p q d h1 h2 => by
      have := rcost_any p q 129 d (oneL an nn) (toI L) (ln : Int) W h1 h2 (by rw [oneL_len]; omega) (by rw [toI_len]; omega)
      rw [hcost, oneL_len, toI_len] at this
      exact this
    have HNUM := Lib.hid (num17_any 0)
    have HIN := Lib.hid hin
    have hkm : ((k1 + k2 : Nat) : Int) ≤ (mn : Int) := by omega
    obtain ⟨kk, hkk⟩ : ∃ kk : Nat, kk = k1 + k2 := ⟨_, rfl⟩
    rw [← hkk] at HQ hkm
    clear hab hat hcs hin hco hcost hneed hk1 hk2 b1 b2 HCG hkk
    go_enter Try.func5, Try.ntmps5
    go_wp2_with fail
    refine HA.out.mono ?_
    rintro e w0 ⟨rfl, hb0⟩
    have x0 := HX0.out w0
    have f0 : (w0.alloc (.cells (madeCells #[.int .i64 0] 129) 3)).frozen? ⟨w0.heap.size, an, none⟩ = false := by simp [go_sem]
    go_wp2_with fail
    have hr := IRow.of_own (HO.out w0)
    refine (HCS.out _ _ hr).mono ?_
    rintro e w1 ⟨⟨q1, d1, rfl, hl1, -⟩, hb1⟩
    have hw1 : Below w.heap.size w w1 := (hb0.alloc hb0.size _).trans (hb1.mono (by have := hb0.size; simp; omega))
    have HR1 := Lib.hid (hr.below hb1)
    have HL1 := Lib.hid hl1
    clear hr hl1 hb1 x0 f0
    go_wp2_with fail
    have kg := cell_grow
    refine region_whole (by kernel_rfl) (by kernel_rfl) ?_
    repeat (any_goals (first | go_big_quiet_step (fail) | quiet_step (fail)))
    refine wpQuiet_nil ?_
    clear kg
    intro w7 hb7
    obtain ⟨hc7, hf7⟩ := bcell hb7
    have hw7 := hw1.trans (hb7.mono hw1.size)
    have HR7 := Lib.hid (HR1.out.below hb7)
    have HL7 := Lib.hid (HL1.out.below hb7)
    clear hc7 hf7 hb7 HR1 HL1
    go_wp2_with (first | rw [HQ.out] | fail)
    rename World => wo
    go_loopg [18, 19] L.length (fun kx s18 s19 wr => ∃ i : Nat, s19 = .int .i64 (i : Int) ∧ L.length - i ≤ kx ∧ i ≤ L.length ∧ s18 = .bool (decide (an ∈ L.take i)) ∧ Below wo.heap.size wo wr)
    case atStart => exact ⟨0, rfl, by omega, by omega, by simp, Below.refl _ _⟩
    case round =>
      obtain ⟨i, rfl, k3, k4, rfl, hb⟩ := hrel
      by_cases hi : i < L.length
      · obtain ⟨g, o, rfl, hg, x0⟩ := (HL7.out.below hb).at (k := i) (by rw [toI_len]; exact hi)
        rw [toI_at] at x0
        have hs := in_snoc L an i hi
        obtain ⟨b, hbb⟩ : ∃ b, b = L[i] := ⟨_, rfl⟩
        rw [← hbb] at x0 hs
        obtain ⟨s, hss⟩ : ∃ s, s = decide (an ∈ L.take i) := ⟨_, rfl⟩
        rw [← hss] at hs
        rw [← hss]
        have i1 : (0 : Int) ≤ (i : Int) := by omega
        have i2 : (i : Int) < (L.length : Int) := by omega
        have HS := Lib.hid hs
        clear hs hbb hss
        cases s with
        | true =>
          go_wp2
          go_roundg (L.length - (i + 1))
          case measure => omega
          case rel => exact ⟨i + 1, by go_num, by omega, by omega, by rw [HS.out]; rfl, hb⟩
        | false =>
          by_cases e : b = an
          · have e2 : ((b : Int) == (an : Int)) = true := by simp [e]
            have HS2 : Hid (decide (an ∈ L.take (i + 1)) = true) := by rw [HS.out, decide_eq_true e]; exact Lib.hid rfl
            clear e
            go_wp2
            go_roundg (L.length - (i + 1))
            case measure => omega
            case rel => exact ⟨i + 1, by go_num, by omega, by omega, by rw [HS2.out], hb⟩
          · have e2 : ((b : Int) == (an : Int)) = false := by simp; omega
            have HS2 : Hid (decide (an ∈ L.take (i + 1)) = false) := by rw [HS.out, decide_eq_false e]; exact Lib.hid rfl
            clear e
            go_wp2
            go_roundg (L.length - (i + 1))
            case measure => omega
            case rel => exact ⟨i + 1, by go_num, by omega, by omega, by rw [HS2.out], hb⟩
      · have hin2 : decide (an ∈ L.take i) = true := by rw [List.take_of_length_le (by omega)]; exact decide_eq_true HIN.out
        rw [hin2]
        have hw9 := hw7.trans (hb.mono hw7.size)
        have hr9 := HR7.out.below hb
        have hl9 := HL7.out.below hb
        clear hin2
        go_wp2_with fail
        refine (HK1.out _ _ _ _ hr9 hl9).mono ?_
        rintro e w8 ⟨rfl, hb8⟩
        have hw8 := hw9.trans (hb8.mono hw9.size)
        clear hr9 hl9
        go_wp2_with fail
        refine (HNUM.out _).mono ?_
        rintro e w6 ⟨rfl, hb6⟩
        have hw6 := hw8.trans (hb6.mono hw8.size)
        go_wp2
        go_ret
        exact ⟨rfl, hw6⟩
  · have hkm : (mn : Int) < ((k1 + k2 : Nat) : Int) := by omega
    obtain ⟨kk, hkk⟩ : ∃ kk : Nat, kk = k1 + k2 := ⟨_, rfl⟩
    rw [← hkk] at HQ hkm
    clear hneed hk1 hk2 b1 b2 hkk
    go_enter Try.func5, Try.ntmps5
    go_wp2_with fail
    refine HA.out.mono ?_
    rintro e w0 ⟨rfl, hb0⟩
    have x0 := HX0.out w0
    have f0 : (w0.alloc (.cells (madeCells #[.int .i64 0] 129) 3)).frozen? ⟨w0.heap.size, an, none⟩ = false := by simp [go_sem]
    go_wp2_with fail
    have hr := IRow.of_own (HO.out w0)
    refine (HCG.out _ _ hr).mono ?_
    rintro e w1 ⟨⟨q1, n1, d1, x1, rfl⟩, hb1⟩
    have hw1 : Below w.heap.size w w1 := (hb0.alloc hb0.size _).trans (hb1.mono (by have := hb0.size; simp; omega))
    clear hr hb1 x0 f0
    go_wp2_with fail
    have kg := cell_grow
    refine region_whole (by kernel_rfl) (by kernel_rfl) ?_
    repeat (any_goals (first | go_big_quiet_step (fail) | quiet_step (fail)))
    refine wpQuiet_nil ?_
    clear kg
    intro w7 hb7
    obtain ⟨hc7, hf7⟩ := bcell hb7
    have hw7 := hw1.trans (hb7.mono hw1.size)
    go_wp2_with (first | rw [HQ.out] | fail)
    go_ret
    exact ⟨rfl, hw7⟩
end Go.Proofs.Ytnmcgboafdglbaa
