/-
  Plain mathematics of the array of short prefixes: what stands at each place, filled row by row from what a level of low -1 holds. No condition but those that stand in each.
-/
import Derived.Test.YtcfioplbbbaeoaaLift
import Derived.Test.YtcfioplbbbaeoaaNest
/-
  DirectTells as a walk: it hands back true, for every input, if the program's array does what is asked of it. No condition besides.
-/
set_option linter.unusedSimpArgs false
set_option linter.unusedVariables false
namespace Go.Proofs.Ytcfioplbbbaeoaa
open Go Go.RowKit Go.Sort M

theorem pow_ne (m : Nat) (h : m ≤ 8) : ((2 : Int) ^ m != wrap64 ((2 : Int) ^ m)) = false := by
  rcases (show m = 0 ∨ m = 1 ∨ m = 2 ∨ m = 3 ∨ m = 4 ∨ m = 5 ∨ m = 6 ∨ m = 7 ∨ m = 8 by omega) with rfl | rfl | rfl | rfl | rfl | rfl | rfl | rfl | rfl <;> decide +kernel
set_option maxHeartbeats 4000000 in
set_option maxRecDepth 100000 in
theorem dirtell_walk {A : World → (Nat → Prop) → Nat → Nat → List Rt → Prop} (D : DirC A) (n : Int) (q : Option Addr) (c : Nat) (T : List (Sl Rt)) (ah al : Nat) (w : World) (hT : RowA 1 (fun s => [s.v]) w q T) (hok : ∀ s ∈ T, s.ok 4 rcell (fun a => a.k.good) w) (ha : W64 ah) (hb : W64 al) (hL : T.length ≤ maxLen) :
    Calls Try.prog 3 #[.int .i64 n, .slice q T.length c, .agg #[.int .u64 (ah : Int), .int .u64 (al : Int)]] w fun e w' => e = .returned (.bool true) ∧ Below w.heap.size w w' := by
  have HAL := Lib.hid (fun w => alive20_any D w)
  unfold maxLen at hL
  by_cases g1 : T.length ≤ 5
  · have hT0 : Hid (∀ W, Below w.heap.size w W → RowA 1 (fun s => [s.v]) W q T) := Lib.hid fun W h => hT.below h
    have hS0 : Hid (∀ W, Below w.heap.size w W → ∀ s ∈ T, s.ok 4 rcell (fun a => a.k.good) W) := Lib.hid fun W h s hs => (hok s hs).below h
    have h1 := D.new n
    have hcap := fun W => cap_any n 0 8 W
    rw [cap8] at hcap
    have hm := bitsA_le n
    have hrd := fun (p : Option Addr) c L W (h1 : Row W p (rcs L)) (h2 : ∀ x ∈ L, x.k.good) (h3 : L.length < 1048576) => rdirect_any p c L n ah al W h1 h2 ha hb h3
    obtain ⟨m, hme⟩ : ∃ m, m = bitsA n := ⟨_, rfl⟩
    rw [← hme] at h1 hcap hm
    rw [← hme] at hrd
    have h3 := fun W K t L (h : A W K t m L) => D.get W K t m L ah al h ha hb
    have h30 := fun W K t (h : A W K t m []) => D.get W K t m [] ah al h ha hb
    have h4 := fun W K t L (h : A W K t m L) => D.len W K t m L h
    rw [dirA_nil] at h30
    have H1 := Lib.hid h1
    have HCAP := Lib.hid hcap
    have HRD := Lib.hid hrd
    have H3 := Lib.hid h3
    have H30 := Lib.hid h30
    have H4 := Lib.hid h4
    have HD := Lib.hid D
    clear h1 hcap hrd h3 h30 h4 D hT hok hme ha hb
    go_enter Try.func3, Try.ntmps3
    go_wp2_with fail
    refine (HAL.out _).mono ?_
    rintro e w0 ⟨rfl, hb0⟩
    have hw0 : Below w.heap.size w w0 := Below.trans (by go_grown) (hb0.mono (by simp))
    have b0 : w0.cell? ⟨w.heap.size, 0, none⟩ = some (.int .u64 (ah : Int)) := by
      rw [hb0.cell (by simp <;> omega)]
      first | assumption | (simp [go_sem]; done) | (simp [go_sem, *]; done)
    have b1 : w0.cell? ⟨w.heap.size, 1, none⟩ = some (.int .u64 (al : Int)) := by
      rw [hb0.cell (by simp <;> omega)]
      first | assumption | (simp [go_sem]; done) | (simp [go_sem, *]; done)
    have hz0 : w.heap.size < w0.heap.size := by have := hb0.size; simp at this; omega
    clear hb0
    go_wp2_with fail
    refine (H1.out _).mono ?_
    rintro e w1 ⟨t, rfl, hb1, ha1⟩
    have hw1 := hw0.trans (hb1.mono hw0.size)
    have b0 := (hb1.cell (p := ⟨w.heap.size, 0, none⟩) hz0).trans b0
    have b1 := (hb1.cell (p := ⟨w.heap.size, 1, none⟩) hz0).trans b1
    have hz1 := Nat.lt_of_lt_of_le hz0 hb1.size
    have HA1 := Lib.hid ha1
    clear ha1 hb1
    go_wp2_with fail
    refine (H4.out _ _ _ _ HA1.out).mono ?_
    rintro e w2 ⟨rfl, hb2⟩
    have hw2 := hw1.trans (hb2.mono hw1.size)
    have b0 := (hb2.cell (p := ⟨w.heap.size, 0, none⟩) hz1).trans b0
    have b1 := (hb2.cell (p := ⟨w.heap.size, 1, none⟩) hz1).trans b1
    have hz2 := Nat.lt_of_lt_of_le hz1 hb2.size
    have HA2 := Lib.hid (HD.out.below HA1.out hb2)
    clear hb2 HA1
    go_wp2_with fail
    refine (HCAP.out _).mono ?_
    rintro e w3 ⟨rfl, rfl⟩
    have hpw := pow_ne m hm
    go_wp2_with fail
    refine (H30.out _ _ _ HA2.out).mono ?_
    rintro e w4 ⟨rfl, hb4⟩
    have hw4 := hw2.trans (hb4.mono hw2.size)
    have b0 := (hb4.cell (p := ⟨w.heap.size, 0, none⟩) hz2).trans b0
    have b1 := (hb4.cell (p := ⟨w.heap.size, 1, none⟩) hz2).trans b1
    have hz4 := Nat.lt_of_lt_of_le hz2 hb4.size
    have HA4 := Lib.hid (HD.out.below HA2.out hb4)
    have hKw : Hid (∀ g, In w0.heap.size w1.heap.size g → w.heap.size < g) := Lib.hid fun g h => by have := h.1; omega
    clear hb4 HA2 hpw
    go_wp2_with fail
    go_loopg [11, 12, 13, 14, 15] T.length (fun kx s11 s12 s13 s14 s15 wr => ∃ (i : Nat) (K : Nat → Prop) (L : List Rt), s11 = .int .i64 (i : Int) ∧ T.length - i ≤ kx ∧ i ≤ T.length ∧ wr.cell? ⟨w.heap.size, 0, none⟩ = some (.int .u64 (ah : Int)) ∧ wr.cell? ⟨w.heap.size, 1, none⟩ = some (.int .u64 (al : Int)) ∧
      w.heap.size < wr.heap.size ∧ Hid (A wr K t m L) ∧ Hid (∀ g, K g → w.heap.size < g) ∧ Below w.heap.size w wr)
    case atStart => exact ⟨0, _, [], rfl, by omega, by omega, b0, b1, hz4, HA4, hKw, hw4⟩
    case round =>
      clear b0 b1 HA4 hKw
      obtain ⟨i, K, L, rfl, k1, k2, b0, b1, hz, HAr, HK, hbr⟩ := hrel
      by_cases hi : i < T.length
      · obtain ⟨g, o, rfl, hgw, x0⟩ := (hT0.out w (Below.refl _ _)).sl hi
        have x0 := (hbr.cell (p := ⟨g, o + i, none⟩) hgw).trans x0
        have hgr : g < wr.heap.size := Nat.lt_of_lt_of_le hgw hbr.size
        have hs := hS0.out _ hbr T[i] (List.getElem_mem hi)
        have hSi : Hid (∀ W, Below w.heap.size w W → Row W T[i].q (rcs T[i].L)) := Lib.hid fun W h => (hS0.out W h T[i] (List.getElem_mem hi)).rts
        have i1 : (0 : Int) ≤ (i : Int) := by omega
        have i2 : (i : Int) < (T.length : Int) := by omega
        generalize T[i] = s at *
        obtain ⟨sq, sc, sL⟩ := s
        simp only at x0 hs hSi
        have hsl := hs.len
        unfold maxLen at hsl
        simp only at hsl
        by_cases h30 : 30 < sL.length
        · have h30' : (30 : Int) < (sL.length : Int) := by omega
          clear hs hSi
          go_wp2
          go_ret
          exact ⟨rfl, hbr⟩
        · have h30' : ¬ (30 : Int) < (sL.length : Int) := by omega
          have HGD := Lib.hid hs.good
          simp only at HGD
          clear hs
          go_wp2_with (at_builtin; go_loud (refine wpList_append_arg18 rfl (.tmp 65) rfl sL sq sc rfl (hSi.out _ hbr) (by omega) ?_))
          intro p5 c5 w5 hb5 hr5 hn5 hc5
          have hw5 := hbr.trans (hb5.mono hbr.size)
          have HA5 := Lib.hid (HD.out.below HAr.out hb5)
          have b0 := (hb5.cell (p := ⟨w.heap.size, 0, none⟩) hz).trans b0
          have b1 := (hb5.cell (p := ⟨w.heap.size, 1, none⟩) hz).trans b1
          have x0 := (hb5.cell (p := ⟨g, o + i, none⟩) hgr).trans x0
          have hz5 := Nat.lt_of_lt_of_le hz hb5.size
          have hgr5 := Nat.lt_of_lt_of_le hgr hb5.size
          have HF := Lib.hid (HD.out.fill _ _ _ _ _ _ _ _ HA5.out hr5 HGD.out hn5 hc5 (by omega))
          have h3 := fun W K (h : A W K t m sL) => H3.out W K t sL h
          have hrd := fun W (h : Below w.heap.size w W) => HRD.out sq sc sL W (hSi.out W h) HGD.out (by omega)
          unfold dirA at h3 hrd
          obtain ⟨vv, hvv⟩ : ∃ vv, vv = dirV sL ah al m := ⟨_, rfl⟩
          obtain ⟨vb, hvb⟩ : ∃ vb, vb = (dirK sL ah al m).isSome := ⟨_, rfl⟩
          rw [← hvv, ← hvb] at h3 hrd
          have HG3 := Lib.hid h3
          have HR3 := Lib.hid hrd
          have hzw := hw5.size
          clear hb5 hr5 hn5 hc5 HAr h3 hrd hvv hvb
          go_wp2_with fail
          refine HF.out.mono ?_
          rintro e w6 ⟨rfl, K6, ha6, ht6, hk6⟩
          have HK6 : Hid (∀ g, K6 g → w.heap.size < g) := Lib.hid fun g h => by
            rcases hk6 g h with h | h
            · exact HK.out g h
            · have := h.1
              omega
          have n0 : ¬ K w.heap.size := fun h => by have := HK.out _ h; omega
          have ng : ∀ gg, gg < w.heap.size → ¬ K gg := fun gg hg h => by have := HK.out _ h; omega
          have b0 := ht6.cell b0 n0
          have b1 := ht6.cell b1 n0
          have hw6 := hw5.trans (ht6.below hzw (fun g h => Nat.le_of_lt (HK.out g h)))
          have hz6 := Nat.lt_of_lt_of_le hz5 ht6.size
          have HA6 := Lib.hid ha6
          have x0 := ht6.cell x0 (ng g hgw)
          have hgr6 := Nat.lt_of_lt_of_le hgr5 ht6.size
          clear ht6 hk6 ha6 HF HA5 n0 ng hgr hgr5
          go_wp2_with fail
          refine (HG3.out _ _ HA6.out).mono ?_
          rintro e w7 ⟨rfl, hb7⟩
          have b0 := (hb7.cell (p := ⟨w.heap.size, 0, none⟩) hz6).trans b0
          have b1 := (hb7.cell (p := ⟨w.heap.size, 1, none⟩) hz6).trans b1
          have x0 := (hb7.cell (p := ⟨g, o + i, none⟩) hgr6).trans x0
          have hw7 := hw6.trans (hb7.mono hw6.size)
          have hz7 := Nat.lt_of_lt_of_le hz6 hb7.size
          have hgr7 := Nat.lt_of_lt_of_le hgr6 hb7.size
          have HA7 := Lib.hid (HD.out.below HA6.out hb7)
          clear hb7 HA6
          go_wp2_with fail
          have kg := cell_grow
          refine region_whole (by kernel_rfl) (by kernel_rfl) ?_
          repeat (any_goals (first | go_big_quiet_step ((exact Calls.regrown_of (HR3.out _ (hw7.trans ((below_regrown _ _ _).mono hw7.size))))) | quiet_step ((exact Calls.regrown_of (HR3.out _ (hw7.trans ((below_regrown _ _ _).mono hw7.size)))))))
          refine wpQuiet_nil ?_
          clear kg
          intro w17 hb17
          obtain ⟨hc17, hf17⟩ := bcell hb17
          have b0 := (hc17 _ _ hz7).trans b0
          have b1 := (hc17 _ _ hz7).trans b1
          have hz8 := Nat.lt_of_lt_of_le hz7 hb17.size
          have hw8 := hw7.trans (hb17.mono hw7.size)
          have HA8 := Lib.hid (HD.out.below HA7.out hb17)
          clear hc17 hf17 hb17 HA7 x0
          go_wp2
          go_roundg (T.length - (i + 1))
          case measure => omega
          case rel => exact ⟨i + 1, K6, sL, by go_num, by omega, by omega, b0, b1, hz8, HA8, HK6, hw8⟩
      · go_wp2
        go_ret
        exact ⟨rfl, hbr⟩
  · clear hT hok
    go_enter Try.func3, Try.ntmps3
    go_wp2_with fail
    refine (HAL.out _).mono ?_
    rintro e w0 ⟨rfl, hb0⟩
    have hw0 : Below w.heap.size w w0 := Below.trans (by go_grown) (hb0.mono (by simp))
    go_wp2
    go_ret
    exact ⟨rfl, hw0⟩
end Go.Proofs.Ytcfioplbbbaeoaa
/-
  Plain mathematics of the array of short prefixes: what stands at each place, filled row by row from what a level of low -1 holds. No condition but those that stand in each.
-/
set_option linter.unusedSimpArgs false
set_option linter.unusedVariables false
namespace Go.Proofs.Ytcfioplbbbaeoaa
open Go Go.RowKit Go.Sort M

/-- The number of an address's place. -/
def numA (ah m : Nat) : Nat := ah / 2 ^ (64 - m)
theorem numA_lt {ah m : Nat} (h : W64 ah) (hm : m ≤ 64) : numA ah m < 2 ^ m := by
  unfold numA
  rw [Nat.div_lt_iff_lt_mul (Nat.two_pow_pos _), ← Nat.pow_add, show m + (64 - m) = 64 by omega]
  exact h
theorem numA_at {m i : Nat} : numA (i * 2 ^ (64 - m)) m = i := Nat.mul_div_cancel _ (Nat.two_pow_pos _)
theorem numA_w {m i : Nat} (hm : m ≤ 64) (hi : i < 2 ^ m) : W64 (i * 2 ^ (64 - m)) := by
  show i * 2 ^ (64 - m) < 2 ^ 64
  have := Nat.mul_lt_mul_of_pos_right hi (Nat.two_pow_pos (64 - m))
  rwa [← Nat.pow_add, show m + (64 - m) = 64 by omega] at this
theorem cut_num {ah al m : Nat} (hb : W64 al) (hm : m ≤ 8) : cutK ah al m = cutK (numA ah m * 2 ^ (64 - m)) 0 m := by
  unfold cutK
  rw [show m - 64 = 0 by omega, cutW_zero al hb, cutW_zero 0 (by decide)]
  unfold cutW numA
  rw [Nat.mul_div_cancel _ (Nat.two_pow_pos _)]
theorem num_cut (ah m : Nat) : numA (cutW ah m) m = numA ah m := by
  unfold cutW numA
  rw [Nat.mul_div_cancel _ (Nat.two_pow_pos _)]
theorem dir_num {ah al m : Nat} (L : List Rt) (hb : W64 al) (hm : m ≤ 8) : dirK L ah al m = dirK L (numA ah m * 2 ^ (64 - m)) 0 m := by
  unfold dirK
  rw [cut_num hb hm]
/-- An address has a key of the first level just if it has a route there. -/
theorem key_first {N : List Rt} (hg : ∀ r ∈ N, W64 r.k.h ∧ W64 r.k.l) {ah al m : Nat} (ha : W64 ah) (hb : W64 al) (hm : m ≤ 8) : cutK ah al m ∈ keysS N (-1) (m : Int) ↔ ∃ r ∈ N, candB ah al (-1) (m : Int) r = true := by
  unfold keysS
  simp only [List.mem_flatMap, List.mem_filter]
  refine exists_congr fun r => ?_
  constructor
  · rintro ⟨⟨hr, hi⟩, hk⟩
    refine ⟨hr, ?_⟩
    unfold insB at hi
    simp only [Bool.and_eq_true, decide_eq_true_eq] at hi
    have h := ((mem_spr (hg r hr).1 (hg r hr).2 _ _).1 hk).2.2.2.2.2.2.2
    unfold cutK at h
    simp only at h
    rw [has_cut_any r ah al m hi.2] at h
    unfold candB
    simp [hi.1, hi.2, h]
  · rintro ⟨hr, hc⟩
    unfold candB at hc
    simp only [Bool.and_eq_true, decide_eq_true_eq] at hc
    obtain ⟨c1, c2, c3⟩ := hc
    refine ⟨⟨hr, by unfold insB; simp [c1, c2]⟩, (mem_spr (hg r hr).1 (hg r hr).2 _ _).2 ⟨c2, by omega, by omega, rfl, ha.cut _, hb.cut _, ?_, ?_⟩⟩
    · have := right_cut ah al (m : Int) (by omega) (by omega)
      simpa [cutK] using this
    · show hasB _ _ _ (cutW ah m) (cutW al (m - 64)) = true
      rw [has_cut_any r ah al m c2]
      exact c3
theorem dir_some {N : List Rt} (hg : ∀ r ∈ N, W64 r.k.h ∧ W64 r.k.l) {ah al m : Nat} (ha : W64 ah) (hb : W64 al) (hm : m ≤ 8) : (hopK N (-1) (cutK ah al m)).isSome = true ↔ cutK ah al m ∈ keysS N (-1) (m : Int) := by
  rw [key_first hg ha hb hm, ← lng_is]
  unfold hopK
  rw [Option.isSome_map, cand_cut]
/-- What has been laid after the first j rows of M. -/
def PlOk (M : List Rt) (m j : Nat) (xs : List Value) : Prop := xs.length = 2 ^ m * 2 ∧ ∀ i, i < 2 ^ m → ∃ (v : Int) (b : Bool), xs[i * 2]? = some (.int .i64 v) ∧ xs[i * 2 + 1]? = some (.bool b) ∧
  (((∃ r ∈ M.take j, numA r.k.h m = i ∧ r.v = v) ∧ b = true) ∨ ((∀ r ∈ M.take j, numA r.k.h m ≠ i) ∧ v = 0 ∧ b = false))
theorem PlOk.start (M : List Rt) (m : Nat) : PlOk M m 0 (madeCells #[.int .i64 0, .bool false] (2 ^ m * 2)).toList := by
  refine ⟨by simp [madeCells], fun i hi => ⟨0, false, ?_, ?_, .inr ⟨by simp, rfl, rfl⟩⟩⟩
  · have : i * 2 < 2 ^ m * 2 := by omega
    simp [madeCells, this]
  · have : i * 2 + 1 < 2 ^ m * 2 := by omega
    simp [madeCells, this]
theorem PlOk.next {M : List Rt} {m j : Nat} {xs : List Value} (H : PlOk M m j xs) (hj : j < M.length) (hn : numA M[j].k.h m < 2 ^ m) :
    PlOk M m (j + 1) ((xs.set (numA M[j].k.h m * 2) (.int .i64 M[j].v)).set (numA M[j].k.h m * 2 + 1) (.bool true)) := by
  obtain ⟨hl, H⟩ := H
  refine ⟨by simpa using hl, fun i hi => ?_⟩
  have htk := List.take_succ_eq_append_getElem hj
  rw [htk]
  by_cases e : numA M[j].k.h m = i
  · subst e
    refine ⟨M[j].v, true, ?_, ?_, .inl ⟨⟨M[j], List.mem_append_right _ (List.mem_singleton.2 rfl), rfl, rfl⟩, rfl⟩⟩
    · rw [List.getElem?_set_ne (by omega), List.getElem?_set_self (by omega)]
    · rw [List.getElem?_set_self (by simp; omega)]
  · obtain ⟨v, b, h1, h2, h3⟩ := H i hi
    refine ⟨v, b, ?_, ?_, ?_⟩
    · rw [List.getElem?_set_ne (by omega), List.getElem?_set_ne (by omega)]
      exact h1
    · rw [List.getElem?_set_ne (by omega), List.getElem?_set_ne (by omega)]
      exact h2
    · rcases h3 with ⟨⟨r, hr, h4⟩, h5⟩ | ⟨h4, h5⟩
      · exact .inl ⟨⟨r, List.mem_append_left _ hr, h4⟩, h5⟩
      · refine .inr ⟨fun r hr => ?_, h5⟩
        rcases List.mem_append.1 hr with hr | hr
        · exact h4 r hr
        · simp only [List.mem_singleton] at hr
          subst hr
          exact e
/-- Filled whole: each place has what the routes lead to. -/
theorem PlOk.done {L : List Rt} (hg : ∀ x ∈ L, x.k.good) {m : Nat} (hm : m ≤ 8) {xs : List Value} (H : PlOk (setS (sortR L) (-1) (m : Int)) m (setS (sortR L) (-1) (m : Int)).length xs) :
    ∀ i, i < 2 ^ m → xs[i * 2]? = some (.int .i64 (dirV L (i * 2 ^ (64 - m)) 0 m)) ∧ xs[i * 2 + 1]? = some (.bool (dirK L (i * 2 ^ (64 - m)) 0 m).isSome) := by
  intro i hi
  have hgN : ∀ r ∈ sortR L, r.k.good := fun x hx => hg x (sortR_sub hx)
  have ha : W64 (i * 2 ^ (64 - m)) := numA_w (by omega) hi
  have hz : W64 0 := W64.mk (by decide)
  obtain ⟨v, b, h1, h2, h3⟩ := H.2 i hi
  rw [List.take_of_length_le (Nat.le_refl _)] at h3
  have hsome := dir_some hgN ha hz hm
  rcases h3 with ⟨⟨r, hr, h4, h5⟩, rfl⟩ | ⟨h4, rfl, rfl⟩
  · obtain ⟨-, h6, h7⟩ := (mem_setS _ _ _ _).1 hr
    obtain ⟨k1, k2, k3⟩ := key_n (low := -1) (high := (m : Int)) (i := (sortR L).length) hgN (by rw [List.take_of_length_le (Nat.le_refl _)]; exact h6)
    have hk : r.k = cutK (i * 2 ^ (64 - m)) 0 m := by
      rw [← h4, ← cut_num k2.2 hm]
      obtain ⟨-, -, q1, q2⟩ := (rightB_iff _ _ _).1 k3
      rw [Int.toNat_natCast] at q1 q2
      unfold cutK
      rw [q1, q2, ← k1]
    rw [hk] at h6 h7
    refine ⟨?_, ?_⟩
    · rw [h1, ← h5, h7]
      rfl
    · rw [h2]
      unfold dirK
      rw [hsome.2 h6]
  · have hno : dirK L (i * 2 ^ (64 - m)) 0 m = none := by
      unfold dirK
      cases e : hopK (sortR L) (-1) (cutK (i * 2 ^ (64 - m)) 0 m) with
      | none => rfl
      | some x =>
        have h6 := hsome.1 (by rw [e]; rfl)
        refine absurd ?_ (h4 ⟨cutK (i * 2 ^ (64 - m)) 0 m, hopV (sortR L) (-1) (cutK (i * 2 ^ (64 - m)) 0 m)⟩ ((mem_setS _ _ _ _).2 ⟨by omega, h6, rfl⟩))
        show numA (cutW _ m) m = i
        rw [num_cut, numA_at]
    unfold dirV
    rw [hno]
    exact ⟨h1, h2⟩
/-- What lies at the places of an array that is filled with L. -/
structure DirP (w : World) (K : Nat → Prop) (t m : Nat) (L : List Rt) : Prop where
  kt : K t
  lt : t < w.heap.size
  le : m ≤ 8
  bits : w.cell? ⟨t, 0, none⟩ = some (.int .i64 (m : Int))
  f : w.frozen? ⟨t, 1, none⟩ = false
  row : ∃ h, K h ∧ h < w.heap.size ∧ h ≠ t ∧ w.cell? ⟨t, 1, none⟩ = some (.slice (some ⟨h, 0, none⟩) (2 ^ m) (2 ^ m)) ∧
    ∀ i, i < 2 ^ m → w.cell? ⟨h, i * 2, none⟩ = some (.int .i64 (dirV L (i * 2 ^ (64 - m)) 0 m)) ∧ w.cell? ⟨h, i * 2 + 1, none⟩ = some (.bool (dirK L (i * 2 ^ (64 - m)) 0 m).isSome)
theorem DirP.touched {w w' : World} {K S : Nat → Prop} {t m : Nat} {L : List Rt} (H : DirP w K t m L) (ht : Touch S w w') (hn : ∀ g, K g → ¬ S g) : DirP w' K t m L := by
  obtain ⟨h, k1, k2, k3, k4, k5⟩ := H.row
  refine ⟨H.kt, Nat.lt_of_lt_of_le H.lt ht.size, H.le, ht.cell H.bits (hn _ H.kt), ?_, h, k1, Nat.lt_of_lt_of_le k2 ht.size, k3, ht.cell k4 (hn _ H.kt), fun i hi => ⟨ht.cell (k5 i hi).1 (hn _ k1), ht.cell (k5 i hi).2 (hn _ k1)⟩⟩
  rw [World.frozen?_of_block (ht.block t H.lt (hn _ H.kt))]
  exact H.f
end Go.Proofs.Ytcfioplbbbaeoaa
