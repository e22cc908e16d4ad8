/-
  Plain mathematics of texts with colons, second part: a prefix is read as it was written. No program in it; no condition but those that stand in each theorem.
-/
import Derived.Test.YtegaeifmikfpcaaDoorM3
set_option linter.unusedSimpArgs false
set_option linter.unusedVariables false
namespace Go.Proofs.YtegaeifmikfpcaaDoor.M

theorem cut_dbl (l : List UInt8) : Lib.cut l [58, 58] = if 0 ≤ dblI l then (l.take (dblI l).toNat, l.drop ((dblI l).toNat + 2), true) else (l, [], false) := rfl

/-! Decimal. -/
theorem valGo_app (c : UInt8) : ∀ (l : List UInt8) (acc : Nat), valGo acc (l ++ [c]) = match valGo acc l with | none => none | some m => if digB c = true then some (m * 10 + (c.toNat - 48)) else none
  | [], acc => by simp [valGo]
  | b :: l, acc => by
    rw [List.cons_append]
    unfold valGo
    by_cases hb : digB b = true
    · rw [if_pos hb, if_pos hb]
      exact valGo_app c l _
    · rw [if_neg hb, if_neg hb]
theorem dec_val : ∀ (k : Nat) (l : List UInt8) (n : Nat), l.length = k → zeroed l = false → valGo 0 l = some n → Lib.decDigits n = l := by
  intro k
  induction k with
  | zero =>
    intro l n hk hz _
    obtain rfl : l = [] := List.eq_nil_of_length_eq_zero hk
    simp [zeroed] at hz
  | succ k ih =>
    intro l n hk hz hv
    obtain ⟨l', c, rfl⟩ : ∃ l' c, l = l' ++ [c] := by
      rcases List.eq_nil_or_concat l with rfl | ⟨l', c, h⟩
      · cases hk
      · exact ⟨l', c, by simpa using h⟩
    rw [valGo_app] at hv
    cases hm : valGo 0 l' with
    | none => rw [hm] at hv; cases hv
    | some m =>
      rw [hm] at hv
      simp only at hv
      split at hv
      · rename_i hd
        obtain ⟨d0, d1⟩ := (digB_iff c).1 hd
        have hc : UInt8.ofNat (48 + (c.toNat - 48)) = c := by
          apply u8_ext
          rw [UInt8.toNat_ofNat', Nat.mod_eq_of_lt (by omega)]; omega
        simp only [Option.some.injEq] at hv
        by_cases h0 : l' = []
        · subst h0
          simp only [valGo, Option.some.injEq] at hm
          subst hm
          rw [← hv, decDigits_small (by omega)]
          simp only [List.nil_append, Nat.zero_mul, Nat.zero_add, hc]
        · obtain ⟨a, t, rfl⟩ : ∃ a t, l' = a :: t := by cases l' with
            | nil => exact absurd rfl h0
            | cons a t => exact ⟨a, t, rfl⟩
          have ha : a ≠ 48 := by
            intro e
            subst e
            simp [zeroed] at hz
          have hz' : zeroed (a :: t) = false := by
            simp [zeroed, ha]
          have hi := ih (a :: t) m (by simpa using hk) hz' hm
          have hm0 : m ≠ 0 := by
            intro e
            subst e
            rw [decDigits_small (by omega)] at hi
            injection hi with h1 _
            exact ha h1.symm
          rw [← hv, decDigits_more (by omega)]
          rw [show (m * 10 + (c.toNat - 48)) / 10 = m by omega, show (m * 10 + (c.toNat - 48)) % 10 = c.toNat - 48 by omega, hc, hi]
      · cases hv
theorem num_dec {m n : Nat} {l : List UInt8} (h : numC m l = some n) : Lib.decDigits n = l := by
  unfold numC at h
  split at h
  · cases h
  · rename_i hz
    rw [numGo_val m l 0 (Nat.zero_le _)] at h
    cases hv : valGo 0 l with
    | none => rw [hv] at h; cases h
    | some k =>
      rw [hv] at h
      simp only at h
      split at h
      · cases h
      · cases h
        exact dec_val _ l n rfl (by simpa using hz) hv
def dec3 (n : Nat) : List UInt8 := if n < 10 then [UInt8.ofNat (48 + n)] else if n < 100 then [UInt8.ofNat (48 + n / 10), UInt8.ofNat (48 + n % 10)] else [UInt8.ofNat (48 + n / 10 / 10), UInt8.ofNat (48 + n / 10 % 10), UInt8.ofNat (48 + n % 10)]
theorem dec3_eq (n : Nat) (h : n < 1000) : Lib.decDigits n = dec3 n := by
  unfold dec3
  by_cases h1 : n < 10
  · rw [if_pos h1, decDigits_small h1]
  · rw [if_neg h1, decDigits_more h1]
    by_cases h2 : n < 100
    · rw [if_pos h2, decDigits_small (by omega)]; rfl
    · rw [if_neg h2, decDigits_more (by omega), decDigits_small (by omega)]; rfl
theorem itoa_nat (n : Nat) : Lib.itoa (n : Int) = Lib.decDigits n := by unfold Lib.itoa; rw [if_neg (by omega)]; simp
theorem atoi_dec (n : Nat) (h : n ≤ 128) : Lib.atoiAll (Lib.decDigits n) = .ok (n : Int) := by
  rw [dec3_eq n (by omega)]
  have : ∀ k : Fin 129, Lib.atoiAll (dec3 k.val) = .ok (k.val : Int) := by decide +kernel
  exact this ⟨n, by omega⟩
/-- How a length is read by the library's words. -/
theorem len_some {l : List UInt8} {n : Nat} (h : numC 128 l = some n) : Lib.atoiAll l = .ok (n : Int) ∧ Lib.itoa (n : Int) = l ∧ n ≤ 128 := by
  have h1 := num_dec h
  have h2 := numC_le h
  refine ⟨?_, (itoa_nat n).trans h1, h2⟩
  have := atoi_dec n h2
  rwa [h1] at this
theorem len_none {l : List UInt8} {v : Int} (h : numC 128 l = none) (ha : 0 ≤ v) (hb : v ≤ 128) : Lib.itoa v ≠ l := by
  intro e
  obtain ⟨n, rfl⟩ : ∃ n : Nat, v = n := ⟨v.toNat, by omega⟩
  rw [itoa_nat] at e
  rw [← e, numC_dec 128 n (by omega)] at h
  cases h

/-! Base 16. -/
theorem hexGo_snoc {c : UInt8} {d : Nat} (hc : hexD c = some d) : ∀ (l : List UInt8) (acc n : Nat), hexGo acc l = some n → hexGo acc (l ++ [c]) = some (n * 16 + d)
  | [], acc, n, h => by simp only [hexGo, Option.some.injEq] at h; subst h; simp [hexGo, hc]
  | b :: l, acc, n, h => by
    rw [List.cons_append]
    unfold hexGo at h ⊢
    cases hb : hexD b with
    | none => rw [hb] at h; cases h
    | some x =>
      rw [hb] at h
      exact hexGo_snoc hc l _ n h
theorem hexD_dg (k : Nat) (h : k < 16) : hexD (dg k) = some k := by
  have : ∀ k : Fin 16, hexD (dg k.val) = some k.val := by decide +kernel
  exact this ⟨k, h⟩
theorem hexF_get : ∀ (f n : Nat), 0 < f → n < 16 ^ f → hexGo 0 (hexF f n) = some n ∧ 0 < (hexF f n).length ∧ (hexF f n).length ≤ f ∧ ∀ c ∈ hexF f n, ∃ k, k < 16 ∧ c = dg k
  | 0, n, h, _ => absurd h (Nat.lt_irrefl 0)
  | f + 1, n, _, hn => by
    unfold hexF
    by_cases h : n < 16
    · rw [if_pos h]
      refine ⟨by simp [hexGo, hexD_dg n h], by simp, by simp, fun c hc => ⟨n, h, by simpa using hc⟩⟩
    · rw [if_neg h]
      have hf : 0 < f := by
        rcases Nat.eq_zero_or_pos f with rfl | h0
        · simp at hn; omega
        · exact h0
      obtain ⟨h1, h2, h3, h4⟩ := hexF_get f (n / 16) hf (by rw [Nat.pow_succ] at hn; omega)
      refine ⟨?_, by simp, by simp; omega, fun c hc => ?_⟩
      · rw [hexGo_snoc (hexD_dg (n % 16) (by omega)) _ _ _ h1]
        congr 1; omega
      · rcases List.mem_append.1 hc with hc | hc
        · exact h4 c hc
        · exact ⟨n % 16, by omega, by simpa using hc⟩
theorem dg_ne (k : Nat) (h : k < 16) : dg k ≠ 58 ∧ dg k ≠ 47 := by
  have : ∀ k : Fin 16, dg k.val ≠ 58 ∧ dg k.val ≠ 47 := by decide +kernel
  exact this ⟨k, h⟩
theorem hexS_get (n : Nat) (h : n < 65536) : hexV (hexS n) = some n ∧ 0 < (hexS n).length ∧ (hexS n).length ≤ 4 ∧ (∀ c ∈ hexS n, c ≠ 58) ∧ (∀ c ∈ hexS n, c ≠ 47) := by
  obtain ⟨h1, h2, h3, h4⟩ := hexF_get 4 n (by omega) (by omega)
  refine ⟨?_, h2, h3, fun c hc => ?_, fun c hc => ?_⟩
  · unfold hexV
    rw [if_neg]
    · exact h1
    · intro hh
      rcases hh with hh | hh
      · have : hexS n = [] := by simpa using hh
        unfold hexS at this
        rw [this] at h2; simp at h2
      · unfold hexS at hh; omega
  · obtain ⟨k, hk, rfl⟩ := h4 c hc
    exact (dg_ne k hk).1
  · obtain ⟨k, hk, rfl⟩ := h4 c hc
    exact (dg_ne k hk).2
def All16 (l : List Nat) : Prop := ∀ x ∈ l, x < 65536
theorem All16.take {l : List Nat} (h : All16 l) (k : Nat) : All16 (l.take k) := fun x hx => h x (List.mem_of_mem_take hx)
theorem All16.drop {l : List Nat} (h : All16 l) (k : Nat) : All16 (l.drop k) := fun x hx => h x (List.mem_of_mem_drop hx)
theorem grp_map : ∀ (l acc : List Nat), All16 l → grpGo acc (l.map hexS) = some (acc ++ l)
  | [], acc, _ => by simp [grpGo]
  | x :: l, acc, h => by
    rw [List.map_cons, grpGo, (hexS_get x (h x (by simp))).1]
    simp only
    rw [grp_map l (acc ++ [x]) (fun z hz => h z (by simp [hz]))]
    simp
theorem split_join : ∀ (l : List Nat), l ≠ [] → All16 l → splitB 58 (joinH l) = l.map hexS
  | [], h, _ => absurd rfl h
  | [x], _, h => by rw [joinH, splitB_none (hexS_get x (h x (by simp))).2.2.2.1]; rfl
  | x :: y :: l, _, h => by
    rw [joinH, splitB_at (hexS_get x (h x (by simp))).2.2.2.1, split_join (y :: l) (by simp) (fun z hz => h z (by simp only [List.mem_cons] at hz ⊢; exact Or.inr hz))]
    rfl
theorem joinH_head {x : Nat} {l : List Nat} (h : x < 65536) : ∃ c r, joinH (x :: l) = c :: r ∧ c ≠ 58 := by
  obtain ⟨-, h1, -, h2, -⟩ := hexS_get x h
  obtain ⟨c, r, hc⟩ : ∃ c r, hexS x = c :: r := by cases hh : hexS x with
    | nil => rw [hh] at h1; simp at h1
    | cons c r => exact ⟨c, r, rfl⟩
  have hne : c ≠ 58 := h2 c (by rw [hc]; simp)
  cases l with
  | nil => exact ⟨c, r, by rw [joinH, hc], hne⟩
  | cons y l => exact ⟨c, r ++ 58 :: joinH (y :: l), by rw [joinH, hc]; rfl, hne⟩
theorem joinH_nil {l : List Nat} (h : All16 l) : joinH l = [] ↔ l = [] := by
  constructor
  · intro e
    cases l with
    | nil => rfl
    | cons x l =>
      obtain ⟨c, r, hc, -⟩ := joinH_head (l := l) (h x (by simp))
      rw [hc] at e; cases e
  · rintro rfl; rfl
theorem group_join {l : List Nat} (h : All16 l) : groupV (joinH l) = some l := by
  unfold groupV
  by_cases h0 : l = []
  · subst h0; rfl
  · have hne : ¬ (joinH l).isEmpty = true := by
      intro e
      exact h0 ((joinH_nil h).1 (by simpa using e))
    rw [if_neg hne, split_join l h0 h, grp_map l [] h]
    simp
theorem joinH_47 : ∀ (l : List Nat), All16 l → ∀ c ∈ joinH l, c ≠ 47
  | [], _, c, hc => by simp [joinH] at hc
  | [x], h, c, hc => (hexS_get x (h x (by simp))).2.2.2.2 c hc
  | x :: y :: l, h, c, hc => by
    rw [joinH] at hc
    rcases List.mem_append.1 hc with h1 | h1
    · exact (hexS_get x (h x (by simp))).2.2.2.2 c h1
    · rcases List.mem_cons.1 h1 with rfl | h2
      · decide
      · exact joinH_47 (y :: l) (fun z hz => h z (by simp only [List.mem_cons] at hz ⊢; exact Or.inr hz)) c h2

/-! Where two colons stand. -/
theorem dbl_cons {b : UInt8} {l : List UInt8} (h : b ≠ 58) : dblI (b :: l) = if dblI l = -1 then -1 else dblI l + 1 := by
  unfold dblI
  rw [Lib.index]
  have : ([58, 58] : List UInt8).isPrefixOf (b :: l) = false := by simp [List.isPrefixOf, Ne.symm h]
  rw [this]; simp
theorem dbl_one {c : UInt8} {l : List UInt8} (h : c ≠ 58) : dblI (58 :: c :: l) = if dblI (c :: l) = -1 then -1 else dblI (c :: l) + 1 := by
  unfold dblI
  rw [Lib.index]
  have : ([58, 58] : List UInt8).isPrefixOf (58 :: c :: l) = false := by simp [List.isPrefixOf, Ne.symm h]
  rw [this]; simp
theorem dbl_two (l : List UInt8) : dblI (58 :: 58 :: l) = 0 := by
  unfold dblI
  rw [Lib.index]
  have : ([58, 58] : List UInt8).isPrefixOf (58 :: 58 :: l) = true := by simp [List.isPrefixOf]
  rw [this]; simp
theorem dbl_skip (r : List UInt8) : ∀ (x : List UInt8), (∀ c ∈ x, c ≠ 58) → dblI (x ++ r) = if dblI r = -1 then -1 else dblI r + x.length
  | [], _ => by
    simp only [List.nil_append, List.length_nil]
    split <;> omega
  | b :: x, h => by
    rw [List.cons_append, dbl_cons (h b (by simp)), dbl_skip r x (fun c hc => h c (by simp [hc]))]
    have := Lib.index_ge r [58, 58]
    unfold dblI at *
    by_cases h1 : Lib.index r [58, 58] = -1
    · simp [h1]
    · rw [if_neg h1, if_neg (by omega), if_neg h1]
      simp; omega
theorem dbl_join : ∀ (l : List Nat), All16 l → dblI (joinH l) = -1
  | [], _ => rfl
  | [x], h => by
    have := dbl_skip [] (hexS x) (hexS_get x (h x (by simp))).2.2.2.1
    rw [List.append_nil] at this
    rw [joinH, this]; rfl
  | x :: y :: l, h => by
    have h' : All16 (y :: l) := fun z hz => h z (by simp only [List.mem_cons] at hz ⊢; exact Or.inr hz)
    obtain ⟨c, r, hc, hne⟩ := joinH_head (l := l) (h y (by simp))
    have h1 := dbl_join (y :: l) h'
    rw [joinH, dbl_skip _ _ (hexS_get x (h x (by simp))).2.2.2.1]
    rw [hc] at h1 ⊢
    rw [dbl_one hne, h1]; rfl
theorem dbl_mid (t : List UInt8) : ∀ (l : List Nat), All16 l → dblI (joinH l ++ 58 :: 58 :: t) = (joinH l).length
  | [], _ => dbl_two t
  | [x], h => by
    rw [joinH, dbl_skip _ _ (hexS_get x (h x (by simp))).2.2.2.1, dbl_two]; simp
  | x :: y :: l, h => by
    have h' : All16 (y :: l) := fun z hz => h z (by simp only [List.mem_cons] at hz ⊢; exact Or.inr hz)
    obtain ⟨c, r, hc, hne⟩ := joinH_head (l := l) (h y (by simp))
    have h1 := dbl_mid t (y :: l) h'
    rw [joinH, List.append_assoc, dbl_skip _ _ (hexS_get x (h x (by simp))).2.2.2.1, List.cons_append]
    rw [hc] at h1 ⊢
    rw [List.cons_append] at h1 ⊢
    rw [dbl_one hne, h1]
    rw [if_neg (by omega), if_neg (by omega)]
    simp; omega

/-! Read as it was written. -/
theorem words_lt (hi lo : Nat) : All16 (wordsL hi lo) := by
  intro x hx
  simp only [wordsL, List.mem_cons, List.not_mem_nil, or_false] at hx
  rcases hx with rfl | rfl | rfl | rfl | rfl | rfl | rfl | rfl <;> (unfold word; omega)
theorem pack_words (w : Nat) (h : w < 2 ^ 64) : packGo 0 [word w 0, word w 1, word w 2, word w 3] = w := by
  simp only [packGo, word]
  omega
theorem hi_words (hi lo : Nat) (h : hi < 2 ^ 64) : hiOf (wordsL hi lo) = hi := pack_words hi h
theorem lo_words (hi lo : Nat) (h : lo < 2 ^ 64) : loOf (wordsL hi lo) = lo := pack_words lo h
theorem words_show {l : List Nat} (hl : l.length = 8) (h : All16 l) : wordsV (showW l) = some l := by
  unfold showW wordsV
  rcases zrow_spec hl with ⟨h1, -, h2, h3, h4⟩ | ⟨h1, -⟩
  · rw [if_pos h1, dbl_mid _ _ (h.take _)]
    rw [if_pos (by omega)]
    simp only [Int.toNat_natCast]
    rw [List.take_left' rfl, show (joinH (l.take (zrow l).1)).length + 2 = (joinH (l.take (zrow l).1) ++ [58, 58]).length by simp,
      show joinH (l.take (zrow l).1) ++ 58 :: 58 :: joinH (l.drop (zrow l).2) = (joinH (l.take (zrow l).1) ++ [58, 58]) ++ joinH (l.drop (zrow l).2) by simp, List.drop_left' rfl]
    rw [group_join (h.take _), group_join (h.drop _)]
    simp only [fillV]
    have e1 : (l.take (zrow l).1).length = (zrow l).1 := by simp; omega
    have e2 : (l.drop (zrow l).2).length = 8 - (zrow l).2 := by simp [hl]
    rw [e1, e2, if_pos (by omega), show 8 - ((zrow l).1 + (8 - (zrow l).2)) = (zrow l).2 - (zrow l).1 by omega, ← h4]
    congr 1
    rw [show l.take (zrow l).1 = (l.take (zrow l).2).take (zrow l).1 by rw [List.take_take, Nat.min_eq_left (by omega)], List.take_append_drop, List.take_append_drop]
  · rw [if_neg h1, dbl_join l h, if_neg (by omega), group_join h]
    simp [eightV, hl]
theorem showW_47 {l : List Nat} (h : All16 l) : ∀ c ∈ showW l, c ≠ 47 := by
  intro c hc
  unfold showW at hc
  split at hc
  · rcases List.mem_append.1 hc with h1 | h1
    · exact joinH_47 _ (h.take _) c h1
    · simp only [List.mem_cons] at h1
      rcases h1 with rfl | rfl | h1
      · decide
      · decide
      · exact joinH_47 _ (h.drop _) c h1
  · exact joinH_47 _ h c hc
theorem dec_47 (n : Nat) (h : n ≤ 128) : ∀ c ∈ Lib.decDigits n, c ≠ 47 := digs_ne (numC_dec 128 n h) 47 (by decide)
theorem read_showK (hi lo : Nat) (n : Int) (ha : hi < 2 ^ 64) (hb : lo < 2 ^ 64) (hr : rightB hi lo n = true) : readK (showK hi lo n) = (hi, lo, n.toNat, 0) := by
  obtain ⟨h0, h1, -, -⟩ := (rightB_iff hi lo n).1 hr
  unfold showK readK
  rw [if_pos hr, splitB_at (showW_47 (words_lt hi lo)), splitB_none (dec_47 n.toNat (by omega))]
  simp only
  rw [words_show (by rfl) (words_lt hi lo), ← numC_eq 128 (by omega), numC_dec 128 n.toNat (by omega)]
  simp only [fin6]
  rw [hi_words hi lo ha, lo_words hi lo hb, if_pos]
  rw [show ((n.toNat : Nat) : Int) = n by omega]; exact hr
theorem showK_inj (h1 l1 h2 l2 : Nat) (n1 n2 : Int) (a1 : h1 < 2 ^ 64) (b1 : l1 < 2 ^ 64) (a2 : h2 < 2 ^ 64) (b2 : l2 < 2 ^ 64) (r1 : rightB h1 l1 n1 = true) (r2 : rightB h2 l2 n2 = true) :
    showK h1 l1 n1 = showK h2 l2 n2 ↔ h1 = h2 ∧ l1 = l2 ∧ n1 = n2 := by
  constructor
  · intro e
    have e1 := read_showK h1 l1 n1 a1 b1 r1
    have e2 := read_showK h2 l2 n2 a2 b2 r2
    rw [e] at e1
    rw [e1] at e2
    simp only [Prod.mk.injEq] at e2
    have := (rightB_iff h1 l1 n1).1 r1
    have := (rightB_iff h2 l2 n2).1 r2
    exact ⟨e2.1, e2.2.1, by omega⟩
  · rintro ⟨rfl, rfl, rfl⟩; rfl

/-! How it is written, number by number. -/
theorem joinH_snoc (x : Nat) : ∀ (l : List Nat), joinH (l ++ [x]) = joinH l ++ (if l = [] then [] else [58]) ++ hexS x
  | [] => by simp [joinH]
  | [y] => by simp [joinH]
  | y :: z :: l => by
    have := joinH_snoc x (z :: l)
    rw [List.cons_append, List.cons_append, joinH, ← List.cons_append, this]
    simp [joinH]
theorem take_ne {l : List Nat} {i : Nat} (h : i < l.length) (h0 : ¬ i = 0) : l.take i ≠ [] := by
  intro e
  have : (l.take i).length = 0 := by rw [e]; rfl
  rw [List.length_take] at this; omega
theorem joinH_take {l : List Nat} {i : Nat} (h : i < l.length) : joinH (l.take (i + 1)) = joinH (l.take i) ++ (if i = 0 then [] else [58]) ++ hexS l[i] := by
  rw [List.take_succ_eq_append_getElem h, joinH_snoc]
  congr 2
  by_cases h0 : i = 0
  · subst h0; simp
  · rw [if_neg h0, if_neg (take_ne h h0)]
/-- What stands behind i numbers. -/
def shS (w : List Nat) (f t i : Nat) : List UInt8 := if f < t ∧ t ≤ i then joinH (w.take f) ++ 58 :: 58 :: joinH ((w.take i).drop t) else joinH (w.take i)
theorem shS_end {w : List Nat} (hw : w.length = 8) : shS w (zrow w).1 (zrow w).2 8 = showW w := by
  unfold shS showW
  rcases zrow_spec hw with ⟨h1, -, h2, -, -⟩ | ⟨h1, -⟩
  · rw [if_pos ⟨h1, h2⟩, if_pos h1, show w.take 8 = w from List.take_of_length_le (by omega)]
  · rw [if_neg (fun h => h1 h.1), if_neg h1, show w.take 8 = w from List.take_of_length_le (by omega)]
theorem joinH_last {l : List Nat} (h : All16 l) (h0 : l ≠ []) : ∃ r c, joinH l = r ++ [c] ∧ c ≠ 58 := by
  rcases List.eq_nil_or_concat l with rfl | ⟨l', x, rfl⟩
  · exact absurd rfl h0
  · rw [List.concat_eq_append, joinH_snoc]
    obtain ⟨-, h1, -, h2, -⟩ := hexS_get x (h x (by simp))
    rcases List.eq_nil_or_concat (hexS x) with e | ⟨r, c, e⟩
    · rw [e] at h1; simp at h1
    · refine ⟨joinH l' ++ (if l' = [] then [] else [58]) ++ r, c, by rw [e]; simp, h2 c (by rw [e]; simp)⟩
/-- Does a colon stand ahead of the next number? -/
def colonB (s : List UInt8) : Bool := !s.isEmpty && decide (s.getLast? ≠ some 58)
theorem colonB_snoc {r : List UInt8} {c : UInt8} (h : c ≠ 58) : colonB (r ++ [c]) = true := by simp [colonB, h]
theorem shS_step {w : List Nat} {f t i : Nat} (hw : All16 w) (hi : i < w.length) (hm : f < t → i < f ∨ t ≤ i) :
    shS w f t (i + 1) = shS w f t i ++ (if colonB (shS w f t i) = true then [58] else []) ++ hexS w[i] := by
  unfold shS
  by_cases hft : f < t
  · rcases hm hft with h | h
    · rw [if_neg (by omega), if_neg (by omega), joinH_take hi]
      by_cases h0 : i = 0
      · subst h0; simp [colonB, joinH]
      · obtain ⟨r, c, e, hc⟩ := joinH_last (hw.take i) (take_ne hi h0)
        rw [e]; simp [colonB, h0, hc]
    · rw [if_pos ⟨hft, by omega⟩, if_pos ⟨hft, h⟩]
      have e1 : (w.take (i + 1)).drop t = (w.take i).drop t ++ [w[i]] := by
        rw [List.take_succ_eq_append_getElem hi, List.drop_append_of_le_length (by simp; omega)]
      rw [e1, joinH_snoc]
      by_cases h0 : (w.take i).drop t = []
      · rw [h0]; simp [colonB, joinH]
      · obtain ⟨r, c, e, hc⟩ := joinH_last ((hw.take i).drop t) h0
        rw [e, if_neg h0, show joinH (w.take f) ++ 58 :: 58 :: (r ++ [c]) = (joinH (w.take f) ++ 58 :: 58 :: r) ++ [c] by simp, colonB_snoc hc]
        simp
  · rw [if_neg (by omega), if_neg (by omega), joinH_take hi]
    by_cases h0 : i = 0
    · subst h0; simp [colonB, joinH]
    · obtain ⟨r, c, e, hc⟩ := joinH_last (hw.take i) (take_ne hi h0)
      rw [e]; simp [colonB, h0, hc]
theorem shS_gap {w : List Nat} {f t : Nat} (hft : f < t) (ht : t ≤ w.length) : shS w f t t = shS w f t f ++ [58, 58] := by
  unfold shS
  rw [if_pos ⟨hft, Nat.le_refl _⟩, if_neg (by omega)]
  have : (w.take t).drop t = [] := List.drop_eq_nil_of_le (by simp; omega)
  rw [this]; simp [joinH]
end Go.Proofs.YtegaeifmikfpcaaDoor.M
