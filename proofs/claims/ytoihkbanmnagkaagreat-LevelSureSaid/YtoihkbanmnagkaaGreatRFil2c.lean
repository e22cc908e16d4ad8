/-
  What May of the reference's filter says. No condition but those that stand in each.
-/
import Derived.Test.YtoihkbanmnagkaaGreatM14c
import Derived.Test.YtoihkbanmnagkaaGreatM12b
import Derived.Test.YtoihkbanmnagkaaGreatLtR
/-
  Plain mathematics of what turns in a level: when a route comes, or goes, nothing turns but keys that it has, and at most 256. No condition but those that stand in each.
-/
set_option linter.unusedSimpArgs false
set_option linter.unusedVariables false
namespace Go.Proofs.YtoihkbanmnagkaaGreat
open M

theorem dep_get (N : List Rt) (ah al m : Nat) : depV N ah al m = getS N (cutK ah al m) := rfl
/-- The hop of a key by what the row has of it at each length. -/
theorem hop_best {N : List Rt} (hN : Sorted N) (low : Int) (k : Ky) : hopK N low k = (bestM (depV N k.h k.l) low k.n 129).bind (depV N k.h k.l) := by
  unfold hopK
  rcases lng_best (N := N) k.h k.l low k.n with ⟨h1, h2⟩ | ⟨b, hb, m, h1, h2, h3⟩
  · rw [h1, h2]; rfl
  · rw [h1, h2]
    show some (N.getD b _).v = depV N k.h k.l m
    rw [getD_at hb, dep_of hN.nodup (List.getElem_mem hb) h3]
theorem getS_set {N : List Rt} {low high : Int} (hl : low < high) (k : Ky) : getS (setS N low high) k = if k ∈ keysS N low high then some (hopV N low k) else none := by
  by_cases h : k ∈ keysS N low high
  · rw [if_pos h]
    exact (getS_some (set_sorted N low high)).2 ((mem_setS _ _ _ _).2 ⟨hl, h, rfl⟩)
  · rw [if_neg h, getS_none]
    unfold keysR
    rw [List.mem_map]
    rintro ⟨q, hq, rfl⟩
    exact h ((mem_setS _ _ _ _).1 hq).2.1
theorem mem_keysS {N : List Rt} {low high : Int} {k : Ky} : k ∈ keysS N low high ↔ ∃ j ∈ keysR N, low < j.n ∧ j.n ≤ high ∧ k ∈ sprK j high := by
  unfold keysS keysR insB
  simp only [List.mem_flatMap, List.mem_filter, Bool.and_eq_true, decide_eq_true_eq, List.mem_map]
  constructor
  · rintro ⟨r, ⟨hr, h1, h2⟩, hk⟩
    exact ⟨r.k, ⟨r, hr, rfl⟩, h1, h2, hk⟩
  · rintro ⟨_, ⟨r, hr, rfl⟩, h1, h2, hk⟩
    exact ⟨r, ⟨hr, h1, h2⟩, hk⟩
/-- The routes with p leading to hop, or without p. -/
def lvlM (N : List Rt) (p : Ky) (hop : Int) : List Rt := if 0 ≤ hop then intoS (outS N p) ⟨p, hop⟩ else outS N p
theorem lvl_sorted {N : List Rt} (h : Sorted N) (p : Ky) (hop : Int) : Sorted (lvlM N p hop) := by
  unfold lvlM
  split
  · exact intoS_sorted _ (outS_sorted _ h)
  · exact outS_sorted _ h
theorem lvl_far {N : List Rt} (h : Sorted N) {p k : Ky} (hop : Int) (hk : k ≠ p) : getS (lvlM N p hop) k = getS N k := by
  unfold lvlM
  split
  · rw [getS_into (outS_sorted _ h), if_neg hk, getS_out h, if_neg hk]
  · rw [getS_out h, if_neg hk]
theorem lvl_good {N : List Rt} (hg : ∀ r ∈ N, W64 r.k.h ∧ W64 r.k.l) {p : Ky} (hp : W64 p.h ∧ W64 p.l) (h : Sorted N) (hop : Int) : ∀ r ∈ lvlM N p hop, W64 r.k.h ∧ W64 r.k.l := by
  intro r hr
  unfold lvlM at hr
  split at hr
  · rcases (mem_into (outS_sorted _ h)).1 hr with e | ⟨e, _⟩
    · rw [e]; exact hp
    · exact hg r (mem_outS.1 e).1
  · exact hg r (mem_outS.1 hr).1
theorem keysR_good {N : List Rt} (hg : ∀ r ∈ N, W64 r.k.h ∧ W64 r.k.l) {j : Ky} (hj : j ∈ keysR N) : W64 j.h ∧ W64 j.l := by
  unfold keysR at hj
  obtain ⟨r, hr, rfl⟩ := List.mem_map.1 hj
  exact hg r hr
theorem keysS_n {N : List Rt} (hg : ∀ r ∈ N, W64 r.k.h ∧ W64 r.k.l) {low high : Int} {k : Ky} (h : k ∈ keysS N low high) : k.n = high := by
  obtain ⟨j, hj, -, -, hk⟩ := mem_keysS.1 h
  have := keysR_good hg hj
  exact ((mem_spr this.1 this.2 _ _).1 hk).2.2.2.1
/-- NOTHING TURNS BUT KEYS THAT THE ROUTE HAS. -/
theorem few {N : List Rt} (hN : Sorted N) (hg : ∀ r ∈ N, W64 r.k.h ∧ W64 r.k.l) {p : Ky} (hp : W64 p.h ∧ W64 p.l) (hop : Int) {low high : Int} (hl : low < high) {c : Ch} (hc : c ∈ ofS (setS N low high) (setS (lvlM N p hop) low high)) :
    c.k.n = high ∧ hasB p.h p.l p.n c.k.h c.k.l = true ∧ low < p.n ∧ p.n ≤ high ∧ c.k ∈ sprK p high := by
  obtain ⟨h1, -⟩ := (mem_of _ _ c).1 hc
  generalize c.k = k at h1 ⊢
  have hM := lvl_sorted hN p hop
  have hgM := lvl_good hg hp hN hop
  rw [getS_set hl, getS_set hl] at h1
  have hn : k.n = high := by
    by_cases e1 : k ∈ keysS N low high
    · exact keysS_n hg e1
    · by_cases e2 : k ∈ keysS (lvlM N p hop) low high
      · exact keysS_n hgM e2
      · rw [if_neg e1, if_neg e2] at h1; exact absurd rfl h1
  have hkeys : ∀ j, j ≠ p → (j ∈ keysR (lvlM N p hop) ↔ j ∈ keysR N) := fun j hj => by
    have e := lvl_far hN hop hj
    have a := getS_none (N := lvlM N p hop) (k := j)
    have b := getS_none (N := N) (k := j)
    rw [e] at a
    constructor
    · intro h3
      by_cases h4 : j ∈ keysR N
      · exact h4
      · exact absurd h3 (a.1 (b.2 h4))
    · intro h3
      by_cases h4 : j ∈ keysR (lvlM N p hop)
      · exact h4
      · exact absurd h3 (b.1 (a.2 h4))
  have main : ¬ (hasB p.h p.l p.n k.h k.l = true ∧ low < p.n ∧ p.n ≤ high ∧ k ∈ sprK p high) → False := by
    intro hno
    have hin : k ∈ keysS N low high ↔ k ∈ keysS (lvlM N p hop) low high := by
      rw [mem_keysS, mem_keysS]
      constructor
      · rintro ⟨j, hj, h2, h3, h4⟩
        have hjp : j ≠ p := fun e => by
          subst e
          exact hno ⟨((mem_spr hp.1 hp.2 _ _).1 h4).2.2.2.2.2.2.2, h2, h3, h4⟩
        exact ⟨j, (hkeys j hjp).2 hj, h2, h3, h4⟩
      · rintro ⟨j, hj, h2, h3, h4⟩
        have hjp : j ≠ p := fun e => by
          subst e
          exact hno ⟨((mem_spr hp.1 hp.2 _ _).1 h4).2.2.2.2.2.2.2, h2, h3, h4⟩
        exact ⟨j, (hkeys j hjp).1 hj, h2, h3, h4⟩
    by_cases hk : k ∈ keysS N low high
    · rw [if_pos hk, if_pos (hin.1 hk)] at h1
      apply h1
      congr 1
      have hw : W64 k.h ∧ W64 k.l ∧ rightB k.h k.l k.n = true := by
        obtain ⟨j, hj, -, -, h4⟩ := mem_keysS.1 hk
        have := keysR_good hg hj
        have h5 := (mem_spr this.1 this.2 _ _).1 h4
        exact ⟨h5.2.2.2.2.1, h5.2.2.2.2.2.1, by rw [hn]; exact h5.2.2.2.2.2.2.1⟩
      have h128 : high ≤ 128 := by
        have := (rightB_val _ _ _ hw.2.1).1 hw.2.2
        omega
      obtain ⟨j, hj, hj1, hj2, hj3⟩ := mem_keysS.1 hk
      have hg4 := keysR_good hg hj
      have h5 := (mem_spr hg4.1 hg4.2 _ _).1 hj3
      obtain ⟨mj, hmj, hje⟩ := (has_cutK _ _ _).1 h5.2.2.2.2.2.2.2
      have hjn : j.n = (mj : Int) := by rw [hje]; rfl
      have hD : ∀ m : Nat, mj ≤ m → low < (m : Int) → (m : Int) ≤ high → depV (lvlM N p hop) k.h k.l m = depV N k.h k.l m := fun m h0 h2 h3 => by
        rw [dep_get, dep_get]
        refine lvl_far hN hop fun e => ?_
        have hh : hasB p.h p.l p.n k.h k.l = true := (has_cutK _ _ _).2 ⟨m, by omega, e.symm⟩
        have hpn : p.n = (m : Int) := by rw [← e]; rfl
        exact hno ⟨hh, by omega, by omega, (mem_spr hp.1 hp.2 _ _).2 ⟨by omega, by omega, by omega, hn, hw.1, hw.2.1, by rw [← hn]; exact hw.2.2, hh⟩⟩
      unfold hopV
      rw [hop_best hN, hop_best hM, hn]
      have hdj : (depV N k.h k.l mj).isSome = true := by
        rw [dep_get, ← hje]
        cases h6 : getS N j with
        | some v => rfl
        | none => exact absurd hj (getS_none.1 h6)
      obtain ⟨b, hbm⟩ : ∃ b, bestM (depV N k.h k.l) low high 129 = some b := by
        cases hb : bestM (depV N k.h k.l) low high 129 with
        | some b => exact ⟨b, rfl⟩
        | none => exact absurd ⟨by omega, by omega, hdj⟩ (best_none.1 hb mj (by omega))
      obtain ⟨b1, b2, b3⟩ := best_some.1 hbm
      have hbj : mj ≤ b := by
        by_cases h6 : mj ≤ b
        · exact h6
        · exact absurd ⟨by omega, by omega, hdj⟩ (b3 mj (by omega) (by omega))
      have hbm2 : bestM (depV (lvlM N p hop) k.h k.l) low high 129 = some b := best_some.2 ⟨b1, ⟨b2.1, b2.2.1, by rw [hD b hbj b2.1 b2.2.1]; exact b2.2.2⟩, fun m m1 m2 m3 => b3 m m1 m2 ⟨m3.1, m3.2.1, by rw [← hD m (by omega) m3.1 m3.2.1]; exact m3.2.2⟩⟩
      rw [hbm, hbm2]
      show (depV N k.h k.l b).getD 0 = (depV (lvlM N p hop) k.h k.l b).getD 0
      rw [hD b hbj b2.1 b2.2.1]
    · rw [if_neg hk, if_neg (fun h => hk (hin.2 h))] at h1
      exact h1 rfl
  by_cases hcc : hasB p.h p.l p.n k.h k.l = true ∧ low < p.n ∧ p.n ≤ high ∧ k ∈ sprK p high
  · exact ⟨hn, hcc⟩
  · exact (main hcc).elim
theorem nodup_le : ∀ {L M : List Ky}, L.Nodup → (∀ k ∈ L, k ∈ M) → L.length ≤ M.length
  | [], _, _, _ => Nat.zero_le _
  | a :: L, M, hn, h => by
    have ha := h a List.mem_cons_self
    have h2 := List.nodup_cons.1 hn
    have := nodup_le (M := M.erase a) h2.2 fun k hk => (List.mem_erase_of_ne (fun e => h2.1 (by rw [← e]; exact hk))).2 (h k (List.mem_cons_of_mem _ hk))
    rw [List.length_erase_of_mem ha] at this
    have hp : 0 < M.length := List.length_pos_of_mem ha
    simp only [List.length_cons]
    omega
theorem few_len {N : List Rt} (hN : Sorted N) (hg : ∀ r ∈ N, W64 r.k.h ∧ W64 r.k.l) {p : Ky} (hp : W64 p.h ∧ W64 p.l) (hop : Int) {low high : Int} (hl : low < high) (hw8 : high - low ≤ 8) : (ofS (setS N low high) (setS (lvlM N p hop) low high)).length ≤ 256 := by
  have h := nodup_le (L := (ofS (setS N low high) (setS (lvlM N p hop) low high)).map Ch.k) (M := sprK p high) (of_nodup _ _) fun k hk => by
    obtain ⟨c, hc, rfl⟩ := List.mem_map.1 hk
    exact (few hN hg hp hop hl hc).2.2.2.2
  rw [List.length_map] at h
  refine Nat.le_trans h ?_
  unfold sprK
  rw [List.length_map, keysV_len _ _ _ _ hp.2]
  exact cnt_le _ _ _ _
end Go.Proofs.YtoihkbanmnagkaaGreat
/-
  Plain mathematics of a level: a filter's counters beside a table; what a change turns; that what is in the table is never missed by the filter. No condition but those that stand in each.
-/
set_option linter.unusedSimpArgs false
set_option linter.unusedVariables false
namespace Go.Proofs.YtoihkbanmnagkaaGreat
open M

/-- A level: its bits, its filter (seed, hashes, counters), its table. -/
structure Lv where
  n : Int
  s : Nat
  k : Int
  C : List Nat
  T : Tab
def Lv.plc (V : Lv) (q : Ky) : List Int := Go.Proofs.YtoihkbanmnagkaaGreat.plc V.s q.h q.l q.n V.k V.C.length
def Lv.has (V : Lv) (q : Ky) : Bool := (getT V.T q).isSome
/-- One change. -/
def Lv.turn (V : Lv) (c : Ch) : Lv :=
  if c.k.n = V.n then
    if 0 ≤ c.n then { V with C := if V.has c.k then V.C else addL V.C (V.plc c.k), T := putF 16 V.T ⟨c.k, c.n⟩ }
    else if V.has c.k then { V with C := remL V.C (V.plc c.k), T := (delT V.T c.k).1 } else V
  else V
def Lv.turns (V : Lv) (L : List Ch) : Lv := L.foldl Lv.turn V
theorem Lv.turns_snoc (V : Lv) (L : List Ch) (c : Ch) : V.turns (L ++ [c]) = (V.turns L).turn c := by unfold Lv.turns; rw [List.foldl_append]; rfl
/-- What an address finds: its hop, whether it is there, whether the filter says that it may be. -/
def Lv.key (V : Lv) (ah al : Nat) : Ky := cutK ah al V.n.toNat
def Lv.may (V : Lv) (ah al : Nat) : Bool := mayL V.C (V.plc (V.key ah al))
def Lv.hit (V : Lv) (ah al : Nat) : Option Int := if V.may ah al then getT V.T (V.key ah al) else none
/-- What its row has when it turns. -/
def rowT (n : Int) (N : List Rt) (c : Ch) : List Rt := if c.k.n = n then stepC N c else N
/-- How often a place is taken by the keys of a row. -/
def Lv.cnt (V : Lv) (N : List Rt) (j : Nat) : Nat := ((keysR N).flatMap V.plc).count (j : Int)
structure LvOk (V : Lv) (N : List Rt) : Prop where
  kept : Kept V.T N
  small : ∀ c ∈ V.C, c ≤ 15
  cov : ∀ j, j < V.C.length → min 15 (V.cnt N j) ≤ getN V.C (j : Int)
  len : ∀ r ∈ N, r.k.n = V.n
theorem getN_at21 {C : List Nat} {j : Nat} (h : j < C.length) : getN C (j : Int) = C[j] := by
  unfold getN
  rw [if_pos (by omega), Int.toNat_natCast, List.getD_eq_getElem?_getD, List.getElem?_eq_getElem h]
  rfl
theorem getN_set21 (C : List Nat) (a v j : Nat) (h : j < C.length) : getN (C.set a v) (j : Int) = if a = j then v else getN C (j : Int) := by
  rw [getN_at21 (by simpa using h), List.getElem_set, getN_at21 h]
theorem upL_get (C : List Nat) (i : Int) (j : Nat) (h : j < C.length) (h16 : ∀ c ∈ C, c ≤ 15) : min 15 (getN C (j : Int) + [i].count (j : Int)) ≤ getN (upL C i) (j : Int) := by
  have hj := h16 _ (List.getElem_mem h)
  rw [← getN_at21 h] at hj
  unfold upL
  by_cases e : i = (j : Int)
  · subst e
    have hc : [(j : Int)].count (j : Int) = 1 := by simp
    rw [hc]
    by_cases hb : upB C (j : Int) = true
    · rw [if_pos hb, getN_set21 _ _ _ _ h, if_pos (by simp)]
      omega
    · rw [if_neg hb]
      unfold upB at hb
      simp only [Bool.and_eq_true, decide_eq_true_eq, not_and] at hb
      have h2 := hb ⟨by omega, by omega⟩
      omega
  · have hc : [i].count (j : Int) = 0 := by simp [List.count_cons, e]
    rw [hc]
    split
    · rename_i hb
      unfold upB at hb
      simp only [Bool.and_eq_true, decide_eq_true_eq] at hb
      rw [getN_set21 _ _ _ _ h, if_neg (by omega)]
      omega
    · omega
theorem upL_small (C : List Nat) (i : Int) (h16 : ∀ c ∈ C, c ≤ 15) : ∀ c ∈ upL C i, c ≤ 15 := by
  intro c hc
  unfold upL at hc
  split at hc
  · rename_i hb
    rcases List.mem_or_eq_of_mem_set hc with h | h
    · exact h16 c h
    · subst h
      have := getN_lt h16 i
      unfold upB at hb
      simp only [Bool.and_eq_true, decide_eq_true_eq] at hb
      omega
  · exact h16 c hc
theorem addL_get : ∀ (L : List Int) (C : List Nat) (j : Nat), j < C.length → (∀ c ∈ C, c ≤ 15) → min 15 (getN C (j : Int) + L.count (j : Int)) ≤ getN (addL C L) (j : Int)
  | [], C, j, _, _ => by
    show min 15 (_ + 0) ≤ getN C (j : Int)
    omega
  | i :: L, C, j, h, h16 => by
    show _ ≤ getN (addL (upL C i) L) (j : Int)
    have h1 := upL_get C i j h h16
    have h2 := addL_get L (upL C i) j (by rw [upL_len]; exact h) (upL_small C i h16)
    have h3 : (i :: L).count (j : Int) = [i].count (j : Int) + L.count (j : Int) := by
      rw [show i :: L = [i] ++ L from rfl, List.count_append]
    rw [h3]
    omega
theorem addL_small : ∀ (L : List Int) (C : List Nat), (∀ c ∈ C, c ≤ 15) → ∀ c ∈ addL C L, c ≤ 15
  | [], _, h => h
  | i :: L, C, h => addL_small L (upL C i) (upL_small C i h)
theorem get_none21 {T : Tab} (H : Inv T) {k : Ky} (h : k ∉ keysR (contT T)) : getT T k = none := by
  have hno : ∀ b, b < T.B.length → getC (T.bk b) k = none := by
    intro b hb
    cases e : getC (T.bk b) k with
    | none => rfl
    | some v =>
      obtain ⟨i, hi, -, q, hq, hqk, -⟩ := getC_some (by rw [e]; rfl : (getC (T.bk b) k).isSome = true)
      exact absurd (by rw [← hqk]; exact mem_keys (mem_bk hb (hq ▸ List.getElem_mem hi))) h
  unfold getT
  rw [hno _ (H.x1_lt _), hno _ (H.x2_lt _)]
  show (List.find? _ _).map _ = none
  rw [List.find?_eq_none.2]
  · rfl
  · intro r hr
    simp only [decide_eq_true_eq]
    intro e
    exact h (by rw [← e]; exact mem_keys (List.mem_append_right _ hr))
theorem LvOk.get {V : Lv} {N : List Rt} (H : LvOk V N) (q : Ky) : getT V.T q = getS N q := by
  by_cases h : q ∈ keysR N
  · unfold keysR at h
    obtain ⟨r, hr, rfl⟩ := List.mem_map.1 h
    rw [H.kept.get hr]
    exact ((getS_some H.kept.sort (k := r.k) (v := r.v)).2 hr).symm
  · rw [get_none21 H.kept.inv (fun h2 => h ((keysR_perm H.kept.all).mem_iff.1 h2)), getS_none.2 h]
theorem LvOk.has {V : Lv} {N : List Rt} (H : LvOk V N) (q : Ky) : V.has q = true ↔ q ∈ keysR N := by
  unfold Lv.has
  rw [H.get]
  by_cases h : q ∈ keysR N
  · unfold keysR at h
    obtain ⟨r, hr, rfl⟩ := List.mem_map.1 h
    rw [(getS_some H.kept.sort (k := r.k) (v := r.v)).2 hr]
    simp only [Option.isSome_some, true_iff]
    exact List.mem_map.2 ⟨r, hr, rfl⟩
  · rw [getS_none.2 h]
    simp [h]
theorem cnt_perm {V : Lv} {N M : List Rt} (h : (keysR N).Perm (keysR M)) (j : Nat) : V.cnt N j = V.cnt M j := by
  unfold Lv.cnt
  exact (List.Perm.flatMap_right _ h).count_eq _
theorem cnt_cons (V : Lv) (r : Rt) (N : List Rt) (j : Nat) : V.cnt (r :: N) j = (V.plc r.k).count (j : Int) + V.cnt N j := by
  unfold Lv.cnt keysR
  rw [List.map_cons, List.flatMap_cons, List.count_append]
theorem cnt_same {V W : Lv} (h1 : V.s = W.s) (h2 : V.k = W.k) (h3 : V.C.length = W.C.length) (N : List Rt) (j : Nat) : V.cnt N j = W.cnt N j := by
  unfold Lv.cnt Lv.plc
  rw [h1, h2, h3]
theorem out_same {N : List Rt} {k : Ky} (h : k ∉ keysR N) : outS N k = N := by
  unfold outS
  rw [List.filter_eq_self]
  intro r hr
  simp only [ne_eq, decide_not, Bool.not_eq_true', decide_eq_false_iff_not]
  intro e
  exact h (by rw [← e]; exact List.mem_map.2 ⟨r, hr, rfl⟩)
theorem cnt_split {V : Lv} {N : List Rt} (hn : (keysR N).Nodup) {k : Ky} (h : k ∈ keysR N) (j : Nat) : V.cnt N j = (V.plc k).count (j : Int) + V.cnt (outS N k) j := by
  unfold keysR at h
  obtain ⟨r, hr, rfl⟩ := List.mem_map.1 h
  rw [cnt_perm (keysR_perm (split_key hn hr)), cnt_cons]
theorem cnt_into {V : Lv} {N : List Rt} (hs : Sorted N) (r : Rt) (j : Nat) : V.cnt (intoS N r) j = (V.plc r.k).count (j : Int) + V.cnt (outS N r.k) j := by
  rw [cnt_perm (keysR_perm (intoS_perm r hs)), cnt_cons]
theorem remL_small21 : ∀ (L : List Int) (C : List Nat), (∀ c ∈ C, c ≤ 15) → ∀ c ∈ remL C L, c ≤ 15
  | [], _, h => h
  | i :: L, C, h => remL_small21 L (downL C i) (by
    intro c hc
    unfold downL at hc
    split at hc
    · rcases List.mem_or_eq_of_mem_set hc with h2 | h2
      · exact h c h2
      · have := getN_lt h i
        omega
    · exact h c hc)
/-- WHAT A CHANGE TURNS. -/
theorem LvOk.turn {V : Lv} {N : List Rt} (H : LvOk V N) (c : Ch) (hc : c.k.good) : LvOk (V.turn c) (rowT V.n N c) := by
  unfold Lv.turn rowT
  by_cases hn : c.k.n = V.n
  · rw [if_pos hn, if_pos hn]
    unfold stepC
    have hnd := H.kept.sort.nodup
    by_cases h0 : 0 ≤ c.n
    · rw [if_pos h0, if_pos h0]
      refine ⟨H.kept.put 16 ⟨c.k, c.n⟩ hc, ?_, ?_, ?_⟩
      · show ∀ x ∈ (if V.has c.k = true then V.C else addL V.C (V.plc c.k)), x ≤ 15
        split
        · exact H.small
        · exact addL_small _ _ H.small
      · intro j hj
        have hl : (if V.has c.k = true then V.C else addL V.C (V.plc c.k)).length = V.C.length := by
          split
          · rfl
          · exact addL_len _ _
        have hj2 : j < V.C.length := by
          rw [← hl]
          exact hj
        rw [cnt_same (V := { V with C := if V.has c.k then V.C else addL V.C (V.plc c.k), T := putF 16 V.T ⟨c.k, c.n⟩ }) (W := V) rfl rfl hl, cnt_into H.kept.sort]
        show _ ≤ getN (if V.has c.k = true then V.C else addL V.C (V.plc c.k)) (j : Int)
        by_cases hh : V.has c.k = true
        · rw [if_pos hh]
          have := cnt_split (V := V) hnd ((H.has _).1 hh) j
          have := H.cov j hj2
          simp only at *
          omega
        · rw [if_neg hh, out_same (fun h => hh ((H.has _).2 h))]
          have h1 := addL_get (V.plc c.k) V.C j hj2 H.small
          have := H.cov j hj2
          simp only at *
          omega
      · intro r hr
        show r.k.n = V.n
        rcases (mem_into H.kept.sort).1 hr with e | ⟨e, -⟩
        · rw [e]; exact hn
        · exact H.len r e
    · rw [if_neg h0, if_neg h0]
      by_cases hh : V.has c.k = true
      · rw [if_pos hh]
        refine ⟨H.kept.del c.k, ?_, ?_, fun r hr => H.len r (mem_outS.1 hr).1⟩
        · exact remL_small21 _ _ H.small
        · intro j hj
          have hl : (remL V.C (V.plc c.k)).length = V.C.length := remL_len _ _
          have hj2 : j < V.C.length := by
            rw [← hl]
            exact hj
          rw [cnt_same (V := { V with C := remL V.C (V.plc c.k), T := (delT V.T c.k).1 }) (W := V) rfl rfl hl]
          show _ ≤ getN (remL V.C (V.plc c.k)) (j : Int)
          have h16 : getN V.C (j : Int) ≤ 15 := by
            have := getN_lt H.small (j : Int)
            omega
          rw [remL_get _ _ _ hj2 h16]
          have h1 := cnt_split (V := V) hnd ((H.has _).1 hh) j
          have h2 := H.cov j hj2
          split <;> omega
      · rw [if_neg hh, out_same (fun h => hh ((H.has _).2 h))]
        exact H
  · rw [if_neg hn, if_neg hn]
    exact H
/-- WHAT IS IN THE TABLE IS NEVER MISSED BY THE FILTER. -/
theorem LvOk.sure {V : Lv} {N : List Rt} (H : LvOk V N) {q : Ky} (h : q ∈ keysR N) : mayL V.C (V.plc q) = true := by
  refine mayL_yes fun i hi => ?_
  obtain ⟨h0, h1⟩ := plc_in V.s q.h q.l q.n V.k V.C.length i hi
  have h0 : 0 ≤ (V.plc q)[i] := h0
  have h1 : (V.plc q)[i] < (V.C.length : Int) := h1
  have hm : (V.plc q)[i] ∈ (keysR N).flatMap V.plc := List.mem_flatMap.2 ⟨q, h, List.getElem_mem hi⟩
  obtain ⟨j, hj⟩ := Int.eq_ofNat_of_zero_le h0
  rw [hj] at h1 hm ⊢
  have h2 := H.cov j (by omega)
  have h3 : 0 < V.cnt N j := List.count_pos_iff.2 hm
  omega
/-- What an address finds is what the row has of its key. -/
theorem LvOk.hit {V : Lv} {N : List Rt} (H : LvOk V N) (ah al : Nat) : V.hit ah al = getS N (V.key ah al) := by
  unfold Lv.hit
  rw [H.get]
  by_cases h : V.key ah al ∈ keysR N
  · rw [show V.may ah al = true from H.sure h, if_pos rfl]
  · rw [getS_none.2 h]
    split <;> rfl
end Go.Proofs.YtoihkbanmnagkaaGreat
/-
  Plain mathematics of a level, as it is made, and as it is told: what it begins with, its row, that its row is short, the rows behind changes. No condition but those that stand in each.
-/
set_option linter.unusedSimpArgs false
set_option linter.unusedVariables false
namespace Go.Proofs.YtoihkbanmnagkaaGreat
open M

theorem sortR_nodup {L : List Rt} (hn : (keysR L).Nodup) (q : Rt) : q ∈ sortR L ↔ q ∈ L := by
  rw [(sortR_mem L).2]
  constructor
  · intro e
    unfold lst at e
    exact (List.mem_filter.1 (List.mem_of_getLast? e)).1
  · intro hq
    unfold lst
    have hall : ∀ x ∈ L.filter (fun r => decide (r.k = q.k)), x = q := fun x hx => by
      obtain ⟨h3, h4⟩ := List.mem_filter.1 hx
      have h4 : x.k = q.k := of_decide_eq_true h4
      exact one_key18 hn h3 hq h4
    cases hl : (L.filter fun r => decide (r.k = q.k)).getLast? with
    | none =>
      have := List.getLast?_eq_none_iff.1 hl
      have hm : q ∈ L.filter (fun r => decide (r.k = q.k)) := List.mem_filter.2 ⟨hq, by simp⟩
      rw [this] at hm
      cases hm
    | some x => rw [hall x (List.mem_of_getLast? hl)]
/-- All that a table has, sorted, is its row. -/
theorem Kept.row {T : Tab} {N : List Rt} (H : Kept T N) : allT T = N :=
  sorted_ext (sortR_mem _).1 H.sort fun q => by
    show q ∈ sortR (contT T) ↔ _
    rw [sortR_nodup H.inv.keys, H.all.mem_iff]
/-- A level, as it is made. -/
def newV (n : Int) (s : Nat) (k : Int) (m b : Nat) : Lv := ⟨n, s, k, List.replicate m 0, emptyT (mixN s) b⟩
theorem newV_ok (n : Int) (s : Nat) (k : Int) (m b : Nat) (h1 : 1 ≤ b) (h2 : b ≤ 65536) : LvOk (newV n s k m b) [] := by
  refine ⟨Kept.empty (mixN_w s) h1 h2, ?_, ?_, ?_⟩
  · intro c hc
    have hc : c ∈ List.replicate m 0 := hc
    rw [List.eq_of_mem_replicate hc]
    omega
  · intro j hj
    show min 15 (List.count _ (List.flatMap _ [])) ≤ _
    simp
  · intro r hr
    cases hr
/-- Which levels there are not. -/
def badV (n k m b : Int) : Prop := ¬ (1 ≤ n ∧ n ≤ 128 ∧ (1 ≤ k ∧ k ≤ 16 ∧ 1 ≤ m ∧ m ≤ 65536) ∧ 1 ≤ b ∧ b ≤ 65536)
/-- Its row behind changes. -/
def rowsT (n : Int) (N : List Rt) (L : List Ch) : List Rt := L.foldl (rowT n) N
theorem rowsT_snoc (n : Int) (N : List Rt) (L : List Ch) (c : Ch) : rowsT n N (L ++ [c]) = rowT n (rowsT n N L) c := by unfold rowsT; rw [List.foldl_append]; rfl
theorem turn_n (V : Lv) (c : Ch) : (V.turn c).n = V.n := by
  unfold Lv.turn
  split
  · split
    · rfl
    · split <;> rfl
  · rfl
theorem turn_s (V : Lv) (c : Ch) : (V.turn c).s = V.s ∧ (V.turn c).k = V.k ∧ (V.turn c).C.length = V.C.length := by
  unfold Lv.turn
  split
  · split
    · refine ⟨rfl, rfl, ?_⟩
      show (if V.has c.k = true then V.C else addL V.C (V.plc c.k)).length = _
      split
      · rfl
      · exact addL_len _ _
    · split
      · exact ⟨rfl, rfl, remL_len _ _⟩
      · exact ⟨rfl, rfl, rfl⟩
  · exact ⟨rfl, rfl, rfl⟩
theorem turns_n (V : Lv) : ∀ (L : List Ch), (V.turns L).n = V.n := by
  intro L
  induction L generalizing V with
  | nil => rfl
  | cons c L ih =>
    show ((V.turn c).turns L).n = V.n
    rw [ih, turn_n]
theorem turns_s (V : Lv) : ∀ (L : List Ch), (V.turns L).s = V.s ∧ (V.turns L).k = V.k ∧ (V.turns L).C.length = V.C.length := by
  intro L
  induction L generalizing V with
  | nil => exact ⟨rfl, rfl, rfl⟩
  | cons c L ih =>
    show ((V.turn c).turns L).s = V.s ∧ ((V.turn c).turns L).k = V.k ∧ ((V.turn c).turns L).C.length = V.C.length
    obtain ⟨h1, h2, h3⟩ := ih (V.turn c)
    obtain ⟨h4, h5, h6⟩ := turn_s V c
    exact ⟨h1.trans h4, h2.trans h5, h3.trans h6⟩
theorem rowT_len (n : Int) (N : List Rt) (h : Sorted N) (c : Ch) : (rowT n N c).length ≤ N.length + 1 := by
  unfold rowT stepC
  have h1 : (outS N c.k).length ≤ N.length := List.length_filter_le _ _
  split
  · split
    · have := (intoS_perm ⟨c.k, c.n⟩ h).length_eq
      simp only [List.length_cons] at this
      omega
    · omega
  · omega
theorem LvOk.turns {V : Lv} {N : List Rt} (H : LvOk V N) : ∀ (L : List Ch), (∀ c ∈ L, c.k.good) → LvOk (V.turns L) (rowsT V.n N L) ∧ (rowsT V.n N L).length ≤ N.length + L.length := by
  intro L
  suffices HH : ∀ (m : Nat) (L : List Ch), L.length = m → (∀ c ∈ L, c.k.good) → LvOk (V.turns L) (rowsT V.n N L) ∧ (rowsT V.n N L).length ≤ N.length + L.length from HH L.length L rfl
  intro m
  induction m with
  | zero =>
    intro L hl _
    obtain rfl := List.eq_nil_of_length_eq_zero hl
    exact ⟨H, Nat.le_add_right _ _⟩
  | succ m ih =>
    intro L hl hg
    obtain ⟨L, c, rfl⟩ : ∃ L' c, L = L' ++ [c] := ⟨L.dropLast, L.getLast (by intro e; simp [e] at hl), (List.dropLast_concat_getLast _).symm⟩
    obtain ⟨h1, h2⟩ := ih L (by simpa using hl) (fun x hx => hg x (List.mem_append_left _ hx))
    have hc := hg c (List.mem_append_right _ (by simp))
    rw [Lv.turns_snoc, rowsT_snoc]
    have h3 := h1.turn c hc
    rw [turns_n] at h3
    have h4 := rowT_len V.n _ h1.kept.sort c
    rw [List.length_append, List.length_singleton]
    exact ⟨h3, by omega⟩
theorem cont_le {T : Tab} : T.st.length ≤ (contT T).length := by
  unfold contT
  rw [List.length_append]
  omega
theorem LvOk.st {V : Lv} {N : List Rt} (H : LvOk V N) : V.T.st.length ≤ N.length := by
  have := cont_le (T := V.T)
  rw [H.kept.len] at this
  exact this
/-- Where the row's key's hop is from 0 on, the one of an address. -/
theorem LvOk.hitK {V : Lv} {N : List Rt} (H : LvOk V N) {q : Rt} (hq : q ∈ N) (hr : rightB q.k.h q.k.l q.k.n = true) : V.key q.k.h q.k.l = q.k := by
  obtain ⟨r0, r1, r2, r3⟩ := (rightB_iff _ _ _).1 hr
  have hn := H.len q hq
  unfold Lv.key cutK
  rw [← hn, r2, r3]
  obtain ⟨⟨a, b, n⟩, v⟩ := q
  simp only at *
  congr 1
  omega
end Go.Proofs.YtoihkbanmnagkaaGreat
/-
  The reference's filter in memory: its struct and its row of numbers; what its calls hand back, and what is kept of it while other blocks are written. No condition but those that stand in each.
-/
set_option linter.unusedSimpArgs false
set_option linter.unusedVariables false
namespace Go.Proofs.YtoihkbanmnagkaaGreat
open Go.RowKit Go.Sort M

/-- A filter at block f, its numbers C at block g, both from lo on and below hi. -/
structure RFil (w : World) (lo hi f g s : Nat) (k : Int) (C : List Nat) : Prop where
  c0 : w.cell? ⟨f, 0, none⟩ = some (.int .u64 (s : Int))
  c1 : w.cell? ⟨f, 1, none⟩ = some (.int .i64 k)
  c2 : w.cell? ⟨f, 2, none⟩ = some (.slice (some ⟨g, 0, none⟩) C.length C.length)
  own : w.ownsRow lo 3 1 (.slice (some ⟨g, 0, none⟩) C.length C.length) C.length (iC C)
  small : ∀ c ∈ C, c ≤ 15
  len : C.length ≤ 65536
  top : hi ≤ w.heap.size
  fin : lo ≤ f ∧ f < hi
  gin : g < hi
  ne : f ≠ g
  ws : W64 s
section
variable {w w' : World} {lo hi f g s : Nat} {k : Int} {C : List Nat} {S : Nat → Prop}
theorem RFil.low (H : RFil w lo hi f g s k C) : lo ≤ g := (H.own.lt g rfl).1
theorem RFil.touched (H : RFil w lo hi f g s k C) (ht : Touch S w w') (hn : ∀ j, lo ≤ j → j < hi → ¬ S j) : RFil w' lo hi f g s k C :=
  ⟨ht.cell H.c0 (hn _ H.fin.1 H.fin.2), ht.cell H.c1 (hn _ H.fin.1 H.fin.2), ht.cell H.c2 (hn _ H.fin.1 H.fin.2), Touch.own H.own ht (fun j e => by cases e; exact hn _ H.low H.gin), H.small, H.len, Nat.le_trans H.top ht.size, H.fin, H.gin, H.ne, H.ws⟩
theorem RFil.below (H : RFil w lo hi f g s k C) (hb : Below w.heap.size w w') : RFil w' lo hi f g s k C := H.touched (S := fun _ => False) (Touch.quiet hb) (fun _ _ _ h => h)
theorem RFil.lt (H : RFil w lo hi f g s k C) : f < w.heap.size := Nat.lt_of_lt_of_le H.fin.2 H.top
theorem RFil.lt2 (H : RFil w lo hi f g s k C) : g < w.heap.size := Nat.lt_of_lt_of_le H.gin H.top
theorem RFil.store (H : RFil w lo hi f g s k C) (j v : Nat) (hv : v ≤ 15) (x : Int) (hx : x = (v : Int)) :
    RFil (w.setCell ⟨g, j, none⟩ (.int .i64 x)) lo hi f g s k (C.set j v) ∧ Touch (In lo hi) w (w.setCell ⟨g, j, none⟩ (.int .i64 x)) := by
  have hs := H.own.stored j (.int .i64 x)
  rw [iC_set C j v x hx] at hs
  have hn := H.ne
  refine ⟨⟨hs.2.cell H.c0 (by simpa using hn), hs.2.cell H.c1 (by simpa using hn), ?_, ?_, small_set H.small j v hv, by simpa using H.len, Nat.le_trans H.top hs.2.size, H.fin, H.gin, H.ne, H.ws⟩, Touch.of_grown hs.2 (fun j e => by cases e; exact ⟨H.low, H.gin⟩)⟩
  · rw [List.length_set]
    exact hs.2.cell H.c2 (by simpa using hn)
  · rw [List.length_set]
    exact hs.1
end
end Go.Proofs.YtoihkbanmnagkaaGreat
/-
  What May of the reference's filter says. No condition but those that stand in each.
-/
set_option linter.unusedSimpArgs false
set_option linter.unusedVariables false
namespace Go.Proofs.YtoihkbanmnagkaaGreat
open Go.RowKit Go.Sort M

set_option maxHeartbeats 2000000 in
theorem rmay_any (lo hi f g s : Nat) (k : Int) (C : List Nat) (h l : Nat) (n : Int) (w : World) (H : RFil w lo hi f g s k C) (wh : W64 h) (wl : W64 l) :
    Calls Tryz.prog 38 #[.pointer (some ⟨f, 0, none⟩), .agg #[.int .u64 h, .int .u64 l, .int .i64 n]] w fun e w' => e = .returned (.bool (mayL C (plc s h l n k C.length))) ∧ Below w.heap.size w w' := by
  have HC := Lib.hid H
  have hP := rplaces_any s h l n k C.length H.ws wh wl (by have := H.len; omega)
  change GivesInts _ _ (plc s h l n k C.length) at hP
  have hL16 := plc_len s h l n k C.length
  have hin := plc_in s h l n k C.length
  have c0 := H.c0
  have c1 := H.c1
  have c2 := H.c2
  have hl := H.lt
  have hlen := H.len
  generalize plc s h l n k C.length = L at *
  have HP := Lib.hid hP
  have HIN := Lib.hid hin
  clear H hP hin
  go_enter Tryz.func38, Tryz.ntmps38
  go_wp2_with fail
  have kg := cell_grow
  refine region_tail 14 (by kernel_rfl) (by kernel_rfl) ?_
  simp only [List.take_succ_cons, List.take_zero, List.drop_succ_cons, List.drop_zero]
  repeat (any_goals (first | go_big_quiet_step (fail) | quiet_step (fail)))
  refine wpQuiet_nil ?_
  clear kg
  intro w0 hb0
  obtain ⟨hc0, hf0⟩ := bcell hb0
  have hw0 : Below w.heap.size w w0 := by
    refine Below.trans ?_ (hb0.mono ?_)
    · go_grown
    · first | omega | go_size
  go_wp2_with fail
  refine (HP.out _).mono ?_
  rintro e w1 ⟨p, c, rfl, hown, hb1⟩
  have hw1 := hw0.trans (hb1.mono hw0.size)
  have hown2 := own_le (B' := w.heap.size) hown hw0.size
  have H1 := HC.out.below hw1
  have htop := HC.out.top
  clear hown hb1 hb0 hw0 HP HC c0 c1 c2 hl
  have HROW := Lib.hid (IRow.of_own hown2)
  have HH := Lib.hid H1
  have hz1 := hw1.size
  clear hown2 H1
  go_wp2
  go_loopw [6] (fun i6 wr => ∃ i : Nat, i ≤ L.length ∧ i6 = .int .i64 i ∧ Hid (∀ j (hj : j < L.length), j < i → getN C L[j] ≠ 0) ∧ Below w1.heap.size w1 wr) (fun i6 _ => L.length - (intOf i6).toNat)
  case atStart => exact ⟨0, Nat.zero_le _, rfl, Lib.hid (fun j _ h => absurd h (by omega)), Below.refl _ _⟩
  case round =>
    obtain ⟨i, hi2, rfl, hall, hb⟩ := hrel
    have hz := hb.size
    by_cases hlt : i < L.length
    · obtain ⟨gr, orr, rfl, hgr, d0⟩ := (HROW.out.below hb).at hlt
      obtain ⟨hx0, hx1⟩ := HIN.out i hlt
      have H := HH.out.below hb
      have hgo : Hid (getN C L[i] = 0 → mayL C L = false) := Lib.hid (fun h0 => mayL_no hlt h0)
      have hgn : Hid (getN C L[i] ≠ 0 → ∀ j (hj : j < L.length), j < i + 1 → getN C L[j] ≠ 0) := Lib.hid (fun h0 j hj hji => by
        by_cases e : j = i
        · subst e
          exact h0
        · exact hall.out j hj (by omega))
      generalize hx : L[i] = x at *
      obtain ⟨j, rfl⟩ := Int.eq_ofNat_of_zero_le hx0
      have hja : j < C.length := by omega
      rw [getN_at hja] at hgo hgn
      have c2 := H.c2
      have hl := H.lt
      have hr := H.lt2
      have q0 : wr.cell? ⟨g, j, none⟩ = some (.int .i64 (C[j] : Nat)) := (H.own.cellAt j (by omega)).trans (iC_at C j hja)
      generalize C[j] = v at *
      clear H hx hall
      by_cases h0 : v = 0
      · subst h0
        have HNO := Lib.hid (hgo.out rfl)
        clear hgo hgn
        go_wp2_with fail
        have kg := cell_grow
        refine region_whole (by kernel_rfl) (by kernel_rfl) ?_
        repeat (any_goals (first | go_big_quiet_step (fail) | quiet_step (fail)))
        refine wpQuiet_nil ?_
        clear kg
        intro w2 hb2
        obtain ⟨hc2, hf2⟩ := bcell hb2
        go_wp2
        go_ret
        exact ⟨ret_bool HNO.out.symm, hw1.trans ((hb.trans (hb2.mono hz)).mono hz1)⟩
      · have HN2 := Lib.hid (hgn.out h0)
        have v0 : ((v : Int) == 0) = false := by simp; omega
        clear hgo hgn h0
        go_wp2_with fail
        have kg := cell_grow
        refine region_whole (by kernel_rfl) (by kernel_rfl) ?_
        repeat (any_goals (first | go_big_quiet_step (fail) | quiet_step (fail)))
        refine wpQuiet_nil ?_
        clear kg
        intro w2 hb2
        obtain ⟨hc2, hf2⟩ := bcell hb2
        have hbb := hb.trans (hb2.mono hz)
        go_wp2
        go_roundw
        case rel => exact ⟨i + 1, by omega, by go_num, HN2, hbb⟩
        case measure => simp [intOf]; omega
    · go_wp2
      go_ret
      exact ⟨ret_bool (mayL_yes (fun j hj => hall.out j hj (by omega))).symm, hw1.trans (hb.mono hz1)⟩
end Go.Proofs.YtoihkbanmnagkaaGreat
