/-
  The given law HopsPlay as a walk: it hands back true, for every input. No condition.
-/
import Derived.Test.YtipconmghjohpaaL13
import Derived.Test.YtipconmghjohpaaM13
import Derived.Test.YtipconmghjohpaaSlice
import Derived.Deep.DeepCutAuto
import Derived.Deep.LoopGhost
set_option linter.unusedSimpArgs false
set_option linter.unusedVariables false
namespace Go.Proofs.Ytipconmghjohpaa
open Go.RowKit Go.Sort Go.Maps Go.Deep M

/-- The cells of a row of uses; the cells of a call of the law's. -/
def vcs (V : List Nat) : List Value := ics (V.map fun (c : Nat) => (c : Int))
theorem vcs_at (V : List Nat) (k : Nat) (h : k < V.length) : (vcs V)[k]? = some (.int .i64 (V[k] : Nat)) := by simp [vcs, ics, h]
theorem vcs_set (V : List Nat) (k : Nat) (v : Nat) (x : Int) (h : x = (v : Int)) : (vcs V).set k (.int .i64 x) = vcs (V.set k v) := by
  subst h
  simp [vcs, ics, List.map_set]
theorem vcs_snoc (V : List Nat) (v : Nat) : vcs V ++ [.int .i64 ((v : Nat) : Int)] = vcs (V ++ [v]) := by simp [vcs, ics]
def act13 (a : Bool × Int) : List Value := [.bool a.1, .int .i64 a.2]
/-- What the walk carries from call to call: the counts h, another's counts o, and the law's own two rows. -/
structure PlaysH (w wr : World) (g b go bo : Nat) (most : Int) (i io : Nat) (U : Int → Nat) (c : Nat) (N : List Int) (V : List Nat) (vn vu : Value) : Prop where
  h : Hps wr w.heap.size g b most U c i
  o : ∃ U' c', Hps wr w.heap.size go bo (capH 60) U' c' io
  rn : wr.ownsRow w.heap.size 3 1 vn N.length (ics N)
  ru : wr.ownsRow w.heap.size 3 1 vu V.length (vcs V)
  below : Below w.heap.size w wr
  far1 : b ≠ go ∧ b ≠ bo ∧ g ≠ bo
  far2 : ∀ j, vn.ownBlock = some j → j ≠ g ∧ j ≠ b ∧ j ≠ go ∧ j ≠ bo
  far3 : ∀ j, vu.ownBlock = some j → j ≠ g ∧ j ≠ b ∧ j ≠ go ∧ j ≠ bo
  far4 : ∀ j, vn.ownBlock = some j → vu.ownBlock ≠ some j
theorem own_ne {v : Value} {j : Nat} (h : ∀ k, v.ownBlock = some k → k ≠ j) : v.ownBlock = none ∨ v.ownBlock ≠ some j := by
  cases e : v.ownBlock with
  | none => exact .inl rfl
  | some k => exact .inr (by simp; exact h k e)
section
variable {w wr wx : World} {g b go bo i io c : Nat} {most : Int} {U : Int → Nat} {N : List Int} {V : List Nat} {vn vu : Value}
theorem PlaysH.quiet (P : PlaysH w wr g b go bo most i io U c N V vn vu) (hb : Below wr.heap.size wr wx) : PlaysH w wx g b go bo most i io U c N V vn vu := by
  obtain ⟨U0, c0, h0⟩ := P.o
  exact ⟨P.h.below hb, ⟨U0, c0, h0.below hb⟩, own_below P.rn hb, own_below P.ru hb, P.below.trans (hb.mono P.below.size), P.far1, P.far2, P.far3, P.far4⟩
theorem PlaysH.turnO (P : PlaysH w wr g b go bo most i io U c N V vn vu) {U' : Int → Nat} {c' io' : Nat} (hD : Hps wx w.heap.size go bo (capH 60) U' c' io') (hg : wr.grownBy wx (some bo)) : PlaysH w wx g b go bo most i io' U c N V vn vu := by
  obtain ⟨f1, f2, f3⟩ := P.far1
  exact ⟨P.h.kept hg (by simpa using f3) (by simpa using f2), ⟨U', c', hD⟩, P.rn.kept hg (own_ne fun k hk => (P.far2 k hk).2.2.2), P.ru.kept hg (own_ne fun k hk => (P.far3 k hk).2.2.2), below_write P.below P.below.size hg hD.low2, P.far1, P.far2, P.far3, P.far4⟩
theorem PlaysH.turnH (P : PlaysH w wr g b go bo most i io U c N V vn vu) {U' : Int → Nat} {c' i' : Nat} (hD : Hps wx w.heap.size g b most U' c' i') (hg : wr.grownBy wx (some b)) : PlaysH w wx g b go bo most i' io U' c' N V vn vu := by
  obtain ⟨f1, f2, f3⟩ := P.far1
  obtain ⟨U0, c0, h0⟩ := P.o
  exact ⟨hD, ⟨U0, c0, h0.kept hg (by simp; omega) (by simp; omega)⟩, P.rn.kept hg (own_ne fun k hk => (P.far2 k hk).2.1), P.ru.kept hg (own_ne fun k hk => (P.far3 k hk).2.1), below_write P.below P.below.size hg hD.low2, P.far1, P.far2, P.far3, P.far4⟩
theorem PlaysH.store {gu cu : Nat} (P : PlaysH w wr g b go bo most i io U c N V vn (.slice (some ⟨gu, 0, none⟩) V.length cu)) (k v : Nat) (x : Int) (hx : x = (v : Int)) :
    PlaysH w (wr.setCell ⟨gu, k, none⟩ (.int .i64 x)) g b go bo most i io U c N (V.set k v) vn (.slice (some ⟨gu, 0, none⟩) V.length cu) := by
  obtain ⟨U0, c0, h0⟩ := P.o
  obtain ⟨a1, a2, a3, a4⟩ := P.far3 gu rfl
  have hs := P.ru.stored k (.int .i64 x)
  rw [vcs_set V k v x hx] at hs
  refine ⟨P.h.kept hs.2 (by simp; omega) (by simp; omega), ⟨U0, c0, h0.kept hs.2 (by simp; omega) (by simp; omega)⟩, P.rn.kept hs.2 (own_ne fun j hj e => P.far4 j hj (by rw [e]; rfl)), ?_, below_write P.below P.below.size hs.2 (P.ru.lt gu rfl).1, P.far1, P.far2, P.far3, P.far4⟩
  rw [List.length_set]
  exact hs.1
theorem PlaysH.appN (P : PlaysH w wr g b go bo most i io U c N V vn vu) (x : Int) {v' : Value} (hown : wx.ownsRow w.heap.size 3 1 v' (N.length + 1) (ics N ++ [.int .i64 x])) (hg : wr.grownBy wx vn.ownBlock) (hloc : v'.ownBlock = vn.ownBlock ∨ v'.ownBlock = some wr.heap.size) :
    PlaysH w wx g b go bo most i io U c (N ++ [x]) V v' vu := by
  obtain ⟨U0, c0, h0⟩ := P.o
  have l1 := P.h.lt
  have l2 := P.h.lt2
  have l3 := h0.lt
  have l4 := h0.lt2
  have hb : Below w.heap.size w wx := P.below.grown hg P.below.size (fun k e => (P.rn.lt k e).1)
  refine ⟨P.h.kept hg (fun e => (P.far2 g e.symm).1 rfl) (fun e => (P.far2 b e.symm).2.1 rfl), ⟨U0, c0, h0.kept hg (fun e => (P.far2 go e.symm).2.2.1 rfl) (fun e => (P.far2 bo e.symm).2.2.2 rfl)⟩, own_isnoc hown rfl, P.ru.kept hg ?_, hb, P.far1, ?_, P.far3, ?_⟩
  · cases e : vu.ownBlock with
    | none => exact .inl rfl
    | some k => exact .inr (fun e2 => P.far4 k e2.symm e)
  · intro j hj
    rcases hloc with h | h
    · exact P.far2 j (h.symm.trans hj)
    · rw [h] at hj
      injection hj with hj
      omega
  · intro j hj e
    rcases hloc with h | h
    · exact P.far4 j (h.symm.trans hj) e
    · rw [h] at hj
      injection hj with hj
      have := (P.ru.lt j e).2
      omega
theorem PlaysH.appU (P : PlaysH w wr g b go bo most i io U c N V vn vu) {v' : Value} (hown : wx.ownsRow w.heap.size 3 1 v' (V.length + 1) (vcs V ++ [.int .i64 0])) (hg : wr.grownBy wx vu.ownBlock) (hloc : v'.ownBlock = vu.ownBlock ∨ v'.ownBlock = some wr.heap.size) :
    PlaysH w wx g b go bo most i io U c N (V ++ [0]) vn v' := by
  obtain ⟨U0, c0, h0⟩ := P.o
  have l1 := P.h.lt
  have l2 := P.h.lt2
  have l3 := h0.lt
  have l4 := h0.lt2
  have hb : Below w.heap.size w wx := P.below.grown hg P.below.size (fun k e => (P.ru.lt k e).1)
  refine ⟨P.h.kept hg (fun e => (P.far3 g e.symm).1 rfl) (fun e => (P.far3 b e.symm).2.1 rfl), ⟨U0, c0, h0.kept hg (fun e => (P.far3 go e.symm).2.2.1 rfl) (fun e => (P.far3 bo e.symm).2.2.2 rfl)⟩, P.rn.kept hg ?_, by rw [List.length_append, ← vcs_snoc]; exact hown, hb, P.far1, P.far2, ?_, ?_⟩
  · cases e : vn.ownBlock with
    | none => exact .inl rfl
    | some k => exact .inr (fun e2 => P.far4 k e e2.symm)
  · intro j hj
    rcases hloc with h | h
    · exact P.far3 j (h.symm.trans hj)
    · rw [h] at hj
      injection hj with hj
      omega
  · intro j hj e
    rcases hloc with h | h
    · exact P.far4 j hj (h.symm.trans e)
    · rw [h] at e
      injection e with e
      have := (P.rn.lt j hj).2
      omega
end
/-- Row elements as cells, of an own row of numbers. -/
theorem own_icell {wr : World} {B n cap : Nat} {p : Option Addr} {xs : List Value} (h : wr.ownsRow B 3 1 (.slice p n cap) n xs) {k : Nat} {u : Value} (hu : xs[k]? = some u) : ∃ gr, p = some ⟨gr, 0, none⟩ ∧ gr < wr.heap.size ∧ wr.cell? ⟨gr, k, none⟩ = some u ∧ wr.frozen? ⟨gr, k, none⟩ = false := by
  have h2 := h.2
  rcases h2 with ⟨e, h1⟩ | ⟨gr, cap', cur, e, -, -, -, -, -, -⟩
  · have := h.1
    rw [h1] at this
    have := List.length_eq_zero_iff.1 (by omega : xs.length = 0)
    subst this
    simp at hu
  · injection e with e1 e2 e3
    subst e1
    have hk : k < xs.length := (List.getElem?_eq_some_iff.1 hu).1
    have hn := h.1
    exact ⟨gr, rfl, (h.lt gr rfl).2, (h.cellAt k (by omega)).trans hu, h.frozenAt k⟩
/-- What is known of the lists. -/
def GoodH (N : List Int) (V : List Nat) (i : Nat) : Prop := N.Nodup ∧ V.length = N.length ∧ N.length ≤ i ∧ ∀ y ∈ N, (Lit.int .i64 y).wf = true
set_option maxRecDepth 100000 in
set_option maxHeartbeats 4000000 in
theorem hopsPlay_walk (n : Int) (p : Option Addr) (cap : Nat) (L : List (Bool × Int)) (hn : (Lit.int .i64 n).wf = true) (hL : ∀ a ∈ L, (Lit.int .i64 a.2).wf = true) (hm : L.length ≤ maxLen) (w : World) (HR : RowA 2 act13 w p L) :
    Calls Try.prog 3 #[.int .i64 n, .slice p L.length cap] w fun e w' => e = .returned (.bool true) ∧ Below w.heap.size w w' := by
  have HA := Lib.hid alive13_any
  have HRR := Lib.hid HR
  have HLL := Lib.hid hL
  obtain ⟨i0, hi0, iz0, iz1, iz2⟩ := info_parts infoI
  clear HR hL hn
  unfold maxLen at hm
  by_cases l0 : L.length ≤ 200
  · obtain ⟨q, hq⟩ : ∃ q : Int, q = max 0 n := ⟨_, rfl⟩
    obtain ⟨M, hM⟩ : ∃ M : Int, M = capH n := ⟨_, rfl⟩
    have HQ := Lib.hid hq
    have HM := Lib.hid hM
    clear hq hM
    go_enter Try.func3, Try.ntmps3
    go_wp2_with fail
    refine (HA.out _).mono ?_
    rintro e0 w0 ⟨rfl, hb0⟩
    have hw0 : Below w.heap.size w w0 := by
      refine Below.trans ?_ (hb0.mono ?_)
      · go_grown
      · go_size
    have hz0 := hw0.size
    go_wp2_with fail
    refine (hnew_any n _).mono ?_
    rintro e w1 ⟨v, rfl, ⟨g, b, rfl, H1⟩, hb1⟩
    go_wp2_with fail
    refine (hnew_any 60 _).mono ?_
    rintro e w2 ⟨v, rfl, ⟨go, bo, rfl, H2⟩, hb2⟩
    have hw1 := hw0.trans (hb1.mono hz0)
    have hz1 := hw1.size
    have hw2 := hw1.trans (hb2.mono hz1)
    rw [← HM.out] at H1
    have HP : PlaysH w w2 g b go bo M 0 0 (useF [] []) (cntV []) [] [] (.slice none 0 0) (.slice none 0 0) := by
      have a1 := H1.lt
      have a2 := H1.lt2
      have b1 := H2.low
      have b2 := H2.low2
      exact ⟨(H1.le hz0).below hb2, ⟨_, _, H2.le hz1⟩, World.ownsRow_nil _ _ _ _, World.ownsRow_nil _ _ _ _, hw2, ⟨by omega, by omega, by omega⟩, (fun j hj => by cases hj), (fun j hj => by cases hj), (fun j hj => by cases hj)⟩
    clear H1 H2 hw1 hz1 hw2 hb1 hb2 hw0 hz0
    go_upto_if 36 with fail
    go_cut [0] (fun s0 wx => s0 = .int .i64 q ∧ PlaysH w wx g b go bo M 0 0 (useF [] []) (cntV []) [] [] (.slice none 0 0) (.slice none 0 0))
    case first =>
      by_cases nn : n < 0
      · go_wp2_with fail
        go_meet
        exact ⟨congrArg (Value.int .i64) (by have := HQ.out; omega), HP⟩
      · go_wp2_with fail
        go_meet
        exact ⟨congrArg (Value.int .i64) (by have := HQ.out; omega), HP⟩
    case rest =>
      clear HP
      obtain ⟨rfl, HP⟩ := hcut
      rename World => wd
      go_upto_if 38 with fail
      go_cut [0] (fun s0 wx => s0 = .int .i64 M ∧ PlaysH w wx g b go bo M 0 0 (useF [] []) (cntV []) [] [] (.slice none 0 0) (.slice none 0 0))
      case first =>
        by_cases nn : 60 < q
        · go_wp2_with fail
          go_meet
          exact ⟨congrArg (Value.int .i64) (by have := HQ.out; have := HM.out; unfold capH at this; omega), HP⟩
        · go_wp2_with fail
          go_meet
          exact ⟨congrArg (Value.int .i64) (by have := HQ.out; have := HM.out; unfold capH at this; omega), HP⟩
      case rest =>
        clear HP HQ
        obtain ⟨rfl, HP⟩ := hcut
        go_wp2
        go_loopg [8, 9, 10] L.length (fun gk n8 u9 i10 wr => ∃ (i : Nat) (N : List Int) (V : List Nat), gk + i = L.length ∧ i10 = .int .i64 i ∧ Hid (GoodH N V i) ∧ PlaysH w wr g b go bo M i i (useF N V) (cntV V) N V n8 u9)
        case atStart => exact ⟨0, [], [], by omega, rfl, Lib.hid ⟨by simp, rfl, by simp, by simp⟩, HP⟩
        case round =>
          clear HP
          obtain ⟨i, N, V, hi, rfl, HG, HP⟩ := hrel
          obtain ⟨pn, kn, rfl⟩ := own_slice HP.rn
          obtain ⟨pu, ku, rfl⟩ := own_slice HP.ru
          by_cases hlt : i < L.length
          · have hz := HP.below.size
            obtain ⟨gl, ol, hp, hgl, hl⟩ := HRR.out.at hlt
            have hwf := HLL.out _ (List.getElem_mem hlt)
            have hl0 := hl 0 _ rfl
            have hl1 := hl 1 _ rfl
            clear hl
            subst hp
            generalize L[i] = a at hwf hl0 hl1
            obtain ⟨d, x⟩ := a
            have kB0 : ∀ (wy : World), Below w.heap.size w wy → wy.cell? ⟨gl, ol + i * 2, none⟩ = some (.bool d) := fun _ hb => (hb.cell (p := ⟨gl, ol + i * 2, none⟩) hgl).trans hl0
            have kB1 : ∀ (wy : World), Below w.heap.size w wy → wy.cell? ⟨gl, ol + i * 2 + 1, none⟩ = some (.int .i64 x) := fun _ hb => (hb.cell (p := ⟨gl, ol + i * 2 + 1, none⟩) hgl).trans hl1
            have KB0 := Lib.hid kB0
            have KB1 := Lib.hid kB1
            have HX := Lib.hid hwf
            clear kB0 kB1 hwf hl0 hl1
            obtain ⟨U0, c0, hD0⟩ := HP.o
            go_wp2_with fail
            refine (hup_any _ _ _ _ _ _ _ (i : Int) (wf_nat i (by omega)) (by omega) _ hD0).mono ?_
            rintro e wa ⟨rfl, HoA, hgA⟩
            replace HP := HP.turnO HoA hgA
            clear HoA hgA hD0 hz
            have hnl : N.length ≤ i := HG.out.2.2.1
            have hvl1 : V.length ≤ N.length := Nat.le_of_eq HG.out.2.1
            have hvl2 : N.length ≤ V.length := Nat.le_of_eq HG.out.2.1.symm
            go_wp2
            go_loopw [11, 12, 13] (fun t11 u12 k13 wr2 => ∃ (k : Nat) (t : Int), k ≤ N.length ∧ k13 = .int .i64 k ∧ t11 = .int .i64 t ∧ Hid (AtOk N x k t) ∧ u12 = .int .i64 (cntV (V.take k) : Nat) ∧ PlaysH w wr2 g b go bo M i (i + 1) (useF N V) (cntV V) N V (.slice pn N.length kn) (.slice pu V.length ku)) (fun _ _ k13 _ => N.length - (intOf k13).toNat)
            case atStart => exact ⟨0, -1, Nat.zero_le _, rfl, rfl, Lib.hid (AtOk.start N x), rfl, HP⟩
            case round =>
              clear HP
              obtain ⟨k, t, hk, rfl, rfl, HT, rfl, HP⟩ := hrel
              have hz := HP.below.size
              have hcl := cntV_le (V.take k)
              rw [List.length_take] at hcl
              have hfk : cntV (V.take k) ≤ k := by omega
              by_cases hlk : k < N.length
              · have hlv : k < V.length := by omega
                obtain ⟨gn, rfl, n1, n2, -⟩ := own_icell HP.rn (ics_cell N k hlk)
                obtain ⟨gu, rfl, u1, u2, -⟩ := own_icell HP.ru (vcs_at V k hlv)
                have z1 := KB1.out _ HP.below
                have hgl2 : gl < wr.heap.size := Nat.lt_of_lt_of_le hgl hz
                have HCN := Lib.hid (cntV_take V k hlv)
                have HHIT := Lib.hid (fun e => AtOk.hit (x := x) (t := t) hlk e)
                have HMISS := Lib.hid (fun e => HT.out.miss hlk e)
                obtain ⟨y, hy⟩ : ∃ y, y = N[k] := ⟨_, rfl⟩
                obtain ⟨v, hv⟩ : ∃ v, v = V[k] := ⟨_, rfl⟩
                rw [← hy] at n2 HHIT HMISS
                rw [← hv] at u2 HCN
                have HPP := Lib.hid HP
                generalize cntV (V.take k) = f at *
                have i1 : (k : Int) < (N.length : Int) := by omega
                have i2 : (k : Int) < (V.length : Int) := by omega
                clear hy hv HT hcl
                by_cases hxy : y = x
                · have HT := Lib.hid (HHIT.out hxy)
                  subst hxy
                  clear HHIT HMISS
                  by_cases hv0 : 0 < v
                  · rw [if_pos hv0] at HCN
                    go_wp2_with fail
                    have kg := cell_grow
                    refine region_whole (by kernel_rfl) (by kernel_rfl) ?_
                    repeat (any_goals (first | go_big_quiet_step (fail) | quiet_step (fail)))
                    refine wpQuiet_nil ?_
                    clear kg
                    intro w1 hb1
                    obtain ⟨hc1, hf1⟩ := bcell hb1
                    go_wp2
                    go_roundw
                    case rel => exact ⟨k + 1, _, by omega, by go_num, rfl, HT, by rw [HCN.out]; go_num, HP.quiet hb1⟩
                    case measure => simp [intOf]; omega
                  · rw [if_neg hv0] at HCN
                    obtain rfl : v = 0 := by omega
                    go_wp2_with fail
                    have kg := cell_grow
                    refine region_whole (by kernel_rfl) (by kernel_rfl) ?_
                    repeat (any_goals (first | go_big_quiet_step (fail) | quiet_step (fail)))
                    refine wpQuiet_nil ?_
                    clear kg
                    intro w1 hb1
                    obtain ⟨hc1, hf1⟩ := bcell hb1
                    go_wp2
                    go_roundw
                    case rel => exact ⟨k + 1, _, by omega, by go_num, rfl, HT, by rw [HCN.out]; rfl, HP.quiet hb1⟩
                    case measure => simp [intOf]; omega
                · have HT := Lib.hid (HMISS.out hxy)
                  have hq : (y == x) = false := by simp [hxy]
                  clear HHIT HMISS hxy
                  by_cases hv0 : 0 < v
                  · rw [if_pos hv0] at HCN
                    go_wp2_with fail
                    have kg := cell_grow
                    refine region_whole (by kernel_rfl) (by kernel_rfl) ?_
                    repeat (any_goals (first | go_big_quiet_step (fail) | quiet_step (fail)))
                    refine wpQuiet_nil ?_
                    clear kg
                    intro w1 hb1
                    obtain ⟨hc1, hf1⟩ := bcell hb1
                    go_wp2
                    go_roundw
                    case rel => exact ⟨k + 1, _, by omega, by go_num, rfl, HT, by rw [HCN.out]; go_num, HP.quiet hb1⟩
                    case measure => simp [intOf]; omega
                  · rw [if_neg hv0] at HCN
                    obtain rfl : v = 0 := by omega
                    go_wp2_with fail
                    have kg := cell_grow
                    refine region_whole (by kernel_rfl) (by kernel_rfl) ?_
                    repeat (any_goals (first | go_big_quiet_step (fail) | quiet_step (fail)))
                    refine wpQuiet_nil ?_
                    clear kg
                    intro w1 hb1
                    obtain ⟨hc1, hf1⟩ := bcell hb1
                    go_wp2
                    go_roundw
                    case rel => exact ⟨k + 1, _, by omega, by go_num, rfl, HT, by rw [HCN.out]; rfl, HP.quiet hb1⟩
                    case measure => simp [intOf]; omega
              · obtain rfl : k = N.length := by omega
                rw [List.take_of_length_le (by omega)] at hcl hfk ⊢
                clear hcl hlk
                obtain ⟨cc, hcc⟩ : ∃ cc, cc = cntV V := ⟨_, rfl⟩
                rw [← hcc] at HP hfk ⊢
                have HCC := Lib.hid hcc
                clear hcc
                go_upto_if 73 with fail
                go_cut [8, 9, 11] (fun n8 u9 t11 wx => ∃ (N' : List Int) (V' : List Nat) (a : Nat), t11 = .int .i64 (a : Int) ∧ Hid (GoodH N' V' (i + 1) ∧ N'[a]? = some x ∧ cntV V' = cc) ∧ PlaysH w wx g b go bo M i (i + 1) (useF N' V') cc N' V' n8 u9)
                case first =>
                  rcases HT.out with ⟨rfl, hno⟩ | ⟨a, ha, rfl, hx⟩
                  · have z1 := KB1.out _ HP.below
                    have hgl2 : gl < wr.heap.size := Nat.lt_of_lt_of_le hgl hz
                    go_wp2_with (at_builtin; go_loud (refine wpList_append_own_at _ rfl (.tmp 74) (.tmp 80) 26 rfl w.heap.size 3 i0 _ 1 8 Try.underlying26 hi0 iz0 iz1 iz2 rfl (by decide) _ _ _ rfl (HP.rn.alloc _) ⟨wr.heap.size, 0, none⟩ 1 1 [.int .i64 x] rfl rfl (one_new (by simp [go_sem])) (by simp [Value.oneCell']) (by unfold maxLen; omega) (by omega) (by simp; omega) ?_))
                    intro v3 w3 hown3 hgrow3 hnil3 hloc3
                    replace HP := (HP.quiet (wx := wr.alloc (.cells #[.int .i64 x] 3)) (by go_grown)).appN x hown3 hgrow3 (hloc3.imp id (fun h => h.trans (by simp)))
                    obtain ⟨p3, k3, rfl⟩ := own_slice hown3
                    have hz3 := HP.below.size
                    clear hown3 hgrow3 hnil3 hloc3 z1 hgl2 hz
                    go_wp2_with (at_builtin; go_loud (refine wpList_append_own_at _ rfl (.tmp 82) (.tmp 83) 26 rfl w.heap.size 3 i0 _ 1 8 Try.underlying26 hi0 iz0 iz1 iz2 rfl (by decide) _ _ _ rfl (HP.ru.alloc _) ⟨w3.heap.size, 0, none⟩ 1 1 [.int .i64 0] rfl rfl (one_new (by simp [go_sem])) (by simp [Value.oneCell']) (by unfold maxLen; omega) (by omega) (by simp; omega) ?_))
                    intro v4 w4 hown4 hgrow4 hnil4 hloc4
                    replace HP := (HP.quiet (wx := w3.alloc (.cells #[.int .i64 0] 3)) (by go_grown)).appU hown4 hgrow4 (hloc4.imp id (fun h => h.trans (by simp)))
                    clear hown4 hgrow4 hnil4 hloc4
                    go_wp2_with fail
                    go_meet
                    obtain ⟨h1, h2, h3, h6⟩ := HG.out
                    rw [List.take_of_length_le (Nat.le_refl _)] at hno
                    refine ⟨N ++ [x], V ++ [0], N.length, rfl, Lib.hid ⟨⟨nodup_snoc h1 hno, by simp [h2], by simp; omega, fun y hy => (List.mem_append.1 hy).elim (h6 y) (fun e => by rw [List.mem_singleton.1 e]; exact HX.out)⟩, by simp, by rw [cntV_snoc, HCC.out]; rfl⟩, ?_⟩
                    rw [useF_snoc N V x h2]
                    exact HP
                  · go_wp2_with fail
                    go_meet
                    obtain ⟨h1, h2, h3, h6⟩ := HG.out
                    exact ⟨N, V, a, rfl, Lib.hid ⟨⟨h1, h2, by omega, h6⟩, hx, HCC.out.symm⟩, HP⟩
                case rest =>
                  clear HP HT HG hnl hvl1 hvl2 hz
                  obtain ⟨N', V', a, rfl, HF, HP⟩ := hcut
                  obtain ⟨pn', kn', rfl⟩ := own_slice HP.rn
                  obtain ⟨pu', ku', rfl⟩ := own_slice HP.ru
                  obtain ⟨⟨h1, h2, h3, h6⟩, h4, h5⟩ := HF.out
                  have h2a : V'.length ≤ N'.length := Nat.le_of_eq h2
                  have h2b : N'.length ≤ V'.length := Nat.le_of_eq h2.symm
                  have H1 := Lib.hid h1
                  have H6 := Lib.hid h6
                  clear h6
                  clear h2
                  have ha : a < N'.length := (List.getElem?_eq_some_iff.1 h4).1
                  have hav : a < V'.length := by omega
                  have hxa : N'[a] = x := by rw [List.getElem?_eq_getElem ha] at h4; injection h4
                  obtain ⟨v, hv⟩ : ∃ v, v = V'[a] := ⟨_, rfl⟩
                  have hux : useF N' V' x = v := by rw [← hxa, useF_at N' V' h1 a ha hav, hv]
                  have hvm : v ≤ i := by rw [← hux]; exact HP.h.top x
                  have HSET : Hid (∀ u, useF N' (V'.set a u) = updU (useF N' V') x u) := Lib.hid (fun u => by rw [useF_set N' V' u h1 a ha hav, hxa]; rfl)
                  have HCNT : Hid (∀ u, cntV (V'.set a u) + (if 0 < v then 1 else 0) = cc + if 0 < u then 1 else 0) := Lib.hid (fun u => by rw [hv, ← h5]; exact cntV_set V' a u hav)
                  have HUX := Lib.hid hux
                  have H5 := Lib.hid h5
                  have hz := HP.below.size
                  have hgl2 : gl < wc.heap.size := Nat.lt_of_lt_of_le hgl hz
                  have z0 := KB0.out _ HP.below
                  have z1 := KB1.out _ HP.below
                  obtain ⟨gu, rfl, u1, u2, u3⟩ := own_icell HP.ru (vcs_at V' a hav)
                  have u4 : w.heap.size ≤ gu := (HP.ru.lt gu rfl).1
                  have hne : gl ≠ gu := by omega
                  rw [← hv] at u2
                  have i1 : (a : Int) < (V'.length : Int) := by omega
                  clear hux h5 h4 hxa hv
                  go_upto_if 92 with fail
                  go_cut [14] (fun t14 wx => ∃ (V2 : List Nat) (ok : Bool), t14 = .bool ok ∧ Hid (V2.length = V'.length) ∧ PlaysH w wx g b go bo M (i + 1) (i + 1) (useF N' V2) (cntV V2) N' V2 (.slice pn' N'.length kn') (.slice (some ⟨gu, 0, none⟩) V'.length ku'))
                  case first =>
                    cases d
                    · by_cases hx0 : x < 0
                      · have hB : hupB (useF N' V') cc M x = false := by unfold hupB; simp; omega
                        have hU : hupU (useF N' V') cc M x = useF N' V' := by simp [hupU, hB]
                        have hC : hupC (useF N' V') cc M x = cntV V' := by simp [hupC, hB, H5.out]
                        have HB := Lib.hid (And.intro hB (And.intro hU hC))
                        clear hB hU hC
                        go_wp2_with fail
                        refine (hup_any _ _ _ _ _ _ _ x HX.out (by omega) _ HP.h).mono ?_
                        rintro e wa2 ⟨rfl, HA2, hgA2⟩
                        replace HP := HP.turnH HA2 hgA2
                        rw [HB.out.2.1, HB.out.2.2] at HP
                        rw [HB.out.1]
                        clear HA2 hgA2
                        go_wp2_with fail
                        go_meet
                        exact ⟨_, _, rfl, Lib.hid rfl, HP⟩
                      · by_cases hv0 : 0 < v
                        · have hB : hupB (useF N' V') cc M x = true := hup_yes (by omega) (by rw [HUX.out]; exact .inl hv0)
                          have hU : hupU (useF N' V') cc M x = useF N' (V'.set a (v + 1)) := by
                            rw [HSET.out]
                            simp [hupU, hB, HUX.out]
                          have hC : hupC (useF N' V') cc M x = cntV (V'.set a (v + 1)) := by
                            have := HCNT.out (v + 1)
                            rw [if_pos (show 0 < v + 1 by omega)] at this
                            unfold hupC
                            rw [if_pos hB, HUX.out]
                            rw [if_pos hv0] at this ⊢
                            omega
                          have HB := Lib.hid (And.intro hB (And.intro hU hC))
                          have HS := HP.store a (v + 1) ((v : Int) + 1) (by omega)
                          clear hB hU hC
                          go_wp2_with fail
                          refine (hup_any _ _ _ _ _ _ _ x HX.out (by omega) _ HS.h).mono ?_
                          rintro e wa2 ⟨rfl, HA2, hgA2⟩
                          replace HS := HS.turnH HA2 hgA2
                          rw [HB.out.2.1, HB.out.2.2] at HS
                          rw [HB.out.1]
                          clear HA2 hgA2 HP
                          go_wp2_with fail
                          go_meet
                          exact ⟨_, _, rfl, Lib.hid (List.length_set ..), HS⟩
                        · by_cases hcm : (cc : Int) < M
                          · have hB : hupB (useF N' V') cc M x = true := hup_yes (by omega) (by rw [HUX.out]; exact .inr hcm)
                            have hU : hupU (useF N' V') cc M x = useF N' (V'.set a (v + 1)) := by
                              rw [HSET.out]
                              simp [hupU, hB, HUX.out]
                            have hC : hupC (useF N' V') cc M x = cntV (V'.set a (v + 1)) := by
                              have := HCNT.out (v + 1)
                              rw [if_pos (show 0 < v + 1 by omega)] at this
                              unfold hupC
                              rw [if_pos hB, HUX.out]
                              rw [if_neg hv0] at this ⊢
                              omega
                            have HB := Lib.hid (And.intro hB (And.intro hU hC))
                            have HS := HP.store a (v + 1) ((v : Int) + 1) (by omega)
                            clear hB hU hC
                            go_wp2_with fail
                            refine (hup_any _ _ _ _ _ _ _ x HX.out (by omega) _ HS.h).mono ?_
                            rintro e wa2 ⟨rfl, HA2, hgA2⟩
                            replace HS := HS.turnH HA2 hgA2
                            rw [HB.out.2.1, HB.out.2.2] at HS
                            rw [HB.out.1]
                            clear HA2 hgA2 HP
                            go_wp2_with fail
                            go_meet
                            exact ⟨_, _, rfl, Lib.hid (List.length_set ..), HS⟩
                          · have hB : hupB (useF N' V') cc M x = false := by exact hup_not (by rw [HUX.out]; omega) hcm
                            have hU : hupU (useF N' V') cc M x = useF N' V' := by simp [hupU, hB]
                            have hC : hupC (useF N' V') cc M x = cntV V' := by simp [hupC, hB, H5.out]
                            have HB := Lib.hid (And.intro hB (And.intro hU hC))
                            clear hB hU hC
                            go_wp2_with fail
                            refine (hup_any _ _ _ _ _ _ _ x HX.out (by omega) _ HP.h).mono ?_
                            rintro e wa2 ⟨rfl, HA2, hgA2⟩
                            replace HP := HP.turnH HA2 hgA2
                            rw [HB.out.2.1, HB.out.2.2] at HP
                            rw [HB.out.1]
                            clear HA2 hgA2
                            go_wp2_with fail
                            go_meet
                            exact ⟨_, _, rfl, Lib.hid rfl, HP⟩
                    · by_cases hv0 : 0 < v
                      · have HS := HP.store a (v - 1) ((v : Int) - 1) (by omega)
                        go_wp2_with fail
                        refine (hdown_any _ _ _ _ _ _ _ x HX.out (by omega) _ HS.h).mono ?_
                        rintro e wa2 ⟨rfl, HA2, hgA2⟩
                        replace HS := HS.turnH HA2 hgA2
                        have hc : hdnC (useF N' V') cc x = cntV (V'.set a (v - 1)) := by
                          have := HCNT.out (v - 1)
                          unfold hdnC
                          rw [HUX.out]
                          rw [if_pos hv0] at this
                          by_cases e1 : v = 1
                          · subst e1
                            rw [if_neg (by omega)] at this
                            rw [if_pos rfl]
                            omega
                          · rw [if_pos (by omega)] at this
                            rw [if_neg e1]
                            omega
                        rw [hc, HUX.out, ← HSET.out] at HS
                        rw [HUX.out, decide_eq_true hv0]
                        clear hc HA2 hgA2 HP
                        go_wp2_with fail
                        go_meet
                        exact ⟨_, _, rfl, Lib.hid (List.length_set ..), HS⟩
                      · obtain rfl : v = 0 := by omega
                        go_wp2_with fail
                        refine (hdown_any _ _ _ _ _ _ _ x HX.out (by omega) _ HP.h).mono ?_
                        rintro e wa2 ⟨rfl, HA2, hgA2⟩
                        replace HP := HP.turnH HA2 hgA2
                        have hc : hdnC (useF N' V') cc x = cntV V' := by
                          unfold hdnC
                          rw [HUX.out, if_neg (by omega), H5.out]
                        have hid : updU (useF N' V') x 0 = useF N' V' := by
                          have := updU_id (useF N' V') x
                          rwa [HUX.out] at this
                        rw [hc, HUX.out, hid] at HP
                        rw [HUX.out, show decide (0 < 0) = false by decide]
                        clear hc hid HA2 hgA2
                        go_wp2_with fail
                        go_meet
                        exact ⟨_, _, rfl, Lib.hid rfl, HP⟩
                  case rest =>
                    clear HP HSET HCNT HUX z0 z1 u1 u2 u3 hgl2 hz H5 HF
                    obtain ⟨V2, ok, rfl, HV2, HP⟩ := hcut
                    have hv2a : V2.length ≤ N'.length := by have := HV2.out; omega
                    have hv2b : N'.length ≤ V2.length := by have := HV2.out; omega
                    go_wp2
                    go_loopw [15, 16] (fun c15 k16 wr2 => ∃ k : Nat, k ≤ N'.length ∧ k16 = .int .i64 k ∧ c15 = .int .i64 (cntV (V2.take k) : Nat) ∧ PlaysH w wr2 g b go bo M (i + 1) (i + 1) (useF N' V2) (cntV V2) N' V2 (.slice pn' N'.length kn') (.slice (some ⟨gu, 0, none⟩) V'.length ku')) (fun _ k16 _ => N'.length - (intOf k16).toNat)
                    case atStart => exact ⟨0, Nat.zero_le _, rfl, rfl, HP⟩
                    case round =>
                      clear HP
                      obtain ⟨k, hk, rfl, rfl, HP⟩ := hrel
                      have hz := HP.below.size
                      have hcl := cntV_le (V2.take k)
                      rw [List.length_take] at hcl
                      have hfk : cntV (V2.take k) ≤ k := by omega
                      by_cases hlk : k < N'.length
                      · have hlv : k < V2.length := by omega
                        obtain ⟨gn, rfl, n1, n2, -⟩ := own_icell HP.rn (ics_cell N' k hlk)
                        have hru := HP.ru
                        rw [HV2.out] at hru
                        obtain ⟨gr, hgr, u1, u2, -⟩ := own_icell hru (vcs_at V2 k hlv)
                        injection hgr with hgr
                        injection hgr with hgr
                        subst hgr
                        clear hru
                        have hux := useF_at N' V2 H1.out k hlk hlv
                        have HCN := Lib.hid (cntV_take V2 k hlv)
                        obtain ⟨y, hy⟩ : ∃ y, y = N'[k] := ⟨_, rfl⟩
                        obtain ⟨v, hv⟩ : ∃ v, v = V2[k] := ⟨_, rfl⟩
                        rw [← hy] at n2 hux
                        rw [← hv] at u2 HCN hux
                        have hyw : (Lit.int .i64 y).wf = true := by rw [hy]; exact H6.out _ (List.getElem_mem hlk)
                        have HU : Hid (∀ wx, Hps wx w.heap.size g b M (useF N' V2) (cntV V2) (i + 1) → Calls Try.prog 9 #[.pointer (some ⟨g, 0, none⟩), .int .i64 y] wx fun e w' => e = .returned (.int .i64 (v : Nat)) ∧ Below wx.heap.size wx w') := Lib.hid (fun wx H => by have := huses_any _ _ _ _ _ _ _ y hyw wx H; rwa [hux] at this)
                        have HPP := Lib.hid HP
                        generalize cntV (V2.take k) = f at *
                        have i1 : (k : Int) < (N'.length : Int) := by omega
                        have i2 : (k : Int) < (V'.length : Int) := by omega
                        clear hy hv hux hcl hyw
                        by_cases hv0 : 0 < v
                        · rw [if_pos hv0] at HCN
                          go_wp2_with fail
                          have kg := cell_grow
                          refine region_whole (by kernel_rfl) (by kernel_rfl) ?_
                          repeat (any_goals (first | go_big_quiet_step ((exact Calls.regrown_of (HU.out _ (HPP.out.h.below (below_regrown _ _ _))))) | quiet_step ((exact Calls.regrown_of (HU.out _ (HPP.out.h.below (below_regrown _ _ _)))))))
                          refine wpQuiet_nil ?_
                          clear kg
                          intro w1 hb1
                          obtain ⟨hc1, hf1⟩ := bcell hb1
                          go_wp2
                          go_roundw
                          case rel => exact ⟨k + 1, by omega, by go_num, by rw [HCN.out]; go_num, HP.quiet hb1⟩
                          case measure => simp [intOf]; omega
                        · rw [if_neg hv0] at HCN
                          obtain rfl : v = 0 := by omega
                          go_wp2_with fail
                          have kg := cell_grow
                          refine region_whole (by kernel_rfl) (by kernel_rfl) ?_
                          repeat (any_goals (first | go_big_quiet_step ((exact Calls.regrown_of (HU.out _ (HPP.out.h.below (below_regrown _ _ _))))) | quiet_step ((exact Calls.regrown_of (HU.out _ (HPP.out.h.below (below_regrown _ _ _)))))))
                          refine wpQuiet_nil ?_
                          clear kg
                          intro w1 hb1
                          obtain ⟨hc1, hf1⟩ := bcell hb1
                          go_wp2
                          go_roundw
                          case rel => exact ⟨k + 1, by omega, by go_num, by rw [HCN.out]; rfl, HP.quiet hb1⟩
                          case measure => simp [intOf]; omega
                      · obtain rfl : k = N'.length := by omega
                        rw [List.take_of_length_le (by omega)] at hcl hfk ⊢
                        go_wp2_with fail
                        refine (hcount_any _ _ _ _ _ _ _ _ HP.h).mono ?_
                        rintro e wb ⟨rfl, hb5⟩
                        replace HP := HP.quiet hb5
                        clear hb5
                        go_wp2_with fail
                        go_roundg (gk - 1)
                        case measure => omega
                        case rel => exact ⟨i + 1, N', V2, by omega, by go_num, Lib.hid ⟨H1.out, by omega, h3, H6.out⟩, HP⟩
          · go_wp2
            go_ret
            exact ⟨rfl, HP.below⟩
  · have l1 : (200 : Int) < (L.length : Int) := by omega
    go_enter Try.func3, Try.ntmps3
    go_wp2_with fail
    refine (HA.out _).mono ?_
    rintro e0 w0 ⟨rfl, hb0⟩
    have hw0 : Below w.heap.size w w0 := by
      refine Below.trans ?_ (hb0.mono ?_)
      · go_grown
      · go_size
    go_wp2
    all_goals
      go_ret
      exact ⟨rfl, by go_grown⟩
end Go.Proofs.Ytipconmghjohpaa
