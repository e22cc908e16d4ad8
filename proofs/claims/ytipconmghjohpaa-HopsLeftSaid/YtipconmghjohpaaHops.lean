/-
  Counts of next hops in memory: the struct, its map, and what its calls hand back. No condition but those that stand in each.
-/
import Derived.Test.YtipconmghjohpaaInts
import Derived.Test.YtipconmghjohpaaGrown
import Derived.Maps.OwnSet
import Derived.Maps.OwnOps
set_option linter.unusedSimpArgs false
set_option linter.unusedVariables false
namespace Go.Proofs.Ytipconmghjohpaa
open Go.RowKit Go.Sort Go.Maps M

theorem lawI : Keyed Try.prog 3 := int_keyed Try.underlying3
theorem zeroI (w : World) : (zeroValue 3).run Try.prog w = .ok (.int .i64 0) w := by kernel_rfl
theorem keyI (x : Int) : WideAt.IsKeyLit (.int .i64 x) := trivial
/-- The datum D says: number x has U x uses, and c have some. -/
structure Tie (D : DataW Unit) (U : Int → Nat) (c : Nat) : Prop where
  tidy : Tidy D
  at' : ∀ x, D.atKey (.int .i64 x) (.lit (.int .i64 0)) = .lit (.int .i64 (U x : Nat))
  has : ∀ x, Maps.has D (.int .i64 x) = decide (0 < U x)
  size : Maps.size D = c
theorem Tie.none : Tie (.map []) (fun _ => 0) 0 := ⟨tidy_empty, fun _ => rfl, fun _ => rfl, rfl⟩
/-- U, but v at x. -/
def updU (U : Int → Nat) (x : Int) (v : Nat) : Int → Nat := fun y => if y = x then v else U y
theorem updU_same (U : Int → Nat) (x : Int) (v : Nat) : updU U x v x = v := by simp [updU]
theorem updU_other (U : Int → Nat) {x y : Int} (v : Nat) (h : y ≠ x) : updU U x v y = U y := by simp [updU, h]
theorem key_ne {x y : Int} (h : y ≠ x) : (Lit.int .i64 y) ≠ .int .i64 x := fun e => h (by injection e)
theorem Tie.put {D : DataW Unit} {U : Int → Nat} {c : Nat} (T : Tie D U c) (x : Int) (v : Nat) (hv : 0 < v) : Tie (D.put (.int .i64 x) (.lit (.int .i64 (v : Nat)))) (updU U x v) (if 0 < U x then c else c + 1) := by
  refine ⟨T.tidy.put (keyI x) _, fun y => ?_, fun y => ?_, ?_⟩
  · by_cases h : y = x
    · subst h
      rw [atKey_put_same T.tidy.isMap (keyI _), updU_same]
    · rw [atKey_put_other (key_ne h), updU_other _ _ h, T.at']
  · by_cases h : y = x
    · subst h
      rw [has_put_same T.tidy.isMap (keyI _), updU_same]
      simp [hv]
    · rw [has_put_other (key_ne h), updU_other _ _ h, T.has]
  · rw [size_put T.tidy, T.has, T.size]
    simp
theorem Tie.del {D : DataW Unit} {U : Int → Nat} {c : Nat} (T : Tie D U c) (x : Int) (hx : 0 < U x) : Tie (D.del (.int .i64 x)) (updU U x 0) (c - 1) := by
  refine ⟨T.tidy.del _, fun y => ?_, fun y => ?_, ?_⟩
  · by_cases h : y = x
    · subst h
      rw [atKey_del_same, updU_same]
      rfl
    · rw [atKey_del_other (key_ne h), updU_other _ _ h, T.at']
  · by_cases h : y = x
    · subst h
      rw [has_del_same, updU_same]
      rfl
    · rw [has_del_other (key_ne h), updU_other _ _ h, T.has]
  · have := size_del (k := .int .i64 x) T.tidy
    rw [T.has, T.size] at this
    simp [hx] at this
    omega
/-- Counts at block g, their map at block b: number x has U x uses; c have some, and at most 'most' may; m Ups went before. -/
structure Hps (w : World) (B g b : Nat) (most : Int) (U : Int → Nat) (c m : Nat) : Prop where
  low : B ≤ g
  low2 : B ≤ b
  lt : g < w.heap.size
  ne : b ≠ g
  map : w.cell? ⟨g, 0, none⟩ = some (.map (some b))
  num : w.cell? ⟨g, 1, none⟩ = some (.int .i64 most)
  own : ∃ D, w.ownsMap (H := Unit) Try.prog 3 (plainElem Try.prog 3) b m D ∧ Tie D U c
  top : ∀ x, U x ≤ m
theorem Hps.lt2 {w : World} {B g b : Nat} {most : Int} {U : Int → Nat} {c m : Nat} (H : Hps w B g b most U c m) : b < w.heap.size := by
  obtain ⟨D, hD, -⟩ := H.own
  exact hD.lt
theorem Hps.kept {w w' : World} {B g b : Nat} {most : Int} {U : Int → Nat} {c m : Nat} {row : Option Nat} (H : Hps w B g b most U c m) (hg : w.grownBy w' row) (h1 : some g ≠ row) (h2 : some b ≠ row) : Hps w' B g b most U c m := by
  obtain ⟨D, hD, hT⟩ := H.own
  exact ⟨H.low, H.low2, Nat.lt_of_lt_of_le H.lt hg.size, H.ne, hg.cell H.map h1, hg.cell H.num h1, ⟨D, hD.kept hg h2, hT⟩, H.top⟩
theorem Hps.below {w w' : World} {B g b : Nat} {most : Int} {U : Int → Nat} {c m : Nat} (H : Hps w B g b most U c m) (hb : Below w.heap.size w w') : Hps w' B g b most U c m := H.kept (grown_below hb) (by simp) (by simp)
theorem Hps.le {w : World} {B B' g b : Nat} {most : Int} {U : Int → Nat} {c m : Nat} (H : Hps w B g b most U c m) (h : B' ≤ B) : Hps w B' g b most U c m :=
  ⟨Nat.le_trans h H.low, Nat.le_trans h H.low2, H.lt, H.ne, H.map, H.num, H.own, H.top⟩
theorem Hps.more {w : World} {B g b : Nat} {most : Int} {U : Int → Nat} {c m m' : Nat} (H : Hps w B g b most U c m) (h : m ≤ m') : Hps w B g b most U c m' := by
  obtain ⟨D, hD, hT⟩ := H.own
  exact ⟨H.low, H.low2, H.lt, H.ne, H.map, H.num, ⟨D, hD.mono h, hT⟩, fun x => Nat.le_trans (H.top x) h⟩
/-- A map of the call's own turned: the counts behind it. -/
theorem Hps.turn {w w' : World} {B g b : Nat} {most : Int} {U V : Int → Nat} {c d m m' : Nat} (H : Hps w B g b most U c m) {D : DataW Unit} (hD : w'.ownsMap (H := Unit) Try.prog 3 (plainElem Try.prog 3) b m' D) (hT : Tie D V d) (hg : w.grownBy w' (some b)) (ht : ∀ x, V x ≤ m') : Hps w' B g b most V d m' := by
  have hne := H.ne
  exact ⟨H.low, H.low2, Nat.lt_of_lt_of_le H.lt hg.size, H.ne, hg.cell H.map (by simp; omega), hg.cell H.num (by simp; omega), ⟨D, hD, hT⟩, ht⟩
def HpsAt (w : World) (B : Nat) (v : Value) (most : Int) (U : Int → Nat) (c m : Nat) : Prop := ∃ g b, v = .pointer (some ⟨g, 0, none⟩) ∧ Hps w B g b most U c m
/-- How many may have some, at most. -/
def capH (n : Int) : Int := max 0 (min n 60)
theorem Hps.new (w : World) (x n : Int) (hx : x = capH n) (t : TypeId) :
    Hps ((w.alloc (.map #[] 0)).alloc (.cells #[.map (some w.heap.size), .int .i64 x] t)) w.heap.size (w.heap.size + 1) w.heap.size (capH n) (fun _ => 0) 0 0 := by
  subst hx
  refine ⟨by omega, by omega, by simp, by omega, by simp [go_sem], by simp [go_sem], ⟨_, (World.ownsMap_made w _ _ _).alloc _, Tie.none⟩, fun _ => Nat.le_refl _⟩
theorem hnew_any (n : Int) (w : World) :
    Calls Try.prog 6 #[.int .i64 n] w fun e w' => ∃ v, e = .returned v ∧ HpsAt w' w.heap.size v (capH n) (fun _ => 0) 0 0 ∧ Below w.heap.size w w' := by
  have hmm := @run_makeMap Try.prog
  by_cases h0 : n ≤ 0
  · by_cases h2 : 0 < n
    · omega
    · have HC : Hid ((0 : Int) = capH n) := by show (0 : Int) = capH n; unfold capH; omega
      have h60 : ¬ (60 : Int) < n := by omega
      clear h2
      go_enter Try.func6, Try.ntmps6
      go_wp2
      go_ret
      all_goals exact ⟨_, rfl, ⟨_, _, rfl, Hps.new w _ n (by have := HC.out; unfold capH at *; omega) _⟩, by go_grown⟩
  · by_cases h1 : 60 < n
    · have HC : Hid ((60 : Int) = capH n) := by show (60 : Int) = capH n; unfold capH; omega
      have h2 : 0 < n := by omega
      go_enter Try.func6, Try.ntmps6
      go_wp2
      go_ret
      all_goals exact ⟨_, rfl, ⟨_, _, rfl, Hps.new w _ n (by have := HC.out; unfold capH at *; omega) _⟩, by go_grown⟩
    · have HC : Hid (n = capH n) := by show n = capH n; unfold capH; omega
      have h2 : 0 < n := by omega
      go_enter Try.func6, Try.ntmps6
      go_wp2
      go_ret
      all_goals exact ⟨_, rfl, ⟨_, _, rfl, Hps.new w _ n (by have := HC.out; unfold capH at *; omega) _⟩, by go_grown⟩
theorem huses_any (B g b : Nat) (most : Int) (U : Int → Nat) (c m : Nat) (x : Int) (hx : (Lit.int .i64 x).wf = true) (w : World) (H : Hps w B g b most U c m) :
    Calls Try.prog 9 #[.pointer (some ⟨g, 0, none⟩), .int .i64 x] w fun e w' => e = .returned (.int .i64 (U x : Nat)) ∧ Below w.heap.size w w' := by
  obtain ⟨D, hown, hT⟩ := H.own
  have c0 := H.map
  have hl := H.lt
  have hkey := keyOf_int_mk Try.underlying3 hx
  have HAT := Lib.hid (hT.at' x)
  clear H hT
  go_enter Try.func9, Try.ntmps9
  go_wp2_with (first
    | (at_lookup; refine wpList_lookup_own_int _ rfl _ _ 34 rfl 3 3 .i64 lawI Try.underlying34 Try.underlying3 (zeroI _) b m D rfl hown _ _ rfl hkey ?_; intro k hat hwk)
    | go_in)
  go_ret
  refine ⟨ret_num ?_, by go_grown⟩
  have := hat.symm.trans HAT.out
  simpa using this
theorem hcount_any (B g b : Nat) (most : Int) (U : Int → Nat) (c m : Nat) (w : World) (H : Hps w B g b most U c m) :
    Calls Try.prog 10 #[.pointer (some ⟨g, 0, none⟩)] w fun e w' => e = .returned (.int .i64 (c : Nat)) ∧ Below w.heap.size w w' := by
  obtain ⟨D, hown, hT⟩ := H.own
  have c0 := H.map
  have hl := H.lt
  have HS := Lib.hid hT.size
  clear H hT
  go_enter Try.func10, Try.ntmps10
  go_wp2_with (first
    | (at_len; refine wpList_len_own _ rfl _ 34 rfl 3 3 Try.underlying34 _ b m D rfl hown ?_)
    | go_in)
  go_ret
  exact ⟨ret_num (by rw [HS.out]), by go_grown⟩
theorem room_any (B g b : Nat) (most : Int) (U : Int → Nat) (c m : Nat) (w : World) (H : Hps w B g b most U c m) :
    Calls Try.prog 11 #[.pointer (some ⟨g, 0, none⟩)] w fun e w' => e = .returned (.bool (decide ((c : Int) < most))) ∧ Below w.heap.size w w' := by
  obtain ⟨D, hown, hT⟩ := H.own
  have c0 := H.map
  have c1 := H.num
  have hl := H.lt
  have hlen : ∀ d os ty, (Builtin.len_ #[34] ty #[.map (some b)]).run Try.prog (grow (redrawn w d) os) = .ok (.int .i64 (c : Nat)) (grow (redrawn w d) os) := by
    intro d os ty
    have := (hown.kept (grown_below (below_regrown w d os)) (by simp)).len Try.underlying34 ty
    rwa [hT.size] at this
  clear H hT hown
  go_enter Try.func11, Try.ntmps11
  go_wp2_with fail
  have kg := cell_grow
  refine region_whole (by kernel_rfl) (by kernel_rfl) ?_
  repeat (any_goals (first | go_big_quiet_step (fail) | quiet_step (fail)))
  refine wpQuiet_nil ?_
  clear kg
  intro w1 hb1
  obtain ⟨hc1, hf1⟩ := bcell hb1
  have hw1 : Below w.heap.size w w1 := by
    refine Below.trans ?_ (hb1.mono ?_)
    · go_grown
    · first | omega | go_size
  go_wp2
  go_ret
  exact ⟨rfl, hw1⟩
end Go.Proofs.Ytipconmghjohpaa
