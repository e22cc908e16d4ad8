/-
  The program's rows of weights, and how what is left is divided. No condition but those that stand in each.
-/
import Derived.Test.YtdfmebfkhcdphaaW10
import Derived.Test.YtdfmebfkhcdphaaM10b
set_option linter.unusedSimpArgs false
set_option linter.unusedVariables false
namespace Go.Proofs.Ytdfmebfkhcdphaa
open Go.RowKit Go.Sort M

/-- The weights of a row of floats, number by number. -/
def wtF (X : List Nat) (j : Nat) : Nat := wtN (X.getD j 0)
theorem wtF_le (X : List Nat) (j : Nat) : wtF X j ≤ 1073741824 := wtN_le _
theorem wtF_at (X : List Nat) (j : Nat) (h : j < X.length) : wtF X j = wtN X[j] := by simp [wtF, h]
theorem made_ints (n : Nat) : (madeCells #[.int .i64 0] n).toList = ics ((List.range n).map fun _ => (0 : Int)) := by
  apply List.ext_getElem?
  intro j
  by_cases h : j < n
  · simp [madeCells, ics, h, Nat.mod_one]
  · rw [List.getElem?_eq_none (by simp [madeCells]; omega), List.getElem?_eq_none (by simp [ics]; omega)]
theorem infoI64 : (Try.prog.info? 2).map (fun i => (i.zero, i.size, i.bytes)) = some (some (.int .i64 0), 1, 8) := by kernel_rfl
theorem ics_set (L : List Int) (k : Nat) (x : Int) : (ics L).set k (.int .i64 x) = ics (L.set k x) := by
  unfold ics
  rw [List.map_set]
theorem range_map_len (f : Nat → Int) (n : Nat) : ((List.range n).map f).length = n := by simp
theorem range_map_at (f : Nat → Int) (n j : Nat) (h : j < n) : (ics ((List.range n).map f))[j]? = some (.int .i64 (f j)) := by simp [ics, h]
theorem mix_cell (f g : Nat → Int) (i n j : Nat) (h : j < n) : (ics (mixL f g i n))[j]? = some (.int .i64 (if j < i then f j else g j)) := by simp [ics, mixL, h]

set_option maxHeartbeats 1000000 in
theorem weighAll_any (p : Option Addr) (c : Nat) (X : List Nat) (w : World) (hX : Row w p (fcs X)) (h1 : 1 ≤ X.length) (h2 : X.length ≤ 200) :
    Calls Try.prog 14 #[.slice p X.length c] w fun e w' => ∃ g d, e = .returned (.tuple #[.slice (some ⟨g, 0, none⟩) X.length d, .int .i64 (sumF (wtF X) X.length : Nat)]) ∧
      w'.ownsRow w.heap.size 2 1 (.slice (some ⟨g, 0, none⟩) X.length d) X.length (ics ((List.range X.length).map fun j => ((wtF X j : Nat) : Int))) ∧ Below w.heap.size w w' := by
  obtain ⟨n, hn⟩ : ∃ n, n = X.length := ⟨_, rfl⟩
  have hmk := make_row (P := Try.prog) (t := 39) Try.underlying39 infoI64 n (by omega) (by unfold maxLen; omega)
  have hb : ∀ k, sumF (wtF X) k ≤ k * 1073741824 := sumF_bound (wtF_le X)
  have hatw : ∀ k, k < n → wtF X k = wtN (X.getD k 0) := fun k _ => rfl
  rw [← hn]
  have HN := Lib.hid hn
  have HX := Lib.hid hX
  have HB := Lib.hid hb
  have hown0 : (w.alloc (.cells (madeCells #[.int .i64 0] n) 2)).ownsRow w.heap.size 2 1 (.slice (some ⟨w.heap.size, 0, none⟩) n n) n (ics (mixL (fun j => ((wtF X j : Nat) : Int)) (fun _ => 0) 0 n)) := by
    rw [mixL_none, ← made_ints]
    exact World.ownsRow_lit _ _ n (by omega) (by unfold maxLen; omega) (by simp [madeCells])
  rw [← hn] at h1 h2
  clear hX hb hatw hn
  go_enter Try.func14, Try.ntmps14
  go_wp2_with fail
  go_loopw [3, 11] (fun s3 s11 wr => ∃ k : Nat, k ≤ n ∧ s11 = .int .i64 k ∧ s3 = .int .i64 (sumF (wtF X) k : Nat) ∧
    wr.ownsRow w.heap.size 2 1 (.slice (some ⟨w.heap.size, 0, none⟩) n n) n (ics (mixL (fun j => ((wtF X j : Nat) : Int)) (fun _ => 0) k n)) ∧ Below w.heap.size w wr) (fun _ s11 _ => n - (intOf s11).toNat)
  case atStart => exact ⟨0, Nat.zero_le _, rfl, rfl, hown0, by go_grown⟩
  case round =>
    clear hown0 hmk
    obtain ⟨k, hk, rfl, rfl, hown, hw1⟩ := hrel
    have hz1 := hw1.size
    by_cases hlt : k < n
    · have hltX : k < X.length := by rw [← HN.out]; exact hlt
      obtain ⟨g1, o1, rfl, hg1, a0⟩ := (HX.out.below hw1).atF hltX
      have hW := weight_any X[k]
      rw [← wtF_at X k hltX] at hW
      have hu := wtF_le X k
      have hsum : sumF (wtF X) (k + 1) = sumF (wtF X) k + wtF X k := rfl
      have hsb := HB.out (k + 1)
      have hset := mixL_set (fun j => ((wtF X j : Nat) : Int)) (fun _ => 0) k n
      have hx : ∃ y, y = X[k] := ⟨_, rfl⟩
      obtain ⟨y, hy⟩ := hx
      rw [← hy] at hW a0
      obtain ⟨u, hu2⟩ : ∃ u, u = wtF X k := ⟨_, rfl⟩
      rw [← hu2] at hW hu hsum hset
      have hcv : ∀ w, (convert 23 2 (.float .f64 (fl u))).run Try.prog w = .ok (.int .i64 (u : Nat)) w := fun w => run_convert_float_int w _ _ .f64 .i64 _ _ (by rw [Try.underlying23]; rfl) Try.underlying2 (toint_fl u hu)
      generalize fl u = v at hW hcv
      generalize sumF (wtF X) k = S at hsum ⊢
      have HW := Lib.hid hW
      have HS := Lib.hid hsum
      have HSET := Lib.hid hset
      clear hW hset hy
      have hgz := (hown.lt w.heap.size rfl).2
      have hgl := (hown.lt w.heap.size rfl).1
      have hSb : S + u ≤ 214748364800 := by rw [← HS.out]; omega
      clear hsb hsum hu2
      go_wp2_with fail
      refine (HW.out _).mono ?_
      rintro e w2 ⟨rfl, hb2⟩
      have hown2 := own_below hown hb2
      have hw2 := hw1.trans (hb2.mono hz1)
      have hgz2 : w.heap.size < w2.heap.size := Nat.lt_of_lt_of_le hgz hb2.size
      obtain ⟨v0, d0⟩ : ∃ v, w2.cell? ⟨w.heap.size, k, none⟩ = some v := ⟨_, (hown2.cellAt k (by omega)).trans (List.getElem?_eq_getElem (by rw [ics_len, mixL_len]; exact hlt))⟩
      have f0 := hown2.frozenAt k
      clear hown hb2 hw1 hz1
      go_wp2_with (simp only [hcv])
      go_roundw
      case rel =>
        refine ⟨k + 1, by omega, by go_num, ?_, ?_, by go_grown⟩
        · rw [HS.out]; go_num
        · have := (hown2.stored k (.int .i64 (u : Nat))).1
          rw [ics_set, HSET.out] at this
          exact this
      case measure => simp [intOf]; omega
    · have hkn : k = n := by omega
      have HK := Lib.hid hkn
      clear hkn
      go_wp2
      go_ret2
      refine ⟨w.heap.size, n, ?_, ?_, hw1⟩
      · rw [HK.out]; rfl
      · have e := HK.out
        rw [e] at hown
        rwa [mixL_full] at hown
end Go.Proofs.Ytdfmebfkhcdphaa
