/-
  What the program's reader of an address hands back. It asks what Kit tells of the library's variables.
-/
import Derived.Test.YtegaeifmikfpcaaDoorW3e
import Derived.Laws.CopyOwn
set_option linter.unusedSimpArgs false
set_option linter.unusedVariables false
namespace Go.Proofs.YtegaeifmikfpcaaDoor
open Go.RowKit Go.Sort M

def adrV (x : Option (List Nat)) : Value := match x with
  | none => .tuple #[.agg #[.int .u64 0, .int .u64 0], .bool false]
  | some w => .tuple #[.agg #[.int .u64 (hiOf w : Nat), .int .u64 (loOf w : Nat)], .bool true]
def combV (f : Bool) (a b : Option (List Nat)) : Option (List Nat) := match a, b with
  | some a, some b => if (f = true ∧ 8 ≤ a.length + b.length) ∨ (f = false ∧ a.length + b.length ≠ 8) then none else some (a ++ List.replicate (8 - (a.length + b.length)) 0 ++ b)
  | _, _ => none
theorem wordsP_comb (l : List UInt8) : wordsP l = combV (Lib.cut l [58, 58]).2.2 (numsV (Lib.cut l [58, 58]).1) (numsV (Lib.cut l [58, 58]).2.1) := by
  rw [cut_dbl]
  unfold wordsP
  by_cases h : 0 ≤ dblI l
  · simp only [h, if_true]
    cases numsV (l.take (dblI l).toNat) with
    | none => rfl
    | some a =>
      cases numsV (l.drop ((dblI l).toNat + 2)) with
      | none => rfl
      | some b =>
        simp only [fillV, combV]
        by_cases h7 : a.length + b.length ≤ 7
        · rw [if_pos h7, if_neg (by simp; omega)]
        · rw [if_neg h7, if_pos (by simp; omega)]
  · simp only [h, if_false]
    have e : numsV [] = some [] := rfl
    rw [e]
    cases numsV l with
    | none => rfl
    | some a =>
      simp only [eightV, combV, List.length_nil, Nat.add_zero, List.append_nil]
      by_cases h8 : a.length = 8
      · rw [if_pos h8, if_neg (by simp [h8]), h8]; simp
      · rw [if_neg h8, if_pos (by simp [h8])]
theorem cut_len (l : List UInt8) : (Lib.cut l [58, 58]).1.length ≤ l.length ∧ (Lib.cut l [58, 58]).2.1.length ≤ l.length := by
  rw [cut_dbl]
  split
  · simp; omega
  · simp
theorem nums_small {x : List UInt8} {L : List Nat} (h : numsV x = some L) : L.length ≤ 8 ∧ ∀ z ∈ L, z < 65536 := by
  rw [numsV_eq] at h
  cases hg : groupV x with
  | none => rw [hg] at h; cases h
  | some y =>
    rw [hg] at h
    simp only [cap8] at h
    split at h
    · cases h; exact ⟨by assumption, groupV_lt hg⟩
    · cases h
theorem splice_two (L1 L2 : List Nat) (h : L1.length + L2.length ≤ 8) :
    splice (splice (List.replicate 8 (u16V 0)) 0 (L1.map u16V)) (8 - L2.length) (L2.map u16V) = (L1 ++ List.replicate (8 - (L1.length + L2.length)) 0 ++ L2).map u16V := by
  unfold splice
  simp only [List.take_zero, List.nil_append, Nat.zero_add, List.length_map, List.drop_replicate, List.map_append, List.map_replicate]
  rw [show 8 - L2.length + L2.length = 8 by omega]
  have e1 : (List.map u16V L1 ++ List.replicate (8 - L1.length) (u16V 0)).drop 8 = [] := List.drop_eq_nil_of_le (by simp; omega)
  rw [e1, List.append_nil, List.take_append, List.take_of_length_le (by simp; omega), List.take_replicate]
  congr 3
  simp; omega
theorem eight_of {l : List Nat} (h : l.length = 8) : ∃ a b c d e f g i, l = [a, b, c, d, e, f, g, i] := by
  match l, h with
  | [a, b, c, d, e, f, g, i], _ => exact ⟨a, b, c, d, e, f, g, i, rfl⟩
theorem infoH1 : (Tryd.prog.info? 54).map (·.size) = some 1 := by kernel_rfl
theorem own_src {w : World} {B : Nat} {L : List Nat} {p : Option Addr} {cap : Nat} (h : w.ownsRow B 54 1 (.slice p L.length cap) L.length (L.map u16V)) (h0 : 0 < (L.map u16V).length) :
    ∃ ad, p = some ad ∧ ∀ j v, (L.map u16V)[j]? = some v → w.cell? (ad.add j) = some v := by
  have hc := fun g hg => h.cells (g := g) hg
  rcases h.2 with ⟨e, h1⟩ | ⟨g, cap', cur, e, -, -, -, -, -, -⟩
  · simp at h0; omega
  · injection e with e1 e2 e3
    subst e1
    exact ⟨_, rfl, hc g rfl⟩
theorem block_cells {w : World} {g : Nat} {a b c d e f k i : Nat} (h : w.heap[g]? = some (.cells (([a, b, c, d, e, f, k, i] : List Nat).map u16V).toArray 55 (0, 0))) :
    w.cell? ⟨g, 0, none⟩ = some (.int .u16 a) ∧ w.cell? ⟨g, 1, none⟩ = some (.int .u16 b) ∧ w.cell? ⟨g, 2, none⟩ = some (.int .u16 c) ∧ w.cell? ⟨g, 3, none⟩ = some (.int .u16 d) ∧
    w.cell? ⟨g, 4, none⟩ = some (.int .u16 e) ∧ w.cell? ⟨g, 5, none⟩ = some (.int .u16 f) ∧ w.cell? ⟨g, 6, none⟩ = some (.int .u16 k) ∧ w.cell? ⟨g, 7, none⟩ = some (.int .u16 i) := by
  simp [World.cell?, h, u16V]
theorem slice_at8 (g q m : Nat) (h : q + m = 8) : ∃ dp, (∀ w', (Instr.sliceAt 55 (.pointer (some ⟨g, 0, none⟩)) (some (.int .i64 (q : Int))) none none).run Tryd.prog w' = .ok (.slice dp m m) w') ∧ (0 < m → dp = some ⟨g, q, none⟩) := by
  refine ⟨if 8 = q then some ⟨g, 0, none⟩ else some ⟨g, q, none⟩, fun w' => ?_, fun h0 => by rw [if_neg (by omega)]⟩
  have e8 : Tryd.prog.arrayLen 55 = 8 := by kernel_rfl
  have ee : Tryd.prog.elem 55 = 54 := by kernel_rfl
  have hu : Tryd.prog.underlying 55 = some (.array (Tryd.prog.arrayLen 55) (Tryd.prog.elem 55)) := by rw [e8, ee]; exact Tryd.underlying55
  have hr := run_sliceAt_array_l w' 55 ⟨g, 0, none⟩ hu .i64 (q : Int) (by omega) (by rw [e8]; omega)
  rw [hr, ee, e8]
  have hs : (sizeOf 54).run Tryd.prog w' = .ok 1 w' := by
    obtain ⟨i0, hi0, iz0, iz1, iz2⟩ := info_parts infoH
    simp [sizeOf, typeInfo, hi0, iz1]
  rw [hs]
  simp only [Result.andThen, slicedAt, Int.toNat_natCast, Nat.mul_one]
  by_cases h8 : 8 = q
  · subst h8
    obtain rfl : m = 0 := by omega
    simp
  · rw [if_neg h8, if_neg h8, show 8 - q = m by omega]
    have : (⟨g, 0, none⟩ : Addr).add q = ⟨g, q, none⟩ := by unfold Addr.add; split <;> simp_all
    rw [this]
set_option maxHeartbeats 2000000 in
set_option maxRecDepth 100000 in
theorem caddress_any (l : List UInt8) (hl : l.length ≤ 1000000) : GivesK 16 #[.string ⟨l.toArray⟩] (adrV (wordsP l)) := by
  intro w hk
  rw [wordsP_comb]
  have hC := fun w' hk' => scut2_any hl w' hk'
  obtain ⟨hlx, hly⟩ := cut_len l
  generalize (Lib.cut l [58, 58]).1 = x at *
  generalize (Lib.cut l [58, 58]).2.1 = y at *
  generalize (Lib.cut l [58, 58]).2.2 = f at *
  have hN1 := fun w' hk' => cnumbers_any x (by omega) w' hk'
  have hN2 := fun w' hk' => cnumbers_any y (by omega) w' hk'
  have HC := Lib.hid hC
  have HK := Lib.hid hk
  have HN2 := Lib.hid hN2
  clear hC hk hlx hly hl hN2
  cases h1 : numsV x with
  | none =>
    rw [h1] at hN1
    have HN1 := Lib.hid hN1
    clear hN1 h1
    go_enter Tryd.func16, Tryd.ntmps16
    go_wp2_with fail
    refine (HC.out _ (HK.out.up (by go_grown))).mono ?_
    rintro e w1 ⟨rfl, hb1⟩
    have hw0 : Below w.heap.size w w1 := Below.trans (by go_grown) (hb1.mono (by go_size))
    have hz : w.heap.size < w1.heap.size := by have := hb1.size; simp at this; omega
    have c0 : w1.cell? ⟨w.heap.size, 0, none⟩ = some (.int .u64 0) := by
      rw [hb1.cell (by simp <;> omega)]
      first | assumption | (simp [go_sem]; done) | (simp [go_sem, *]; done)
    have c1 : w1.cell? ⟨w.heap.size, 1, none⟩ = some (.int .u64 0) := by
      rw [hb1.cell (by simp <;> omega)]
      first | assumption | (simp [go_sem]; done) | (simp [go_sem, *]; done)
    have f0 : w1.frozen? ⟨w.heap.size, 0, none⟩ = false := by
      rw [hb1.frozen (by simp <;> omega)]
      first | assumption | (simp [go_sem]; done) | (simp [go_sem, *]; done)
    have f1 : w1.frozen? ⟨w.heap.size, 1, none⟩ = false := by
      rw [hb1.frozen (by simp <;> omega)]
      first | assumption | (simp [go_sem]; done) | (simp [go_sem, *]; done)
    clear hb1
    go_wp2_with fail
    refine (HN1.out _ (HK.out.up hw0)).mono ?_
    rintro e w2 ⟨v1, rfl, hown1, hb2⟩
    obtain ⟨hc2, hf2⟩ := bcell hb2
    have c0 := (hc2 _ _ (by omega)).trans c0
    have c1 := (hc2 _ _ (by omega)).trans c1
    have f0 := (hf2 _ _ (by omega)).trans f0
    have f1 := (hf2 _ _ (by omega)).trans f1
    have hw0 := Below.trans hw0 (hb2.mono (by omega))
    have hz := Nat.lt_of_lt_of_le hz hb2.size
    clear hc2 hf2 hb2
    go_wp2
    refine bodyPost_ret (by simp [results, Tryd.results16, go_sem, c0, c1, f0, f1]; try rfl) rfl ?_
    exact ⟨rfl, by go_grown⟩
  | some L1 =>
    obtain ⟨hs1, hb1⟩ := nums_small h1
    have HB1 := Lib.hid hb1
    rw [h1] at hN1
    have HN1 := Lib.hid hN1
    clear hN1 h1 hb1
    cases h2 : numsV y with
    | none =>
      have HN2' := Lib.hid HN2.out
      clear HN2
      rw [h2] at HN2'
      clear h2
      go_enter Tryd.func16, Tryd.ntmps16
      go_wp2_with fail
      refine (HC.out _ (HK.out.up (by go_grown))).mono ?_
      rintro e w1 ⟨rfl, hb1⟩
      have hw0 : Below w.heap.size w w1 := Below.trans (by go_grown) (hb1.mono (by go_size))
      have hz : w.heap.size < w1.heap.size := by have := hb1.size; simp at this; omega
      have c0 : w1.cell? ⟨w.heap.size, 0, none⟩ = some (.int .u64 0) := by
        rw [hb1.cell (by simp <;> omega)]
        first | assumption | (simp [go_sem]; done) | (simp [go_sem, *]; done)
      have c1 : w1.cell? ⟨w.heap.size, 1, none⟩ = some (.int .u64 0) := by
        rw [hb1.cell (by simp <;> omega)]
        first | assumption | (simp [go_sem]; done) | (simp [go_sem, *]; done)
      have f0 : w1.frozen? ⟨w.heap.size, 0, none⟩ = false := by
        rw [hb1.frozen (by simp <;> omega)]
        first | assumption | (simp [go_sem]; done) | (simp [go_sem, *]; done)
      have f1 : w1.frozen? ⟨w.heap.size, 1, none⟩ = false := by
        rw [hb1.frozen (by simp <;> omega)]
        first | assumption | (simp [go_sem]; done) | (simp [go_sem, *]; done)
      clear hb1
      go_wp2_with fail
      refine (HN1.out _ (HK.out.up hw0)).mono ?_
      rintro e w2 ⟨v1, rfl, hown1, hb2⟩
      obtain ⟨hc2, hf2⟩ := bcell hb2
      have c0 := (hc2 _ _ (by omega)).trans c0
      have c1 := (hc2 _ _ (by omega)).trans c1
      have f0 := (hf2 _ _ (by omega)).trans f0
      have f1 := (hf2 _ _ (by omega)).trans f1
      have hw0 := Below.trans hw0 (hb2.mono (by omega))
      have hz := Nat.lt_of_lt_of_le hz hb2.size
      clear hc2 hf2 hb2
      go_wp2_with fail
      refine (HN2'.out _ (HK.out.up hw0)).mono ?_
      rintro e w3 ⟨v2, rfl, hown2, hb3⟩
      obtain ⟨hc3, hf3⟩ := bcell hb3
      have c0 := (hc3 _ _ (by omega)).trans c0
      have c1 := (hc3 _ _ (by omega)).trans c1
      have f0 := (hf3 _ _ (by omega)).trans f0
      have f1 := (hf3 _ _ (by omega)).trans f1
      have hw0 := Below.trans hw0 (hb3.mono (by omega))
      have hz := Nat.lt_of_lt_of_le hz hb3.size
      clear hc3 hf3 hb3
      go_wp2
      refine bodyPost_ret (by simp [results, Tryd.results16, go_sem, c0, c1, f0, f1]; try rfl) rfl ?_
      exact ⟨rfl, by go_grown⟩
    | some L2 =>
      obtain ⟨hs2, hb2⟩ := nums_small h2
      have HB2 := Lib.hid hb2
      have HN2' := Lib.hid HN2.out
      clear HN2
      rw [h2] at HN2'
      clear h2 hb2
      by_cases hbad : (f = true ∧ 8 ≤ L1.length + L2.length) ∨ (f = false ∧ L1.length + L2.length ≠ 8)
      · have hR : combV f (some L1) (some L2) = none := by simp only [combV]; rw [if_pos hbad]
        rw [hR]
        clear hR
        rcases hbad with ⟨rfl, hx⟩ | ⟨rfl, hx⟩
        ·
          go_enter Tryd.func16, Tryd.ntmps16
          go_wp2_with fail
          refine (HC.out _ (HK.out.up (by go_grown))).mono ?_
          rintro e w1 ⟨rfl, hb1⟩
          have hw0 : Below w.heap.size w w1 := Below.trans (by go_grown) (hb1.mono (by go_size))
          have hz : w.heap.size < w1.heap.size := by have := hb1.size; simp at this; omega
          have c0 : w1.cell? ⟨w.heap.size, 0, none⟩ = some (.int .u64 0) := by
            rw [hb1.cell (by simp <;> omega)]
            first | assumption | (simp [go_sem]; done) | (simp [go_sem, *]; done)
          have c1 : w1.cell? ⟨w.heap.size, 1, none⟩ = some (.int .u64 0) := by
            rw [hb1.cell (by simp <;> omega)]
            first | assumption | (simp [go_sem]; done) | (simp [go_sem, *]; done)
          have f0 : w1.frozen? ⟨w.heap.size, 0, none⟩ = false := by
            rw [hb1.frozen (by simp <;> omega)]
            first | assumption | (simp [go_sem]; done) | (simp [go_sem, *]; done)
          have f1 : w1.frozen? ⟨w.heap.size, 1, none⟩ = false := by
            rw [hb1.frozen (by simp <;> omega)]
            first | assumption | (simp [go_sem]; done) | (simp [go_sem, *]; done)
          clear hb1
          go_wp2_with fail
          refine (HN1.out _ (HK.out.up hw0)).mono ?_
          rintro e w2 ⟨v1, rfl, hown1, hb2⟩
          obtain ⟨p1, k1, rfl⟩ := own_slice hown1
          have hown1 : w2.ownsRow w1.heap.size 54 1 (.slice p1 L1.length k1) L1.length (L1.map u16V) := hown1
          obtain ⟨hc2, hf2⟩ := bcell hb2
          have c0 := (hc2 _ _ (by omega)).trans c0
          have c1 := (hc2 _ _ (by omega)).trans c1
          have f0 := (hf2 _ _ (by omega)).trans f0
          have f1 := (hf2 _ _ (by omega)).trans f1
          have hw0 := Below.trans hw0 (hb2.mono (by omega))
          have hz := Nat.lt_of_lt_of_le hz hb2.size
          clear hc2 hf2 hb2
          go_wp2_with fail
          refine (HN2'.out _ (HK.out.up hw0)).mono ?_
          rintro e w3 ⟨v2, rfl, hown2, hb3⟩
          obtain ⟨p2, k2, rfl⟩ := own_slice hown2
          have hown2 : w3.ownsRow w2.heap.size 54 1 (.slice p2 L2.length k2) L2.length (L2.map u16V) := hown2
          have hown1 := own_below hown1 hb3
          obtain ⟨hc3, hf3⟩ := bcell hb3
          have c0 := (hc3 _ _ (by omega)).trans c0
          have c1 := (hc3 _ _ (by omega)).trans c1
          have f0 := (hf3 _ _ (by omega)).trans f0
          have f1 := (hf3 _ _ (by omega)).trans f1
          have hw0 := Below.trans hw0 (hb3.mono (by omega))
          have hz := Nat.lt_of_lt_of_le hz hb3.size
          clear hc3 hf3 hb3
          go_wp2
          refine bodyPost_ret (by simp [results, Tryd.results16, go_sem, c0, c1, f0, f1]; try rfl) rfl ?_
          exact ⟨rfl, by go_grown⟩
        ·
          go_enter Tryd.func16, Tryd.ntmps16
          go_wp2_with fail
          refine (HC.out _ (HK.out.up (by go_grown))).mono ?_
          rintro e w1 ⟨rfl, hb1⟩
          have hw0 : Below w.heap.size w w1 := Below.trans (by go_grown) (hb1.mono (by go_size))
          have hz : w.heap.size < w1.heap.size := by have := hb1.size; simp at this; omega
          have c0 : w1.cell? ⟨w.heap.size, 0, none⟩ = some (.int .u64 0) := by
            rw [hb1.cell (by simp <;> omega)]
            first | assumption | (simp [go_sem]; done) | (simp [go_sem, *]; done)
          have c1 : w1.cell? ⟨w.heap.size, 1, none⟩ = some (.int .u64 0) := by
            rw [hb1.cell (by simp <;> omega)]
            first | assumption | (simp [go_sem]; done) | (simp [go_sem, *]; done)
          have f0 : w1.frozen? ⟨w.heap.size, 0, none⟩ = false := by
            rw [hb1.frozen (by simp <;> omega)]
            first | assumption | (simp [go_sem]; done) | (simp [go_sem, *]; done)
          have f1 : w1.frozen? ⟨w.heap.size, 1, none⟩ = false := by
            rw [hb1.frozen (by simp <;> omega)]
            first | assumption | (simp [go_sem]; done) | (simp [go_sem, *]; done)
          clear hb1
          go_wp2_with fail
          refine (HN1.out _ (HK.out.up hw0)).mono ?_
          rintro e w2 ⟨v1, rfl, hown1, hb2⟩
          obtain ⟨p1, k1, rfl⟩ := own_slice hown1
          have hown1 : w2.ownsRow w1.heap.size 54 1 (.slice p1 L1.length k1) L1.length (L1.map u16V) := hown1
          obtain ⟨hc2, hf2⟩ := bcell hb2
          have c0 := (hc2 _ _ (by omega)).trans c0
          have c1 := (hc2 _ _ (by omega)).trans c1
          have f0 := (hf2 _ _ (by omega)).trans f0
          have f1 := (hf2 _ _ (by omega)).trans f1
          have hw0 := Below.trans hw0 (hb2.mono (by omega))
          have hz := Nat.lt_of_lt_of_le hz hb2.size
          clear hc2 hf2 hb2
          go_wp2_with fail
          refine (HN2'.out _ (HK.out.up hw0)).mono ?_
          rintro e w3 ⟨v2, rfl, hown2, hb3⟩
          obtain ⟨p2, k2, rfl⟩ := own_slice hown2
          have hown2 : w3.ownsRow w2.heap.size 54 1 (.slice p2 L2.length k2) L2.length (L2.map u16V) := hown2
          have hown1 := own_below hown1 hb3
          obtain ⟨hc3, hf3⟩ := bcell hb3
          have c0 := (hc3 _ _ (by omega)).trans c0
          have c1 := (hc3 _ _ (by omega)).trans c1
          have f0 := (hf3 _ _ (by omega)).trans f0
          have f1 := (hf3 _ _ (by omega)).trans f1
          have hw0 := Below.trans hw0 (hb3.mono (by omega))
          have hz := Nat.lt_of_lt_of_le hz hb3.size
          clear hc3 hf3 hb3
          have hx8 : (((L1.length : Int) + (L2.length : Int)) == 8) = false := by simp; omega
          go_wp2
          refine bodyPost_ret (by simp [results, Tryd.results16, go_sem, c0, c1, f0, f1]; try rfl) rfl ?_
          exact ⟨rfl, by go_grown⟩
      · have hsum : L1.length + L2.length ≤ 8 := by
          rcases Bool.eq_false_or_eq_true f with rfl | rfl
          · simp at hbad; omega
          · simp at hbad; omega
        have hR : combV f (some L1) (some L2) = some (L1 ++ List.replicate (8 - (L1.length + L2.length)) 0 ++ L2) := by simp only [combV]; rw [if_neg hbad]
        rw [hR]
        clear hR
        have hsp := splice_two L1 L2 hsum
        have hlen : (L1 ++ List.replicate (8 - (L1.length + L2.length)) 0 ++ L2).length = 8 := by simp; omega
        have hlt : All16 (L1 ++ List.replicate (8 - (L1.length + L2.length)) 0 ++ L2) := by
          intro z hz
          rcases List.mem_append.1 hz with h1 | h1
          · rcases List.mem_append.1 h1 with h2 | h2
            · exact HB1.out z h2
            · have := (List.mem_replicate.1 h2).2; omega
          · exact HB2.out z h1
        generalize L1 ++ List.replicate (8 - (L1.length + L2.length)) 0 ++ L2 = l at hsp hlen hlt ⊢
        obtain ⟨l0, l1, l2, l3, l4, l5, l6, l7, rfl⟩ := eight_of hlen
        have hJ := join_any l0 l1 l2 l3 l4 l5 l6 l7 (hlt _ (by simp)) (hlt _ (by simp)) (hlt _ (by simp)) (hlt _ (by simp)) (hlt _ (by simp)) (hlt _ (by simp)) (hlt _ (by simp)) (hlt _ (by simp))
        have HJ := Lib.hid hJ
        have HSP := Lib.hid hsp
        clear hJ hlt hlen hsp
        have hgo : (f = true ∧ L1.length + L2.length < 8) ∨ (f = false ∧ L1.length + L2.length = 8) := by
          rcases Bool.eq_false_or_eq_true f with rfl | rfl
          · simp at hbad; left; exact ⟨rfl, by omega⟩
          · simp at hbad; right; exact ⟨rfl, by omega⟩
        clear hbad
        obtain ⟨X1, hX1⟩ : ∃ X1, X1 = L1.map u16V := ⟨_, rfl⟩
        obtain ⟨X2, hX2⟩ : ∃ X2, X2 = L2.map u16V := ⟨_, rfl⟩
        have n1 : X1.length = L1.length := by rw [hX1]; simp
        have n2 : X2.length = L2.length := by rw [hX2]; simp
        have o1 : ∀ v ∈ X1, v.oneCell' = true := by rw [hX1]; intro v hv; obtain ⟨z, -, rfl⟩ := List.mem_map.1 hv; rfl
        have o2 : ∀ v ∈ X2, v.oneCell' = true := by rw [hX2]; intro v hv; obtain ⟨z, -, rfl⟩ := List.mem_map.1 hv; rfl
        have HX := Lib.hid (And.intro hX1 hX2)
        obtain ⟨Z, hZ⟩ : ∃ Z, Z = List.replicate 8 (u16V 0) := ⟨_, rfl⟩
        have HZ : Hid (Z = List.replicate 8 (u16V 0) ∧ Z.length = 8) := Lib.hid ⟨hZ, by rw [hZ]; rfl⟩
        clear hZ
        clear hX1 hX2
        rcases hgo with ⟨rfl, hx⟩ | ⟨rfl, hx⟩
        ·
          go_enter Tryd.func16, Tryd.ntmps16
          go_wp2_with fail
          refine (HC.out _ (HK.out.up (by go_grown))).mono ?_
          rintro e w1 ⟨rfl, hb1⟩
          have hw0 : Below w.heap.size w w1 := Below.trans (by go_grown) (hb1.mono (by go_size))
          have hz : w.heap.size < w1.heap.size := by have := hb1.size; simp at this; omega
          have c0 : w1.cell? ⟨w.heap.size, 0, none⟩ = some (.int .u64 0) := by
            rw [hb1.cell (by simp <;> omega)]
            first | assumption | (simp [go_sem]; done) | (simp [go_sem, *]; done)
          have c1 : w1.cell? ⟨w.heap.size, 1, none⟩ = some (.int .u64 0) := by
            rw [hb1.cell (by simp <;> omega)]
            first | assumption | (simp [go_sem]; done) | (simp [go_sem, *]; done)
          have f0 : w1.frozen? ⟨w.heap.size, 0, none⟩ = false := by
            rw [hb1.frozen (by simp <;> omega)]
            first | assumption | (simp [go_sem]; done) | (simp [go_sem, *]; done)
          have f1 : w1.frozen? ⟨w.heap.size, 1, none⟩ = false := by
            rw [hb1.frozen (by simp <;> omega)]
            first | assumption | (simp [go_sem]; done) | (simp [go_sem, *]; done)
          clear hb1
          go_wp2_with fail
          refine (HN1.out _ (HK.out.up hw0)).mono ?_
          rintro e w2 ⟨v1, rfl, hown1, hb2⟩
          obtain ⟨p1, k1, rfl⟩ := own_slice hown1
          have hown1 : w2.ownsRow w1.heap.size 54 1 (.slice p1 L1.length k1) L1.length (L1.map u16V) := hown1
          obtain ⟨hc2, hf2⟩ := bcell hb2
          have c0 := (hc2 _ _ (by omega)).trans c0
          have c1 := (hc2 _ _ (by omega)).trans c1
          have f0 := (hf2 _ _ (by omega)).trans f0
          have f1 := (hf2 _ _ (by omega)).trans f1
          have hw0 := Below.trans hw0 (hb2.mono (by omega))
          have hz := Nat.lt_of_lt_of_le hz hb2.size
          clear hc2 hf2 hb2
          go_wp2_with fail
          refine (HN2'.out _ (HK.out.up hw0)).mono ?_
          rintro e w3 ⟨v2, rfl, hown2, hb3⟩
          obtain ⟨p2, k2, rfl⟩ := own_slice hown2
          have hown2 : w3.ownsRow w2.heap.size 54 1 (.slice p2 L2.length k2) L2.length (L2.map u16V) := hown2
          have hown1 := own_below hown1 hb3
          obtain ⟨hc3, hf3⟩ := bcell hb3
          have c0 := (hc3 _ _ (by omega)).trans c0
          have c1 := (hc3 _ _ (by omega)).trans c1
          have f0 := (hf3 _ _ (by omega)).trans f0
          have f1 := (hf3 _ _ (by omega)).trans f1
          have hw0 := Below.trans hw0 (hb3.mono (by omega))
          have hz := Nat.lt_of_lt_of_le hz hb3.size
          clear hc3 hf3 hb3
          rw [← HX.out.1] at hown1
          rw [← HX.out.2] at hown2
          go_wp2_with (with_reducible refine wpList_copy_splice rfl (.tmp 53) (.tmp 54) 61 61 rfl 54 Tryd.underlying61 infoH1 _ _ _ _ _ _ rfl rfl w3.heap.size 0 Z 55 ?_ X1 ?_ ?_ ?_ o1 w3.heap.size w3 ?_ ?_ ?_)
          case refine_1 => rw [HZ.out.1]; exact Array.getElem?_push_size
          case refine_2 => rw [n1]; exact (Nat.min_eq_left (by omega)).symm
          case refine_3 =>
            intro h0
            rw [HX.out.1] at hown1 ⊢
            obtain ⟨ad, e, hc⟩ := own_src (hown1.alloc _) (by simp; omega)
            exact ⟨ad, e, hc⟩
          case refine_4 => rw [HZ.out.2]; omega
          case refine_5 => exact (Below.refl _ _).alloc (Nat.le_refl _) _
          case refine_6 => exact Nat.le_refl _
          intro w4 hg4 hb4
          obtain ⟨q, hq⟩ : ∃ q : Nat, q + L2.length = 8 := ⟨8 - L2.length, by omega⟩
          have hq8 : (8 : Int) - (L2.length : Int) = (q : Int) := by omega
          obtain ⟨dp, hdp, hdq⟩ := slice_at8 w3.heap.size q L2.length hq
          have HDQ := Lib.hid hdq
          have HQ := Lib.hid hq
          clear hdq hq
          have hown2 := own_below hown2 hb4
          go_wp2_with (with_reducible refine wpList_copy_splice rfl (.tmp 59) (.tmp 60) 61 61 rfl 54 Tryd.underlying61 infoH1 _ _ _ _ _ _ rfl rfl w3.heap.size q (splice Z 0 X1) 55 hg4.out X2 ?_ ?_ ?_ o2 w3.heap.size w3 hb4 (Nat.le_refl _) ?_)
          case refine_1 => rw [n2]; exact (Nat.min_eq_left (Nat.le_refl _)).symm
          case refine_2 =>
            intro h0
            have h0' : 0 < L2.length := by omega
            obtain ⟨ad, e, hc⟩ := own_src (by rw [← HX.out.2]; exact hown2) (by simp; omega)
            refine ⟨HDQ.out h0', ad, e, ?_⟩
            rw [HX.out.2]; exact hc
          case refine_3 =>
            rw [length_splice Z 0 X1 (by rw [HZ.out.2]; omega), HZ.out.2]
            have := HQ.out
            omega
          intro w5 hg5 hb5
          have hcells : Hid (w5.heap[w3.heap.size]? = some (.cells (([l0, l1, l2, l3, l4, l5, l6, l7] : List Nat).map u16V).toArray 55 (0, 0))) := by
            refine Lib.hid ?_
            rw [hg5.out, HZ.out.1, HX.out.1, HX.out.2, show q = 8 - L2.length by have := HQ.out; omega, HSP.out]
          obtain ⟨x0, x1, x2, x3, x4, x5, x6, x7⟩ := block_cells hcells.out
          have hb5' : Below w.heap.size w w5 := hw0.trans (hb5.mono hw0.size)
          have z5 : w3.heap.size ≤ w5.heap.size := hb5.size
          obtain ⟨hc5, hf5⟩ := bcell hb5
          have c0 := (hc5 _ _ (by omega)).trans c0
          have c1 := (hc5 _ _ (by omega)).trans c1
          have f0 := (hf5 _ _ (by omega)).trans f0
          have f1 := (hf5 _ _ (by omega)).trans f1
          have hz5 : w.heap.size < w5.heap.size := by omega
          clear hc5 hf5 hb4 hg4 hg5 hcells hdp hown1 hown2 hw0 hb5 hz
          go_wp2_with fail
          refine (HJ.out _).mono ?_
          rintro e w6 ⟨rfl, hb6⟩
          have hw6 := hb5'.trans (hb6.mono hb5'.size)
          obtain ⟨hc6, hf6⟩ := bcell hb6
          have c0 := (hc6 _ _ (by omega)).trans c0
          have c1 := (hc6 _ _ (by omega)).trans c1
          have f0 := (hf6 _ _ (by omega)).trans f0
          have f1 := (hf6 _ _ (by omega)).trans f1
          clear hc6 hf6 hb6
          go_wp2
          refine bodyPost_ret (by simp [results, Tryd.results16, go_sem, c0, c1, f0, f1]; try rfl) rfl ?_
          exact ⟨rfl, by go_grown⟩
        · have hx8 : (((L1.length : Int) + (L2.length : Int)) == 8) = true := by simp; omega
          go_enter Tryd.func16, Tryd.ntmps16
          go_wp2_with fail
          refine (HC.out _ (HK.out.up (by go_grown))).mono ?_
          rintro e w1 ⟨rfl, hb1⟩
          have hw0 : Below w.heap.size w w1 := Below.trans (by go_grown) (hb1.mono (by go_size))
          have hz : w.heap.size < w1.heap.size := by have := hb1.size; simp at this; omega
          have c0 : w1.cell? ⟨w.heap.size, 0, none⟩ = some (.int .u64 0) := by
            rw [hb1.cell (by simp <;> omega)]
            first | assumption | (simp [go_sem]; done) | (simp [go_sem, *]; done)
          have c1 : w1.cell? ⟨w.heap.size, 1, none⟩ = some (.int .u64 0) := by
            rw [hb1.cell (by simp <;> omega)]
            first | assumption | (simp [go_sem]; done) | (simp [go_sem, *]; done)
          have f0 : w1.frozen? ⟨w.heap.size, 0, none⟩ = false := by
            rw [hb1.frozen (by simp <;> omega)]
            first | assumption | (simp [go_sem]; done) | (simp [go_sem, *]; done)
          have f1 : w1.frozen? ⟨w.heap.size, 1, none⟩ = false := by
            rw [hb1.frozen (by simp <;> omega)]
            first | assumption | (simp [go_sem]; done) | (simp [go_sem, *]; done)
          clear hb1
          go_wp2_with fail
          refine (HN1.out _ (HK.out.up hw0)).mono ?_
          rintro e w2 ⟨v1, rfl, hown1, hb2⟩
          obtain ⟨p1, k1, rfl⟩ := own_slice hown1
          have hown1 : w2.ownsRow w1.heap.size 54 1 (.slice p1 L1.length k1) L1.length (L1.map u16V) := hown1
          obtain ⟨hc2, hf2⟩ := bcell hb2
          have c0 := (hc2 _ _ (by omega)).trans c0
          have c1 := (hc2 _ _ (by omega)).trans c1
          have f0 := (hf2 _ _ (by omega)).trans f0
          have f1 := (hf2 _ _ (by omega)).trans f1
          have hw0 := Below.trans hw0 (hb2.mono (by omega))
          have hz := Nat.lt_of_lt_of_le hz hb2.size
          clear hc2 hf2 hb2
          go_wp2_with fail
          refine (HN2'.out _ (HK.out.up hw0)).mono ?_
          rintro e w3 ⟨v2, rfl, hown2, hb3⟩
          obtain ⟨p2, k2, rfl⟩ := own_slice hown2
          have hown2 : w3.ownsRow w2.heap.size 54 1 (.slice p2 L2.length k2) L2.length (L2.map u16V) := hown2
          have hown1 := own_below hown1 hb3
          obtain ⟨hc3, hf3⟩ := bcell hb3
          have c0 := (hc3 _ _ (by omega)).trans c0
          have c1 := (hc3 _ _ (by omega)).trans c1
          have f0 := (hf3 _ _ (by omega)).trans f0
          have f1 := (hf3 _ _ (by omega)).trans f1
          have hw0 := Below.trans hw0 (hb3.mono (by omega))
          have hz := Nat.lt_of_lt_of_le hz hb3.size
          clear hc3 hf3 hb3
          rw [← HX.out.1] at hown1
          rw [← HX.out.2] at hown2
          go_wp2_with (with_reducible refine wpList_copy_splice rfl (.tmp 53) (.tmp 54) 61 61 rfl 54 Tryd.underlying61 infoH1 _ _ _ _ _ _ rfl rfl w3.heap.size 0 Z 55 ?_ X1 ?_ ?_ ?_ o1 w3.heap.size w3 ?_ ?_ ?_)
          case refine_1 => rw [HZ.out.1]; exact Array.getElem?_push_size
          case refine_2 => rw [n1]; exact (Nat.min_eq_left (by omega)).symm
          case refine_3 =>
            intro h0
            rw [HX.out.1] at hown1 ⊢
            obtain ⟨ad, e, hc⟩ := own_src (hown1.alloc _) (by simp; omega)
            exact ⟨ad, e, hc⟩
          case refine_4 => rw [HZ.out.2]; omega
          case refine_5 => exact (Below.refl _ _).alloc (Nat.le_refl _) _
          case refine_6 => exact Nat.le_refl _
          intro w4 hg4 hb4
          obtain ⟨q, hq⟩ : ∃ q : Nat, q + L2.length = 8 := ⟨8 - L2.length, by omega⟩
          have hq8 : (8 : Int) - (L2.length : Int) = (q : Int) := by omega
          obtain ⟨dp, hdp, hdq⟩ := slice_at8 w3.heap.size q L2.length hq
          have HDQ := Lib.hid hdq
          have HQ := Lib.hid hq
          clear hdq hq
          have hown2 := own_below hown2 hb4
          go_wp2_with (with_reducible refine wpList_copy_splice rfl (.tmp 59) (.tmp 60) 61 61 rfl 54 Tryd.underlying61 infoH1 _ _ _ _ _ _ rfl rfl w3.heap.size q (splice Z 0 X1) 55 hg4.out X2 ?_ ?_ ?_ o2 w3.heap.size w3 hb4 (Nat.le_refl _) ?_)
          case refine_1 => rw [n2]; exact (Nat.min_eq_left (Nat.le_refl _)).symm
          case refine_2 =>
            intro h0
            have h0' : 0 < L2.length := by omega
            obtain ⟨ad, e, hc⟩ := own_src (by rw [← HX.out.2]; exact hown2) (by simp; omega)
            refine ⟨HDQ.out h0', ad, e, ?_⟩
            rw [HX.out.2]; exact hc
          case refine_3 =>
            rw [length_splice Z 0 X1 (by rw [HZ.out.2]; omega), HZ.out.2]
            have := HQ.out
            omega
          intro w5 hg5 hb5
          have hcells : Hid (w5.heap[w3.heap.size]? = some (.cells (([l0, l1, l2, l3, l4, l5, l6, l7] : List Nat).map u16V).toArray 55 (0, 0))) := by
            refine Lib.hid ?_
            rw [hg5.out, HZ.out.1, HX.out.1, HX.out.2, show q = 8 - L2.length by have := HQ.out; omega, HSP.out]
          obtain ⟨x0, x1, x2, x3, x4, x5, x6, x7⟩ := block_cells hcells.out
          have hb5' : Below w.heap.size w w5 := hw0.trans (hb5.mono hw0.size)
          have z5 : w3.heap.size ≤ w5.heap.size := hb5.size
          obtain ⟨hc5, hf5⟩ := bcell hb5
          have c0 := (hc5 _ _ (by omega)).trans c0
          have c1 := (hc5 _ _ (by omega)).trans c1
          have f0 := (hf5 _ _ (by omega)).trans f0
          have f1 := (hf5 _ _ (by omega)).trans f1
          have hz5 : w.heap.size < w5.heap.size := by omega
          clear hc5 hf5 hb4 hg4 hg5 hcells hdp hown1 hown2 hw0 hb5 hz
          go_wp2_with fail
          refine (HJ.out _).mono ?_
          rintro e w6 ⟨rfl, hb6⟩
          have hw6 := hb5'.trans (hb6.mono hb5'.size)
          obtain ⟨hc6, hf6⟩ := bcell hb6
          have c0 := (hc6 _ _ (by omega)).trans c0
          have c1 := (hc6 _ _ (by omega)).trans c1
          have f0 := (hf6 _ _ (by omega)).trans f0
          have f1 := (hf6 _ _ (by omega)).trans f1
          clear hc6 hf6 hb6
          go_wp2
          refine bodyPost_ret (by simp [results, Tryd.results16, go_sem, c0, c1, f0, f1]; try rfl) rfl ?_
          exact ⟨rfl, by go_grown⟩
end Go.Proofs.YtegaeifmikfpcaaDoor
