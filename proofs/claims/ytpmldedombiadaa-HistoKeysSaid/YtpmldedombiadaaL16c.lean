/-
  HistoKeys as a walk: it hands back true, for every input. No condition but that each row's length is at most its capacity.
-/
import Derived.Test.YtpmldedombiadaaL16
import Derived.Test.YtpmldedombiadaaRef16
import Derived.Test.YtpmldedombiadaaRef16b
import Derived.Test.YtpmldedombiadaaW4c
set_option linter.unusedSimpArgs false
set_option linter.unusedVariables false
namespace Go.Proofs.Ytpmldedombiadaa
open Go Go.RowKit Go.Sort M

theorem w64z16 : W64 0 := by unfold W64; decide
theorem mask7 (x : Int) : bits BinOp.and IntKind.i64 x 127 = ((x % 128).toNat : Int) := by
  have h : (BitVec.ofInt 64 x &&& BitVec.ofInt 64 127).toNat = (x % 128).toNat := by
    rw [BitVec.toNat_and, BitVec.toNat_ofInt, show (BitVec.ofInt 64 127).toNat = 2 ^ 7 - 1 by decide, Nat.and_two_pow_sub_one_eq_mod]
    omega
  show IntKind.i64.wrap (((BitVec.ofInt 64 x &&& BitVec.ofInt 64 127).toNat : Nat) : Int) = _
  rw [h, IntKind.wrap_i64]
  omega
/-- The lengths of a row of numbers. -/
def lensN (X : List Int) : List Nat := X.map fun x => (x % 128).toNat
theorem lensN_len (X : List Int) : (lensN X).length = X.length := by simp [lensN]
theorem lensN_lt (X : List Int) : ∀ n ∈ lensN X, n < 129 := by
  intro n h
  unfold lensN at h
  rw [List.mem_map] at h
  obtain ⟨x, -, rfl⟩ := h
  omega
theorem lensN_take (X : List Int) (i : Nat) (h : i < X.length) : (lensN X).take (i + 1) = (lensN X).take i ++ [(X[i] % 128).toNat] := by
  rw [List.take_succ_eq_append_getElem (by rw [lensN_len]; exact h)]
  simp [lensN]
/-- A route of that length. -/
def rtN (n : Nat) : Rt := ⟨⟨0, 0, (n : Int)⟩, 0⟩
def rtsN (N : List Nat) : List Rt := N.map rtN
theorem rtsN_len (N : List Nat) : (rtsN N).length = N.length := by simp [rtsN]
theorem rtsN_snoc (N : List Nat) (n : Nat) : rtsN (N ++ [n]) = rtsN N ++ [rtN n] := by simp [rtsN]
theorem lenC_rts (n : Nat) : ∀ N : List Nat, lenC (rtsN N) n = N.count n
  | [] => rfl
  | m :: N => by
    have ih := lenC_rts n N
    unfold lenC at ih ⊢
    rw [rtsN, List.map_cons, List.countP_cons, List.count_cons]
    rw [rtsN] at ih
    rw [ih]
    by_cases h : m = n
    · subst h; simp [rtN]
    · have h2 : ¬ ((m : Int) = (n : Int)) := by omega
      simp [rtN, h, h2]
theorem cntR_rts (N : List Nat) : cntR (rtsN N) = cntH N := by
  unfold cntR cntH
  exact List.map_congr_left fun n _ => by rw [lenC_rts]
/-- How many keys the law counts for one length, and whether it fits. -/
def keyT (L : List Int) (low : Int) (n : Nat) : Nat := if (n : Int) ≤ low then 0 else match near L n with | [] => 0 | a :: _ => if 8 < a - (n : Int) then 0 else (keysV 0 0 (n : Int) a).length
def fitT (L : List Int) (low : Int) (n : Nat) : Bool := if (n : Int) ≤ low then true else match near L n with | [] => false | a :: _ => decide (a - (n : Int) ≤ 8)
theorem keyT_is (L : List Int) (low : Int) (n : Nat) (hn : n < 129) (hr : riseB low L = true) (hf : fitT L low n = true) : keyT L low n = keyF L low n := by
  unfold keyT keyF
  unfold fitT at hf
  by_cases h : (n : Int) ≤ low
  · rw [if_pos h, if_pos h]
  · rw [if_neg h, if_neg h]
    rw [if_neg h] at hf
    cases hM : near L n with
    | nil => rfl
    | cons a M =>
      rw [hM] at hf
      have hd := near_head L n a M hM
      have hm := rise_mem L low hr a hd.2
      have h8 : ¬ 8 < a - (n : Int) := by have h9 : a - (n : Int) ≤ 8 := of_decide_eq_true hf; omega
      show (if 8 < a - (n : Int) then 0 else (keysV 0 0 (n : Int) a).length) = 2 ^ (a - (n : Int)).toNat
      have hri : rightB 0 0 (n : Int) = true := by
        rw [rightB_val 0 0 _ w64z16]
        exact ⟨by omega, by omega, by rw [show val 0 0 = 0 by decide +kernel]; exact Nat.dvd_zero _⟩
      rw [if_neg h8, keysV_len 0 0 _ _ w64z16, cnt_some ⟨hri, hd.1, hm.2, by omega⟩]
theorem keys_all (L : List Int) (low : Int) (hr : riseB low L = true) : ∀ N : List Nat, (∀ n ∈ N, n < 129) → N.all (fitT L low) = true → (N.map (keyT L low)).sum = (N.map (keyF L low)).sum
  | [], _, _ => rfl
  | n :: N, hb, hf => by
    rw [List.all_cons, Bool.and_eq_true] at hf
    rw [List.map_cons, List.map_cons, List.sum_cons, List.sum_cons, keyT_is L low n (hb n List.mem_cons_self) hr hf.1, keys_all L low hr N (fun m h => hb m (List.mem_cons_of_mem _ h)) hf.2]
theorem keys_total (L : List Int) (low : Int) (N : List Nat) (r : Nat) (hl : N.length ≤ 1048576) (hb : ∀ n ∈ N, n < 129) (hf : N.all (fitT L low) = true) (h : costK (cntH N) L low = some r) : (N.map (keyT L low)).sum = r := by
  obtain ⟨h1, -, h2⟩ := cost_sum N L low r hl hb h
  rw [h1]
  exact keys_all L low h2 N hb hf
theorem sum_snoc (f : Nat → Nat) (N : List Nat) (n : Nat) : ((N ++ [n]).map f).sum = (N.map f).sum + f n := by simp
theorem all_snoc (f : Nat → Bool) (N : List Nat) (n : Nat) : (N ++ [n]).all f = (N.all f && f n) := by simp
theorem keyT_le (L : List Int) (low : Int) (n : Nat) : keyT L low n ≤ 256 := by
  unfold keyT
  by_cases h : (n : Int) ≤ low
  · rw [if_pos h]; omega
  · rw [if_neg h]
    cases near L n with
    | nil => exact Nat.zero_le _
    | cons a M =>
      show (if 8 < a - (n : Int) then 0 else (keysV 0 0 (n : Int) a).length) ≤ 256
      by_cases h8 : 8 < a - (n : Int)
      · rw [if_pos h8]; omega
      · rw [if_neg h8, keysV_len 0 0 _ _ w64z16]; exact cnt_le _ _ _ _
set_option maxHeartbeats 4000000 in
set_option maxRecDepth 100000 in
theorem hkeys_walk (p q : Option Addr) (c d : Nat) (X L : List Int) (low : Int) (w : World) (hX : IRow w p X) (hL : IRow w q L) (hd : L.length ≤ d) (m1 : X.length ≤ maxLen) (m2 : L.length ≤ maxLen) (hwf : ∀ x ∈ L, (Lit.int .i64 x).wf = true) :
    Calls Try.prog 3 #[.slice p X.length c, .slice q L.length d, .int .i64 low] w fun e w' => e = .returned (.bool true) ∧ Below w.heap.size w w' := by
  have HA := Lib.hid (alive16_any w)
  have HW : Hid (∀ x ∈ L, x ≤ 9223372036854775807) := Lib.hid fun x h => (bounds_i64 (hwf x h)).2
  unfold maxLen at m1 m2
  by_cases g1 : X.length ≤ 40
  · by_cases g2 : L.length ≤ 20
    · by_cases g3 : low < 0
      · clear hX hL
        go_enter Try.func3, Try.ntmps3
        go_wp2_with fail
        refine HA.out.mono ?_
        rintro e w0 ⟨rfl, hb0⟩
        go_wp2
        go_ret
        exact ⟨rfl, by go_grown⟩
      · by_cases g4 : 128 < low
        · clear hX hL
          go_enter Try.func3, Try.ntmps3
          go_wp2_with fail
          refine HA.out.mono ?_
          rintro e w0 ⟨rfl, hb0⟩
          go_wp2
          go_ret
          exact ⟨rfl, by go_grown⟩
        · have HX := Lib.hid hX
          have HL := Lib.hid hL
          obtain ⟨i0, hi0, iz0, iz1, iz2⟩ := info_parts infoR
          clear hX hL
          go_enter Try.func3, Try.ntmps3
          go_wp2_with fail
          refine HA.out.mono ?_
          rintro e w0 ⟨rfl, hb0⟩
          go_wp2
          go_loopg [8, 9, 10, 11] X.length (fun kx s8 s9 s10 s11 wr => ∃ (i : Nat) (N : List Nat) (b : Bool) (s : Nat) (p8 : Option Addr) (c8 : Nat), s11 = .int .i64 (i : Int) ∧ X.length - i ≤ kx ∧ i ≤ X.length ∧ s9 = .int .i64 (s : Int) ∧ s10 = .bool b ∧ s8 = .slice p8 N.length c8 ∧ Hid (N = (lensN X).take i ∧ s = (N.map (keyT L low)).sum ∧ b = N.all (fitT L low)) ∧ s ≤ 256 * i ∧ Hid (wr.ownsRow w.heap.size 31 4 (.slice p8 N.length c8) N.length (rcs (rtsN N))) ∧ Below w.heap.size w wr)
          case atStart => exact ⟨0, [], true, 0, none, 0, rfl, by omega, by omega, rfl, rfl, rfl, Lib.hid ⟨rfl, rfl, rfl⟩, by omega, Lib.hid (World.ownsRow_nil _ _ _ _), hb0⟩
          case round =>
            clear hb0 HA
            obtain ⟨i, N, b, s, p8, c8, rfl, h1, h2, rfl, rfl, rfl, HN, h3, HO, hb⟩ := hrel
            by_cases hi : i < X.length
            · obtain ⟨g, o, rfl, hg, z0⟩ := HX.out.at hi
              have x0 := (hb.cell (p := ⟨g, o + i, none⟩) hg).trans z0
              have hg2 := Nat.lt_of_lt_of_le hg hb.size
              have htk := lensN_take X i hi
              have hNl : N.length ≤ 40 := by rw [HN.out.1, List.length_take, lensN_len]; omega
              rw [← HN.out.1] at htk
              have q0 := mask7 X[i]
              have hn127 : (X[i] % 128).toNat < 128 := by omega
              obtain ⟨n, hn⟩ : ∃ n, n = (X[i] % 128).toNat := ⟨_, rfl⟩
              obtain ⟨x, hx⟩ : ∃ x, x = X[i] := ⟨_, rfl⟩
              rw [← hn] at htk q0 hn127
              rw [← hx] at x0 q0
              obtain ⟨N1, hN1⟩ : ∃ N1, N1 = N ++ [n] := ⟨_, rfl⟩
              rw [← hN1] at htk
              have hs1 : (N1.map (keyT L low)).sum = s + keyT L low n := by rw [hN1, sum_snoc, ← HN.out.2.1]
              have hb1 : N1.all (fitT L low) = (b && fitT L low n) := by rw [hN1, all_snoc, ← HN.out.2.2]
              have htl := keyT_le L low n
              have i1 : (0 : Int) ≤ (i : Int) := by omega
              have i2 : (i : Int) < (X.length : Int) := by omega
              have hzz := hb.size
              have HQ0 := Lib.hid q0
              have HTK := Lib.hid htk
              have HS1 := Lib.hid hs1
              have HB1 := Lib.hid hb1
              have HN1 := Lib.hid hN1
              clear hn hx z0 q0 htk hs1 hb1 hN1
              go_wp2_with (first | rw [HQ0.out] | (at_builtin; go_loud (refine wpList_append_own _ rfl (.tmp 51) (.tmp 55) 24 rfl w.heap.size 31 i0 _ 4 32 Try.underlying24 hi0 iz0 iz1 iz2 rfl (by decide) _ _ _ rfl (HO.out.alloc _) ⟨wr.heap.size, 0, none⟩ 1 1 (rcell (rtN n)) rfl rfl (four_new (by simp [go_sem, rtN]) (by simp [go_sem, rtN]) (by simp [go_sem, rtN]) (by simp [go_sem, rtN])) (by simp [rcell, Value.oneCell']) (by unfold maxLen; omega) (by omega) (by simp; omega) ?_)))
              intro v3 w3 hown3 hg3 _
              have hb3 : Below w.heap.size w w3 := (hb.alloc hb.size _).grown hg3 (by simp; omega) (fun j hj => (HO.out.lt j hj).1)
              have ho3 : w3.ownsRow w.heap.size 31 4 v3 N1.length (rcs (rtsN N1)) := by
                rw [HN1.out, rtsN_snoc, rcs_append, rcs_one, List.length_append]
                exact hown3
              have hl1 : N1.length = N.length + 1 := by rw [HN1.out, List.length_append]; rfl
              obtain ⟨p3, c3, rfl⟩ := own_slice ho3
              have HO3 := Lib.hid ho3
              have HR : Hid (N1 = (lensN X).take (i + 1) ∧ s + keyT L low n = (N1.map (keyT L low)).sum ∧ (b && fitT L low n) = N1.all (fitT L low)) := Lib.hid ⟨HTK.out.symm, HS1.out.symm, HB1.out.symm⟩
              clear ho3 hown3 hg3 HO hb HS1 HB1 HN1 HTK HQ0 HN x0 hl1
              by_cases hnl : (n : Int) ≤ low
              · have hk0 : keyT L low n = 0 := by unfold keyT; rw [if_pos hnl]
                have hf0 : fitT L low n = true := by unfold fitT; rw [if_pos hnl]
                rw [hk0, hf0, Bool.and_true] at HR
                clear hk0 hf0
                go_wp2
                go_roundg (X.length - (i + 1))
                case measure => omega
                case rel => exact ⟨i + 1, N1, b, s, p3, c3, by go_num, by omega, by omega, rfl, rfl, rfl, HR, by omega, HO3, hb3⟩
              · have hkt : ∀ (M : List Int), near L n = M → keyT L low n = (match M with | [] => 0 | a :: _ => if 8 < a - (n : Int) then 0 else (keysV 0 0 (n : Int) a).length) := fun M h => by unfold keyT; rw [if_neg hnl, h]
                have hft : ∀ (M : List Int), near L n = M → fitT L low n = (match M with | [] => false | a :: _ => decide (a - (n : Int) ≤ 8)) := fun M h => by unfold fitT; rw [if_neg hnl, h]
                have HKT := Lib.hid hkt
                have HFT := Lib.hid hft
                clear hkt hft
                go_wp2
                rename World => wo
                go_loopg [13] L.length (fun kx s13 wr => ∃ (k : Nat), s13 = .int .i64 (k : Int) ∧ L.length - k ≤ kx ∧ k ≤ L.length ∧ Hid (near (L.drop k) n = near L n) ∧ Hid (wr.ownsRow w.heap.size 31 4 (.slice p3 N1.length c3) N1.length (rcs (rtsN N1))) ∧ Below w.heap.size w wr)
                case atStart => exact ⟨0, rfl, by omega, by omega, Lib.hid rfl, HO3, hb3⟩
                case round =>
                  clear hb3 HO3
                  obtain ⟨k, rfl, h7, h8, HK, HO3, hb⟩ := hrel
                  by_cases hk : k < L.length
                  · obtain ⟨g, o, rfl, hg, x0⟩ := (HL.out.below hb).at hk
                    have hst := near_step L k n hk
                    have hsp := near_stop L k n hk
                    rw [HK.out] at hst hsp
                    obtain ⟨a, ha⟩ : ∃ a, a = L[k] := ⟨_, rfl⟩
                    rw [← ha] at x0 hst hsp
                    have j1 : (0 : Int) ≤ (k : Int) := by omega
                    have j2 : (k : Int) < (L.length : Int) := by omega
                    have j3 : ((k : Int) == (L.length : Int)) = false := by rw [beq_eq_false_iff_ne]; omega
                    clear ha
                    by_cases hl : a < (n : Int)
                    · have HN2 := Lib.hid (hst hl).symm
                      clear hst hsp
                      go_wp2
                      go_roundg (L.length - (k + 1))
                      case measure => omega
                      case rel => exact ⟨k + 1, by go_num, by omega, by omega, HN2, HO3, hb⟩
                    · have hnr := hsp hl
                      have hnd := near_head L n a _ hnr
                      have hwa := HW.out a hnd.2
                      have hna := hnd.1
                      have hkt := HKT.out _ hnr
                      have hft := HFT.out _ hnr
                      simp only at hkt hft
                      by_cases h8a : 8 < a - (n : Int)
                      · rw [if_pos h8a] at hkt
                        rw [decide_eq_false (by omega)] at hft
                        rw [hkt, hft, Bool.and_false] at HR
                        clear hst hsp hnr hkt hft hnd
                        go_wp2
                        go_roundg (X.length - (i + 1))
                        case measure => omega
                        case rel => exact ⟨i + 1, N1, false, s, p3, c3, by go_num, by omega, by omega, rfl, rfl, rfl, HR, by omega, HO3, hb⟩
                      · rw [if_neg h8a] at hkt
                        rw [decide_eq_true (by omega)] at hft
                        have hra := rkeys_any 0 0 (n : Int) a w64z16 w64z16
                        rw [hft, Bool.and_true, hkt] at HR
                        rw [hkt] at htl
                        obtain ⟨K, hK⟩ : ∃ K, K = keysV 0 0 (n : Int) a := ⟨_, rfl⟩
                        rw [← hK] at HR htl hra
                        have HRA : Hid (GivesRow 6 #[.agg #[.int .u64 0, .int .u64 0, .int .i64 (n : Int)], .int .i64 a] K) := Lib.hid hra
                        clear hst hsp hnr hkt hft hnd hra hK
                        go_wp2_with fail
                        refine (HRA.out _).mono ?_
                        rintro e w5 ⟨p5, c5, rfl, -, hb5⟩
                        have hw5 := hb.trans (hb5.mono hb.size)
                        have HO5 := Lib.hid (own_below HO3.out hb5)
                        clear HRA hb5
                        go_wp2
                        go_roundg (X.length - (i + 1))
                        case measure => omega
                        case rel => exact ⟨i + 1, N1, b, s + K.length, p3, c3, by go_num, by omega, by omega, by go_num, rfl, rfl, HR, by omega, HO5, hw5⟩
                  · have hne := near_end L k n (by omega)
                    rw [HK.out] at hne
                    have hkt := HKT.out _ hne
                    have hft := HFT.out _ hne
                    simp only at hkt hft
                    rw [hkt, hft, Bool.and_false] at HR
                    have j3 : ((k : Int) == (L.length : Int)) = true := by rw [beq_iff_eq]; omega
                    clear hne hkt hft
                    go_wp2
                    go_roundg (X.length - (i + 1))
                    case measure => omega
                    case rel => exact ⟨i + 1, N1, false, s, p3, c3, by go_num, by omega, by omega, rfl, rfl, rfl, HR, by omega, HO3, hb⟩
            · obtain ⟨e1, e2, e3⟩ := HN.out
              rw [List.take_of_length_le (by rw [lensN_len]; omega)] at e1
              have hNl : N.length ≤ 40 := by rw [e1, lensN_len]; omega
              have hlt : ∀ n ∈ N, n < 129 := by rw [e1]; exact lensN_lt X
              have hrl := rtsN_len N
              have hcr := cntR_rts N
              have hrow := fun (W : World) (h : Below wr.heap.size wr W) => (Row.of_own HO.out).below h
              have hkt := fun r h1 h2 => keys_total L low N r (by omega) hlt h1 h2
              rw [← e2, ← e3] at hkt
              have hCN := cntr_any p8 c8 (rtsN N) wr (hrow wr (by go_grown)) (by rw [hrl]; omega)
              have hRCN := fun W h => rcount_any p8 c8 (rtsN N) W (hrow W h) (by rw [hrl]; omega)
              have hCO := fun pp (dd : Nat) W (h : Below w.heap.size w W) hr (hdd : 129 ≤ dd) => cost_any pp q dd d (cntH N) L low W hr (HL.out.below h) hd (by rw [← hcr, cntR_len]; omega) (by omega)
              have hRCO := fun pp (dd : Nat) W (h : Below w.heap.size w W) hr (hdd : 129 ≤ dd) => rcost_any pp q dd d (cntH N) L low W hr (HL.out.below h) (by rw [← hcr, cntR_len]; omega) (by omega)
              rw [show (cntH N).length = 129 from by rw [← hcr, cntR_len]] at hCO hRCO
              rw [hrl, hcr] at hCN
              rw [hrl, hcr] at hRCN
              have HCN := Lib.hid hCN
              have HRCN := Lib.hid hRCN
              obtain ⟨R, hR⟩ : ∃ R, R = costK (cntH N) L low := ⟨_, rfl⟩
              rw [← hR] at hkt
              simp only [← hR] at hCO hRCO
              cases R with
              | none =>
                have HCO : Hid (∀ pp (dd : Nat) W, Below w.heap.size w W → IRow W pp (cntH N) → 129 ≤ dd → Calls Try.prog 7 #[.slice pp 129 dd, .slice q L.length d, .int .i64 low] W fun e w' => e = .returned (.tuple #[.int .i64 0, .bool false]) ∧ Below W.heap.size W w') := Lib.hid hCO
                have HRCO : Hid (∀ pp (dd : Nat) W, Below w.heap.size w W → IRow W pp (cntH N) → 129 ≤ dd → Calls Try.prog 9 #[.slice pp 129 dd, .slice q L.length d, .int .i64 low] W fun e w' => e = .returned (.tuple #[.int .i64 0, .bool false]) ∧ Below W.heap.size W w') := Lib.hid hRCO
                clear hcr hrl hlt e1 e2 e3 HN hrow hCN hRCN HO hCO hRCO hkt hR
                cases b with
                | true =>
                  go_wp2_with fail
                  refine HCN.out.mono ?_
                  rintro e w5 ⟨p5, c5, rfl, hd5, ho5, hb5⟩
                  have hw5 := hb.trans (hb5.mono hb.size)
                  have hw15 := hb5
                  have HC5 := Lib.hid (HCO.out p5 c5 w5 hw5 (.of_own ho5) hd5)
                  clear HCN HCO hb5 ho5
                  go_wp2_with fail
                  refine HC5.out.mono ?_
                  rintro e w6 ⟨rfl, hb6⟩
                  have hw6 := hw5.trans (hb6.mono hw5.size)
                  have hw16 := hw15.trans (hb6.mono hw15.size)
                  clear HC5 hb6 hw5 hw15
                  go_wp2_with fail
                  refine (HRCN.out _ hw16).mono ?_
                  rintro e w7 ⟨p7, c7, rfl, hd7, ho7, hb7⟩
                  have hw7 := hw6.trans (hb7.mono hw6.size)
                  have HC7 := Lib.hid (HRCO.out p7 c7 w7 hw7 (.of_own ho7) hd7)
                  clear HRCN HRCO hb7 ho7 hw6 hw16
                  go_wp2_with fail
                  refine HC7.out.mono ?_
                  rintro e w8 ⟨rfl, hb8⟩
                  have hw8 := hw7.trans (hb8.mono hw7.size)
                  go_wp2
                  go_ret
                  exact ⟨rfl, hw8⟩
                | false =>
                  go_wp2_with fail
                  refine HCN.out.mono ?_
                  rintro e w5 ⟨p5, c5, rfl, hd5, ho5, hb5⟩
                  have hw5 := hb.trans (hb5.mono hb.size)
                  have hw15 := hb5
                  have HC5 := Lib.hid (HCO.out p5 c5 w5 hw5 (.of_own ho5) hd5)
                  clear HCN HCO hb5 ho5
                  go_wp2_with fail
                  refine HC5.out.mono ?_
                  rintro e w6 ⟨rfl, hb6⟩
                  have hw6 := hw5.trans (hb6.mono hw5.size)
                  have hw16 := hw15.trans (hb6.mono hw15.size)
                  clear HC5 hb6 hw5 hw15
                  go_wp2_with fail
                  refine (HRCN.out _ hw16).mono ?_
                  rintro e w7 ⟨p7, c7, rfl, hd7, ho7, hb7⟩
                  have hw7 := hw6.trans (hb7.mono hw6.size)
                  have HC7 := Lib.hid (HRCO.out p7 c7 w7 hw7 (.of_own ho7) hd7)
                  clear HRCN HRCO hb7 ho7 hw6 hw16
                  go_wp2_with fail
                  refine HC7.out.mono ?_
                  rintro e w8 ⟨rfl, hb8⟩
                  have hw8 := hw7.trans (hb8.mono hw7.size)
                  go_wp2
                  go_ret
                  exact ⟨rfl, hw8⟩
              | some r =>
                have HCO : Hid (∀ pp (dd : Nat) W, Below w.heap.size w W → IRow W pp (cntH N) → 129 ≤ dd → Calls Try.prog 7 #[.slice pp 129 dd, .slice q L.length d, .int .i64 low] W fun e w' => e = .returned (.tuple #[.int .i64 (r : Int), .bool true]) ∧ Below W.heap.size W w') := Lib.hid hCO
                have HRCO : Hid (∀ pp (dd : Nat) W, Below w.heap.size w W → IRow W pp (cntH N) → 129 ≤ dd → Calls Try.prog 9 #[.slice pp 129 dd, .slice q L.length d, .int .i64 low] W fun e w' => e = .returned (.tuple #[.int .i64 (r : Int), .bool true]) ∧ Below W.heap.size W w') := Lib.hid hRCO
                cases b with
                | true =>
                  have hrs := hkt r rfl rfl
                  have HRS : Hid (decide ((r : Int) = (s : Int)) = true) := by rw [← hrs]; exact Lib.hid (decide_eq_true rfl)
                  clear hcr hrl hlt e1 e2 e3 HN hrow hCN hRCN HO hCO hRCO hkt hR hrs
                  go_wp2_with fail
                  refine HCN.out.mono ?_
                  rintro e w5 ⟨p5, c5, rfl, hd5, ho5, hb5⟩
                  have hw5 := hb.trans (hb5.mono hb.size)
                  have hw15 := hb5
                  have HC5 := Lib.hid (HCO.out p5 c5 w5 hw5 (.of_own ho5) hd5)
                  clear HCN HCO hb5 ho5
                  go_wp2_with fail
                  refine HC5.out.mono ?_
                  rintro e w6 ⟨rfl, hb6⟩
                  have hw6 := hw5.trans (hb6.mono hw5.size)
                  have hw16 := hw15.trans (hb6.mono hw15.size)
                  clear HC5 hb6 hw5 hw15
                  go_wp2
                  go_ret
                  exact ⟨ret_bool (by simpa using HRS.out), hw6⟩
                | false =>
                  clear hcr hrl hlt e1 e2 e3 HN hrow hCN hRCN HO hCO hRCO hkt hR
                  go_wp2_with fail
                  refine HCN.out.mono ?_
                  rintro e w5 ⟨p5, c5, rfl, hd5, ho5, hb5⟩
                  have hw5 := hb.trans (hb5.mono hb.size)
                  have hw15 := hb5
                  have HC5 := Lib.hid (HCO.out p5 c5 w5 hw5 (.of_own ho5) hd5)
                  clear HCN HCO hb5 ho5
                  go_wp2_with fail
                  refine HC5.out.mono ?_
                  rintro e w6 ⟨rfl, hb6⟩
                  have hw6 := hw5.trans (hb6.mono hw5.size)
                  have hw16 := hw15.trans (hb6.mono hw15.size)
                  clear HC5 hb6 hw5 hw15
                  go_wp2_with fail
                  refine (HRCN.out _ hw16).mono ?_
                  rintro e w7 ⟨p7, c7, rfl, hd7, ho7, hb7⟩
                  have hw7 := hw6.trans (hb7.mono hw6.size)
                  have HC7 := Lib.hid (HRCO.out p7 c7 w7 hw7 (.of_own ho7) hd7)
                  clear HRCN HRCO hb7 ho7 hw6 hw16
                  go_wp2_with fail
                  refine HC7.out.mono ?_
                  rintro e w8 ⟨rfl, hb8⟩
                  have hw8 := hw7.trans (hb8.mono hw7.size)
                  go_wp2
                  go_ret
                  exact ⟨rfl, hw8⟩
    · clear hX hL
      go_enter Try.func3, Try.ntmps3
      go_wp2_with fail
      refine HA.out.mono ?_
      rintro e w0 ⟨rfl, hb0⟩
      go_wp2
      go_ret
      exact ⟨rfl, by go_grown⟩
  · clear hX hL
    go_enter Try.func3, Try.ntmps3
    go_wp2_with fail
    refine HA.out.mono ?_
    rintro e w0 ⟨rfl, hb0⟩
    go_wp2
    go_ret
    exact ⟨rfl, by go_grown⟩
end Go.Proofs.Ytpmldedombiadaa
