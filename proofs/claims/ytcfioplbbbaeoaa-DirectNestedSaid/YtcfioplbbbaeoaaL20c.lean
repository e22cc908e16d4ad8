/-
  DirectNested as a walk: it hands back true, for every input, if the program's array does what is asked of it. No condition besides.
-/
import Derived.Test.YtcfioplbbbaeoaaW16
import Derived.Test.YtcfioplbbbaeoaaW6
import Derived.Test.YtcfioplbbbaeoaaW5
import Derived.Test.YtcfioplbbbaeoaaM11
import Derived.Deep.LoopGhost
import Derived.Deep.DeepCutAuto
import Derived.Maps.AppendAt
import Derived.Test.YtcfioplbbbaeoaaAppR
import Derived.Test.YtcfioplbbbaeoaaRef18b
import Derived.Test.YtcfioplbbbaeoaaLift
import Derived.Test.YtcfioplbbbaeoaaOpenI
/-
  What histo.Cost hands back. No condition but that the rows lie in memory and are short of a million.
-/
set_option linter.unusedSimpArgs false
set_option linter.unusedVariables false
namespace Go.Proofs.Ytcfioplbbbaeoaa
open Go Go.RowKit Go.Sort M

/-- The levels that are left, M, at q: from length n on they do as L does. -/
structure Lev (w : World) (q : Option Addr) (m d : Nat) (M L : List Int) (n : Nat) : Prop where
  len : M.length = m
  le : m ≤ d
  top : m ≤ 1000000
  row : IRow w q M
  near : near M n = near L n
theorem Lev.more {w : World} {q : Option Addr} {m d : Nat} {M L : List Int} {n : Nat} (H : Lev w q m d M L n) : Lev w q m d M L (n + 1) :=
  ⟨H.len, H.le, H.top, H.row, by rw [← near_near M n (n + 1) (by omega), H.near, near_near L n (n + 1) (by omega)]⟩
theorem Lev.head {w : World} {q : Option Addr} {m d : Nat} {M L : List Int} {n : Nat} (H : Lev w q m d M L n) (h : 0 < m) :
    ∃ g o a N, q = some ⟨g, o, none⟩ ∧ g < w.heap.size ∧ (∀ wx, Below w.heap.size w wx → wx.cell? ⟨g, o, none⟩ = some (.int .i64 a)) ∧ M = a :: N ∧
      (a < (n : Int) → Lev w (some ⟨g, o + 1, none⟩) (m - 1) (d - 1) N L n ∧ (d = 1 → Lev w (some ⟨g, o, none⟩) (m - 1) 0 N L n)) := by
  have hl := H.len
  rcases M with _ | ⟨a, N⟩
  · simp at hl; omega
  rcases H.row with h0 | ⟨g, o, e, hg, hc⟩
  · cases h0
  refine ⟨g, o, a, N, e, hg, fun wx hb => (hb.cell (p := ⟨g, o, none⟩) hg).trans (hc 0 _ rfl), rfl, fun ha => ?_⟩
  have hn := H.near
  rw [near_cons, if_pos ha] at hn
  have hN : N.length = m - 1 := by simp at hl; omega
  have hle := H.le
  have htop := H.top
  refine ⟨⟨hN, by omega, by omega, .inr ⟨g, o + 1, rfl, hg, fun j u hu => ?_⟩, hn⟩, fun hd => ⟨by omega, by omega, by omega, .inl (List.length_eq_zero_iff.1 (by omega)), hn⟩⟩
  rw [show o + 1 + j = o + (j + 1) by omega]
  exact hc (j + 1) u (by simpa [ics] using hu)
theorem Lev.stop {w : World} {q : Option Addr} {m d : Nat} {M L N : List Int} {n : Nat} {a : Int} (H : Lev w q m d M L n) (e : M = a :: N) (h : ¬ a < (n : Int)) : _root_.Go.Proofs.Ytcfioplbbbaeoaa.near L n = a :: N := by
  rw [← H.near, e, near_cons, if_neg h]
theorem Lev.none {w : World} {q : Option Addr} {m d : Nat} {M L : List Int} {n : Nat} (H : Lev w q m d M L n) (h : m = 0) : _root_.Go.Proofs.Ytcfioplbbbaeoaa.near L n = [] := by
  rw [← H.near, List.length_eq_zero_iff.1 (H.len.trans h)]
  rfl
theorem sum_shift (s x t n : Nat) (a : Int) (hn : (n : Int) ≤ a) (ha : a - (n : Int) ≤ 20) (ht : x * 2 ^ (a - (n : Int)).toNat = t) (hs : s ≤ 141836999983104) (htt : t ≤ 1099511627776) :
    wrap64 ((s : Int) + wrap64 ((x : Int) * 2 ^ (a.toNat - n))) = ((s + t : Nat) : Int) := by
  have h : (x : Int) * 2 ^ (a.toNat - n) = ((t : Nat) : Int) := by
    rw [← ht, show (a - (n : Int)).toNat = a.toNat - n by omega, Int.natCast_mul, Int.natCast_pow]
    rfl
  rw [h, IntWalk.wrap64_in (t : Int) (by omega), IntWalk.wrap64_in _ (by omega)]
  omega
end Go.Proofs.Ytcfioplbbbaeoaa
/-
  What histo.Count and the reference's Count hand back: a new row of 129 numbers. No condition but that the routes lie in memory and are short of a million.
-/
set_option linter.unusedSimpArgs false
set_option linter.unusedVariables false
namespace Go.Proofs.Ytcfioplbbbaeoaa
open Go Go.RowKit Go.Sort M

/-- How many of the routes have each length. -/
def lenC (L : List Rt) (n : Nat) : Nat := L.countP fun r => decide (r.k.n = (n : Int))
def cntR (L : List Rt) : List Int := (List.range 129).map fun n => ((lenC L n : Nat) : Int)
theorem cntR_len (L : List Rt) : (cntR L).length = 129 := by simp [cntR]
theorem cntR_at (L : List Rt) (n : Nat) (h : n < (cntR L).length) : (cntR L)[n] = ((lenC L n : Nat) : Int) := by simp [cntR]
theorem lenC_le (L : List Rt) (n : Nat) : lenC L n ≤ L.length := List.countP_le_length
theorem lenC_snoc (L : List Rt) (r : Rt) (n : Nat) : lenC (L ++ [r]) n = if r.k.n = (n : Int) then lenC L n + 1 else lenC L n := by
  unfold lenC
  rw [List.countP_append, List.countP_singleton]
  by_cases h : r.k.n = (n : Int)
  · simp [h]
  · simp [h]
theorem cntR_in (L : List Rt) (r : Rt) (n : Nat) (h : r.k.n = (n : Int)) (hn : n < 129) : cntR (L ++ [r]) = (cntR L).set n ((lenC L n + 1 : Nat) : Int) := by
  refine List.ext_getElem (by simp [cntR]) fun j h1 h2 => ?_
  rw [cntR_at, List.getElem_set]
  have hj : j < 129 := by rw [cntR_len] at h1; exact h1
  by_cases e : n = j
  · subst e
    rw [if_pos rfl, lenC_snoc, if_pos h]
  · rw [if_neg e, cntR_at, lenC_snoc, if_neg (by omega)]
theorem cntR_out (L : List Rt) (r : Rt) (h : ¬ (0 ≤ r.k.n ∧ r.k.n < 129)) : cntR (L ++ [r]) = cntR L := by
  refine List.ext_getElem (by simp [cntR]) fun j h1 h2 => ?_
  have hj : j < 129 := by rw [cntR_len] at h1; exact h1
  rw [cntR_at, cntR_at, lenC_snoc, if_neg (by omega)]
theorem cntR_none : cntR [] = (List.range 129).map fun _ => 0 := rfl
theorem made_some (n : Nat) : (madeCells #[.int .i64 0] n).toList = ics ((List.range n).map fun _ => (0 : Int)) := by
  apply List.ext_getElem?
  intro j
  by_cases h : j < n
  · simp [madeCells, ics, h, Nat.mod_one]
  · rw [List.getElem?_eq_none (by simp [madeCells]; omega), List.getElem?_eq_none (by simp [ics]; omega)]
theorem ics_set' (L : List Int) (n : Nat) (x : Int) : ics (L.set n x) = (ics L).set n (.int .i64 x) := by
  unfold ics
  rw [List.map_set]
theorem made_129 : (madeCells #[.int .i64 0] 129).toList = ics (cntR []) := by
  rw [cntR_none, made_some]
theorem cnt_own (w w0 : World) (t : TypeId) (hb : w.heap.size ≤ w0.heap.size) : (w0.alloc (.cells (madeCells #[.int .i64 0] 129) t)).ownsRow w.heap.size t 1 (.slice (some ⟨w0.heap.size, 0, none⟩) 129 129) 129 (ics (cntR [])) := by
  rw [← made_129]
  exact World.ownsRow_lit _ _ 129 (by omega) (by unfold maxLen; omega) (by simp [madeCells])
theorem make_129 : ∀ w, (Instr.makeSlice 38 (.int .i64 129) (.int .i64 129)).run Try.prog w = .ok (.slice (some ⟨w.heap.size, 0, none⟩) 129 129) (w.alloc (.cells (madeCells #[.int .i64 0] 129) 3)) := fun w => make_row Try.underlying38 infoI 129 (by decide) (by unfold maxLen; decide) w
end Go.Proofs.Ytcfioplbbbaeoaa
/-
  flocculuslaw16's alive and HistoMore as walks: they hand back true, for every input. No condition but that a row's length is at most its capacity.
-/
set_option linter.unusedSimpArgs false
set_option linter.unusedVariables false
namespace Go.Proofs.Ytcfioplbbbaeoaa
open Go Go.RowKit Go.Sort M

theorem own_cap {w : World} {B n k c : Nat} {e : TypeId} {p : Option Addr} {xs : List Value} (h : w.ownsRow B e k (.slice p n c) n xs) : n ≤ c := by
  rcases h.2 with ⟨e, h0⟩ | ⟨g, cap, cur, e, -, -, h1, -⟩
  · omega
  · injection e with e1 e2 e3
    omega
end Go.Proofs.Ytcfioplbbbaeoaa
/-
  What the reference's Count hands back: a new row of 129 numbers. No condition but that the routes lie in memory and are short of a million.
-/
set_option linter.unusedSimpArgs false
set_option linter.unusedVariables false
namespace Go.Proofs.Ytcfioplbbbaeoaa
open Go Go.RowKit Go.Sort M

end Go.Proofs.Ytcfioplbbbaeoaa
/-
  What the reference's At and Cost hand back. No condition but that the rows lie in memory and are short of a million.
-/
set_option linter.unusedSimpArgs false
set_option linter.unusedVariables false
namespace Go.Proofs.Ytcfioplbbbaeoaa
open Go Go.RowKit Go.Sort M

theorem cap_low (low : Int) (m : Nat) (h : 0 ≤ low) (hm : m = min low.toNat 128) (w : World) : Calls Try.prog 8 #[.int .i64 low, .int .i64 0, .int .i64 128] w fun e w' => e = .returned (.int .i64 (m : Nat)) ∧ w = w' :=
  (cap_any low 0 128 w).mono fun e w' ⟨h1, h2⟩ => ⟨h1.trans (ret_num (by split <;> (try split) <;> omega)), h2⟩
end Go.Proofs.Ytcfioplbbbaeoaa
/-
  HistoKeys as a walk: it hands back true, for every input. No condition but that each row's length is at most its capacity.
-/
set_option linter.unusedSimpArgs false
set_option linter.unusedVariables false
namespace Go.Proofs.Ytcfioplbbbaeoaa
open Go Go.RowKit Go.Sort M

theorem w64z16 : W64 0 := by unfold W64; decide
theorem mask7 (x : Int) : bits BinOp.and IntKind.i64 x 127 = ((x % 128).toNat : Int) := by
  have h : (BitVec.ofInt 64 x &&& BitVec.ofInt 64 127).toNat = (x % 128).toNat := by
    rw [BitVec.toNat_and, BitVec.toNat_ofInt, show (BitVec.ofInt 64 127).toNat = 2 ^ 7 - 1 by decide, Nat.and_two_pow_sub_one_eq_mod]
    omega
  show IntKind.i64.wrap (((BitVec.ofInt 64 x &&& BitVec.ofInt 64 127).toNat : Nat) : Int) = _
  rw [h, IntKind.wrap_i64]
  omega
/-- The lengths of a row of numbers. -/
def lensN (X : List Int) : List Nat := X.map fun x => (x % 128).toNat
theorem lensN_len (X : List Int) : (lensN X).length = X.length := by simp [lensN]
theorem lensN_lt (X : List Int) : ∀ n ∈ lensN X, n < 129 := by
  intro n h
  unfold lensN at h
  rw [List.mem_map] at h
  obtain ⟨x, -, rfl⟩ := h
  omega
theorem lensN_take (X : List Int) (i : Nat) (h : i < X.length) : (lensN X).take (i + 1) = (lensN X).take i ++ [(X[i] % 128).toNat] := by
  rw [List.take_succ_eq_append_getElem (by rw [lensN_len]; exact h)]
  simp [lensN]
/-- A route of that length. -/
def rtN (n : Nat) : Rt := ⟨⟨0, 0, (n : Int)⟩, 0⟩
def rtsN (N : List Nat) : List Rt := N.map rtN
theorem rtsN_len (N : List Nat) : (rtsN N).length = N.length := by simp [rtsN]
theorem rtsN_snoc (N : List Nat) (n : Nat) : rtsN (N ++ [n]) = rtsN N ++ [rtN n] := by simp [rtsN]
theorem lenC_rts (n : Nat) : ∀ N : List Nat, lenC (rtsN N) n = N.count n
  | [] => rfl
  | m :: N => by
    have ih := lenC_rts n N
    unfold lenC at ih ⊢
    rw [rtsN, List.map_cons, List.countP_cons, List.count_cons]
    rw [rtsN] at ih
    rw [ih]
    by_cases h : m = n
    · subst h; simp [rtN]
    · have h2 : ¬ ((m : Int) = (n : Int)) := by omega
      simp [rtN, h, h2]
theorem cntR_rts (N : List Nat) : cntR (rtsN N) = cntH N := by
  unfold cntR cntH
  exact List.map_congr_left fun n _ => by rw [lenC_rts]
/-- How many keys the law counts for one length, and whether it fits. -/
def keyT (L : List Int) (low : Int) (n : Nat) : Nat := if (n : Int) ≤ low then 0 else match near L n with | [] => 0 | a :: _ => if 8 < a - (n : Int) then 0 else (keysV 0 0 (n : Int) a).length
def fitT (L : List Int) (low : Int) (n : Nat) : Bool := if (n : Int) ≤ low then true else match near L n with | [] => false | a :: _ => decide (a - (n : Int) ≤ 8)
theorem keyT_is (L : List Int) (low : Int) (n : Nat) (hn : n < 129) (hr : riseB low L = true) (hf : fitT L low n = true) : keyT L low n = keyF L low n := by
  unfold keyT keyF
  unfold fitT at hf
  by_cases h : (n : Int) ≤ low
  · rw [if_pos h, if_pos h]
  · rw [if_neg h, if_neg h]
    rw [if_neg h] at hf
    cases hM : near L n with
    | nil => rfl
    | cons a M =>
      rw [hM] at hf
      have hd := near_head L n a M hM
      have hm := rise_mem L low hr a hd.2
      have h8 : ¬ 8 < a - (n : Int) := by have h9 : a - (n : Int) ≤ 8 := of_decide_eq_true hf; omega
      show (if 8 < a - (n : Int) then 0 else (keysV 0 0 (n : Int) a).length) = 2 ^ (a - (n : Int)).toNat
      have hri : rightB 0 0 (n : Int) = true := by
        rw [rightB_val 0 0 _ w64z16]
        exact ⟨by omega, by omega, by rw [show val 0 0 = 0 by decide +kernel]; exact Nat.dvd_zero _⟩
      rw [if_neg h8, keysV_len 0 0 _ _ w64z16, cnt_some ⟨hri, hd.1, hm.2, by omega⟩]
theorem keys_all (L : List Int) (low : Int) (hr : riseB low L = true) : ∀ N : List Nat, (∀ n ∈ N, n < 129) → N.all (fitT L low) = true → (N.map (keyT L low)).sum = (N.map (keyF L low)).sum
  | [], _, _ => rfl
  | n :: N, hb, hf => by
    rw [List.all_cons, Bool.and_eq_true] at hf
    rw [List.map_cons, List.map_cons, List.sum_cons, List.sum_cons, keyT_is L low n (hb n List.mem_cons_self) hr hf.1, keys_all L low hr N (fun m h => hb m (List.mem_cons_of_mem _ h)) hf.2]
theorem keys_total (L : List Int) (low : Int) (N : List Nat) (r : Nat) (hl : N.length ≤ 1048576) (hb : ∀ n ∈ N, n < 129) (hf : N.all (fitT L low) = true) (h : costK (cntH N) L low = some r) : (N.map (keyT L low)).sum = r := by
  obtain ⟨h1, -, h2⟩ := cost_sum N L low r hl hb h
  rw [h1]
  exact keys_all L low h2 N hb hf
theorem sum_snoc (f : Nat → Nat) (N : List Nat) (n : Nat) : ((N ++ [n]).map f).sum = (N.map f).sum + f n := by simp
theorem all_snoc (f : Nat → Bool) (N : List Nat) (n : Nat) : (N ++ [n]).all f = (N.all f && f n) := by simp
theorem keyT_le (L : List Int) (low : Int) (n : Nat) : keyT L low n ≤ 256 := by
  unfold keyT
  by_cases h : (n : Int) ≤ low
  · rw [if_pos h]; omega
  · rw [if_neg h]
    cases near L n with
    | nil => exact Nat.zero_le _
    | cons a M =>
      show (if 8 < a - (n : Int) then 0 else (keysV 0 0 (n : Int) a).length) ≤ 256
      by_cases h8 : 8 < a - (n : Int)
      · rw [if_pos h8]; omega
      · rw [if_neg h8, keysV_len 0 0 _ _ w64z16]; exact cnt_le _ _ _ _
end Go.Proofs.Ytcfioplbbbaeoaa
/-
  DirectNested as a walk: it hands back true, for every input, if the program's array does what is asked of it. No condition besides.
-/
set_option linter.unusedSimpArgs false
set_option linter.unusedVariables false
namespace Go.Proofs.Ytcfioplbbbaeoaa
open Go Go.RowKit Go.Sort M

def nI (x : Int) : Nat := (x % 16).toNat
theorem nI_le (x : Int) : nI x ≤ 15 := by unfold nI; omega
theorem mask15 (x : Int) : bits BinOp.and IntKind.i64 x 15 = (nI x : Int) := by
  have h : (BitVec.ofInt 64 x &&& BitVec.ofInt 64 15).toNat = (x % 16).toNat := by
    rw [BitVec.toNat_and, BitVec.toNat_ofInt, show (BitVec.ofInt 64 15).toNat = 2 ^ 4 - 1 by decide, Nat.and_two_pow_sub_one_eq_mod]
    omega
  show IntKind.i64.wrap (((BitVec.ofInt 64 x &&& BitVec.ofInt 64 15).toNat : Nat) : Int) = _
  unfold nI
  rw [h, IntKind.wrap_i64]
  omega
def rtI (ah al : Nat) (x : Int) : Rt := ⟨cutK ah al (nI x), (nI x : Int)⟩
def bestS (m : Nat) (b : Int) (x : Int) : Int := if (nI x : Int) ≤ m ∧ b < nI x then nI x else b
def bestI (m : Nat) (X : List Int) : Int := X.foldl (bestS m) (-1)
theorem bestI_snoc (m : Nat) (X : List Int) (x : Int) : bestI m (X ++ [x]) = bestS m (bestI m X) x := by unfold bestI; rw [List.foldl_append]; rfl
theorem cand_rtI (ah al m : Nat) (x : Int) : candB (cutK ah al m).h (cutK ah al m).l (-1) (cutK ah al m).n (rtI ah al x) = decide ((nI x : Int) ≤ m) := by
  rw [cand_cut]
  unfold candB rtI
  have h1 : (cutK ah al (nI x)).n = (nI x : Int) := rfl
  have h2 : hasB (cutK ah al (nI x)).h (cutK ah al (nI x)).l (cutK ah al (nI x)).n ah al = true := (has_cutK _ _ _).2 ⟨nI x, by have := nI_le x; omega, rfl⟩
  simp only
  rw [h2, h1, decide_eq_true (by omega : (-1 : Int) < (nI x : Int))]
  simp
def stI20 (ah al : Nat) (b : Int) : Rt × Bool := if 0 ≤ b then (⟨cutK ah al b.toNat, b⟩, true) else (⟨⟨0, 0, 0⟩, 0⟩, false)
theorem hopF_best (ah al m : Nat) (X : List Int) : ∀ i, i ≤ X.length → hopF (candB (cutK ah al m).h (cutK ah al m).l (-1) (cutK ah al m).n) ((X.take i).map (rtI ah al)) = stI20 ah al (bestI m (X.take i)) ∧ -1 ≤ bestI m (X.take i)
  | 0, _ => by
    unfold hopF bestI stI20
    simp
  | i + 1, h => by
    obtain ⟨ih, i0⟩ := hopF_best ah al m X i (by omega)
    rw [List.take_succ_eq_append_getElem (by omega), List.map_append, List.map_singleton, hopF_snoc, bestI_snoc, ih]
    generalize X[i] = x
    generalize bestI m (X.take i) = b at *
    unfold hopStep
    rw [cand_rtI]
    unfold bestS
    have hr : (rtI ah al x).k.n = (nI x : Int) := rfl
    rw [hr]
    by_cases hm : (nI x : Int) ≤ m
    · rw [decide_eq_true hm]
      by_cases hb : b < nI x
      · have hB : (if (nI x : Int) ≤ m ∧ b < nI x then (nI x : Int) else b) = nI x := if_pos ⟨hm, hb⟩
        have hc : (stI20 ah al b).1.k.n ≤ (nI x : Int) := by
          unfold stI20
          split
          · show ((b.toNat : Nat) : Int) ≤ _
            omega
          · show (0 : Int) ≤ _
            omega
        rw [hB, if_pos ⟨hc, rfl⟩]
        refine ⟨?_, by omega⟩
        unfold stI20
        rw [if_pos (by omega)]
        rfl
      · have hB : (if (nI x : Int) ≤ m ∧ b < nI x then (nI x : Int) else b) = b := if_neg fun h => hb h.2
        rw [hB]
        refine ⟨?_, i0⟩
        have hb0 : 0 ≤ b := by omega
        by_cases he : (stI20 ah al b).1.k.n ≤ (nI x : Int)
        · rw [if_pos ⟨he, rfl⟩]
          unfold stI20 at he ⊢
          rw [if_pos hb0] at he ⊢
          have he' : ((b.toNat : Nat) : Int) ≤ (nI x : Int) := he
          have hbx : b = nI x := by omega
          rw [hbx]
          rfl
        · rw [if_neg (fun h => he h.1)]
    · have hB : (if (nI x : Int) ≤ m ∧ b < nI x then (nI x : Int) else b) = b := if_neg fun h => hm h.1
      rw [hB, decide_eq_false hm, if_neg (fun h => by cases h.2)]
      exact ⟨rfl, i0⟩
theorem dir_best (ah al m : Nat) (X : List Int) : dirV (X.map (rtI ah al)) ah al m = (if 0 ≤ bestI m X then bestI m X else 0) ∧ (dirK (X.map (rtI ah al)) ah al m).isSome = decide (0 ≤ bestI m X) := by
  have h := hopF_is (X.map (rtI ah al)) (-1) (cutK ah al m)
  have hb := (hopF_best ah al m X X.length (Nat.le_refl _)).1
  rw [List.take_of_length_le (Nat.le_refl _)] at hb
  rw [hb] at h
  unfold stI20 at h
  by_cases h0 : 0 ≤ bestI m X
  · rw [if_pos h0] at h ⊢
    rw [decide_eq_true h0]
    exact h
  · rw [if_neg h0] at h ⊢
    rw [decide_eq_false h0]
    exact h
theorem own_nil20 {w : World} {B n m d k : Nat} {e : TypeId} {q : Option Addr} {xs : List Value} (h : w.ownsRow B e k (.slice q n d) m xs) (hq : q = none) : d = 0 := by
  subst hq
  rcases h.2 with ⟨e1, _⟩ | ⟨g, cap, cur, e1, _⟩
  · injection e1
  · injection e1 with e1
    cases e1
/-- An append of a row that lies anywhere to a row of the call's own. -/
theorem wpList_append_row20 {ops : Array Oper} {rest : List Oper} {o : Oper} {a : Act} {w : World} {Q : Exit → Act → World → Prop} (hgd : o.guard = none) (s x : Operand)
    (ho : o.op = .call { callee := .builtin .append, args := #[s, x], argTypes := #[34, 34] }) (B : Nat) (v : Value) (L M N : List Rt) (hN : N = L ++ M) (hs : a.eval s = v) (ad : Addr) (c : Nat) (hx : a.eval x = .slice (some ad) M.length c)
    (hown : w.ownsRow B 43 4 v L.length (rcs L)) (hsrc : ∀ j u, (rcs M)[j]? = some u → w.cell? (ad.add j) = some u) (hlen : L.length + M.length ≤ 1099511627776) (hB : B ≤ w.heap.size)
    (h : ∀ v' w', w'.ownsRow B 43 4 v' N.length (rcs N) → w.grownBy w' v.ownBlock → (v'.ownBlock = v.ownBlock ∨ v'.ownBlock = some w.heap.size) → wpList Try.prog ops Q rest (a.put o.dst v') w') : wpList Try.prog ops Q (o :: rest) a w := by
  subst hN
  obtain ⟨i0, hi0, iz0, iz1, iz2⟩ := info_parts infoR
  refine wpList_append_own_at w hgd s x 34 ho B 43 i0 _ 4 32 Try.underlying34 hi0 iz0 iz1 iz2 rfl (by decide) v _ _ hs hown ad M.length c (rcs M) hx (rcs_len M) hsrc (rcs_one' M) (by unfold maxLen; omega) (by omega) hB ?_
  intro v' w' h1 h2 _ h4
  refine h v' w' ?_ h2 h4
  rw [rcs_append, List.length_append]
  exact h1
end Go.Proofs.Ytcfioplbbbaeoaa
