/-
  What the library's reader of numbers in base 16 hands back, at texts of one to four bytes; what the walks ask of the library's variables. No condition but those that stand in each.
-/
import Derived.Test.YtegaeifmikfpcaaDoorM3b
import Derived.Test.YtegaeifmikfpcaaDoorW2c
import Derived.Lib.ConvBytes
import Derived.Lib.SmallJoins
import Derived.Lib.AtoiErrMem
import Derived.Laws.Strings3
import Derived.Laws.Closers25
import Derived.Laws.Closers25b
set_option linter.unusedSimpArgs false
set_option linter.unusedVariables false
namespace Go.Proofs.YtegaeifmikfpcaaDoor
open Go.RowKit Go.Sort M

/-- What the walks ask of the library's variables, in this world and in all that leave what is below block B. -/
structure Kit (B : Nat) (w : World) : Prop where
  tens : Tens B w
  most : ∀ w', Below B w w' → ∃ m, w'.cell? ⟨0, 0, none⟩ = some (.int .i64 m)
  tab64 : ∀ w', Below B w w' → w'.cell? ⟨5, 15, none⟩ = some (.int .u8 4)
  eSyn : ∀ w', Below B w w' → ∃ te pe, w'.cell? ⟨1, 0, none⟩ = some (.iface te pe)
  eRan : ∀ w', Below B w w' → ∃ te pe, w'.cell? ⟨2, 0, none⟩ = some (.iface te pe)
theorem Kit.mono {B B' : Nat} {w : World} (h : Kit B w) (hB : B ≤ B') : Kit B' w :=
  ⟨h.tens.mono hB, fun w' hb => h.most w' (hb.mono hB), fun w' hb => h.tab64 w' (hb.mono hB), fun w' hb => h.eSyn w' (hb.mono hB), fun w' hb => h.eRan w' (hb.mono hB)⟩
theorem Kit.on {B : Nat} {w w1 : World} (h : Kit B w) (hb : Below B w w1) : Kit B w1 :=
  ⟨h.tens.on hb, fun w' hc => h.most w' (hb.trans hc), fun w' hc => h.tab64 w' (hb.trans hc), fun w' hc => h.eSyn w' (hb.trans hc), fun w' hc => h.eRan w' (hb.trans hc)⟩
/-- .. in a world that left all old memory: at its own size. -/
theorem Kit.up {w w1 : World} (h : Kit w.heap.size w) (hb : Below w.heap.size w w1) : Kit w1.heap.size w1 := (h.on hb).mono hb.size
/-- What a call hands back in such worlds. -/
def GivesK (f : FuncId) (args : Array Value) (v : Value) : Prop := ∀ w, Kit w.heap.size w → Calls Tryd.prog f args w fun e w' => e = .returned v ∧ Below w.heap.size w w'
theorem Gives.k {f : FuncId} {args : Array Value} {v : Value} (h : Gives Tryd.prog f args v) : GivesK f args v := fun w _ => h w

def lowB (c : Nat) : Bool := let v := c ||| 32; (decide (bits .or .u8 (c : Int) 32 = (v : Int)) && decide (v < 256)) &&
  (if 48 ≤ c ∧ c ≤ 57 then decide (hexD (UInt8.ofNat c) = some (c - 48)) else if 97 ≤ v ∧ v ≤ 102 then decide (hexD (UInt8.ofNat c) = some (v - 87)) else decide (hexD (UInt8.ofNat c) = none))
theorem low_all : ∀ c : Fin 256, lowB c.val = true := by decide +kernel
theorem low_any (c : UInt8) : ∃ v : Nat, bits .or .u8 (c.toNat : Int) 32 = (v : Int) ∧ v < 256 ∧ (c.toNat = 95 → v = 127) ∧
    ((48 ≤ c.toNat ∧ c.toNat ≤ 57 ∧ hexD c = some (c.toNat - 48)) ∨ ((c.toNat < 48 ∨ 57 < c.toNat) ∧ 97 ≤ v ∧ v ≤ 102 ∧ hexD c = some (v - 87)) ∨ ((c.toNat < 48 ∨ 57 < c.toNat) ∧ (v < 97 ∨ 103 ≤ v) ∧ hexD c = none)) := by
  have h := low_all ⟨c.toNat, c.toNat_lt⟩
  unfold lowB at h
  have e : UInt8.ofNat c.toNat = c := by simp
  simp only [e, Bool.and_eq_true, decide_eq_true_eq] at h
  obtain ⟨⟨h1, h2⟩, h3⟩ := h
  refine ⟨_, h1, h2, fun e => by rw [e]; rfl, ?_⟩
  split at h3
  · left; rename_i hh; exact ⟨hh.1, hh.2, by simpa using h3⟩
  · rename_i hn
    split at h3
    · rename_i hh; right; left; exact ⟨by omega, hh.1, hh.2, by simpa using h3⟩
    · rename_i hh; right; right; exact ⟨by omega, by omega, by simpa using h3⟩
def pv16 (x : Option Nat) : Value := match x with | some n => .tuple #[.int .u64 n, .nilIface] | none => .tuple #[.int .u64 0, .iface 83 (.int .i64 2)]
theorem hex_on {acc d : Nat} {c : UInt8} {l : List UInt8} {x : Option Nat} (h : Hid (hexGo acc (c :: l) = x)) (hd : hexD c = some d) : Hid (hexGo (acc * 16 + d) l = x) := by
  have h := h.out
  rw [hexGo, hd] at h
  exact h
theorem hex_bad {acc : Nat} {c : UInt8} {l : List UInt8} {x : Option Nat} (h : Hid (hexGo acc (c :: l) = x)) (hd : hexD c = none) : x = none := by
  have h := h.out
  rw [hexGo, hd] at h
  exact h.symm

set_option maxHeartbeats 4000000 in
set_option maxRecDepth 100000 in
theorem iparse16 (t : ByteArray) (h0 : t.size ≠ 0) (h4 : t.size ≤ 4) (w : World) :
    Calls Tryd.prog 68 #[.string t, .int .i64 16, .int .i64 16] w fun e w' => e = .returned (pv16 (hexGo 0 t.data.toList)) ∧ w' = Lib.bytesWorld w 5 t := by
  have hemp : t.toList.isEmpty = false := by
    rw [← decide_eq_emptyBytes]
    exact decide_eq_false (fun h => h0 (by rw [h]; rfl))
  have hcv := Lib.run_convert_string_bytes (P := Tryd.prog) w 9 59 5 t (u := .string) Tryd.underlying9 Tryd.underlying59 Tryd.underlying5
  have hB : ∀ j, j < t.size → (Lib.bytesWorld w 5 t).cell? ⟨w.heap.size, j, none⟩ = some (.int .u8 (t.data.toList.getD j 0).toNat) := fun j hj => Lib.bytesWorld_cell w 5 t j hj
  obtain ⟨W1, hW1⟩ : ∃ W1, W1 = Lib.bytesWorld w 5 t := ⟨_, rfl⟩
  rw [← hW1] at hcv hB ⊢
  clear hW1
  obtain ⟨bs, hL⟩ : ∃ bs, bs = t.data.toList := ⟨_, rfl⟩
  have hLn : bs.length = t.size := by rw [hL, Lib.size_eq]
  rw [← hL] at hB ⊢
  clear hL
  generalize hx0 : hexGo 0 bs = x
  have hx : Hid (hexGo 0 (bs.drop 0) = x) := Lib.hid hx0
  clear hx0
  go_enter Tryd.func68, Tryd.ntmps68
  go_wp2
  go_loop [12, 13, 101] (fun vu vn vi => ∃ (k acc : Nat) (a : Int), vu = .bool false ∧ vn = .int .u64 a ∧ vi = .int .i64 k ∧ k ≤ t.size ∧ Hid (a = (acc : Int) ∧ acc < 16 ^ k ∧ hexGo acc (bs.drop k) = x))
    (fun _ _ vi => t.size - (intOf vi).toNat)
  case atStart => exact ⟨0, 0, 0, rfl, rfl, rfl, by omega, Lib.hid ⟨rfl, by decide, hx.out⟩⟩
  case round =>
    clear hx
    obtain ⟨k, acc, a, rfl, rfl, rfl, hk, hh⟩ := hrel
    obtain ⟨ha, hacc, hh⟩ := hh.out
    have hh := Lib.hid hh
    by_cases hkn : k < t.size
    · have hc := hB k hkn
      have hdrop : bs.drop k = bs[k]'(by omega) :: bs.drop (k + 1) := List.drop_eq_getElem_cons (by omega)
      have hget : bs.getD k 0 = bs[k]'(by omega) := by simp [List.getD, List.getElem?_eq_getElem (show k < bs.length by omega)]
      rw [hdrop] at hh
      rw [hget] at hc
      generalize bs[k]'(by omega) = c at hc hh
      have a0 : 0 ≤ a := by omega
      have hc256 : c.toNat < 256 := c.toNat_lt
      clear hB hdrop hget
      have ha3 : acc < 4096 := Nat.lt_of_lt_of_le hacc (Nat.le_trans (Nat.pow_le_pow_right (by omega) (show k ≤ 3 by omega)) (by decide))
      obtain ⟨v, hv, hv2, h95, hcase⟩ := low_any c
      have hlw := fun w' => Tryd.internal_strconv_lower (c.toNat : Int) w'
      rw [hv] at hlw
      have HLW := Lib.hid hlw
      have a1 : a < 4096 := by omega
      have HACC := Lib.hid (And.intro ha hacc)
      clear hlw hv hacc ha ha3
      rcases hcase with ⟨c0, c1, hd⟩ | ⟨c0, v0, v1, hd⟩ | ⟨c0, v0, hd⟩
      · have HN := hex_on hh hd
        clear hh hd h95
        go_wp2
        refine ⟨⟨k + 1, acc * 16 + (c.toNat - 48), _, rfl, rfl, (by first | rfl | (congr 1; omega)), by omega, Lib.hid ⟨by have := HACC.out; omega, by rw [Nat.pow_succ]; have := HACC.out.2; omega, HN.out⟩⟩, by simp [intOf]; omega⟩
      · have HN := hex_on hh hd
        have n95 : ((c.toNat : Int) == 95) = false := by
          have : c.toNat ≠ 95 := fun e => by have := h95 e; omega
          simp; omega
        clear hh hd h95
        rcases c0 with c0 | c0
        all_goals
          go_wp2_with (go_at_call 76; go_loud (refine (HLW.out _).mono ?_; rintro e w' ⟨rfl, rfl⟩))
          refine ⟨⟨k + 1, acc * 16 + (v - 87), _, rfl, rfl, (by first | rfl | (congr 1; omega)), by omega, Lib.hid ⟨by have := HACC.out; omega, by rw [Nat.pow_succ]; have := HACC.out.2; omega, HN.out⟩⟩, by simp [intOf]; omega⟩
      · have hF := Lib.hid (hex_bad hh hd)
        clear hh hd
        have v0' : v < 97 ∨ (103 ≤ v ∧ v ≤ 122) ∨ 122 < v := by omega
        clear v0
        by_cases e95 : c.toNat = 95
        · obtain rfl := h95 e95
          rw [e95] at HLW
          have e95' : (c.toNat : Int) = 95 := by omega
          rw [e95'] at hc
          clear c0 v0' h95 e95 e95' hc256
          go_wp2_with (go_at_call 76; go_loud (refine (HLW.out _).mono ?_; rintro e w' ⟨rfl, rfl⟩))
          go_ret2
          exact ⟨by rw [hF.out]; rfl, rfl⟩
        have n95 : ((c.toNat : Int) == 95) = false := by simp; omega
        clear h95 e95
        rcases c0 with c0 | c0
        all_goals
          rcases v0' with v0 | ⟨v0, v1⟩ | v0
        all_goals
          go_wp2_with (go_at_call 76; go_loud (refine (HLW.out _).mono ?_; rintro e w' ⟨rfl, rfl⟩))
          go_ret2
          exact ⟨by rw [hF.out]; rfl, rfl⟩
    · have hkk : k = t.size := by omega
      subst hkk
      have hF : x = some acc := by
        have := hh.out
        rw [List.drop_eq_nil_of_le (by omega)] at this
        exact this.symm
      subst ha
      have HF := Lib.hid hF
      clear hh hF hacc
      go_wp2
      go_ret2
      exact ⟨by rw [HF.out]; rfl, rfl⟩
end Go.Proofs.YtegaeifmikfpcaaDoor
