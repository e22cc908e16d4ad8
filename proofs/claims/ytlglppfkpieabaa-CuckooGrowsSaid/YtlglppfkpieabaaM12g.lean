/-
  Plain mathematics of a put, with how many keys there are. No condition but those that stand in each.
-/
import Derived.Test.YtlglppfkpieabaaM12f
set_option linter.unusedSimpArgs false
set_option linter.unusedVariables false
namespace Go.Proofs.Ytlglppfkpieabaa
open M

theorem rep_keys {T : Tab} {r : Rt} (H : Inv T) : (rep T r = none ↔ r.k ∉ keysR (contT T)) := by
  have hp := @absent T H r.k
  unfold rep
  constructor
  · intro h
    split at h
    · cases h
    · rename_i h1
      split at h
      · cases h
      · rename_i h2
        split at h
        · cases h
        · rename_i h3
          exact hp (by simpa using h1) (by simpa using h2) (by simpa using h3)
  · intro h
    have g1 : ∀ b, b < T.B.length → ¬ (getC (T.bk b) r.k).isSome = true := by
      intro b hb e
      obtain ⟨i, hi, -, q, hq, hqk, -⟩ := getC_some e
      exact h (hqk ▸ mem_keys (mem_bk hb (hq ▸ List.getElem_mem hi)))
    rw [if_neg (g1 _ (H.x1_lt r.k)), if_neg (g1 _ (H.x2_lt r.k)), if_neg]
    intro e
    have := findS_some e
    unfold keysR contT at *
    rw [List.map_append] at h
    exact h (List.mem_append_right _ this)
theorem stay_rep {T : Tab} {r : Rt} {T' : Tab} (h : rep T r = some T') : stay T r = (T', false) := by
  unfold stay
  rw [putIn_eq, h]
theorem stay_in {T : Tab} {r : Rt} (h : rep T r = none) (h2 : (fresh T r).2 = none) : stay T r = ((fresh T r).1, false) := by
  unfold stay
  rw [putIn_eq, h]
  simp only [h2]
theorem stay_left {T : Tab} {r q : Rt} (h : rep T r = none) (h2 : (fresh T r).2 = some q) : stay T r = ({ (fresh T r).1 with st := intoS (fresh T r).1.st q }, true) := by
  unfold stay
  rw [putIn_eq, h]
  simp only [h2]
theorem fresh_putIn {T : Tab} {r : Rt} (h : rep T r = none) : putIn T r = fresh T r := by rw [putIn_eq, h]
theorem out_len {L : List Rt} {r : Rt} (hn : (keysR L).Nodup) (h : r.k ∈ keysR L) : (r :: outS L r.k).length = L.length := by
  unfold keysR at h
  rw [List.mem_map] at h
  obtain ⟨q, hq, e⟩ := h
  have := (split_key hn hq).length_eq
  rw [e] at this
  rw [this]
  rfl
/-- How many there are behind a put. -/
theorem stay_count_old {T : Tab} {r : Rt} (H : Inv T) (hr : r.k.good) (h : rep T r ≠ none) : (contT (stay T r).1).length = (contT T).length := by
  have := (stay_ok H r hr).all.length_eq
  rw [this]
  exact out_len H.keys (Classical.byContradiction fun hn => h ((rep_keys H).2 hn))
theorem stay_count_new {T : Tab} {r : Rt} (H : Inv T) (hr : r.k.good) (h : rep T r = none) : (contT (stay T r).1).length = (contT T).length + 1 := by
  have := (stay_ok H r hr).all.length_eq
  rw [this, outS_self ((rep_keys H).1 h)]
  rfl
theorem st_le (T : Tab) : T.st.length ≤ (contT T).length := by unfold contT; rw [List.length_append]; omega
theorem fresh_like {T : Tab} {r : Rt} (H : Inv T) (hr : r.k.good) (h : rep T r = none) : Inv (fresh T r).1 ∧ (fresh T r).1.B.length = T.B.length ∧ (fresh T r).1.st.length = T.st.length ∧ ∀ q, (fresh T r).2 = some q → q.k.good ∧ q.k ∉ keysR (contT (fresh T r).1) := by
  have := putIn_ok H r hr
  rw [fresh_putIn h] at this
  exact ⟨this.inv, this.like.n, this.st, fun q hq => ⟨(this.left q hq).1, (this.left q hq).2.1⟩⟩
theorem find_absent {T : Tab} {k : Ky} (h : k ∉ keysR (contT T)) : findS T.st k = none := by
  cases e : findS T.st k with
  | none => rfl
  | some i =>
    have := findS_some (by rw [e]; rfl : (findS T.st k).isSome = true)
    exact absurd (by unfold contT keysR at *; rw [List.map_append]; exact List.mem_append_right _ this) h
theorem putF_zero (T : Tab) (r : Rt) : putF 0 T r = (stay T r).1 := rfl
theorem putF_stay (d : Nat) {T : Tab} {r : Rt} (h : grows (stay T r) = false) : putF d T r = (stay T r).1 := by
  cases d with
  | zero => rfl
  | succ d => unfold putF; rw [h]; rfl
theorem putF_grow (d : Nat) {T : Tab} {r : Rt} (h : grows (stay T r) = true) : putF (d + 1) T r = (contT (stay T r).1).foldl (putF d) (grown (stay T r).1) := by
  show (if grows (stay T r) = true then _ else _) = _
  rw [if_pos h]
end Go.Proofs.Ytlglppfkpieabaa
