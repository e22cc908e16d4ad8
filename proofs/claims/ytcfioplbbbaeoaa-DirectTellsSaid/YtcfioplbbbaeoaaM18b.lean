/-
  Plain mathematics of what a level holds, continued: an address has a key of a level just if it has a route of its lengths, and then with the hop of the longest. No condition but those that stand in each.
-/
import Derived.Test.YtcfioplbbbaeoaaRef18b
/-
  What chapter 18's laws share: what is asked of the program's Hop and Set; the document's example; an append of an argument to nil in a drawn region. No condition but those that stand in each.
-/
set_option linter.unusedSimpArgs false
set_option linter.unusedVariables false
namespace Go.Proofs.Ytcfioplbbbaeoaa
open Go Go.RowKit Go.Sort M

def SetC : Prop := ∀ (p : Option Addr) (c : Nat) (L : List Rt) (low high : Int) (W : World), Row W p (rcs L) → (∀ x ∈ L, x.k.good) → (p = none → c = 0) → L.length ≤ c → L.length ≤ 4000 →
  Calls Try.prog 14 #[.slice p L.length c, .int .i64 low, .int .i64 high] W fun e w' => NewRts W w' e (setS (sortR L) low high)
theorem run_append_none18 {P : Program} (w : World) (t ty e : TypeId) (i : TypeInfo) (c : Nat) (ht : P.underlying t = some (.slice e)) (hi : P.info? e = some i) :
    (Builtin.append_ #[t, t] ty #[.slice none 0 0, .slice none 0 c]).run P w = .ok (.slice none 0 0) w := by
  simp [Builtin.append_, run_underlying ht, sizeOf, typeInfo, hi, Builtin.lenOf, Builtin.firstCells]
theorem own_cap18 {w : World} {B n m d k : Nat} {e : TypeId} {q : Option Addr} {xs : List Value} (h : w.ownsRow B e k (.slice q n d) m xs) : n ≤ d := by
  rcases h.2 with ⟨e1, _⟩ | ⟨g, cap, cur, e1, _, _, hc, _⟩
  · injection e1 with _ e2 e3
    omega
  · injection e1 with _ e2 e3
    omega
/-- An append of an argument to nil, one operation of whatever statement. -/
theorem wp_append_arg18 {o : Oper} {a : Act} {w : World} {K : Act → World → Prop} {Q : Exit → Act → World → Prop} (x : Operand)
    (ho : o.op = .call { callee := .builtin .append, args := #[.const (.slice none 0 0), x], argTypes := #[34, 34] }) (M : List Rt) (q : Option Addr) (c : Nat) (hx : a.eval x = .slice q M.length c)
    (hsrc : Row w q (rcs M)) (hlen : M.length ≤ 1099511627776)
    (h : ∀ p' c' w', Below w.heap.size w w' → Row w' p' (rcs M) → (p' = none → c' = 0) → M.length ≤ c' → K (a.put o.dst (.slice p' M.length c')) w') : o.wp Try.prog a w K Q := by
  cases q with
  | none =>
    have hM : M = [] := by
      rcases hsrc with h | ⟨g, o, h, -⟩
      · have := rcs_len M
        rw [h] at this
        exact List.length_eq_zero_iff.1 (by simp at this; omega)
      · cases h
    subst hM
    obtain ⟨i0, hi0, iz0, iz1, iz2⟩ := info_parts infoR
    have hrun := run_append_none18 w 34 o.type 43 i0 c Try.underlying34 hi0
    have hx : a.eval x = .slice none 0 c := hx
    have hs : a.eval (.const (.slice none 0 0)) = .slice none 0 0 := rfl
    unfold Oper.wp
    simp [execOp, ho, resolve, invoke, builtin, hs, hx, hrun, Result.andThen]
    exact h none 0 w (Below.refl _ _) (.inl rfl) (fun _ => rfl) (Nat.le_refl _)
  | some ad =>
    refine wp_append_rt (.const (.slice none 0 0)) x ho w.heap.size (.slice none 0 0) [] M rfl (World.ownsRow_nil _ _ _ _) ad M.length c rfl hx ?_ (by simp; omega) (Nat.le_refl _) ?_
    · intro j u hu
      rcases hsrc with h | ⟨g, o, h, hg, hc⟩
      · rw [h] at hu
        cases hu
      · injection h with h
        subst h
        rw [show (⟨g, o, none⟩ : Addr).add j = ⟨g, o + j, none⟩ by unfold Addr.add; split <;> simp_all]
        exact hc j u hu
    · intro v' w' h1 h2 _
      rw [List.nil_append] at h1
      obtain ⟨p', c', rfl⟩ := own_slice h1
      refine h p' c' w' ((Below.refl w.heap.size w).grown h2 (Nat.le_refl _) (fun k e => by simp [Value.ownBlock] at e)) (Row.of_own h1) (fun e => ?_) (own_cap18 h1)
      subst e
      rcases h1.2 with ⟨e, -⟩ | ⟨g, cap, cur, e, -⟩
      · injection e
      · injection e with e
        cases e
theorem wpList_append_arg18 {ops : Array Oper} {rest : List Oper} {o : Oper} {a : Act} {w : World} {Q : Exit → Act → World → Prop} (hgd : o.guard = none) (x : Operand)
    (ho : o.op = .call { callee := .builtin .append, args := #[.const (.slice none 0 0), x], argTypes := #[34, 34] }) (M : List Rt) (q : Option Addr) (c : Nat) (hx : a.eval x = .slice q M.length c)
    (hsrc : Row w q (rcs M)) (hlen : M.length ≤ 1099511627776)
    (h : ∀ p' c' w', Below w.heap.size w w' → Row w' p' (rcs M) → (p' = none → c' = 0) → M.length ≤ c' → wpList Try.prog ops Q rest (a.put o.dst (.slice p' M.length c')) w') : wpList Try.prog ops Q (o :: rest) a w :=
  wpList_plain hgd fun K hK => wp_append_arg18 x ho M q c hx hsrc hlen fun p' c' w' h1 h2 h3 h4 => hK _ _ (h p' c' w' h1 h2 h3 h4)
theorem alive18_math : setS (sortR [⟨⟨0, 0, 0⟩, 6⟩]) (-1) 1 = [⟨⟨0, 0, 1⟩, 6⟩, ⟨⟨9223372036854775808, 0, 1⟩, 6⟩] := by decide +kernel
end Go.Proofs.Ytcfioplbbbaeoaa
/-
  Plain mathematics of what a level holds, continued: an address has a key of a level just if it has a route of its lengths, and then with the hop of the longest. No condition but those that stand in each.
-/
set_option linter.unusedSimpArgs false
set_option linter.unusedVariables false
namespace Go.Proofs.Ytcfioplbbbaeoaa
open M

theorem has_cut_any (r : Rt) (ah al hn : Nat) (h : r.k.n ≤ (hn : Int)) : hasB r.k.h r.k.l r.k.n (cutW ah hn) (cutW al (hn - 64)) = hasB r.k.h r.k.l r.k.n ah al := by
  unfold hasB
  rw [cutW_cutW, cutW_cutW]
  by_cases h0 : 0 ≤ r.k.n
  · rw [show min hn r.k.n.toNat = r.k.n.toNat by omega, show min (hn - 64) (r.k.n.toNat - 64) = r.k.n.toNat - 64 by omega]
  · have : rightB r.k.h r.k.l r.k.n = false := by
      unfold rightB
      exact decide_eq_false (by omega)
    rw [this]
    rfl
theorem cand_cut (ah al hn : Nat) (low : Int) : candB (cutK ah al hn).h (cutK ah al hn).l low (cutK ah al hn).n = candB ah al low (hn : Int) := by
  funext r
  unfold candB cutK
  simp only
  by_cases h : r.k.n ≤ (hn : Int)
  · rw [has_cut_any r ah al hn h]
  · rw [decide_eq_false h]
    simp
theorem lng_is {N : List Rt} {c : Rt → Bool} : (lngI N c N.length).isSome = true ↔ ∃ r ∈ N, c r = true := by
  have h := lng_ok N c N.length (Nat.le_refl _)
  cases e : lngI N c N.length with
  | none =>
    rw [e] at h
    refine ⟨fun h => (by cases h), fun ⟨r, hr, hc⟩ => ?_⟩
    obtain ⟨i, hi, rfl⟩ := List.getElem_of_mem hr
    rw [h i hi hi] at hc
    cases hc
  | some b =>
    rw [e] at h
    obtain ⟨hb, -, hc, -⟩ := h
    exact ⟨fun _ => ⟨N[b], List.getElem_mem hb, hc⟩, fun _ => rfl⟩
theorem key_level {N : List Rt} (hg : ∀ r ∈ N, W64 r.k.h ∧ W64 r.k.l) {ah al hn : Nat} {low : Int} (ha : W64 ah) (hb : W64 al) (h1 : hn ≤ 128) (h8 : (hn : Int) - low ≤ 8) : cutK ah al hn ∈ keysS N low (hn : Int) ↔ ∃ r ∈ N, candB ah al low (hn : Int) r = true := by
  unfold keysS
  simp only [List.mem_flatMap, List.mem_filter]
  refine exists_congr fun r => ?_
  constructor
  · rintro ⟨⟨hr, hi⟩, hk⟩
    refine ⟨hr, ?_⟩
    unfold insB at hi
    simp only [Bool.and_eq_true, decide_eq_true_eq] at hi
    have h := ((mem_spr (hg r hr).1 (hg r hr).2 _ _).1 hk).2.2.2.2.2.2.2
    unfold cutK at h
    simp only at h
    rw [has_cut_any r ah al hn hi.2] at h
    unfold candB
    simp [hi.1, hi.2, h]
  · rintro ⟨hr, hc⟩
    unfold candB at hc
    simp only [Bool.and_eq_true, decide_eq_true_eq] at hc
    obtain ⟨c1, c2, c3⟩ := hc
    refine ⟨⟨hr, by unfold insB; simp [c1, c2]⟩, (mem_spr (hg r hr).1 (hg r hr).2 _ _).2 ⟨c2, by omega, by omega, rfl, ha.cut _, hb.cut _, ?_, ?_⟩⟩
    · have := right_cut ah al (hn : Int) (by omega) (by omega)
      simpa [cutK] using this
    · show hasB _ _ _ (cutW ah hn) (cutW al (hn - 64)) = true
      rw [has_cut_any r ah al hn c2]
      exact c3
theorem find_some18 {l : List Rt} {k : Ky} {i : Nat} (h : findS l k = some i) : ∃ hi : i < l.length, l[i].k = k := by
  unfold findS at h
  obtain ⟨hi, h2, -⟩ := List.findIdx?_eq_some_iff_getElem.1 h
  exact ⟨hi, of_decide_eq_true h2⟩
theorem find_is18 {l : List Rt} {k : Ky} : (findS l k).isSome = true ↔ k ∈ keysR l := by
  unfold findS keysR
  rw [List.findIdx?_isSome, List.any_eq_true, List.mem_map]
  simp only [decide_eq_true_eq]
/-- AN ADDRESS HAS A KEY OF A LEVEL JUST IF IT HAS A ROUTE THERE. -/
theorem cover_is {N : List Rt} (hg : ∀ r ∈ N, W64 r.k.h ∧ W64 r.k.l) {ah al hn : Nat} {low : Int} (ha : W64 ah) (hb : W64 al) (h1 : hn ≤ 128) (hl : low < (hn : Int)) (h8 : (hn : Int) - low ≤ 8) :
    (findS (setS N low (hn : Int)) (cutK ah al hn)).isSome = (lngI N (candB ah al low (hn : Int)) N.length).isSome := by
  rw [Bool.eq_iff_iff, find_is18, lng_is, ← key_level hg ha hb h1 h8]
  unfold keysR
  rw [List.mem_map]
  constructor
  · rintro ⟨q, hq, e⟩
    rw [← e]
    exact ((mem_setS _ _ _ _).1 hq).2.1
  · intro h
    exact ⟨⟨cutK ah al hn, hopV N low (cutK ah al hn)⟩, (mem_setS _ _ _ _).2 ⟨hl, h, rfl⟩, rfl⟩
/-- .. AND THEN WITH THE HOP OF THE LONGEST. -/
theorem cover_hop {N : List Rt} {ah al hn : Nat} {low : Int} {i b : Nat} (hi : findS (setS N low (hn : Int)) (cutK ah al hn) = some i) (hb : lngI N (candB ah al low (hn : Int)) N.length = some b) :
    ((setS N low (hn : Int)).getD i ⟨⟨0, 0, 0⟩, 0⟩).v = (N.getD b ⟨⟨0, 0, 0⟩, 0⟩).v := by
  obtain ⟨hil, hik⟩ := find_some18 hi
  have h := ((mem_setS N low (hn : Int) _).1 (List.getElem_mem hil)).2.2
  rw [hik] at h
  rw [getD_at hil, h]
  unfold hopV hopK
  rw [cand_cut, hb]
  rfl
end Go.Proofs.Ytcfioplbbbaeoaa
