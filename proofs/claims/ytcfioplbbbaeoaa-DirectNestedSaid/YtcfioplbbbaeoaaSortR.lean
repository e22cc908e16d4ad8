/-
  Routes as elements of four cells, for the library's sorts. No condition but those that stand in each.
-/
import Derived.Test.YtcfioplbbbaeoaaStb5
import Derived.Test.YtcfioplbbbaeoaaSort
import Derived.Test.YtcfioplbbbaeoaaW5
import Derived.Shelf.GgSortFunc.Tiny
/-
  sort.stable_func, at a test that may make blocks of its own: a sorted row, equals in their order. No condition but those that stand in each.
-/
set_option linter.unusedSimpArgs false
set_option linter.unusedVariables false
namespace Go.Proofs.Ytcfioplbbbaeoaa
set_option linter.unusedSectionVars false
open Go.RowKit Go.Sort M

section
variable {α : Type} [Inhabited α] {enc : α → List Value} {k : Nat} {w0 : World} {blk off n : Nat} {lt : α → α → Bool} {g : Nat} {lb : Array Value} {sf : Nat} {sb : Array Value}
theorem sym_all (hO : SWO lt) (hk : ∀ x, (enc x).length = k) (eg : ∀ args w, (callFunc g args).run Try.prog w = .ok (.enter g args) w) (hL : LessB g lb enc k lt w0 blk off n) (hS : SwapSwapsK Try.prog sf sb enc k blk off n) (hn : n < 2305843009213693952) : ∀ f, SymOk enc k w0 blk off n lt g lb sf sb f
  | 0 => fun A U V B a m b hf ha hm hb hu hv => by omega
  | f + 1 => fun A U V B a m b hf ha hm hb hu hv hl hU hV W H => by
    by_cases h1 : U.length = 1
    · obtain ⟨u, rfl⟩ := List.length_eq_one_iff.1 h1
      exact sym_one1 hO hk eg hL hS (by omega) A V B u a m b ha (by simpa using hm) hb (by simp at hl; omega) hV W H
    · by_cases h2 : V.length = 1
      · obtain ⟨v, rfl⟩ := List.length_eq_one_iff.1 h2
        exact sym_one2 hO hk eg hL hS (by omega) A U B v a m b ha hm (by simpa using hb) (by omega) (by simp at hl; omega) hU W H
      · exact sym_step hO hk eg hL hS hn f (sym_all hO hk eg hL hS hn f) A U V B a m b hf ha hm hb (by omega) (by omega) hl hU hV W H
/-- What is carried: what is done lies ahead, what is not behind it. -/
structure Dn (lt : α → α → Bool) (L : List α) (n a : Nat) (P R : List α) : Prop where
  p : P.length = a
  l : P.length + R.length = n
  s : Stb lt L (P ++ R)
theorem Dn.le {L P R : List α} {a : Nat} (h : Dn lt L n a P R) : a ≤ n := by have := h.p; have := h.l; omega
set_option maxHeartbeats 4000000 in
set_option maxRecDepth 100000 in
theorem stable_any (hO : SWO lt) (hk : ∀ x, (enc x).length = k) (eg : ∀ args w, (callFunc g args).run Try.prog w = .ok (.enter g args) w) (hL : LessB g lb enc k lt w0 blk off n) (hS : SwapSwapsK Try.prog sf sb enc k blk off n) (hn : n < 1152921504606846976)
    (L : List α) (hl : L.length = n) (W : World) (H : Srt enc k w0 blk off n L.toArray W) :
    Calls Try.prog 34 #[.agg #[.func (.func g) #[] lb, .func (.func sf) #[] sb], .int .i64 (n : Int)] W fun e w' =>
      e = .returned (.tuple #[]) ∧ ∃ M, Asc lt M ∧ Stb lt L M ∧ Srt enc k w0 blk off n M.toArray w' ∧ Touch (· = blk) W w' := by
  have HSY := Lib.hid (sym_all hO hk eg hL hS (by omega) n)
  have HIN := Lib.hid (fun a b ha hb d W S => ins_any hk eg hL hS (by omega) a b ha hb d W S)
  clear hS hL
  have H0 := Lib.hid (show Dn lt L n 0 [] L from ⟨rfl, by simpa using hl, Stb.refl _⟩)
  clear hl
  go_enter Try.func34, Try.ntmps34
  go_wp2_with fail
  have R := Lib.hid (Srd.start (x := .func (.func g) #[] lb) (y := .func (.func sf) #[] sb) H 76)
  clear H
  go_loopg [5, 6] n (fun kx s5 s6 wr => ∃ (a : Nat) (P Q : List α), s5 = .int .i64 (a : Int) ∧ s6 = .int .i64 ((a : Int) + 20) ∧ n - a ≤ kx ∧ a ≤ n ∧ Hid (Dn lt L n a P Q ∧ Pre lt 20 P) ∧ Hid (Srd enc k w0 blk off n (.func (.func g) #[] lb) (.func (.func sf) #[] sb) W (P ++ Q).toArray wr))
  case atStart => exact ⟨0, [], L, rfl, by go_num, by omega, by omega, Lib.hid ⟨H0.out, Pre.nil 20⟩, R⟩
  case round =>
    clear R H0
    obtain ⟨a, P, Q, rfl, rfl, h1, h2, HN, HR⟩ := hrel
    have c0 := HR.out.box.c0
    have c1 := HR.out.box.c1
    have hlt := HR.out.box.lt
    by_cases hi : a + 20 ≤ n
    · obtain ⟨Q1, HC, HN2⟩ : ∃ Q1, Hid (Calls Try.prog 49 #[.agg #[.func (.func g) #[] lb, .func (.func sf) #[] sb], .int .i64 (a : Int), .int .i64 ((a : Int) + 20)] wr fun e w' => e = .returned (.tuple #[]) ∧ Srt enc k w0 blk off n ((P ++ Q1) ++ Q.drop 20).toArray w' ∧ Touch (· = blk) wr w') ∧ Hid (Dn lt L n (a + 20) (P ++ Q1) (Q.drop 20) ∧ Pre lt 20 (P ++ Q1)) := by
        obtain ⟨⟨n1, n2, n3⟩, n4⟩ := HN.out
        have e1 : Q.take 20 ++ Q.drop 20 = Q := List.take_append_drop _ _
        have l1 : (Q.take 20).length = 20 := by rw [List.length_take]; omega
        have l2 : (Q.drop 20).length + 20 = Q.length := by rw [List.length_drop]; omega
        obtain ⟨Q1, q1, q2, q3⟩ := ins_list hO P (Q.take 20) (Q.drop 20) a (a + 20) n1.symm (by omega)
        have l3 := q3.len
        rw [e1] at q1
        have := HIN.out a (a + 20) h2 hi _ wr HR.out.srt
        rw [q1] at this
        rw [← List.append_assoc] at this
        refine ⟨Q1, Lib.hid this, Lib.hid ⟨⟨by simp; omega, by simp only [List.length_append]; omega, ?_⟩, n4.next (by omega) q2⟩⟩
        refine n3.trans ?_
        rw [List.append_assoc]
        have := (Stb.refl (lt := lt) P).append (q3.append (Stb.refl (lt := lt) (Q.drop 20)))
        rwa [e1] at this
      go_wp2_with fail
      refine HC.out.mono ?_
      rintro e w1 ⟨rfl, hS1, hT1⟩
      have R1 := Lib.hid (HR.out.next hS1 hT1)
      clear hS1 hT1 HC
      go_wp2
      go_roundg (n - (a + 20))
      case measure => omega
      case rel => exact ⟨a + 20, _, _, by go_num, by go_num, by omega, by omega, HN2, R1⟩
    · obtain ⟨M0, HC, HM⟩ : ∃ M0, Hid (Calls Try.prog 49 #[.agg #[.func (.func g) #[] lb, .func (.func sf) #[] sb], .int .i64 (a : Int), .int .i64 (n : Int)] wr fun e w' => e = .returned (.tuple #[]) ∧ Srt enc k w0 blk off n M0.toArray w' ∧ Touch (· = blk) wr w') ∧ Hid (Bl lt 20 M0 ∧ Stb lt L M0 ∧ M0.length = n) := by
        obtain ⟨⟨n1, n2, n3⟩, n4⟩ := HN.out
        obtain ⟨Q1, q1, q2, q3⟩ := ins_list hO P Q [] a n n1.symm (by omega)
        have l3 := q3.len
        have := HIN.out a n h2 (Nat.le_refl _) _ wr HR.out.srt
        simp only [List.append_nil] at q1
        rw [q1] at this
        exact ⟨P ++ Q1, Lib.hid this, Lib.hid ⟨n4 Q1 (.last (by omega) q2), n3.trans ((Stb.refl P).append q3), by simp only [List.length_append]; omega⟩⟩
      go_wp2_with fail
      refine HC.out.mono ?_
      rintro e w1 ⟨rfl, hS1, hT1⟩
      have R1 := Lib.hid (HR.out.next hS1 hT1)
      clear hS1 hT1 HC HR HN hi h1 h2 c0 c1 hlt
      rename World => wo
      go_wp2
      go_loopg [4, 5, 6] n (fun kx s4 s5 s6 wr => ∃ (bs : Nat) (M : List α), s4 = .int .i64 (bs : Int) ∧ n - bs ≤ kx ∧ 20 ≤ bs ∧ bs ≤ 2 * n + 20 ∧ Hid (Bl lt bs M ∧ Stb lt L M ∧ M.length = n) ∧ Hid (Srd enc k w0 blk off n (.func (.func g) #[] lb) (.func (.func sf) #[] sb) W M.toArray wr))
      case atStart => exact ⟨20, M0, rfl, by omega, by omega, by omega, HM, R1⟩
      case round =>
        clear R1 HM
        obtain ⟨bs, M, rfl, h1, h2, h3, HM, HR⟩ := hrel
        have c0 := HR.out.box.c0
        have c1 := HR.out.box.c1
        have hlt := HR.out.box.lt
        by_cases hb : bs < n
        · have H0 : Hid (Dn lt L n 0 [] M ∧ Pre lt (2 * bs) [] ∧ Bl lt bs M) := Lib.hid ⟨⟨rfl, by simpa using HM.out.2.2, by simpa using HM.out.2.1⟩, Pre.nil _, HM.out.1⟩
          clear HM
          go_wp2_with fail
          rename World => wo
          go_loopg [5, 6] n (fun kx s5 s6 wr => ∃ (a : Nat) (P Q : List α), s5 = .int .i64 (a : Int) ∧ s6 = .int .i64 ((a : Int) + 2 * (bs : Int)) ∧ n - a ≤ kx ∧ a ≤ n ∧ Hid (Dn lt L n a P Q ∧ Pre lt (2 * bs) P ∧ Bl lt bs Q) ∧ Hid (Srd enc k w0 blk off n (.func (.func g) #[] lb) (.func (.func sf) #[] sb) W (P ++ Q).toArray wr))
          case atStart => exact ⟨0, [], M, rfl, by go_num, by omega, by omega, H0, HR⟩
          case round =>
            clear HR H0 c0 c1 hlt
            obtain ⟨a, P, Q, rfl, rfl, g1, g2, HN, HR⟩ := hrel
            have c0 := HR.out.box.c0
            have c1 := HR.out.box.c1
            have hlt := HR.out.box.lt
            by_cases hi : a + 2 * bs ≤ n
            · obtain ⟨Q2, HC, HX⟩ : ∃ Q2, Hid (Calls Try.prog 50 #[.agg #[.func (.func g) #[] lb, .func (.func sf) #[] sb], .int .i64 (a : Int), .int .i64 ((a : Int) + (bs : Int)), .int .i64 ((a : Int) + 2 * (bs : Int))] wr fun e w' => e = .returned (.tuple #[]) ∧ ∃ R1, Hid (Dn lt L n (a + 2 * bs) (P ++ R1) Q2 ∧ Pre lt (2 * bs) (P ++ R1)) ∧ Srt enc k w0 blk off n ((P ++ R1) ++ Q2).toArray w' ∧ Touch (· = blk) wr w') ∧ Hid (Bl lt bs Q2) := by
                obtain ⟨⟨n1, n2, n3⟩, n4, n5⟩ := HN.out
                obtain ⟨X, Q', rfl, x1, x2, x3⟩ := n5.one (by omega)
                simp only [List.length_append] at n2
                obtain ⟨Y, Q2, rfl, y1, y2, y3⟩ := x3.one (by omega)
                simp only [List.length_append] at n2
                have hc := HSY.out P X Y Q2 a (a + bs) (a + 2 * bs) (by omega) n1.symm (by omega) (by omega) (by omega) (by omega) (by omega) x2 y2 wr (by simpa using HR.out.srt)
                rw [show ((a + bs : Nat) : Int) = (a : Int) + (bs : Int) from by omega, show ((a + 2 * bs : Nat) : Int) = (a : Int) + 2 * (bs : Int) from by omega] at hc
                refine ⟨Q2, Lib.hid (hc.mono ?_), Lib.hid y3⟩
                rintro e w1 ⟨rfl, R1, a1, a2, hS1, hT1⟩
                have l1 := a2.len
                simp only [List.length_append] at l1
                refine ⟨rfl, R1, Lib.hid ⟨⟨by simp only [List.length_append]; omega, by simp only [List.length_append]; omega, ?_⟩, n4.next (by omega) a1⟩, by rw [List.append_assoc]; exact hS1, hT1⟩
                refine n3.trans ?_
                rw [← List.append_assoc X, List.append_assoc P]
                exact (Stb.refl P).append (a2.append (Stb.refl Q2))
              go_wp2_with fail
              refine HC.out.mono ?_
              rintro e w1 ⟨rfl, R1, HD, hS1, hT1⟩
              have HN2 := Lib.hid (And.intro HD.out.1 (And.intro HD.out.2 HX.out))
              have R1 := Lib.hid (HR.out.next hS1 hT1)
              clear hS1 hT1 HC HD HX
              go_wp2
              go_roundg (n - (a + 2 * bs))
              case measure => omega
              case rel => exact ⟨a + 2 * bs, _, _, by go_num, by go_num, by omega, by omega, HN2, R1⟩
            · by_cases hm : a + bs < n
              · have HC : Hid (Calls Try.prog 50 #[.agg #[.func (.func g) #[] lb, .func (.func sf) #[] sb], .int .i64 (a : Int), .int .i64 ((a : Int) + (bs : Int)), .int .i64 (n : Int)] wr fun e w' => e = .returned (.tuple #[]) ∧ ∃ M2, Hid (Bl lt (2 * bs) M2 ∧ Stb lt L M2 ∧ M2.length = n) ∧ Srt enc k w0 blk off n M2.toArray w' ∧ Touch (· = blk) wr w') := by
                  obtain ⟨⟨n1, n2, n3⟩, n4, n5⟩ := HN.out
                  obtain ⟨X, Y, rfl, x1, x2, x3⟩ := n5.one (by omega)
                  simp only [List.length_append] at n2
                  have y2 := x3.asc (by omega)
                  have hc := HSY.out P X Y [] a (a + bs) n (by omega) n1.symm (by omega) (by omega) (by omega) (by omega) (by simp; omega) x2 y2 wr (by simpa using HR.out.srt)
                  rw [show ((a + bs : Nat) : Int) = (a : Int) + (bs : Int) from by omega] at hc
                  refine Lib.hid (hc.mono ?_)
                  rintro e w1 ⟨rfl, R1, a1, a2, hS1, hT1⟩
                  have l1 := a2.len
                  simp only [List.length_append] at l1
                  simp only [List.append_nil] at hS1
                  exact ⟨rfl, P ++ R1, Lib.hid ⟨n4 R1 (.last (by omega) a1), n3.trans ((Stb.refl P).append a2), by simp only [List.length_append]; omega⟩, hS1, hT1⟩
                go_wp2_with fail
                refine HC.out.mono ?_
                rintro e w1 ⟨rfl, M2, HM, hS1, hT1⟩
                have R1 := Lib.hid (HR.out.next hS1 hT1)
                clear hS1 hT1 HC
                go_wp2
                go_roundg (n - 2 * bs)
                case measure => omega
                case rel => exact ⟨2 * bs, M2, by go_num, by omega, by omega, by omega, HM, R1⟩
              · have HM : Hid (Bl lt (2 * bs) (P ++ Q) ∧ Stb lt L (P ++ Q) ∧ (P ++ Q).length = n) := by
                  obtain ⟨⟨n1, n2, n3⟩, n4, n5⟩ := HN.out
                  exact Lib.hid ⟨n4 Q (.last (by omega) (n5.asc (by omega))), n3, by simp only [List.length_append]; omega⟩
                go_wp2
                go_roundg (n - 2 * bs)
                case measure => omega
                case rel => exact ⟨2 * bs, _, by go_num, by omega, by omega, by omega, HM, HR⟩
        · go_wp2
          go_end0
          obtain ⟨n1, n2, n3⟩ := HM.out
          exact ⟨rfl, M, n1.asc (by omega), n2, HR.out.srt, HR.out.touch⟩
end
end Go.Proofs.Ytcfioplbbbaeoaa
/-
  Routes as elements of four cells, for the library's sorts. No condition but those that stand in each.
-/
set_option linter.unusedSimpArgs false
set_option linter.unusedVariables false
namespace Go.Proofs.Ytcfioplbbbaeoaa
open Go.RowKit Go.Sort M

instance : Inhabited Rt := ⟨⟨⟨0, 0, 0⟩, 0⟩⟩
noncomputable def rtT : TypeInfo := (Try.prog.info? 34).get (by kernel_rfl)
noncomputable def rtE : TypeInfo := (Try.prog.info? 43).get (by kernel_rfl)
theorem rtK (n : Nat) (h2 : 2 ≤ n) : Lib.swapperK n rtE 25 = 9 := by
  have a : rtE.hasPointers = false := by kernel_rfl
  have b : rtE.bytes = 32 := by kernel_rfl
  have c : (n == 0) = false := by simp; omega
  have d : (n == 1) = false := by simp; omega
  unfold Lib.swapperK
  rw [c, d, a, b]
  rfl
theorem rt_one : ∀ x : Rt, ∀ v ∈ rcell x, v.oneCell' = true := by
  intro x v hv
  simp only [rcell, List.mem_cons, List.not_mem_nil, or_false] at hv
  rcases hv with rfl | rfl | rfl | rfl <;> rfl
theorem perm_list {α : Type} [Inhabited α] {L : List α} {d : Array α} (h : PermIn 0 L.length L.toArray d) : d.toList.Perm L := by
  obtain ⟨h1, -, h3⟩ := h
  have e1 : d.extract 0 L.length = d := by
    have : L.length = d.size := by rw [h1]; simp
    rw [this]
    simp
  have e2 : L.toArray.extract 0 L.length = L.toArray := by
    have : L.length = L.toArray.size := by simp
    rw [this]
    simp
  rw [e1, e2] at h3
  simpa using h3
theorem sorted_list {α : Type} [Inhabited α] {lt : α → α → Bool} {d : Array α} {n : Nat} (hn : d.size = n) (h : SortedIn lt 0 n d) : d.toList.Pairwise fun a b => lt b a = false := by
  rw [List.pairwise_iff_getElem]
  intro i j hi hj hij
  simp only [Array.length_toList] at hi hj
  have := h i j (Nat.zero_le _) hij (by omega)
  rw [getElem!_pos d j hj, getElem!_pos d i hi] at this
  simpa using this
/-- Rows of the call's own, and rows that are sorted. -/
theorem holds_own {w : World} {B c : Nat} {blk : Nat} {L : List Rt} (h : w.ownsRow B 43 4 (.slice (some ⟨blk, 0, none⟩) L.length c) L.length (rcs L)) : HoldsK rcell 4 w blk 0 L.toArray := by
  intro j hj
  have hj2 : j < L.length * 4 := by simpa using hj
  have e : (rcs L)[j]? = some (flatK rcell 4 L.toArray)[j]! := by
    rw [get_flatK _ _ _ _ (by simpa using hj2)]
    have := rcs_cell L (j / 4) (j % 4) (by omega) (Nat.mod_lt _ (by decide))
    rw [show j / 4 * 4 + j % 4 = j by omega] at this
    rw [this, getElem!_pos L.toArray (j / 4) (by simp; omega)]
    have h4 : j % 4 < (rcell L[j / 4]).length := Nat.mod_lt _ (by decide)
    simp only [List.getElem_toArray]
    rw [List.getElem?_eq_getElem h4, getElem!_pos (rcell L[j / 4]) (j % 4) h4]
  rw [Nat.zero_add]
  exact ⟨(h.cellAt j (by omega)).trans e, h.frozenAt j⟩
theorem row_holds {w : World} {blk : Nat} {L : List Rt} (h : HoldsK rcell 4 w blk 0 L.toArray) (hl : blk < w.heap.size) : Row w (some ⟨blk, 0, none⟩) (rcs L) := by
  refine .inr ⟨blk, 0, rfl, hl, fun j u hu => ?_⟩
  have hj2 : j < L.length * 4 := by rw [← rcs_len]; exact (List.getElem?_eq_some_iff.1 hu).1
  have := (h j (by simpa using hj2)).1
  rw [this]
  rw [get_flatK _ _ _ _ (by simpa using hj2)]
  have e := rcs_cell L (j / 4) (j % 4) (by omega) (Nat.mod_lt _ (by decide))
  rw [show j / 4 * 4 + j % 4 = j by omega, hu] at e
  have h4 : j % 4 < (rcell L[j / 4]).length := Nat.mod_lt _ (by decide)
  rw [getElem!_pos L.toArray (j / 4) (by simp; omega)]
  simp only [List.getElem_toArray]
  rw [List.getElem?_eq_getElem h4] at e
  show some (rcell L[j / 4])[j % 4]! = _
  rw [getElem!_pos (rcell L[j / 4]) (j % 4) h4]
  exact e.symm
end Go.Proofs.Ytcfioplbbbaeoaa
