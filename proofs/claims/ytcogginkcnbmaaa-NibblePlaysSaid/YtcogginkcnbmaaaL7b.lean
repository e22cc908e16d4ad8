/-
  The given laws of chapter 7 as walks, continued: NibblePlays hands back true, for every input. No condition but that the number is a whole number of 64 bits and that the row of calls lies in old memory.
-/
import Derived.Test.YtcogginkcnbmaaaL7
import Derived.Test.YtcogginkcnbmaaaSlice
import Derived.Deep.DeepCutAuto
set_option linter.unusedSimpArgs false
set_option linter.unusedVariables false
namespace Go.Proofs.Ytcogginkcnbmaaa
open Go.RowKit Go.Sort M

/-- A call: Down or not, and the place. -/
def act7 (a : Bool × Int) : List Value := [.bool a.1, .int .i64 a.2]
def iC (C : List Nat) : List Value := ics (C.map fun (c : Nat) => (c : Int))
theorem iC_at (C : List Nat) (k : Nat) (h : k < C.length) : (iC C)[k]? = some (.int .i64 (C[k] : Nat)) := by simp [iC, ics, h]
theorem iC_set (C : List Nat) (k : Nat) (v : Nat) (x : Int) (h : x = (v : Int)) : (iC C).set k (.int .i64 x) = iC (C.set k v) := by
  subst h
  simp [iC, ics, List.map_set]
theorem iC_zero (n : Nat) : iC (List.replicate n 0) = (madeCells #[.int .i64 0] n).toList := by
  rw [toList_madeCells_one]
  simp [iC, ics]
theorem getN_at {C : List Nat} {k : Nat} (h : k < C.length) : getN C (k : Int) = C[k] := by
  unfold getN
  rw [if_pos (by omega), Int.toNat_natCast, List.getD_eq_getElem?_getD, List.getElem?_eq_getElem h]
  rfl
/-- What the walk carries from call to call: the counters C of b, another row of counters o, and the law's own row E. -/
structure Plays (w wr : World) (g h go ho gc : Nat) (N : Nat) (C E : List Nat) : Prop where
  lenC : C.length = N
  lenE : E.length = N
  b : Nib wr w.heap.size g h C
  o : ∃ D, Nib wr w.heap.size go ho D
  c : wr.ownsRow w.heap.size 3 1 (.slice (some ⟨gc, 0, none⟩) N N) N (iC E)
  below : Below w.heap.size w wr
  far1 : go ≠ h ∧ ho ≠ h ∧ gc ≠ h
  far2 : g ≠ ho ∧ h ≠ ho ∧ gc ≠ ho
  far3 : g ≠ gc ∧ h ≠ gc ∧ go ≠ gc ∧ ho ≠ gc
section
variable {w wr wx : World} {g h go ho gc N : Nat} {C E : List Nat}
theorem Plays.turnO (P : Plays w wr g h go ho gc N C E) {D : List Nat} (hD : Nib wx w.heap.size go ho D) (hg : wr.grownBy wx (some ho)) : Plays w wx g h go ho gc N C E := by
  obtain ⟨D0, h0⟩ := P.o
  obtain ⟨f1, f2, f3⟩ := P.far2
  exact ⟨P.lenC, P.lenE, P.b.kept hg (by simpa using f1) (by simpa using f2), ⟨D, hD⟩, P.c.kept hg (.inr (by simpa [Value.ownBlock] using f3)), below_write P.below P.below.size hg h0.low2.1, P.far1, P.far2, P.far3⟩
theorem Plays.turnB (P : Plays w wr g h go ho gc N C E) {D : List Nat} (hD : Nib wx w.heap.size g h D) (hg : wr.grownBy wx (some h)) (hl : D.length = C.length) : Plays w wx g h go ho gc N D E := by
  obtain ⟨D0, h0⟩ := P.o
  obtain ⟨f1, f2, f3⟩ := P.far1
  exact ⟨hl.trans P.lenC, P.lenE, hD, ⟨D0, h0.kept hg (by simpa using f1) (by simpa using f2)⟩, P.c.kept hg (.inr (by simpa [Value.ownBlock] using f3)), below_write P.below P.below.size hg P.b.low2.1, P.far1, P.far2, P.far3⟩
theorem Plays.store (P : Plays w wr g h go ho gc N C E) (m v : Nat) (x : Int) (hx : x = (v : Int)) : Plays w (wr.setCell ⟨gc, m, none⟩ (.int .i64 x)) g h go ho gc N C (E.set m v) := by
  obtain ⟨D0, h0⟩ := P.o
  obtain ⟨f1, f2, f3, f4⟩ := P.far3
  have hs := P.c.stored m (.int .i64 x)
  rw [iC_set E m v x hx] at hs
  exact ⟨P.lenC, by simpa using P.lenE, P.b.kept hs.2 (by simpa using f1) (by simpa using f2), ⟨D0, h0.kept hs.2 (by simpa using f3) (by simpa using f4)⟩, hs.1, below_write P.below P.below.size hs.2 (P.c.lt gc rfl).1, P.far1, P.far2, P.far3⟩
theorem Plays.quiet (P : Plays w wr g h go ho gc N C E) (hb : Below wr.heap.size wr wx) : Plays w wx g h go ho gc N C E := by
  obtain ⟨D0, h0⟩ := P.o
  exact ⟨P.lenC, P.lenE, P.b.below hb, ⟨D0, h0.below hb⟩, own_below P.c hb, P.below.trans (hb.mono P.below.size), P.far1, P.far2, P.far3⟩
end
theorem Nib.le {w : World} {B B' g h : Nat} {C : List Nat} (H : Nib w B g h C) (hB : B' ≤ B) : Nib w B' g h C :=
  ⟨Nat.le_trans hB H.low, H.lt, H.ne, H.words, H.num, own_le H.own hB, H.small, H.len⟩
theorem fullN_snoc (C : List Nat) (k : Nat) (h : k < C.length) : fullN (C.take (k + 1)) = fullN (C.take k) + if C[k] = 15 then 1 else 0 := by
  rw [List.take_succ_eq_append_getElem h, fullN_append]
  unfold fullN
  rw [List.filter_cons]
  by_cases e : C[k] = 15 <;> simp [e]
theorem upL_len (C : List Nat) (k : Int) : (upL C k).length = C.length := by
  unfold upL
  split <;> simp
theorem downL_len (C : List Nat) (k : Int) : (downL C k).length = C.length := by
  unfold downL
  split <;> simp
theorem up_out {C : List Nat} {k : Int} (h : ¬ (0 ≤ k ∧ k < C.length)) : upB C k = false ∧ upL C k = C := by
  have : upB C k = false := by unfold upB; simp; omega
  exact ⟨this, by simp [upL, this]⟩
theorem down_out {C : List Nat} {k : Int} (h : ¬ (0 ≤ k ∧ k < C.length)) : downB C k = false ∧ downL C k = C := by
  have : downB C k = false := by unfold downB; simp; omega
  exact ⟨this, by simp [downL, this]⟩
theorem up_full {C : List Nat} {k : Nat} (h : k < C.length) (hv : C[k] = 15) : upB C k = false ∧ upL C k = C := by
  have : upB C k = false := by simp [upB, getN_at h, hv]
  exact ⟨this, by simp [upL, this]⟩
theorem up_more {C : List Nat} {k : Nat} (h : k < C.length) (hv : C[k] ≠ 15) : upB C k = true ∧ upL C k = C.set k (C[k] + 1) := by
  have : upB C k = true := by simp [upB, getN_at h, hv, h]
  exact ⟨this, by simp [upL, this, getN_at h]⟩
theorem down_stays {C : List Nat} {k : Nat} (h : k < C.length) (hv : C[k] = 15 ∨ C[k] = 0) : downB C k = false ∧ downL C k = C := by
  have : downB C k = false := by
    rcases hv with hv | hv <;> simp [downB, getN_at h, hv]
  exact ⟨this, by simp [downL, this]⟩
theorem down_less {C : List Nat} {k : Nat} (h : k < C.length) (hv : C[k] ≠ 15) (h0 : C[k] ≠ 0) : downB C k = true ∧ downL C k = C.set k (C[k] - 1) := by
  have : downB C k = true := by simp [downB, getN_at h, hv, h, h0]
  exact ⟨this, by simp [downL, this, getN_at h]⟩
set_option maxRecDepth 100000 in
set_option maxHeartbeats 4000000 in
theorem nibblePlays_walk (n : Int) (p : Option Addr) (cap : Nat) (L : List (Bool × Int)) (hn : (Lit.int .i64 n).wf = true) (hL : ∀ a ∈ L, (Lit.int .i64 a.2).wf = true) (hm : L.length ≤ maxLen) (w : World) (HR : RowA 2 act7 w p L) :
    Calls Try.prog 3 #[.int .i64 n, .slice p L.length cap] w fun e w' => e = .returned (.bool true) ∧ Below w.heap.size w w' := by
  have HA := Lib.hid alive7_any
  obtain ⟨hn0, hn1⟩ := bounds_i64 hn
  have HRR := Lib.hid HR
  have HLL := Lib.hid hL
  clear HR hL hn
  unfold maxLen at hm
  by_cases n0 : n ≤ 200
  · by_cases l0 : L.length ≤ 400
    · obtain ⟨N, hN⟩ : ∃ N : Nat, N = n.toNat := ⟨_, rfl⟩
      have hN2 : N ≤ 200 := by omega
      have hmk := make_row (P := Try.prog) (t := 26) Try.underlying26 infoI N (by omega) (by unfold maxLen; omega)
      have HN := Lib.hid hN
      clear hN
      go_enter Try.func3, Try.ntmps3
      go_wp2_with fail
      refine (HA.out _).mono ?_
      rintro e0 w0 ⟨rfl, hb0⟩
      have hw0 : Below w.heap.size w w0 := by
        refine Below.trans ?_ (hb0.mono ?_)
        · go_grown
        · go_size
      have hz0 := hw0.size
      go_wp2_with fail
      refine (new_any n hn1 hn0 _).mono ?_
      rintro e w1 ⟨v, rfl, ⟨g, h, rfl, H1⟩, hb1⟩
      go_wp2_with fail
      refine (new_any 40 (by decide) (by decide) _).mono ?_
      rintro e w2 ⟨v, rfl, ⟨go, ho, rfl, H2⟩, hb2⟩
      have hw1 := hw0.trans (hb1.mono hz0)
      have hz1 := hw1.size
      have hw2 := hw1.trans (hb2.mono hz1)
      have hz2 := hw2.size
      have HP : Plays w (w2.alloc (.cells (madeCells #[.int .i64 0] N) 3)) g h go ho w2.heap.size N (List.replicate N 0) (List.replicate N 0) := by
        rw [← HN.out, Nat.min_eq_left (by omega)] at H1
        have a1 := H1.low
        have a2 := H1.lt
        have a3 := H1.low2
        have b1 := H2.low
        have b2 := H2.lt
        have b3 := H2.low2
        have z1 := hb1.size
        have z2 := hb2.size
        refine ⟨by simp, by simp, ((H1.le hz0).below hb2).kept (World.grownBy_alloc _ _ none) (by simp) (by simp), ⟨_, (H2.le hz1).kept (World.grownBy_alloc _ _ none) (by simp) (by simp)⟩, ?_, by go_grown, ⟨by omega, by omega, by omega⟩, ⟨by omega, by omega, by omega⟩, ⟨by omega, by omega, by omega, by omega⟩⟩
        rw [iC_zero]
        exact World.ownsRow_lit _ _ N hz2 (by unfold maxLen; omega) (by simp [madeCells])
      clear H1 H2 hw1 hz1 hw2 hz2 hb1 hb2
      go_upto_if 37 with fail
      go_cut [0] (fun s0 wx => s0 = .int .i64 (N : Int) ∧ wx = w2)
      case first =>
        by_cases nn : n < 0
        · go_wp2_with fail
          go_meet
          exact ⟨congrArg (Value.int .i64) (by have := HN.out; omega), rfl⟩
        · go_wp2_with fail
          go_meet
          exact ⟨congrArg (Value.int .i64) (by have := HN.out; omega), rfl⟩
      case rest =>
        obtain ⟨rfl, rfl⟩ := hcut
        obtain ⟨gc, hgc⟩ : ∃ gc, gc = wc.heap.size := ⟨_, rfl⟩
        rw [← hgc] at HP
        have HGC := Lib.hid hgc
        clear hgc
        go_wp2
        rw [← HGC.out]
        go_loopw [9] (fun i9 wr => ∃ (i : Nat) (C : List Nat), i ≤ L.length ∧ i9 = .int .i64 i ∧ Plays w wr g h go ho gc N C C) (fun i9 _ => L.length - (intOf i9).toNat)
        case atStart => exact ⟨0, _, Nat.zero_le _, rfl, HP⟩
        case round =>
          clear HP
          obtain ⟨i, C, hi, rfl, HP⟩ := hrel
          by_cases hlt : i < L.length
          · have hz := HP.below.size
            obtain ⟨gl, ol, hp, hgl, hl⟩ := HRR.out.at hlt
            have hwf := HLL.out _ (List.getElem_mem hlt)
            have hl0 := hl 0 _ rfl
            have hl1 := hl 1 _ rfl
            clear hl
            subst hp
            generalize L[i] = a at hwf hl0 hl1
            obtain ⟨dn, k⟩ := a
            obtain ⟨k0, k1⟩ := bounds_i64 hwf
            have kB0 : ∀ (wy : World), Below w.heap.size w wy → wy.cell? ⟨gl, ol + i * 2, none⟩ = some (.bool dn) := fun _ hb => (hb.cell (p := ⟨gl, ol + i * 2, none⟩) hgl).trans hl0
            have kB1 : ∀ (wy : World), Below w.heap.size w wy → wy.cell? ⟨gl, ol + i * 2 + 1, none⟩ = some (.int .i64 k) := fun _ hb => (hb.cell (p := ⟨gl, ol + i * 2 + 1, none⟩) hgl).trans hl1
            have KB0 := Lib.hid kB0
            have KB1 := Lib.hid kB1
            have z0 := kB0 _ HP.below
            have z1 := kB1 _ HP.below
            clear kB0 kB1 hwf hl0 hl1
            obtain ⟨D0, hD0⟩ := HP.o
            have hgc := (HP.c.lt gc rfl).1
            have hne : gl ≠ gc := by omega
            go_wp2_with fail
            refine (up_any _ _ _ _ _ _ hD0).mono ?_
            rintro e wa ⟨rfl, HoA, hgA⟩
            replace HP := HP.turnO HoA hgA
            clear HoA hgA hD0 z0 z1 hz hgc
            have z0 := KB0.out wa HP.below
            have z1 := KB1.out wa HP.below
            have hlc := HP.lenC
            have hln := HP.lenE
            by_cases hin : 0 ≤ k ∧ k < N
            · obtain ⟨hin0, hin1⟩ := hin
              obtain ⟨m, rfl⟩ := Int.eq_ofNat_of_zero_le hin0
              have hm2 : m < C.length := by omega
              have q0 : wa.cell? ⟨gc, m, none⟩ = some (.int .i64 (C[m] : Nat)) := (HP.c.cellAt m (by omega)).trans (iC_at C m hm2)
              have f0 := HP.c.frozenAt m
              have hv15 := HP.b.small _ (List.getElem_mem hm2)
              obtain ⟨v, hv⟩ : ∃ v, v = C[m] := ⟨_, rfl⟩
              rw [← hv] at q0 hv15
              have HV := Lib.hid hv
              clear hv
              have hM : (m : Int) < (N : Int) := hin1
              by_cases h15 : v = 15
              · subst h15
                cases dn
                · obtain ⟨u1, u2⟩ := up_full hm2 HV.out.symm
                  have U1 := Lib.hid u1
                  have U2 := Lib.hid u2
                  clear u1 u2
                  go_wp2_with fail
                  refine (up_any _ _ _ _ _ _ HP.b).mono ?_
                  rintro e wb ⟨rfl, HbB, hgB⟩
                  rw [U1.out]
                  rw [U2.out] at HbB
                  have HP4 := HP.turnB HbB hgB rfl
                  clear HP HbB hgB
                  go_wp2
                  go_roundw
                  case rel => exact ⟨i + 1, _, by omega, by go_num, HP4⟩
                  case measure => simp [intOf]; omega
                · obtain ⟨u1, u2⟩ := down_stays hm2 (.inl HV.out.symm)
                  have U1 := Lib.hid u1
                  have U2 := Lib.hid u2
                  clear u1 u2
                  go_wp2_with fail
                  refine (down_any _ _ _ _ _ _ HP.b).mono ?_
                  rintro e wb ⟨rfl, HbB, hgB⟩
                  rw [U1.out]
                  rw [U2.out] at HbB
                  have HP4 := HP.turnB HbB hgB rfl
                  clear HP HbB hgB
                  have z0 := KB0.out wb HP4.below
                  go_wp2
                  go_roundw
                  case rel => exact ⟨i + 1, _, by omega, by go_num, HP4⟩
                  case measure => simp [intOf]; omega
              · have hv14 : (v : Int) < 15 := by omega
                cases dn
                · obtain ⟨u1, u2⟩ := up_more hm2 (by rw [← HV.out]; exact h15)
                  rw [← HV.out] at u2
                  have U1 := Lib.hid u1
                  have U2 := Lib.hid u2
                  clear u1 u2
                  have HS := HP.store m (v + 1) ((v : Int) + 1) (by omega)
                  go_wp2_with fail
                  refine (up_any _ _ _ _ _ _ HS.b).mono ?_
                  rintro e wb ⟨rfl, HbB, hgB⟩
                  rw [U1.out]
                  rw [U2.out] at HbB
                  have HP4 := HS.turnB HbB hgB (List.length_set ..)
                  clear HP HS HbB hgB
                  go_wp2
                  go_roundw
                  case rel => exact ⟨i + 1, _, by omega, by go_num, HP4⟩
                  case measure => simp [intOf]; omega
                · by_cases hv0 : v = 0
                  · subst hv0
                    obtain ⟨u1, u2⟩ := down_stays hm2 (.inr HV.out.symm)
                    have U1 := Lib.hid u1
                    have U2 := Lib.hid u2
                    clear u1 u2
                    go_wp2_with fail
                    refine (down_any _ _ _ _ _ _ HP.b).mono ?_
                    rintro e wb ⟨rfl, HbB, hgB⟩
                    rw [U1.out]
                    rw [U2.out] at HbB
                    have HP4 := HP.turnB HbB hgB rfl
                    clear HP HbB hgB
                    have z0 := KB0.out wb HP4.below
                    go_wp2
                    go_roundw
                    case rel => exact ⟨i + 1, _, by omega, by go_num, HP4⟩
                    case measure => simp [intOf]; omega
                  · have hvp : (0 : Int) < (v : Int) := by omega
                    obtain ⟨u1, u2⟩ := down_less hm2 (by rw [← HV.out]; exact h15) (by rw [← HV.out]; exact hv0)
                    rw [← HV.out] at u2
                    have U1 := Lib.hid u1
                    have U2 := Lib.hid u2
                    clear u1 u2
                    have HS := HP.store m (v - 1) ((v : Int) - 1) (by omega)
                    go_wp2_with fail
                    refine (down_any _ _ _ _ _ _ HS.b).mono ?_
                    rintro e wb ⟨rfl, HbB, hgB⟩
                    rw [U1.out]
                    rw [U2.out] at HbB
                    have HP4 := HS.turnB HbB hgB (List.length_set ..)
                    clear HP HS HbB hgB
                    have z0 := KB0.out wb HP4.below
                    go_wp2
                    go_roundw
                    case rel => exact ⟨i + 1, _, by omega, by go_num, HP4⟩
                    case measure => simp [intOf]; omega
            · have hout : ¬ (0 ≤ k ∧ k < C.length) := by rw [hlc]; exact hin
              by_cases hk0 : 0 ≤ k
              · have hkN : ¬ k < (N : Int) := fun h => hin ⟨hk0, h⟩
                cases dn
                · obtain ⟨u1, u2⟩ := up_out hout
                  have U1 := Lib.hid u1
                  have U2 := Lib.hid u2
                  clear u1 u2 hin hout
                  go_wp2_with fail
                  refine (up_any _ _ _ _ _ _ HP.b).mono ?_
                  rintro e wb ⟨rfl, HbB, hgB⟩
                  rw [U1.out]
                  rw [U2.out] at HbB
                  have HP4 := HP.turnB HbB hgB rfl
                  clear HP HbB hgB
                  go_wp2
                  go_roundw
                  case rel => exact ⟨i + 1, _, by omega, by go_num, HP4⟩
                  case measure => simp [intOf]; omega
                · obtain ⟨u1, u2⟩ := down_out hout
                  have U1 := Lib.hid u1
                  have U2 := Lib.hid u2
                  clear u1 u2 hin hout
                  go_wp2_with fail
                  refine (down_any _ _ _ _ _ _ HP.b).mono ?_
                  rintro e wb ⟨rfl, HbB, hgB⟩
                  rw [U1.out]
                  rw [U2.out] at HbB
                  have HP4 := HP.turnB HbB hgB rfl
                  clear HP HbB hgB
                  have z0 := KB0.out wb HP4.below
                  go_wp2
                  go_roundw
                  case rel => exact ⟨i + 1, _, by omega, by go_num, HP4⟩
                  case measure => simp [intOf]; omega
              · skip
                cases dn
                · obtain ⟨u1, u2⟩ := up_out hout
                  have U1 := Lib.hid u1
                  have U2 := Lib.hid u2
                  clear u1 u2 hin hout
                  go_wp2_with fail
                  refine (up_any _ _ _ _ _ _ HP.b).mono ?_
                  rintro e wb ⟨rfl, HbB, hgB⟩
                  rw [U1.out]
                  rw [U2.out] at HbB
                  have HP4 := HP.turnB HbB hgB rfl
                  clear HP HbB hgB
                  go_wp2
                  go_roundw
                  case rel => exact ⟨i + 1, _, by omega, by go_num, HP4⟩
                  case measure => simp [intOf]; omega
                · obtain ⟨u1, u2⟩ := down_out hout
                  have U1 := Lib.hid u1
                  have U2 := Lib.hid u2
                  clear u1 u2 hin hout
                  go_wp2_with fail
                  refine (down_any _ _ _ _ _ _ HP.b).mono ?_
                  rintro e wb ⟨rfl, HbB, hgB⟩
                  rw [U1.out]
                  rw [U2.out] at HbB
                  have HP4 := HP.turnB HbB hgB rfl
                  clear HP HbB hgB
                  have z0 := KB0.out wb HP4.below
                  go_wp2
                  go_roundw
                  case rel => exact ⟨i + 1, _, by omega, by go_num, HP4⟩
                  case measure => simp [intOf]; omega
          · have nl : ¬ (i : Int) < (L.length : Int) := by omega
            clear hlt hi
            have hlc := HP.lenC
            go_wp2
            go_loopw [12, 13] (fun t12 i13 wr2 => ∃ k : Nat, k ≤ N ∧ i13 = .int .i64 k ∧ t12 = .int .i64 (fullN (C.take k) : Nat) ∧ Plays w wr2 g h go ho gc N C C) (fun _ i13 _ => N - (intOf i13).toNat)
            case atStart => exact ⟨0, Nat.zero_le _, rfl, rfl, HP⟩
            case round =>
              clear HP
              obtain ⟨k, hk, rfl, rfl, HP⟩ := hrel
              have hwr := HP.below
              have hz := hwr.size
              have hful := fullN_le (C.take k)
              rw [List.length_take] at hful
              by_cases hlt : k < N
              · have hm2 : k < C.length := by omega
                have d0 : wr.cell? ⟨gc, k, none⟩ = some (.int .i64 (C[k] : Nat)) := (HP.c.cellAt k (by omega)).trans (iC_at C k hm2)
                have hr := (HP.c.lt gc rfl).2
                have hfs := fullN_snoc C k hm2
                obtain ⟨v, hv⟩ : ∃ v, v = C[k] := ⟨_, rfl⟩
                have hget : ∀ wx, Nib wx w.heap.size g h C → Calls Try.prog 9 #[.pointer (some ⟨g, 0, none⟩), .int .i64 (k : Int)] wx fun e w' => e = .returned (.int .i64 (v : Int)) ∧ Below wx.heap.size wx w' := by
                  intro wx H
                  have := get_any w.heap.size g h C k wx H
                  rwa [getN_at hm2, ← hv] at this
                rw [← hv] at d0 hfs
                have HG := Lib.hid hget
                have HFS := Lib.hid hfs
                have HPP := Lib.hid HP
                generalize fullN (C.take k) = f at *
                clear hget hfs hv HP
                go_wp2_with fail
                have kg := cell_grow
                refine region_whole (by kernel_rfl) (by kernel_rfl) ?_
                repeat (any_goals (first | go_big_quiet_step ((exact Calls.regrown_of (HG.out _ (HPP.out.b.below (below_regrown _ _ _))))) | quiet_step ((exact Calls.regrown_of (HG.out _ (HPP.out.b.below (below_regrown _ _ _)))))))
                refine wpQuiet_nil ?_
                clear kg
                intro w1 hb1
                obtain ⟨hc1, hf1⟩ := bcell hb1
                have hw1 : Below w.heap.size w w1 := by
                  refine Below.trans ?_ (hb1.mono ?_)
                  · go_grown
                  · first | omega | go_size
                have HP := HPP.out.quiet hb1
                by_cases h15 : v = 15
                · subst h15
                  go_wp2
                  go_roundw
                  case rel => exact ⟨k + 1, by omega, by go_num, by rw [HFS.out]; go_num, HP⟩
                  case measure => simp [intOf]; omega
                · have n15 : (v : Int) ≠ 15 := by omega
                  go_wp2
                  go_roundw
                  case rel => exact ⟨k + 1, by omega, by go_num, by rw [HFS.out, if_neg h15]; go_num, HP⟩
                  case measure => simp [intOf]; omega
              · go_wp2_with fail
                refine (len_any _ _ _ _ _ HP.b).mono ?_
                rintro e wb ⟨rfl, hb5⟩
                replace HP := HP.quiet hb5
                rw [HP.lenC]
                clear hb5
                go_wp2_with fail
                refine (full_any _ _ _ _ _ HP.b).mono ?_
                rintro e wb2 ⟨rfl, hb5⟩
                replace HP := HP.quiet hb5
                rw [List.take_of_length_le (by omega)]
                clear hb5
                go_wp2_with fail
                refine (get_any _ _ _ _ _ _ HP.b).mono ?_
                rintro e wb3 ⟨rfl, hb5⟩
                replace HP := HP.quiet hb5
                rw [getN_no (by omega)]
                clear hb5
                go_wp2_with fail
                refine (get_any _ _ _ _ _ _ HP.b).mono ?_
                rintro e wb4 ⟨rfl, hb5⟩
                replace HP := HP.quiet hb5
                rw [getN_no (by omega)]
                clear hb5
                go_wp2
                go_ret
                exact ⟨rfl, HP.below⟩
    · have l1 : (400 : Int) < (L.length : Int) := by omega
      go_enter Try.func3, Try.ntmps3
      go_wp2_with fail
      refine (HA.out _).mono ?_
      rintro e0 w0 ⟨rfl, hb0⟩
      have hw0 : Below w.heap.size w w0 := by
        refine Below.trans ?_ (hb0.mono ?_)
        · go_grown
        · go_size
      go_wp2
      all_goals
        go_ret
        exact ⟨rfl, by go_grown⟩
  · skip
    go_enter Try.func3, Try.ntmps3
    go_wp2_with fail
    refine (HA.out _).mono ?_
    rintro e0 w0 ⟨rfl, hb0⟩
    have hw0 : Below w.heap.size w w0 := by
      refine Below.trans ?_ (hb0.mono ?_)
      · go_grown
      · go_size
    go_wp2
    all_goals
      go_ret
      exact ⟨rfl, by go_grown⟩
end Go.Proofs.Ytcogginkcnbmaaa
