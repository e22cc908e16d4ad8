/-
  What the reference's Set hands back. No condition but that the routes lie in memory, their words are words, and they are at most 4000.
-/
import Derived.Test.YtlmampklgghngaaRef18
set_option linter.unusedSimpArgs false
set_option linter.unusedVariables false
namespace Go.Proofs.Ytlmampklgghngaa
open Go Go.RowKit Go.Sort M

/-- The routes of keys, each once, in order. -/
def fS (N : List Rt) (low : Int) (K : List Ky) : List Rt := sortR (K.map fun k => ⟨k, hopV N low k⟩)
theorem fS_snoc (N : List Rt) (low : Int) (K : List Ky) (k : Ky) : fS N low (K ++ [k]) = intoS (fS N low K) ⟨k, hopV N low k⟩ := by
  unfold fS
  rw [List.map_append, List.map_cons, List.map_nil, sortR_snoc]
theorem fS_len (N : List Rt) (low : Int) (K : List Ky) : (fS N low K).length ≤ K.length := by
  have := sortR_len (K.map fun k => (⟨k, hopV N low k⟩ : Rt))
  rwa [List.length_map] at this
theorem spr_len (k : Ky) (g : W64 k.l) (m : Int) : (sprK k m).length ≤ 256 := by
  unfold sprK
  rw [List.length_map, keysV_len _ _ _ _ g]
  exact cnt_le _ _ _ _
theorem keysS_in (N : List Rt) (low high : Int) (i : Nat) (h : i < N.length) (hc : insB low high N[i] = true) : keysS (N.take (i + 1)) low high = keysS (N.take i) low high ++ sprK N[i].k high := by
  unfold keysS
  rw [List.take_succ_eq_append_getElem h, List.filter_append, List.flatMap_append]
  congr 1
  simp [hc]
theorem keysS_out (N : List Rt) (low high : Int) (i : Nat) (h : i < N.length) (hc : insB low high N[i] = false) : keysS (N.take (i + 1)) low high = keysS (N.take i) low high := by
  unfold keysS
  rw [List.take_succ_eq_append_getElem h, List.filter_append, List.flatMap_append]
  simp [hc]
theorem keysS_len (N : List Rt) (low high : Int) (hg : ∀ r ∈ N, r.k.good) : ∀ i, i ≤ N.length → (keysS (N.take i) low high).length ≤ 256 * i
  | 0, _ => by simp [keysS]
  | i + 1, h => by
    have ih := keysS_len N low high hg i (by omega)
    have hi : i < N.length := by omega
    cases hc : insB low high N[i] with
    | true =>
      rw [keysS_in N low high i hi hc, List.length_append]
      have := spr_len N[i].k (hg _ (List.getElem_mem hi)).2 high
      omega
    | false =>
      rw [keysS_out N low high i hi hc]
      omega
theorem spr_at (k : Ky) (m : Int) (j : Nat) (h : j < (keysV k.h k.l k.n m).length) : (sprK k m)[j]'(by unfold sprK; rw [List.length_map]; exact h) = kyP (keysV k.h k.l k.n m)[j] := by simp [sprK]
theorem spr_good {k : Ky} (g : k.good) (m : Int) {q : Ky} (h : q ∈ sprK k m) : q.good := by
  have := (mem_spr g.1 g.2 q m).1 h
  exact ⟨this.2.2.2.2.1, this.2.2.2.2.2.1⟩
set_option maxHeartbeats 4000000 in
set_option maxRecDepth 100000 in
theorem rset18_any (p : Option Addr) (c : Nat) (L : List Rt) (low high : Int) (w : World) (hR : Row w p (rcs L)) (hg : ∀ x ∈ L, x.k.good) (hl : L.length ≤ 4000) :
    Calls Try.prog 26 #[.slice p L.length c, .int .i64 low, .int .i64 high] w fun e w' => NewRts w w' e (setS (sortR L) low high) := by
  have hS := rsorted_any p c L w hR (by omega)
  have hlen := sortR_len L
  have hsrt := (sortR_mem L).1
  obtain ⟨N, hN⟩ : ∃ N, N = sortR L := ⟨_, rfl⟩
  have hgN : ∀ x ∈ N, x.k.good := fun x hx => hg x (sortR_sub (by rw [← hN]; exact hx))
  rw [← hN] at hS hlen hsrt ⊢
  have hH := fun (q : Option Addr) d (k : Ky) (hk : k.good) W (h : Row W q (rcs N)) => rhop18_any q d N k low W h hgN hk (by omega)
  rw [sortR_sorted hsrt] at hH
  obtain ⟨R, hR2⟩ : ∃ R, R = setS N low high := ⟨_, rfl⟩
  rw [← hR2]
  have HS := Lib.hid hS
  have HH := Lib.hid hH
  have HG := Lib.hid hgN
  have HLN : N.length ≤ 4000 := by omega
  have HRR := Lib.hid hR2
  clear hS hH hgN hsrt hR hg hN hlen hR2
  go_enter Try.func26, Try.ntmps26
  go_wp2_with fail
  refine HS.out.mono ?_
  rintro e w1 ⟨p1, c1, rfl, ho1, hb1⟩
  have HROW := Lib.hid (Row.of_own ho1)
  clear ho1 HS
  go_wp2
  go_loopg [7, 8] N.length (fun kx s7 s8 wr => ∃ (i : Nat) (K : List Ky) (n : Nat) (q : Option Addr) (cq : Nat), s8 = .int .i64 (i : Int) ∧ N.length - i ≤ kx ∧ i ≤ N.length ∧ s7 = .slice q n cq ∧ Hid (K = keysS (N.take i) low high) ∧ Hid (i = 0 ∨ low < high) ∧ Hid (n = (fS N low K).length) ∧
    Hid (wr.ownsRow w.heap.size 38 4 (.slice q n cq) n (rcs (fS N low K))) ∧ Below w1.heap.size w1 wr)
  case atStart => exact ⟨0, [], 0, none, 0, rfl, by omega, by omega, rfl, Lib.hid (by simp [keysS]), Lib.hid (.inl rfl), Lib.hid rfl, Lib.hid (World.ownsRow_nil _ _ _ _), Below.refl _ _⟩
  case round =>
    obtain ⟨i, K, n, q, cq, rfl, k1, k2, rfl, HK, HLH, HN, HO, hb⟩ := hrel
    have hw := hb1.trans (hb.mono hb1.size)
    by_cases hlh : low < high
    · by_cases hi : i < N.length
      · have hrow := HROW.out.below hb
        obtain ⟨g, o, rfl, hg, x0, x1, x2, x3⟩ := hrow.rt hi
        have hkl := keysS_len N low high HG.out i k2
        rw [← HK.out] at hkl
        have hin := keysS_in N low high i hi
        have hout := keysS_out N low high i hi
        have hgd := HG.out N[i] (List.getElem_mem hi)
        have hku := rkeys_any N[i].k.h N[i].k.l N[i].k.n high hgd.1 hgd.2
        have i1 : (0 : Int) ≤ (i : Int) := by omega
        have i2 : (i : Int) < (N.length : Int) := by omega
        generalize N[i] = r at x0 x1 x2 x3 hin hout hgd hku
        obtain ⟨kk, v⟩ := r
        obtain ⟨kh, kl, kn⟩ := kk
        simp only at x0 x1 x2 x3 hin hout hgd hku
        unfold insB at hin hout
        simp only at hin hout
        by_cases c1' : kn ≤ low
        · have HK2 : Hid (K = keysS (N.take (i + 1)) low high) := by rw [hout (by rw [decide_eq_false (by omega)]; rfl)]; exact HK
          clear hin hout hku hrow
          go_wp2
          go_roundg (N.length - (i + 1))
          case measure => omega
          case rel => exact ⟨i + 1, K, n, q, cq, by go_num, by omega, by omega, rfl, HK2, Lib.hid (.inr hlh), HN, HO, hb⟩
        · by_cases c2' : high < kn
          · have HK2 : Hid (K = keysS (N.take (i + 1)) low high) := by rw [hout (by rw [decide_eq_false (by omega : ¬ kn ≤ high), Bool.and_false])]; exact HK
            clear hin hout hku hrow
            go_wp2
            go_roundg (N.length - (i + 1))
            case measure => omega
            case rel => exact ⟨i + 1, K, n, q, cq, by go_num, by omega, by omega, rfl, HK2, Lib.hid (.inr hlh), HN, HO, hb⟩
          · have hin2 := hin (by rw [decide_eq_true (by omega : low < kn), decide_eq_true (by omega : kn ≤ high)]; rfl)
            rw [← HK.out] at hin2
            have HIN := Lib.hid hin2
            have hsp := spr_len ⟨kh, kl, kn⟩ hgd.2 high
            have hsg : ∀ q ∈ sprK ⟨kh, kl, kn⟩ high, q.good := fun q hq => spr_good hgd high hq
            have hat := spr_at ⟨kh, kl, kn⟩ high
            have hsl : (sprK ⟨kh, kl, kn⟩ high).length = (keysV kh kl kn high).length := by simp [sprK]
            simp only at hat hsl
            obtain ⟨U, hU⟩ : ∃ U, U = sprK ⟨kh, kl, kn⟩ high := ⟨_, rfl⟩
            obtain ⟨V, hV⟩ : ∃ V, V = keysV kh kl kn high := ⟨_, rfl⟩
            have HIN : Hid (keysS (N.take (i + 1)) low high = K ++ U) := by rw [hU]; exact HIN
            have hat : ∀ j (h1 : j < U.length) (h2 : j < V.length), U[j] = kyP V[j] := by
              intro j h1 h2
              subst hU
              subst hV
              exact hat j h2
            rw [← hU] at hsp hsg hsl
            rw [← hV] at hsl hku
            have HKU : Hid (GivesRow 39 #[.agg #[.int .u64 (kh : Int), .int .u64 (kl : Int), .int .i64 kn], .int .i64 high] V) := Lib.hid hku
            have HAT := Lib.hid hat
            have HSG := Lib.hid hsg
            have HSL := Lib.hid hsl
            clear hin hout hku hin2 hgd hat hsg hU hV hsl
            have hrow2 := Lib.hid hrow
            clear hrow
            go_wp2_with fail
            refine (HKU.out _).mono ?_
            rintro e w3 ⟨p3, c3, rfl, ho3, hb3⟩
            have HV := Lib.hid (Row.of_own ho3)
            have hbw := hb.trans (hb3.mono hb.size)
            have HO3 := Lib.hid (own_below HO.out hb3)
            clear ho3 hb3 HKU x0 x1 x2 x3
            go_wp2
            go_loopg [7, 10] V.length (fun kx s7 s10 wr => ∃ (j n : Nat) (q : Option Addr) (cq : Nat), s10 = .int .i64 (j : Int) ∧ V.length - j ≤ kx ∧ j ≤ V.length ∧ s7 = .slice q n cq ∧ Hid (n = (fS N low (K ++ U.take j)).length) ∧
              Hid (wr.ownsRow w.heap.size 38 4 (.slice q n cq) n (rcs (fS N low (K ++ U.take j)))) ∧ Below w3.heap.size w3 wr)
            case atStart => exact ⟨0, n, q, cq, rfl, by omega, by omega, rfl, by simpa using HN, by simpa using HO3, Below.refl _ _⟩
            case round =>
              clear HO3 HO HN hw
              obtain ⟨j, n, q, cq, rfl, k3, k4, rfl, HN, HO, hbj⟩ := hrel
              by_cases hj : j < V.length
              · have hju : j < U.length := by rw [HSL.out]; exact hj
                obtain ⟨g2, o2, rfl, hg2, y0, y1, y2⟩ := (HV.out.below hbj).at hj
                have hkj := HAT.out j hju hj
                have hgj := HSG.out U[j] (List.getElem_mem hju)
                have hsn : K ++ U.take (j + 1) = (K ++ U.take j) ++ [U[j]] := by rw [List.take_succ_eq_append_getElem hju, List.append_assoc]
                generalize U[j] = kj at hkj hgj hsn
                subst hkj
                unfold kyP at hsn hgj
                have hbj2 := hbw.trans (hbj.mono hbw.size)
                have hho := HH.out (some ⟨g, o, none⟩) c1 _ hgj
                generalize V[j] = pv at y0 y1 y2 hsn hgj hho
                obtain ⟨a, m⟩ := pv
                try simp only at y0 y1 y2 hho hsn
                unfold kyA hopA at hho
                try simp only at hho
                have hfs := fS_snoc N low (K ++ U.take j) ⟨hiW a, loW a, m⟩
                rw [← hsn] at hfs
                obtain ⟨hv, hhv⟩ : ∃ hv, hv = hopV N low ⟨hiW a, loW a, m⟩ := ⟨_, rfl⟩
                rw [← hhv] at hho hfs
                have HFS := Lib.hid hfs
                have hn2 : n ≤ 1048000 := by
                  have h5 := fS_len N low (K ++ U.take j)
                  rw [List.length_append, List.length_take] at h5
                  have := HN.out
                  omega
                have i3 : (0 : Int) ≤ (j : Int) := by omega
                have i4 : (j : Int) < (V.length : Int) := by omega
                have HHO := Lib.hid hho
                clear hhv hfs hsn hgj hho
                go_wp2_with fail
                refine (HHO.out _ (HROW.out.below hbj2)).mono ?_
                rintro e w5 ⟨rfl, hb5⟩
                have y0 := (hb5.cell (p := ⟨g2, o2 + j * 3, none⟩) hg2).trans y0
                have y1 := (hb5.cell (p := ⟨g2, o2 + j * 3 + 1, none⟩) hg2).trans y1
                have y2 := (hb5.cell (p := ⟨g2, o2 + j * 3 + 2, none⟩) hg2).trans y2
                have hbj5 := hbj.trans (hb5.mono hbj.size)
                have HO5 := Lib.hid (own_below HO.out hb5)
                have hin := HN.out
                have hino := into_any w.heap.size q cq (fS N low (K ++ U.take j)) ⟨⟨hiW a, loW a, m⟩, hv⟩ w5 (by rw [← hin]; exact HO5.out) (by rw [← hin]; omega)
                rw [← hin, ← HFS.out] at hino
                unfold rtA at hino
                try simp only at hino
                have HINO := Lib.hid hino
                clear hino hin HHO HO
                go_wp2_with fail
                refine HINO.out.mono ?_
                rintro e w6 ⟨q6, c6, rfl, ho6, hb6⟩
                have hbj6 := hbj5.trans (hb6.mono hbj5.size)
                have hz6 : w.heap.size ≤ w5.heap.size := by
                  have := hb1.size
                  have := hbj5.size
                  have := hbw.size
                  omega
                have HO6 := Lib.hid (own_le ho6 hz6)
                clear ho6 HINO HO5 y0 y1 y2
                go_wp2
                go_roundg (V.length - (j + 1))
                case measure => omega
                case rel => exact ⟨j + 1, _, q6, c6, by go_num, by omega, by omega, rfl, Lib.hid rfl, HO6, hbj6⟩
              · have hju : U.take j = U := List.take_of_length_le (by have := HSL.out; omega)
                rw [hju] at HN HO
                have HK9 : Hid (K ++ U = keysS (N.take (i + 1)) low high) := Lib.hid HIN.out.symm
                have hbj2 := hbw.trans (hbj.mono hbw.size)
                go_wp2
                go_roundg (N.length - (i + 1))
                case measure => omega
                case rel => exact ⟨i + 1, K ++ U, n, q, cq, by go_num, by omega, by omega, rfl, HK9, Lib.hid (.inr hlh), HN, HO, hbj2⟩
      · have hR9 : Hid (fS N low K = R) := by
          rw [HRR.out, HK.out, List.take_of_length_le (by omega)]
          unfold setS fS
          rw [if_pos hlh]
          exact Lib.hid rfl
        go_wp2
        go_ret
        refine ⟨q, cq, ?_, ?_, hw⟩
        · rw [← hR9.out, HN.out]; rfl
        · have := HO.out
          rw [HN.out, hR9.out] at this
          exact this
    · have hi0 : i = 0 := by
        rcases HLH.out with h | h
        · exact h
        · exact absurd h hlh
      have hR9 : Hid (fS N low K = R) := by
        rw [HRR.out, HK.out, hi0]
        unfold setS fS keysS
        rw [if_neg hlh]
        exact Lib.hid rfl
      by_cases hi : i < N.length
      · have i2 : (i : Int) < (N.length : Int) := by omega
        go_wp2
        go_ret
        refine ⟨q, cq, ?_, ?_, hw⟩
        · rw [← hR9.out, HN.out]; rfl
        · have := HO.out
          rw [HN.out, hR9.out] at this
          exact this
      · go_wp2
        go_ret
        refine ⟨q, cq, ?_, ?_, hw⟩
        · rw [← hR9.out, HN.out]; rfl
        · have := HO.out
          rw [HN.out, hR9.out] at this
          exact this
end Go.Proofs.Ytlmampklgghngaa
