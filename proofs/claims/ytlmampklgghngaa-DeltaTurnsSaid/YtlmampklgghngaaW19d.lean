/-
  delta.choose, near and without: new rows of the routes that are chosen. No condition but that the row lies in memory and is shorter than a million.
-/
import Derived.Test.YtlmampklgghngaaW19b
import Derived.Test.YtlmampklgghngaaM19c
set_option linter.unusedSimpArgs false
set_option linter.unusedVariables false
namespace Go.Proofs.Ytlmampklgghngaa
open Go Go.RowKit Go.Sort M

set_option maxHeartbeats 2000000 in
set_option maxRecDepth 100000 in
theorem choosetest_any (g : Nat) (lb : Array Value) (eg : ∀ args w, (callFunc g args).run Try.prog w = .ok (.enter g args) w) (v : Bool) (r : Rt) (b : Nat) (w : World) (hb : b < w.heap.size) (hc : w.cell? ⟨b, 0, none⟩ = some (.func (.func g) #[] lb))
    (hF : ∀ W, Below w.heap.size w W → Calls Try.prog g (#[kyA r.k] ++ lb) W fun e w' => e = .returned (.bool v) ∧ Below W.heap.size W w') :
    Calls Try.prog 52 #[rtA r, .pointer (some ⟨b, 0, none⟩)] w fun e w' => e = .returned (.bool (!v)) ∧ Below w.heap.size w w' := by
  obtain ⟨⟨kh, kl, kn⟩, x⟩ := r
  unfold kyA at hF
  unfold rtA
  simp only at hF ⊢
  have HF := Lib.hid hF
  clear hF
  go_enter Try.func52, Try.ntmps52
  go_wp2_with fail
  go_at_fn g
  refine (HF.out _ (by go_grown)).mono ?_
  rintro e w1 ⟨rfl, hb1⟩
  have hw1 : Below w.heap.size w w1 := Below.trans (by go_grown) (hb1.mono (by simp))
  clear hb1 HF
  cases v
  · go_wp2
    go_ret
    exact ⟨rfl, hw1⟩
  · go_wp2
    go_ret
    exact ⟨rfl, hw1⟩
set_option maxHeartbeats 2000000 in
set_option maxRecDepth 100000 in
theorem choose_any (g : Nat) (lb : Array Value) (eg : ∀ args w, (callFunc g args).run Try.prog w = .ok (.enter g args) w) (P : Ky → Bool) (p : Option Addr) (c : Nat) (L : List Rt) (w : World) (hR : Row w p (rcs L)) (hp : p = none → c = 0) (hg : ∀ x ∈ L, x.k.good) (hl : L.length ≤ 1000000)
    (hF : ∀ W (k : Ky), k.good → Below w.heap.size w W → Calls Try.prog g (#[kyA k] ++ lb) W fun e w' => e = .returned (.bool (P k)) ∧ Below W.heap.size W w') :
    Calls Try.prog 35 #[.slice p L.length c, .func (.func g) #[] lb] w fun e w' => NewRts w w' e (L.filter fun r => P r.k) := by
  have hcl := fun W (h : Row W p (rcs L)) => clone_any p c L W h hp (by omega)
  have eg2 := enters_of Try.func52 (by kernel_rfl) rfl
  have hdel : ∀ (w1 : World), Below (w.heap.size + 1) (w.alloc (.cells #[.func (.func g) #[] lb] 46)) w1 → ∀ (q : Option Addr) (d : Nat), w1.ownsRow (w.heap.size + 1) 38 4 (.slice q L.length d) L.length (rcs L) →
      Calls Try.prog 51 #[.slice q L.length d, .func (.func 52) #[] #[.pointer (some ⟨w.heap.size, 0, none⟩)]] w1 fun e w' =>
      ∃ p' c', e = .returned (.slice p' (L.filter fun r => P r.k).length c') ∧ w'.ownsRow (w.heap.size + 1) 38 4 (.slice p' (L.filter fun r => P r.k).length c') (L.filter fun r => P r.k).length (rcs (L.filter fun r => P r.k)) ∧ Below (w.heap.size + 1) w1 w' := by
    intro w1 hb1 q d hO
    have h := delfunc_any 52 #[.pointer (some ⟨w.heap.size, 0, none⟩)] (fun r => !P r.k) (w.heap.size + 1) w1 eg2 ?_ q d L w1 hO hg (Below.refl _ _) (by have := hb1.size; simpa using this) hl
    · simpa only [Bool.not_not] using h
    · intro W r hr hb
      have hbw : Below (w.heap.size + 1) (w.alloc (.cells #[.func (.func g) #[] lb] 46)) W := hb1.trans hb
      have hz : w.heap.size < W.heap.size := by have := hbw.size; simp at this; omega
      refine choosetest_any g lb eg (P r.k) r w.heap.size W hz ?_ ?_
      · exact (hbw.cell (p := ⟨w.heap.size, 0, none⟩) (by simp)).trans (by simp [go_sem])
      · intro W' hW'
        refine hF W' r.k hr (Below.trans (b := w.alloc (.cells #[.func (.func g) #[] lb] 46)) (by go_grown) ((hbw.mono (by omega)).trans (hW'.mono (by omega))))
  have HCL := Lib.hid hcl
  have HDEL := Lib.hid hdel
  have HR := Lib.hid hR
  obtain ⟨M, hM⟩ : ∃ M, M = L.filter fun r => P r.k := ⟨_, rfl⟩
  rw [← hM] at HDEL ⊢
  clear hcl hdel hR hF hM hg eg2
  go_enter Try.func35, Try.ntmps35
  go_wp2_with fail
  refine (HCL.out _ (HR.out.below (by go_grown))).mono ?_
  rintro e w1 ⟨q, d, rfl, hO, hb1⟩
  have hz1 := hb1.size
  simp only [World.size_alloc] at hz1 hO hb1
  have HO := Lib.hid hO
  clear hO HCL
  go_wp2_with fail
  refine (HDEL.out _ hb1 _ _ HO.out).mono ?_
  rintro e w2 ⟨q2, d2, rfl, hO2, hb2⟩
  have hw2 : Below w.heap.size w w2 := Below.trans (by go_grown) ((hb1.mono (by omega)).trans (hb2.mono (by omega)))
  have HO2 := Lib.hid (own_le hO2 (show w.heap.size ≤ w.heap.size + 1 by omega))
  clear hO2 hb1 hb2 HO HDEL HR
  go_wp2
  go_ret
  exact ⟨q2, d2, rfl, HO2.out, hw2⟩
set_option maxHeartbeats 2000000 in
set_option maxRecDepth 100000 in
theorem neartest_any (p k : Ky) (gp : p.good) (gk : k.good) (b : Nat) (w : World) (hb : b < w.heap.size) (c0 : w.cell? ⟨b, 0, none⟩ = some (.int .u64 (p.h : Int))) (c1 : w.cell? ⟨b, 1, none⟩ = some (.int .u64 (p.l : Int))) (c2 : w.cell? ⟨b, 2, none⟩ = some (.int .i64 p.n)) :
    Calls Try.prog 36 #[kyA k, .pointer (some ⟨b, 0, none⟩)] w fun e w' => e = .returned (.bool (nearB p k)) ∧ Below w.heap.size w w' := by
  have HC := Lib.hid (common_any p.h p.l k.h k.l gp.1 gp.2 gk.1 gk.2)
  unfold nearB kyA
  have hM : ∀ (ts : Array TypeId) (t : TypeId) (w : World), (Builtin.min_ ts t #[.int .i64 p.n, .int .i64 k.n]).run Try.prog w = .ok (.int .i64 (min p.n k.n)) w := by
    intro ts t w
    have e : (if k.n < p.n then k.n else p.n) = min p.n k.n := by split <;> omega
    rw [← e]
    simp [Builtin.min_, Builtin.min2]
  obtain ⟨m, hm⟩ : ∃ m, m = min p.n k.n := ⟨_, rfl⟩
  obtain ⟨cm, hcm⟩ : ∃ cm, cm = commonN p.h p.l k.h k.l := ⟨_, rfl⟩
  rw [← hm] at hM ⊢
  rw [← hcm] at HC ⊢
  obtain ⟨kh, kl, kn⟩ := k
  obtain ⟨ph, pl, pn⟩ := p
  simp only at *
  clear hm hcm gp gk
  go_enter Try.func36, Try.ntmps36
  go_wp2_with fail
  have kg := cell_grow
  refine region_whole (by kernel_rfl) (by kernel_rfl) ?_
  repeat (any_goals (first | go_big_quiet_step ((exact HC.out.at _ _ _)) | quiet_step ((exact HC.out.at _ _ _))))
  refine wpQuiet_nil ?_
  clear kg
  intro w1 hb1
  obtain ⟨hc1, hf1⟩ := bcell hb1
  have hw1 : Below w.heap.size w w1 := by
    refine Below.trans ?_ (hb1.mono ?_)
    · go_grown
    · first | omega | go_size
  go_wp2
  go_ret
  exact ⟨rfl, hw1⟩
set_option maxHeartbeats 2000000 in
set_option maxRecDepth 100000 in
theorem withouttest_any (p k : Ky) (b : Nat) (w : World) (hb : b < w.heap.size) (c0 : w.cell? ⟨b, 0, none⟩ = some (.int .u64 (p.h : Int))) (c1 : w.cell? ⟨b, 1, none⟩ = some (.int .u64 (p.l : Int))) (c2 : w.cell? ⟨b, 2, none⟩ = some (.int .i64 p.n)) :
    Calls Try.prog 38 #[kyA k, .pointer (some ⟨b, 0, none⟩)] w fun e w' => e = .returned (.bool (decide (k ≠ p))) ∧ Below w.heap.size w w' := by
  obtain ⟨kh, kl, kn⟩ := k
  obtain ⟨ph, pl, pn⟩ := p
  have hE := neq_pfx15 kh kl kn ph pl pn
  rw [show (!decide (kh = ph ∧ kl = pl ∧ kn = pn)) = decide ((⟨kh, kl, kn⟩ : Ky) ≠ ⟨ph, pl, pn⟩) by
    rw [← decide_not, decide_eq_decide, ne_eq, Ky.mk.injEq]] at hE
  generalize decide ((⟨kh, kl, kn⟩ : Ky) ≠ ⟨ph, pl, pn⟩) = r at *
  unfold kyA
  simp only at *
  go_enter Try.func38, Try.ntmps38
  go_wp2
  go_ret
  exact ⟨rfl, by go_grown⟩
set_option maxHeartbeats 2000000 in
set_option maxRecDepth 100000 in
theorem near_any (p : Option Addr) (c : Nat) (L : List Rt) (k : Ky) (w : World) (hR : Row w p (rcs L)) (hp : p = none → c = 0) (hg : ∀ x ∈ L, x.k.good) (gk : k.good) (hl : L.length ≤ 1000000) :
    Calls Try.prog 24 #[.slice p L.length c, kyA k] w fun e w' => NewRts w w' e (nearR k L) := by
  obtain ⟨kh, kl, kn⟩ := k
  have eg := enters_of Try.func36 (by kernel_rfl) rfl
  have hch : ∀ W, Below w.heap.size w W → w.heap.size < W.heap.size → W.cell? ⟨w.heap.size, 0, none⟩ = some (.int .u64 (kh : Int)) → W.cell? ⟨w.heap.size, 1, none⟩ = some (.int .u64 (kl : Int)) → W.cell? ⟨w.heap.size, 2, none⟩ = some (.int .i64 kn) →
      Calls Try.prog 35 #[.slice p L.length c, .func (.func 36) #[] #[.pointer (some ⟨w.heap.size, 0, none⟩)]] W fun e w' => NewRts W w' e (nearR ⟨kh, kl, kn⟩ L) := by
    intro W hW hz c0 c1 c2
    refine choose_any 36 _ eg (nearB ⟨kh, kl, kn⟩) p c L W (hR.below hW) hp hg hl ?_
    intro W' k' gk' hW'
    exact neartest_any ⟨kh, kl, kn⟩ k' gk gk' w.heap.size W' (by have := hW'.size; omega) ((hW'.cell (p := ⟨w.heap.size, 0, none⟩) hz).trans c0) ((hW'.cell (p := ⟨w.heap.size, 1, none⟩) hz).trans c1) ((hW'.cell (p := ⟨w.heap.size, 2, none⟩) hz).trans c2)
  have HCH := Lib.hid hch
  clear hch eg hR hg
  unfold kyA
  simp only
  go_enter Try.func24, Try.ntmps24
  go_wp2_with fail
  refine (HCH.out _ (by go_grown) (by simp) (by simp [go_sem]) (by simp [go_sem]) (by simp [go_sem])).mono ?_
  rintro e w1 ⟨q, d, rfl, hO, hb1⟩
  have HF := Lib.hid (And.intro (own_le hO (show w.heap.size ≤ _ by simp)) (Below.trans (show Below w.heap.size w (w.alloc _) by go_grown) (hb1.mono (by simp))))
  clear hO hb1 HCH
  go_wp2
  go_ret
  exact ⟨q, d, rfl, HF.out.1, HF.out.2⟩
set_option maxHeartbeats 2000000 in
set_option maxRecDepth 100000 in
theorem without_any (p : Option Addr) (c : Nat) (L : List Rt) (k : Ky) (w : World) (hR : Row w p (rcs L)) (hp : p = none → c = 0) (hg : ∀ x ∈ L, x.k.good) (hl : L.length ≤ 1000000) :
    Calls Try.prog 25 #[.slice p L.length c, kyA k] w fun e w' => NewRts w w' e (outS L k) := by
  obtain ⟨kh, kl, kn⟩ := k
  have eg := enters_of Try.func38 (by kernel_rfl) rfl
  have hch : ∀ W, Below w.heap.size w W → w.heap.size < W.heap.size → W.cell? ⟨w.heap.size, 0, none⟩ = some (.int .u64 (kh : Int)) → W.cell? ⟨w.heap.size, 1, none⟩ = some (.int .u64 (kl : Int)) → W.cell? ⟨w.heap.size, 2, none⟩ = some (.int .i64 kn) →
      Calls Try.prog 35 #[.slice p L.length c, .func (.func 38) #[] #[.pointer (some ⟨w.heap.size, 0, none⟩)]] W fun e w' => NewRts W w' e (outS L ⟨kh, kl, kn⟩) := by
    intro W hW hz c0 c1 c2
    refine choose_any 38 _ eg (fun q => decide (q ≠ ⟨kh, kl, kn⟩)) p c L W (hR.below hW) hp hg hl ?_
    intro W' k' gk' hW'
    exact withouttest_any ⟨kh, kl, kn⟩ k' w.heap.size W' (by have := hW'.size; omega) ((hW'.cell (p := ⟨w.heap.size, 0, none⟩) hz).trans c0) ((hW'.cell (p := ⟨w.heap.size, 1, none⟩) hz).trans c1) ((hW'.cell (p := ⟨w.heap.size, 2, none⟩) hz).trans c2)
  have HCH := Lib.hid hch
  clear hch eg hR hg
  unfold kyA
  simp only
  go_enter Try.func25, Try.ntmps25
  go_wp2_with fail
  refine (HCH.out _ (by go_grown) (by simp) (by simp [go_sem]) (by simp [go_sem]) (by simp [go_sem])).mono ?_
  rintro e w1 ⟨q, d, rfl, hO, hb1⟩
  have HF := Lib.hid (And.intro (own_le hO (show w.heap.size ≤ _ by simp)) (Below.trans (show Below w.heap.size w (w.alloc _) by go_grown) (hb1.mono (by simp))))
  clear hO hb1 HCH
  go_wp2
  go_ret
  exact ⟨q, d, rfl, HF.out.1, HF.out.2⟩
end Go.Proofs.Ytlmampklgghngaa
