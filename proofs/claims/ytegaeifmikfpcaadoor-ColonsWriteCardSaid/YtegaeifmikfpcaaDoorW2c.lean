/-
  What cidr.Show hands back: by plain lists. It asks that the library's table of powers of ten reads as its initialiser lays it.
-/
import Derived.Test.YtegaeifmikfpcaaDoorW2b
import Derived.Lib.AppendStr
import Derived.Laws.BytesString
import Derived.Laws.IdiomStrings
import Derived.Laws.BytesArg
set_option linter.unusedSimpArgs false
set_option linter.unusedVariables false
namespace Go.Proofs.YtegaeifmikfpcaaDoor
open Go.RowKit Go.Sort M

/-- The table of powers of ten, in this world and in all that leave what is below block B. -/
abbrev Tens (B : Nat) (w : World) : Prop := Lib.TabBelow Tryd.prog B w "internal/strconv.uint64pow10" .u64 Lib.pow10Tab
theorem Tens.mono {B B' : Nat} {w : World} (h : Tens B w) (hB : B ≤ B') : Tens B' w := fun w' hb => h w' (hb.mono hB)
set_option maxHeartbeats 400000 in
theorem appu_any (B n u : Nat) (hu : W64 u) (sv : Value) (xs : List Value) (w : World) (hown : w.ownsRow B 5 1 sv n xs) (hB : B ≤ w.heap.size) (hlim : n + 20 ≤ 140737488355328) (ht : Tens B w) :
    Calls Tryd.prog 41 #[sv, .int .u64 u, .int .i64 10] w fun e w' => ∃ v', e = .returned v' ∧ w'.ownsRow B 5 1 v' (n + (Lib.decDigits u).length) (xs ++ Lib.byteCells (Lib.decDigits u)) ∧ Below B w w' ∧ Lib.OthersKept 5 none w w' := by
  have h := Tryd.internal_strconv_AppendUint_10 B n u hu.lt sv xs w hown hB hlim ht.here
  have HI := Lib.hid h
  clear h ht hu
  go_enter Tryd.func41, Tryd.ntmps41
  go_wp2_with fail
  refine HI.out.mono ?_
  rintro e w1 ⟨v', rfl, ho, hb, hk⟩
  go_wp2
  go_ret
  exact ⟨_, rfl, ho, hb, hk⟩
/-- The text up to number k. -/
def showPre (hi : Nat) : Nat → List UInt8
  | 0 => []
  | k + 1 => showPre hi k ++ (Lib.decDigits (byteAt hi k) ++ [markB k])
theorem dec_len (u : Nat) (h : u ≤ 255) : (Lib.decDigits u).length ≤ 3 := by
  rw [Lib.decDigits_length]
  by_cases h1 : u < 10
  · rw [Lib.nDigits_small h1]; omega
  · rw [Lib.nDigits_big h1]
    by_cases h2 : u / 10 < 10
    · rw [Lib.nDigits_small h2]; omega
    · rw [Lib.nDigits_big h2, Lib.nDigits_small (by omega)]; omega
theorem showPre_len (hi k : Nat) : (showPre hi k).length ≤ 4 * k := by
  induction k with
  | zero => simp [showPre]
  | succ k ih =>
    have := dec_len _ (byteAt_le hi k)
    simp [showPre]; omega
theorem showPre_end (hi n : Nat) : showPre hi 4 ++ Lib.decDigits n = showL hi n := by
  simp [showPre, showL, markB]
theorem and255 (x : Nat) (hx : x < 18446744073709551616) : bits BinOp.and IntKind.u64 (x : Int) 255 = ((x % 256 : Nat) : Int) := by
  rw [show (255 : Int) = ((255 : Nat) : Int) from rfl, bits_and_u64_nat _ _ hx (by decide)]
  have := Nat.and_two_pow_sub_one_eq_mod x 8
  rw [show 2 ^ 8 - 1 = 255 from rfl] at this
  rw [this]

theorem byte0 (hi : Nat) (h : W64 hi) : bits BinOp.and IntKind.u64 ((hi : Int) / 4294967296 / 16777216) 255 = (byteAt hi 0 : Int) := by
  have h := h.lt
  rw [show (hi : Int) / 4294967296 / 16777216 = ((hi / 2 ^ 56 : Nat) : Int) by omega, and255 _ (by omega)]; rfl
theorem byte1 (hi : Nat) (h : W64 hi) : bits BinOp.and IntKind.u64 ((hi : Int) / 4294967296 / 65536) 255 = (byteAt hi 1 : Int) := by
  have h := h.lt
  rw [show (hi : Int) / 4294967296 / 65536 = ((hi / 2 ^ 48 : Nat) : Int) by omega, and255 _ (by omega)]; rfl
theorem byte2 (hi : Nat) (h : W64 hi) : bits BinOp.and IntKind.u64 ((hi : Int) / 4294967296 / 256) 255 = (byteAt hi 2 : Int) := by
  have h := h.lt
  rw [show (hi : Int) / 4294967296 / 256 = ((hi / 2 ^ 40 : Nat) : Int) by omega, and255 _ (by omega)]; rfl
theorem byte3 (hi : Nat) (h : W64 hi) : bits BinOp.and IntKind.u64 ((hi : Int) / 4294967296) 255 = (byteAt hi 3 : Int) := by
  have h := h.lt
  rw [show (hi : Int) / 4294967296 = ((hi / 2 ^ 32 : Nat) : Int) by omega, and255 _ (by omega)]; rfl
theorem infoB : (Tryd.prog.info? 5).map (fun i => (i.zero, i.size, i.bytes)) = some (some (.int .u8 0), 1, 1) := by kernel_rfl

theorem own_string {w : World} {B : Nat} {v : Value} {L D : List UInt8} (h : w.ownsRow B 5 1 v (L.length + D.length) (Lib.byteCells L ++ Lib.byteCells D)) :
    (convert 59 9 v).run Tryd.prog w = .ok (.string ⟨(L ++ D).toArray⟩) w := by
  rw [← Lib.byteCells_append, ← List.length_append] at h
  generalize L ++ D = X at h ⊢
  have hc := fun g hg => h.cells (g := g) hg
  rcases h.2 with ⟨rfl, h0⟩ | ⟨g, cap, cur, rfl, -, -, -, -, -, -⟩
  · obtain rfl : X = [] := List.eq_nil_of_length_eq_zero h0
    exact run_convert_bytes_nil w _ _ Tryd.underlying59 Tryd.underlying5 0 0 _ Tryd.underlying9
  · refine run_convert_bytes_back w _ _ _ ⟨g, 0, none⟩ cap X Tryd.underlying59 Tryd.underlying5 Tryd.underlying9 (fun j hj => ?_)
    refine hc g rfl j _ ?_
    simp [Lib.byteCells, List.getElem?_eq_getElem hj]
theorem append_small {n : Nat} (h : n ≤ 1000) : n ≤ maxLen := by unfold maxLen; omega
theorem append_small' {n : Nat} (h : n ≤ 1000) : n ≤ 140737488355328 := by omega
theorem own_text {B n : Nat} {e : TypeId} {v : Value} {L D : List UInt8} {x : UInt8} {w : World} (hn : n = (L ++ (D ++ [x])).length)
    (h : w.ownsRow B e 1 v n (Lib.byteCells L ++ (Lib.byteCells D ++ Lib.strCells ⟨#[x]⟩))) : w.ownsRow B e 1 v (L ++ (D ++ [x])).length (Lib.byteCells (L ++ (D ++ [x]))) := by
  subst hn
  have e1 : Lib.byteCells (L ++ (D ++ [x])) = Lib.byteCells L ++ (Lib.byteCells D ++ Lib.strCells ⟨#[x]⟩) := by
    rw [Lib.strCells_eq, Lib.byteCells_append, Lib.byteCells_append]
  rw [e1]
  exact h
end Go.Proofs.YtegaeifmikfpcaaDoor
