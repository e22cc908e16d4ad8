/-
  What Shares of package weigh hands back. No condition but that the numbers are whole numbers of 64 bits, and that the row's length is one.
-/
import Derived.Test.YtgfjmgebecmbiaaGreatM12
import Derived.Test.YtgfjmgebecmbiaaGreatM10
import Derived.Laws.Externs
import GoSem.Extern.MathFloor
import Derived.WalkKit
set_option linter.unusedSimpArgs false
set_option linter.unusedVariables false
namespace Go.Proofs.YtgfjmgebecmbiaaGreat
open Go.ChangeShapes Go.WideShapes Go.ChangeAt Go.RowKit Go.Joins Go.Deep Go.Sort M
def fcs (X:List Nat):List Value:=X.map fun x => .float .f64 x
theorem fcs_len (X:List Nat):(fcs X).length=X.length:=by simp [fcs]
theorem fcs_append (X Y:List Nat):fcs (X++Y)=fcs X++fcs Y:=by simp [fcs]
theorem fcs_one (x:Nat):fcs [x]=[.float .f64 x]:=rfl
theorem fcs_cell (X:List Nat) (k:Nat) (h:k<X.length):(fcs X)[k]? = some (.float .f64 X[k]):=by simp [fcs,h]
theorem infoF:(Tryz.prog.info? 132).map (fun i=>(i.zero,i.size,i.bytes))=some (some (.float .f64 0),1,8):=by kernel_rfl
theorem Row.atF {w:World} {p:Option Addr} {X:List Nat} (h:Row w p (fcs X)) {k:Nat} (hk:k<X.length):∃g o,p=some ⟨g,o,none⟩/\g<w.heap.size/\w.cell? ⟨g,o+k,none⟩=some (.float .f64 X[k]):=by
 rcases h with h | ⟨g,o,e,hg,hc⟩
 ·have:=fcs_len X
  rw [h] at this
  simp at this;omega
 ·exact ⟨g,o,e,hg,hc k _ (fcs_cell X k hk)⟩
section
variable {H:Type} {enc:TypeId×Value->H} {w:World} {base:Nat} {spare:Nat->Bool} {held:Bool} {r:Reach} {b0:Nat}
end
end Go.Proofs.YtgfjmgebecmbiaaGreat
namespace Go.Proofs.YtgfjmgebecmbiaaGreat
open Go.RowKit Go.Sort M
theorem gt64 {x y:Nat} {b:Bool} (h:(Ieee.double.order x y == some .gt)=b):(FloatKind.f64.format.order x y == some .gt)=b:=h
theorem arch_floor (x m:Nat) (e:Int) (h:Ieee.double.read x = .number false m e) (w:World) :
 (callFunc 166 #[.float .f64 x]).run Tryz.prog w = .ok (.value (.float .f64 (fl ((m <<< e.toNat)/2^(-e).toNat)))) w:=by
 rw [run_callFunc_extern Tryz.func166 (by kernel_rfl) (by kernel_rfl) (by kernel_rfl) (e := Extern.MathFloor.toIntegral "math.archFloor" .down) (by kernel_rfl)]
 have hd:FloatKind.f64.decode x = .number false m e:=h
 have hi : (Extern.MathFloor.toIntegral "math.archFloor" .down #[.float .f64 x]) = (pure (.float .f64 (fl ((m <<< e.toNat) / 2 ^ (-e).toNat))) : Sem Value) := by
  rw [<-floor_at]
  show (match FloatKind.f64.decode x with | .nan s t=>_ | d=>_)=_
  rw [hd]
 rw [hi]
 rfl
theorem floor_any (x m:Nat) (e:Int) (h:Ieee.double.read x = .number false m e):Gives Tryz.prog 126 #[.float .f64 x] (.float .f64 (fl ((m <<< e.toNat)/2^(-e).toNat))):=by
 intro w
 have hc:=arch_floor x m e h
 generalize (m <<< e.toNat)/2^(-e).toNat=T at hc ⊢
 clear h
 go_enter Tryz.func126,Tryz.ntmps126
 go_wp2_with (simp only [hc])
 go_ret
 exact ⟨rfl,by go_grown⟩
theorem weight_any (x:Nat):Gives Tryz.prog 97 #[.float .f64 x] (.float .f64 (fl (wtN x))):=by
 intro w
 rcases wt_cases x with ⟨h1,hw⟩ | ⟨h1,h2,m,e,hr,hw⟩ | ⟨h1,h2,hw⟩
 ·rw [hw,fl_big]
  clear hw
  replace h1:=gt64 h1
  go_enter Tryz.func97,Tryz.ntmps97
  go_wp2
  go_ret
  exact ⟨rfl,by go_grown⟩
 ·have HF:=floor_any x m e hr
  rw [<-hw] at HF
  replace HF:=Lib.hid HF
  clear hw hr
  replace h1:=gt64 h1
  replace h2:=gt64 h2
  go_enter Tryz.func97,Tryz.ntmps97
  go_wp2_with fail
  refine (HF.out _).mono ?_
  rintro e w1 ⟨rfl,hb1⟩
  go_wp2
  go_ret
  exact ⟨rfl,by go_grown⟩
 ·rw [hw,fl_zero]
  clear hw
  replace h1:=gt64 h1
  replace h2:=gt64 h2
  go_enter Tryz.func97,Tryz.ntmps97
  go_wp2
  go_ret
  exact ⟨rfl,by go_grown⟩
end Go.Proofs.YtgfjmgebecmbiaaGreat
namespace Go.Proofs.YtgfjmgebecmbiaaGreat.M
def sumF (f:Nat->Nat):Nat->Nat
 | 0=>0
 | n+1=>sumF f n+f n
theorem sumF_same {f g:Nat->Nat}:∀n,(∀j,j<n->f j=g j)->sumF f n=sumF g n
 | 0,_=>rfl
 | n+1,h=>by
  show sumF f n+f n=sumF g n+g n
  rw [sumF_same n (fun j hj=>h j (by omega)),h n (by omega)]
theorem sumF_add (f g:Nat->Nat):∀n,sumF (fun j=>f j+g j) n=sumF f n+sumF g n
 | 0=>rfl
 | n+1=>by
  show sumF _ n+(f n+g n)=sumF f n+f n+(sumF g n+g n)
  rw [sumF_add f g n];omega
theorem sumF_const (c:Nat):∀n,sumF (fun _=>c) n=n*c
 | 0=>by simp [sumF]
 | n+1=>by
  show sumF _ n+c=(n+1)*c
  rw [sumF_const c n,Nat.add_mul,Nat.one_mul]
theorem sumF_mono {f:Nat->Nat} {i n:Nat} (h:i<=n):sumF f i<=sumF f n:=by
 induction n with
 | zero=>
  obtain rfl:i=0:=by omega
  exact Nat.le_refl _
 | succ n ih=>
  by_cases e:i=n+1
  ·subst e;exact Nat.le_refl _
  ·exact Nat.le_trans (ih (by omega)) (Nat.le_add_right _ _)
theorem sumF_bound {f:Nat->Nat} {c:Nat} (h:∀j,f j<=c):∀n,sumF f n<=n*c
 | 0=>by simp [sumF]
 | n+1=>by
  show sumF f n+f n<=(n+1)*c
  rw [Nat.add_mul,Nat.one_mul]
  exact Nat.add_le_add (sumF_bound h n) (h n)
theorem sumF_one {f:Nat->Nat} {j n:Nat} (h:j<n):f j<=sumF f n:=by
 have h1:sumF f (j+1)<=sumF f n:=sumF_mono (by omega)
 have h2:sumF f (j+1)=sumF f j+f j:=rfl
 omega
def cutP (w:Nat->Nat) (left all:Nat) (j:Nat):Nat:=w j*left/all
def ov (w:Nat->Nat) (o:Nat):Nat->Nat
 | 0=>o
 | j+1=>if 0<ov w o j/\0<w j then ov w o j-1 else ov w o j
def deal (w:Nat->Nat) (o j:Nat):Nat:=if 0<ov w o j/\0<w j then 1 else 0
theorem ov_succ (w:Nat->Nat) (o j:Nat):ov w o (j+1)+deal w o j=ov w o j:=by
 show (if 0<ov w o j/\0<w j then ov w o j-1 else ov w o j)+(if 0<ov w o j/\0<w j then 1 else 0)=_
 by_cases h:0<ov w o j/\0<w j
 ·rw [if_pos h,if_pos h];omega
 ·rw [if_neg h,if_neg h];omega
theorem ov_le (w:Nat->Nat) (o:Nat):∀j,ov w o j<=o
 | 0=>Nat.le_refl _
 | j+1=>by have:=ov_succ w o j;have:=ov_le w o j;omega
def posF (w:Nat->Nat):Nat->Nat:=sumF fun j=>if 0<w j then 1 else 0
theorem ov_pos (w:Nat->Nat) (o:Nat):∀j,ov w o j=o-posF w j
 | 0=>rfl
 | j+1=>by
  have ih:=ov_pos w o j
  have e:posF w (j+1)=posF w j+if 0<w j then 1 else 0:=rfl
  show (if 0<ov w o j/\0<w j then ov w o j-1 else ov w o j)=_
  rw [e,ih]
  by_cases h:0<w j
  ·rw [if_pos h]
   by_cases h2:0<o-posF w j
   ·rw [if_pos ⟨h2,h⟩];omega
   ·rw [if_neg (fun x=>h2 x.1)];omega
  ·rw [if_neg h,if_neg (fun x=>h x.2)];omega
theorem ov_sum (w:Nat->Nat) (o:Nat):∀j,ov w o j+sumF (deal w o) j=o
 | 0=>rfl
 | j+1=>by
  have e:sumF (deal w o) (j+1)=sumF (deal w o) j+deal w o j:=rfl
  have:=ov_succ w o j
  have:=ov_sum w o j
  omega
theorem part_sum (w:Nat->Nat) (left n:Nat) (h:0<sumF w n):∀i,i<=n->sumF (cutP w left (sumF w n)) i<=left:=by
 intro i hi
 have key:∀k,sumF w n*sumF (cutP w left (sumF w n)) k<=left*sumF w k:=by
  intro k
  induction k with
  | zero=>simp [sumF]
  | succ k ih=>
   show sumF w n*(sumF _ k+cutP w left (sumF w n) k)<=left*(sumF w k+w k)
   rw [Nat.mul_add,Nat.mul_add]
   refine Nat.add_le_add ih ?_
   rw [Nat.mul_comm left]
   exact Nat.mul_div_le _ _
 have h1:=key i
 have h2:left*sumF w i<=left*sumF w n:=Nat.mul_le_mul_left _ (sumF_mono hi)
 have h3:sumF w n*sumF (cutP w left (sumF w n)) i<=sumF w n*left:=by rw [Nat.mul_comm (sumF w n) left];exact Nat.le_trans h1 h2
 exact Nat.le_of_mul_le_mul_left h3 h
theorem over_dealt (w:Nat->Nat) (left n:Nat) (h:0<sumF w n):left-sumF (cutP w left (sumF w n)) n<=posF w n:=by
 have key:∀k,left*sumF w k<=sumF w n*sumF (cutP w left (sumF w n)) k+(sumF w n-1)*posF w k:=by
  intro k
  induction k with
  | zero=>simp [sumF]
  | succ k ih=>
   have e:posF w (k+1)=posF w k+if 0<w k then 1 else 0:=rfl
   show left*(sumF w k+w k)<=sumF w n*(sumF _ k+cutP w left (sumF w n) k)+(sumF w n-1)*posF w (k+1)
   rw [e,Nat.mul_add,Nat.mul_add,Nat.mul_add]
   have hd:left*w k<=sumF w n*cutP w left (sumF w n) k+(sumF w n-1)*(if 0<w k then 1 else 0):=by
    by_cases h0:0<w k
    ·rw [if_pos h0,Nat.mul_one]
     unfold cutP
     have h1:=Nat.div_add_mod (w k*left) (sumF w n)
     have h2:=Nat.mod_lt (w k*left) h
     rw [Nat.mul_comm left]
     omega
    ·rw [show w k=0 by omega];simp
   omega
 have h1:=key n
 have h2:=part_sum w left n h n (Nat.le_refl _)
 generalize sumF (cutP w left (sumF w n)) n=s at *
 generalize sumF w n=a at *
 generalize posF w n=p at *
 have h3:a*(left-s)<=(a-1)*p:=by
  rw [Nat.mul_sub,Nat.mul_comm a left]
  omega
 have h4:(a-1)*p<=a*p:=Nat.mul_le_mul_right _ (by omega)
 exact Nat.le_of_mul_le_mul_left (Nat.le_trans h3 h4) h
def over0 (w:Nat->Nat) (left n:Nat):Nat:=left-sumF (cutP w left (sumF w n)) n
def share (w:Nat->Nat) (least left n j:Nat):Nat:=
 if sumF w n=0 then (if j=0 then least+left else least) else least+cutP w left (sumF w n) j+deal w (over0 w left n) j
theorem share_sum (w:Nat->Nat) (least left n:Nat) (hn:0<n):sumF (share w least left n) n=n*least+left:=by
 by_cases h:sumF w n=0
 ·have key:∀k,sumF (share w least left n) (k+1)=(k+1)*least+left:=by
   intro k
   induction k with
   | zero=>
    show 0+share w least left n 0=_
    unfold share
    rw [if_pos h,if_pos rfl];omega
   | succ k ih=>
    show sumF _ (k+1)+share w least left n (k+1)=_
    rw [ih]
    unfold share
    rw [if_pos h,if_neg (by omega),Nat.add_mul (k+1) 1 least]
    omega
  have:=key (n-1)
  rwa [show n-1+1=n by omega] at this
 ·have e:sumF (share w least left n) n=sumF (fun j=>(least+cutP w left (sumF w n) j)+deal w (over0 w left n) j) n:=by
   refine sumF_same n fun j _ => ?_
   unfold share
   rw [if_neg h]
  rw [e,sumF_add (fun j=>least+cutP w left (sumF w n) j),sumF_add (fun _=>least),sumF_const]
  have h1:=ov_sum w (over0 w left n) n
  rw [ov_pos] at h1
  have h2:=over_dealt w left n (by omega)
  have h3:=part_sum w left n (by omega) n (Nat.le_refl _)
  unfold over0 at *
  have e2:sumF (fun j=>cutP w left (sumF w n) j) n=sumF (cutP w left (sumF w n)) n:=rfl
  have e3:∀o,sumF (fun j=>deal w o j) n=sumF (deal w o) n:=fun _=>rfl
  rw [e2,e3]
  omega
theorem share_least (w:Nat->Nat) (least left n j:Nat):least<=share w least left n j:=by
 unfold share
 split
 ·split<;>omega
 ·omega
theorem part_le (w:Nat->Nat) (left n j:Nat) (h:j<n) (h0:0<sumF w n):cutP w left (sumF w n) j<=left:=
 Nat.le_trans (sumF_one h) (part_sum w left n h0 n (Nat.le_refl _))
def mixL (f g:Nat->Int) (i n:Nat):List Int:=(List.range n).map fun j=>if j<i then f j else g j
theorem mixL_len (f g:Nat->Int) (i n:Nat):(mixL f g i n).length=n:=by simp [mixL]
theorem mixL_at (f g:Nat->Int) (i n j:Nat) (h:j<n):(mixL f g i n)[j]? = some (if j<i then f j else g j):=by simp [mixL,h]
theorem mixL_set (f g:Nat->Int) (i n:Nat):(mixL f g i n).set i (f i)=mixL f g (i+1) n:=by
 apply List.ext_getElem?
 intro j
 rw [List.getElem?_set,mixL_len]
 by_cases h:j<n
 ·rw [mixL_at f g (i+1) n j h]
  by_cases e:i=j
  ·subst e
   rw [if_pos rfl,if_pos h,if_pos (by omega)]
  ·rw [if_neg e,mixL_at f g i n j h]
   by_cases h1:j<i
   ·rw [if_pos h1,if_pos (by omega)]
   ·rw [if_neg h1,if_neg (by omega)]
 ·rw [List.getElem?_eq_none (l:=mixL f g (i+1) n) (by rw [mixL_len];omega)]
  by_cases e:i=j
  ·rw [if_pos e,if_neg (by omega)]
  ·rw [if_neg e,List.getElem?_eq_none (by rw [mixL_len];omega)]
theorem mixL_stay {f g:Nat->Int} {i n:Nat} (h:f i=g i):mixL f g i n=mixL f g (i+1) n:=by
 unfold mixL
 refine List.map_congr_left fun j _ => ?_
 by_cases e:j=i
 ·subst e
  rw [if_neg (by omega),if_pos (by omega),h]
 ·by_cases h1:j<i
  ·rw [if_pos h1,if_pos (by omega)]
  ·rw [if_neg h1,if_neg (by omega)]
theorem mixL_congr {f g f' g':Nat->Int} {i i' n:Nat} (h:∀j,j<n->(if j<i then f j else g j)=(if j<i' then f' j else g' j)):mixL f g i n=mixL f' g' i' n:=by
 unfold mixL
 refine List.map_congr_left fun j hj=>h j (List.mem_range.1 hj)
theorem mixL_full (f g:Nat->Int) (n:Nat):mixL f g n n=(List.range n).map f:=by
 unfold mixL
 refine List.map_congr_left fun j hj => ?_
 rw [if_pos (List.mem_range.1 hj)]
theorem mixL_none (f g:Nat->Int) (n:Nat):mixL f g 0 n=(List.range n).map g:=by
 unfold mixL
 refine List.map_congr_left fun j hj => ?_
 rw [if_neg (by omega)]
end Go.Proofs.YtgfjmgebecmbiaaGreat.M
namespace Go.Proofs.YtgfjmgebecmbiaaGreat
open Go.RowKit Go.Sort M
def wtF (X:List Nat) (j:Nat):Nat:=wtN (X.getD j 0)
theorem wtF_le (X:List Nat) (j:Nat):wtF X j<=1073741824:=wtN_le _
theorem wtF_at (X:List Nat) (j:Nat) (h:j<X.length):wtF X j=wtN X[j]:=by simp [wtF,h]
theorem made_ints (n:Nat):(madeCells #[.int .i64 0] n).toList=ics ((List.range n).map fun _=>(0:Int)):=by
 apply List.ext_getElem?
 intro j
 by_cases h:j<n
 ·simp [madeCells,ics,h,Nat.mod_one]
 ·rw [List.getElem?_eq_none (by simp [madeCells];omega),List.getElem?_eq_none (by simp [ics];omega)]
theorem infoI64:(Tryz.prog.info? 2).map (fun i=>(i.zero,i.size,i.bytes))=some (some (.int .i64 0),1,8):=by kernel_rfl
theorem ics_set (L:List Int) (k:Nat) (x:Int):(ics L).set k (.int .i64 x)=ics (L.set k x):=by
 unfold ics
 rw [List.map_set]
theorem range_map_at (f:Nat->Int) (n j:Nat) (h:j<n):(ics ((List.range n).map f))[j]? = some (.int .i64 (f j)):=by simp [ics,h]
theorem mix_cell (f g:Nat->Int) (i n j:Nat) (h:j<n):(ics (mixL f g i n))[j]? = some (.int .i64 (if j<i then f j else g j)):=by simp [ics,mixL,h]
set_option maxHeartbeats 1000000 in
theorem weighAll_any (p:Option Addr) (c:Nat) (X:List Nat) (w:World) (hX:Row w p (fcs X)) (h1:1<=X.length) (h2:X.length<=200) :
 Calls Tryz.prog 74 #[.slice p X.length c] w fun e w'=>∃g d,e = .returned (.tuple #[.slice (some ⟨g,0,none⟩) X.length d,.int .i64 (sumF (wtF X) X.length:Nat)]) /\
  w'.ownsRow w.heap.size 2 1 (.slice (some ⟨g,0,none⟩) X.length d) X.length (ics ((List.range X.length).map fun j=>((wtF X j:Nat):Int)))/\Below w.heap.size w w':=by
 obtain ⟨n,hn⟩:∃n,n=X.length:=⟨_,rfl⟩
 have hmk:=make_row (P:=Tryz.prog) (t:=127) Tryz.underlying127 infoI64 n (by omega) (by unfold maxLen;omega)
 have hb:∀k,sumF (wtF X) k<=k*1073741824:=sumF_bound (wtF_le X)
 have hatw:∀k,k<n->wtF X k=wtN (X.getD k 0):=fun k _=>rfl
 rw [<-hn]
 have HN:=Lib.hid hn
 have HX:=Lib.hid hX
 have HB:=Lib.hid hb
 have hown0:(w.alloc (.cells (madeCells #[.int .i64 0] n) 2)).ownsRow w.heap.size 2 1 (.slice (some ⟨w.heap.size,0,none⟩) n n) n (ics (mixL (fun j=>((wtF X j:Nat):Int)) (fun _=>0) 0 n)):=by
  rw [mixL_none,<-made_ints]
  exact World.ownsRow_lit _ _ n (by omega) (by unfold maxLen;omega) (by simp [madeCells])
 rw [<-hn] at h1 h2
 clear hX hb hatw hn
 go_enter Tryz.func74,Tryz.ntmps74
 go_wp2_with fail
 go_loopw [3,11] (fun s3 s11 wr=>∃k:Nat,k<=n/\s11 = .int .i64 k/\s3 = .int .i64 (sumF (wtF X) k:Nat) /\
  wr.ownsRow w.heap.size 2 1 (.slice (some ⟨w.heap.size,0,none⟩) n n) n (ics (mixL (fun j=>((wtF X j:Nat):Int)) (fun _=>0) k n))/\Below w.heap.size w wr) (fun _ s11 _=>n-(intOf s11).toNat)
 case atStart=>exact ⟨0,Nat.zero_le _,rfl,rfl,hown0,by go_grown⟩
 case round=>
  clear hown0 hmk
  obtain ⟨k,hk,rfl,rfl,hown,hw1⟩:=hrel
  have hz1:=hw1.size
  by_cases hlt:k<n
  ·have hltX:k<X.length:=by rw [<-HN.out];exact hlt
   obtain ⟨g1,o1,rfl,hg1,a0⟩:=(HX.out.below hw1).atF hltX
   have hW:=weight_any X[k]
   rw [<-wtF_at X k hltX] at hW
   have hu:=wtF_le X k
   have hsum:sumF (wtF X) (k+1)=sumF (wtF X) k+wtF X k:=rfl
   have hsb:=HB.out (k+1)
   have hset:=mixL_set (fun j=>((wtF X j:Nat):Int)) (fun _=>0) k n
   have hx:∃y,y=X[k]:=⟨_,rfl⟩
   obtain ⟨y,hy⟩:=hx
   rw [<-hy] at hW a0
   obtain ⟨u,hu2⟩:∃u,u=wtF X k:=⟨_,rfl⟩
   rw [<-hu2] at hW hu hsum hset
   have hcv:∀w,(convert 132 2 (.float .f64 (fl u))).run Tryz.prog w = .ok (.int .i64 (u:Nat)) w:=fun w=>run_convert_float_int w _ _ .f64 .i64 _ _ (by rw [Tryz.underlying132];rfl) Tryz.underlying2 (toint_fl u hu)
   generalize fl u=v at hW hcv
   generalize sumF (wtF X) k=S at hsum ⊢
   have HW:=Lib.hid hW
   have HS:=Lib.hid hsum
   have HSET:=Lib.hid hset
   clear hW hset hy
   have hgz:=(hown.lt w.heap.size rfl).2
   have hgl:=(hown.lt w.heap.size rfl).1
   have hSb:S+u<=214748364800:=by rw [<-HS.out];omega
   clear hsb hsum hu2
   go_wp2_with fail
   refine (HW.out _).mono ?_
   rintro e w2 ⟨rfl,hb2⟩
   have hown2:=own_below hown hb2
   have hw2:=hw1.trans (hb2.mono hz1)
   have hgz2:w.heap.size<w2.heap.size:=Nat.lt_of_lt_of_le hgz hb2.size
   obtain ⟨v0,d0⟩:∃v,w2.cell? ⟨w.heap.size,k,none⟩=some v:=⟨_,(hown2.cellAt k (by omega)).trans (List.getElem?_eq_getElem (by rw [ics_len,mixL_len];exact hlt))⟩
   have f0:=hown2.frozenAt k
   clear hown hb2 hw1 hz1
   go_wp2_with (simp only [hcv])
   go_roundw
   case rel=>
    refine ⟨k+1,by omega,by go_num,?_,?_,by go_grown⟩
    ·rw [HS.out];go_num
    ·have:=(hown2.stored k (.int .i64 (u:Nat))).1
     rw [ics_set,HSET.out] at this
     exact this
   case measure=>simp [intOf];omega
  ·have hkn:k=n:=by omega
   have HK:=Lib.hid hkn
   clear hkn
   go_wp2
   go_ret2
   refine ⟨w.heap.size,n,?_,?_,hw1⟩
   ·rw [HK.out];rfl
   ·have e:=HK.out
    rw [e] at hown
    rwa [mixL_full] at hown
def shF (w:Nat->Nat) (least left n j:Nat):Int:=(share w least left n j:Nat)
theorem q_mul (u left:Nat) (hu:u<=1073741824) (hl:left<=1073741824):wrap64 ((u:Int)*(left:Int))=(u:Int)*(left:Int):=by
 have h:u*left<=1152921504606846976:=Nat.mul_le_mul hu hl
 rw [<-Int.natCast_mul]
 exact IntWalk.wrap64_in _ (by omega)
theorem q_div (u left a q:Nat) (hu:u<=1073741824) (hl:left<=1073741824) (hq:q=u*left/a):wrap64 (Int.tdiv ((u:Int)*(left:Int)) (a:Int))=(q:Int):=by
 have h:u*left<=1152921504606846976:=Nat.mul_le_mul hu hl
 have h2:u*left/a<=u*left:=Nat.div_le_self _ _
 rw [<-Int.natCast_mul,show Int.tdiv ((u*left:Nat):Int) (a:Int)=((u*left/a:Nat):Int) from rfl,<-hq]
 exact IntWalk.wrap64_in _ (by omega)
set_option maxHeartbeats 2000000 in
theorem divide_any (g h c d B n least left:Nat) (wt:Nat->Nat) (w:World) (hgh:g≠h) (hn:n<=200) (hwt:∀j,wt j<=1073741824) (hl:least<=65536) (hle:left<=1073741824) (h0:0<sumF wt n)
 (ho:w.ownsRow B 3 1 (.slice (some ⟨g,0,none⟩) n c) n (ics ((List.range n).map fun _=>(least:Int))))
 (hw:w.ownsRow B 2 1 (.slice (some ⟨h,0,none⟩) n d) n (ics ((List.range n).map fun j=>((wt j:Nat):Int)))) :
 Calls Tryz.prog 75 #[.slice (some ⟨g,0,none⟩) n c,.int .i64 left,.slice (some ⟨h,0,none⟩) n d,.int .i64 (sumF wt n:Nat)] w fun e w'=>e = .returned (.tuple #[]) /\
  w'.ownsRow B 3 1 (.slice (some ⟨g,0,none⟩) n c) n (ics ((List.range n).map (shF wt least left n)))/\Below B w w':=by
 have hps:=part_sum wt left n h0
 have hple:=fun j hj=>part_le wt left n j hj h0
 have hsh:∀j,shF wt least left n j=((least+cutP wt left (sumF wt n) j+deal wt (left-sumF (cutP wt left (sumF wt n)) n) j:Nat):Int):=fun j=>by
  unfold shF share over0
  rw [if_neg (by omega)]
 have hpd:∀j,cutP wt left (sumF wt n) j=wt j*left/sumF wt n:=fun _=>rfl
 obtain ⟨F,hF⟩:∃F,F=shF wt least left n:=⟨_,rfl⟩
 rw [<-hF] at hsh ⊢
 generalize sumF wt n=a at *
 generalize hP:cutP wt left a=P at *
 have ha0:((a:Int) == 0)=false:=by simp;omega
 have HPS:=Lib.hid hps
 have HPL:=Lib.hid hple
 have HSH:=Lib.hid hsh
 have HPD:=Lib.hid hpd
 have HWT:=Lib.hid hwt
 rw [<-mixL_none (fun j=>((least+P j:Nat):Int))] at ho
 have hBg:=(ho.lt g rfl).1
 clear hps hple hsh hpd hwt hP hF
 go_enter Tryz.func75,Tryz.ntmps75
 go_wp2_with fail
 go_loopw [8,17] (fun s8 s17 wr=>∃k:Nat,k<=n/\s17 = .int .i64 k/\s8 = .int .i64 (left-sumF P k:Nat) /\
  wr.ownsRow B 3 1 (.slice (some ⟨g,0,none⟩) n c) n (ics (mixL (fun j=>((least+P j:Nat):Int)) (fun _=>(least:Int)) k n)) /\
  wr.ownsRow B 2 1 (.slice (some ⟨h,0,none⟩) n d) n (ics ((List.range n).map fun j=>((wt j:Nat):Int)))/\Below B w wr) (fun _ s17 _=>n-(intOf s17).toNat)
 case atStart=>exact ⟨0,Nat.zero_le _,rfl,rfl,ho,hw,Below.refl _ _⟩
 case round=>
  clear ho hw
  obtain ⟨k,hk,rfl,rfl,ho,hw,hb⟩:=hrel
  have hz:=hb.size
  by_cases hlt:k<n
  ·have hu:=HWT.out k
   have hsum:sumF P (k+1)=sumF P k+P k:=rfl
   have hps1:=HPS.out (k+1) (by omega)
   have hpl:=HPL.out k hlt
   have hpd:=HPD.out k
   have hset:=mixL_set (fun j=>((least+P j:Nat):Int)) (fun _=>(least:Int)) k n
   have hwc:=range_map_at (fun j=>((wt j:Nat):Int)) n k hlt
   have hoc:=mix_cell (fun j=>((least+P j:Nat):Int)) (fun _=>(least:Int)) k n k hlt
   rw [if_neg (by omega)] at hoc
   rw [hsum] at hps1
   generalize sumF P k=S at hsum hps1 ⊢
   generalize P k=q at hsum hps1 hpl hpd hset
   generalize wt k=u at hu hpd hwc
   have Q0:=Lib.hid (q_mul u left hu hle)
   have Q1:=Lib.hid (q_div u left a q hu hle hpd)
   clear hpd
   have hsub:S+q<=left:=by omega
   have HSET:=Lib.hid hset
   have HS:=Lib.hid hsum
   obtain ⟨c1,e1⟩:∃v,v=((left-S:Nat):Int):=⟨_,rfl⟩
   have c1b:(q:Int)<=c1:=by omega
   have c1c:c1<=1073741824:=by omega
   have HE1:=Lib.hid e1
   rw [<-e1]
   have hgl:=ho.lt g rfl
   have hhl:=hw.lt h rfl
   have hgz:=hgl.2
   have hhz:=hhl.2
   have d0:wr.cell? ⟨g,k,none⟩=some (.int .i64 (least:Nat)):=(ho.cellAt k (by omega)).trans hoc
   have d1:wr.cell? ⟨h,k,none⟩=some (.int .i64 (u:Nat)):=(hw.cellAt k (by omega)).trans hwc
   have f0:=ho.frozenAt k
   clear hset hps1 e1 hoc hwc hgl hhl
   go_wp2_with (first|rw [Q0.out]|rw [Q1.out]|fail)
   go_roundw
   case rel=>
    have hst:=ho.stored k (.int .i64 (least+q:Nat))
    refine ⟨k+1,by omega,by go_num,?_,?_,?_,?_⟩
    ·rw [HS.out]
     have:=HE1.out
     refine congrArg _ ?_
     omega
    ·have:=hst.1
     rw [ics_set,HSET.out] at this
     exact this
    ·exact hw.kept hst.2 (.inr (by simp [Value.ownBlock];omega))
    ·go_grown
   case measure=>simp [intOf];omega
  ·have hkn:k=n:=by omega
   have hos:left-sumF P k<=left:=Nat.sub_le _ _
   have hov0:left-sumF P k=ov wt (left-sumF P n) 0:=by rw [hkn];rfl
   have e1:mixL (fun j=>((least+P j:Nat):Int)) (fun _=>(least:Int)) k n=mixL F (fun j=>((least+P j:Nat):Int)) 0 n:=by rw [hkn,mixL_full,mixL_none]
   rw [e1] at ho
   have HO0:=Lib.hid hov0
   have hovle:∀j,ov wt (left-sumF P n) j<=left:=fun j=>Nat.le_trans (ov_le _ _ _) (Nat.sub_le _ _)
   have hF2:∀j,F j=((least+P j+deal wt (left-sumF P n) j:Nat):Int):=HSH.out
   clear e1 hkn hov0
   generalize left-sumF P n=o0 at HO0 hovle hF2
   have HF2:=Lib.hid hF2
   have HOV:=Lib.hid hovle
   clear hF2 hovle
   go_wp2_with fail
   go_loopw [8,40] (fun s8 s40 wr=>∃i:Nat,i<=n/\s40 = .int .i64 i/\s8 = .int .i64 (ov wt o0 i:Nat) /\
    wr.ownsRow B 3 1 (.slice (some ⟨g,0,none⟩) n c) n (ics (mixL F (fun j=>((least+P j:Nat):Int)) i n)) /\
    wr.ownsRow B 2 1 (.slice (some ⟨h,0,none⟩) n d) n (ics ((List.range n).map fun j=>((wt j:Nat):Int)))/\Below B w wr) (fun _ s40 _=>n-(intOf s40).toNat)
   case atStart=>exact ⟨0,Nat.zero_le _,rfl,by rw [<-HO0.out],ho,hw,hb⟩
   case round=>
    clear ho hw hb hz
    obtain ⟨i,hi,rfl,rfl,ho,hw,hb⟩:=hrel
    have hz:=hb.size
    by_cases hlt:i<n
    ·have hu:=HWT.out i
     have hpl:=HPL.out i hlt
     have hoc:=mix_cell F (fun j=>((least+P j:Nat):Int)) i n i hlt
     have hwc:=range_map_at (fun j=>((wt j:Nat):Int)) n i hlt
     have hset:=mixL_set F (fun j=>((least+P j:Nat):Int)) i n
     have hfi:=HF2.out i
     have hvl:=HOV.out i
     have hdl:deal wt o0 i=if 0<ov wt o0 i/\0<wt i then 1 else 0:=rfl
     have hvs:ov wt o0 (i+1)=if 0<ov wt o0 i/\0<wt i then ov wt o0 i-1 else ov wt o0 i:=rfl
     rw [if_neg (by omega)] at hoc
     have hstay:deal wt o0 i=0->mixL F (fun j=>((least+P j:Nat):Int)) i n=mixL F (fun j=>((least+P j:Nat):Int)) (i+1) n:=fun h=>mixL_stay (by rw [hfi,h];rfl)
     rw [hfi] at hset
     generalize ov wt o0 i=v at hvs hdl hvl ⊢
     generalize deal wt o0 i=dd at hdl hset hstay
     generalize P i=q at hpl hset hoc
     generalize wt i=u at hu hwc hdl hvs
     have hgz:=(ho.lt g rfl).2
     have hhz:=(hw.lt h rfl).2
     have d0:wr.cell? ⟨g,i,none⟩=some (.int .i64 (least+q:Nat)):=(ho.cellAt i (by omega)).trans hoc
     have d1:wr.cell? ⟨h,i,none⟩=some (.int .i64 (u:Nat)):=(hw.cellAt i (by omega)).trans hwc
     have f0:=ho.frozenAt i
     obtain ⟨y,hy⟩:∃y,y=least+q:=⟨_,rfl⟩
     rw [<-hy] at hset d0
     have hyb:y<=1073807360:=by omega
     clear hoc hwc hfi hy hpl
     by_cases hv:0<v
     ·by_cases hu0:0<u
      ·rw [if_pos ⟨hv,hu0⟩] at hdl hvs
       have HV:=Lib.hid hvs
       rw [hdl] at hset
       have HSET:=Lib.hid hset
       clear hset hdl hvs
       go_wp2_with fail
       go_roundw
       case rel=>
        have hst:=ho.stored i (.int .i64 (y+1:Nat))
        refine ⟨i+1,by omega,by go_num,?_,?_,?_,?_⟩
        ·rw [HV.out]
         refine congrArg _ ?_
         omega
        ·have:=hst.1
         rw [ics_set,HSET.out] at this
         exact this
        ·exact hw.kept hst.2 (.inr (by simp [Value.ownBlock];omega))
        ·go_grown
       case measure=>simp [intOf];omega
      ·rw [if_neg (fun x=>hu0 x.2)] at hdl hvs
       have HV:=Lib.hid hvs
       have HST:=Lib.hid (hstay hdl)
       clear hset hstay hdl hvs
       go_wp2_with fail
       go_roundw
       case rel=>exact ⟨i+1,by omega,by go_num,by rw [HV.out],by rw [<-HST.out];exact ho,hw,hb⟩
       case measure=>simp [intOf];omega
     ·rw [if_neg (fun x=>hv x.1)] at hdl hvs
      have HV:=Lib.hid hvs
      have HST:=Lib.hid (hstay hdl)
      clear hset hstay hdl hvs
      go_wp2_with fail
      go_roundw
      case rel=>exact ⟨i+1,by omega,by go_num,by rw [HV.out],by rw [<-HST.out];exact ho,hw,hb⟩
      case measure=>simp [intOf];omega
    ·have hin:i=n:=by omega
     go_wp2
     go_end0
     rw [hin,mixL_full] at ho
     exact ⟨rfl,ho,hb⟩
def shOk (total least:Int) (n:Nat):Prop:=1<=n/\n<=200/\1<=least/\least<=65536/\least*n<=total/\total<=1073741824
def shL (total least:Int) (X:List Nat):List Int:=(List.range X.length).map (shF (wtF X) least.toNat (total-least*X.length).toNat X.length)
theorem shL_len (total least:Int) (X:List Nat):(shL total least X).length=X.length:=by simp [shL]
theorem shOk_parts {total least:Int} {n:Nat} (h:shOk total least n):∃l r:Nat,least=l/\total=((n*l+r:Nat):Int)/\1<=l/\l<=65536/\r<=1073741824/\n*l+r<=1073741824/\n*l<=1073741824/\(total-least*n).toNat=r:=by
 obtain ⟨-,-,h1,h2,h3,h4⟩:=h
 obtain ⟨l,rfl⟩:=Int.eq_ofNat_of_zero_le (show 0<=least by omega)
 have e:(l:Int)*(n:Int)=((n*l:Nat):Int):=by rw [Int.natCast_mul,Int.mul_comm]
 rw [e] at h3
 obtain ⟨m,hm⟩:∃m,m=n*l:=⟨_,rfl⟩
 rw [<-hm] at h3
 refine ⟨l,(total-m).toNat,rfl,?_,by omega,by omega,by omega,?_,?_,?_⟩
 ·rw [<-hm];omega
 ·rw [<-hm];omega
 ·rw [<-hm];omega
 ·rw [e,<-hm]
theorem shares_all0 (w:Nat->Nat) (least left n:Nat) (h:sumF w n=0) (hn:1<=n) :
 ((List.range n).map fun _=>(least:Int)).set 0 ((least+left:Nat):Int)=(List.range n).map (shF w least left n):=by
 rw [<-mixL_none (shF w least left n)]
 have h0:shF w least left n 0=((least+left:Nat):Int):=by
  unfold shF share
  rw [if_pos h,if_pos rfl]
 rw [<-h0,mixL_set,<-mixL_full (shF w least left n) (fun _=>(least:Int))]
 refine mixL_congr fun j hj => ?_
 rw [if_pos hj]
 by_cases e:j<0+1
 ·rw [if_pos e]
 ·rw [if_neg e]
  unfold shF share
  rw [if_pos h,if_neg (by omega)]
set_option maxHeartbeats 2000000 in
theorem shares_bad (total least:Int) (p:Option Addr) (c:Nat) (n:Nat) (w:World) (hn:n<=1000000000) (h:¬shOk total least n) :
 Calls Tryz.prog 50 #[.int .i64 total,.int .i64 least,.slice p n c] w fun e w'=>e = .returned (.tuple #[.slice none 0 0,.int .i64 1])/\Below w.heap.size w w':=by
 unfold shOk at h
 by_cases n0:n<1
 ·clear h
  go_enter Tryz.func50,Tryz.ntmps50
  go_wp2_with fail
  go_ret2
  exact ⟨rfl,by go_grown⟩
 ·by_cases n1:200<n
  ·clear h
   go_enter Tryz.func50,Tryz.ntmps50
   go_wp2_with fail
   go_ret2
   exact ⟨rfl,by go_grown⟩
  ·by_cases l0:least<1
   ·clear h
    go_enter Tryz.func50,Tryz.ntmps50
    go_wp2_with fail
    go_ret2
    exact ⟨rfl,by go_grown⟩
   ·by_cases l1:65536<least
    ·clear h
     go_enter Tryz.func50,Tryz.ntmps50
     go_wp2_with fail
     go_ret2
     exact ⟨rfl,by go_grown⟩
    ·obtain ⟨l,rfl⟩:=Int.eq_ofNat_of_zero_le (show 0<=least by omega)
     have hm:l*n<=65536*200:=Nat.mul_le_mul (by omega) (by omega)
     have e:(l:Int)*(n:Int)=((l*n:Nat):Int):=by rw [Int.natCast_mul]
     rw [e] at h
     have q0:wrap64 ((l:Int)*(n:Int))=((l*n:Nat):Int):=by
      rw [e]
      exact IntWalk.wrap64_in _ (by omega)
     generalize l*n=m at *
     clear e
     have Q0:=Lib.hid q0
     clear q0
     by_cases t0:total<(m:Int)
     ·clear h
      go_enter Tryz.func50,Tryz.ntmps50
      go_wp2_with (first|rw [Q0.out]|fail)
      go_ret2
      exact ⟨rfl,by go_grown⟩
     ·have t1:1073741824<total:=by omega
      clear h
      go_enter Tryz.func50,Tryz.ntmps50
      go_wp2_with (first|rw [Q0.out]|fail)
      go_ret2
      exact ⟨rfl,by go_grown⟩
set_option maxHeartbeats 2000000 in
theorem shares_any (total least:Int) (p:Option Addr) (c:Nat) (X:List Nat) (w:World) (hX:Row w p (fcs X)) (h:shOk total least X.length) :
 Calls Tryz.prog 50 #[.int .i64 total,.int .i64 least,.slice p X.length c] w fun e w'=>∃q d,e = .returned (.tuple #[.slice q X.length d,.int .i64 0]) /\
  w'.ownsRow w.heap.size 3 1 (.slice q X.length d) X.length (ics (shL total least X))/\Below w.heap.size w w':=by
 unfold shL
 have n1:=h.1
 have n2:=h.2.1
 obtain ⟨l,r,rfl,rfl,l1,l2,r1,t1,m1,e⟩:=shOk_parts h
 rw [e,Int.toNat_natCast]
 clear h e
 have hwa:=fun wx hb=>weighAll_any p c X wx (hX.below (w':=wx) hb) n1 n2
 have hwt:=wtF_le X
 have hal:=shares_all0 (wtF X) l r X.length
 generalize wtF X=wt at *
 generalize hn:X.length=n at *
 clear hX
 have hmk:=make_row (P:=Tryz.prog) (t:=25) Tryz.underlying25 infoI n (by omega) (by unfold maxLen;omega)
 have hdv:=fun g h c d B wx hgh h0 ho hw=>divide_any g h c d B n l r wt wx hgh n2 hwt l2 r1 h0 ho hw
 obtain ⟨m,hm⟩:∃m,m=n*l:=⟨_,rfl⟩
 rw [<-hm] at t1 m1 ⊢
 obtain ⟨T,hT⟩:∃T:Int,T=((m+r:Nat):Int):=⟨_,rfl⟩
 rw [<-hT]
 have hT1:T<=1073741824:=by omega
 have hT2:(m:Int)<=T:=by omega
 have hr:(r:Int)=T-m:=by omega
 have hr2:T-(m:Int)<=1073741824:=by omega
 simp only [hr] at hdv
 have HR:=Lib.hid hr
 have q0:wrap64 ((l:Int)*(n:Int))=(m:Int):=by
  rw [hm,show (l:Int)*(n:Int)=((n*l:Nat):Int) by rw [Int.natCast_mul,Int.mul_comm]]
  exact IntWalk.wrap64_in _ (by omega)
 have Q0:=Lib.hid q0
 have HWA:=Lib.hid hwa
 have HDV:=Lib.hid hdv
 have HAL:=Lib.hid hal
 have HWT:=Lib.hid hwt
 clear q0 hwa hdv hal hwt hm hn hT hr
 go_enter Tryz.func50,Tryz.ntmps50
 go_wp2_with (first|rw [Q0.out]|fail)
 refine (HWA.out _ (by go_grown)).mono ?_
 rintro e w1 ⟨h1,d1,rfl,hw,hb1⟩
 have hw1:Below w.heap.size w w1:=hb1
 have hz1:=hw1.size
 have hlo:=(hw.lt h1 rfl)
 have hh1:=hlo.1
 have hh2:=hlo.2
 have hown0:(w1.alloc (.cells (madeCells #[.int .i64 0] n) 3)).ownsRow w.heap.size 3 1 (.slice (some ⟨w1.heap.size,0,none⟩) n n) n (ics (mixL (fun _=>(l:Int)) (fun _=>0) 0 n)):=by
  rw [mixL_none,<-made_ints]
  exact World.ownsRow_lit _ _ n (by omega) (by unfold maxLen;omega) (by simp [madeCells])
 have hwa2:(w1.alloc (.cells (madeCells #[.int .i64 0] n) 3)).ownsRow w.heap.size 2 1 (.slice (some ⟨h1,0,none⟩) n d1) n (ics ((List.range n).map fun j=>((wt j:Nat):Int))):=hw.alloc _
 clear hb1 hw hlo HWA
 obtain ⟨a,ha⟩:∃a,a=sumF wt n:=⟨_,rfl⟩
 rw [<-ha] at HDV HAL ⊢
 clear ha
 go_wp2_with (first|rw [Q0.out]|fail)
 go_loopw [55] (fun s55 wr=>∃k:Nat,k<=n/\s55 = .int .i64 k /\
  wr.ownsRow w.heap.size 3 1 (.slice (some ⟨w1.heap.size,0,none⟩) n n) n (ics (mixL (fun _=>(l:Int)) (fun _=>0) k n)) /\
  wr.ownsRow w.heap.size 2 1 (.slice (some ⟨h1,0,none⟩) n d1) n (ics ((List.range n).map fun j=>((wt j:Nat):Int)))/\Below w.heap.size w wr) (fun s55 _=>n-(intOf s55).toNat)
 case atStart=>exact ⟨0,Nat.zero_le _,rfl,hown0,hwa2,by go_grown⟩
 case round=>
  clear hown0 hwa2 hw1 hmk
  obtain ⟨k,hk,rfl,ho,hw,hb⟩:=hrel
  have hz:=hb.size
  have hgz:=(ho.lt w1.heap.size rfl).2
  by_cases hlt:k<n
  ·have hset:=mixL_set (fun _=>(l:Int)) (fun _=>0) k n
   obtain ⟨v0,d0⟩:∃v,wr.cell? ⟨w1.heap.size,k,none⟩=some v:=⟨_,(ho.cellAt k (by omega)).trans (List.getElem?_eq_getElem (by rw [ics_len,mixL_len];exact hlt))⟩
   have f0:=ho.frozenAt k
   have HSET:=Lib.hid hset
   clear hset
   go_wp2_with fail
   go_roundw
   case rel=>
    have hst:=ho.stored k (.int .i64 (l:Nat))
    refine ⟨k+1,by omega,by go_num,?_,?_,by go_grown⟩
    ·have:=hst.1
     rw [ics_set,HSET.out] at this
     exact this
    ·exact hw.kept hst.2 (.inr (by simp [Value.ownBlock];omega))
   case measure=>simp [intOf];omega
  ·have hkn:k=n:=by omega
   have e1:mixL (fun _=>(l:Int)) (fun _=>0) k n=(List.range n).map fun _=>(l:Int):=by rw [hkn,mixL_full]
   rw [e1] at ho
   have hoc:=range_map_at (fun _=>(l:Int)) n 0 (by omega)
   have d0:wr.cell? ⟨w1.heap.size,0,none⟩=some (.int .i64 (l:Nat)):=(ho.cellAt 0 (by omega)).trans hoc
   have f0:=ho.frozenAt 0
   clear e1 hkn hoc
   by_cases ha:a=0
   ·have HA2:=Lib.hid (HAL.out ha n1)
    subst ha
    clear HAL HDV
    go_wp2_with fail
    go_ret2
    have hst:=ho.stored 0 (.int .i64 ((l:Int)+(T-m)))
    refine ⟨some ⟨w1.heap.size,0,none⟩,n,rfl,?_,by go_grown⟩
    have:=hst.1
    rw [ics_set,<-HR.out,show (l:Int)+(r:Int)=((l+r:Nat):Int) from rfl,HA2.out] at this
    rw [<-HR.out]
    exact this
   ·have ha2:((a:Int) == 0)=false:=by simp;omega
    go_wp2_with fail
    refine (HDV.out w1.heap.size h1 n d1 w.heap.size _ (by omega) (by omega) ho hw).mono ?_
    rintro e w2 ⟨rfl,ho2,hb2⟩
    have hw2:=hb.trans hb2
    go_wp2
    go_ret2
    exact ⟨some ⟨w1.heap.size,0,none⟩,n,rfl,ho2,hw2⟩
end Go.Proofs.YtgfjmgebecmbiaaGreat
