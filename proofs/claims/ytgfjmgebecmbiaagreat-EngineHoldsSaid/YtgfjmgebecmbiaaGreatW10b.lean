import Derived.WalkKit
import Derived.Laws.FloatArith
import Derived.Test.YtgfjmgebecmbiaaGreatM12c
import Derived.Test.YtgfjmgebecmbiaaGreatOpenI
set_option linter.unusedSimpArgs false
set_option linter.unusedVariables false
set_option maxHeartbeats 1000000
namespace Go.Proofs.YtgfjmgebecmbiaaGreat.M
open Lib(hid)
open Ieee
def fl (n:Nat):Nat:=Ieee.double.nearest false n 0
theorem Zks (n:Nat):Go.floatOfInt .f64 (n:Int)=fl n:=by
 unfold Go.floatOfInt FloatKind.nearest FloatKind.encode fl
 show Ieee.double.write (.number (decide ((n:Int)<0)) (n:Int).natAbs 0)=_
 have h:decide ((n:Int)<0)=false:=by simp
 rw [h,Int.natAbs_natCast]
 rfl
theorem Zpk (way:Toward) (hw:way = .down\/way = .zero) (n d:Nat):way.cut false n d=n/2^d:=by
 have key:n/(1 <<< min d (n.log2+2))=n/2^d:=by
  rw [Nat.shiftLeft_eq,Nat.one_mul]
  by_cases h:d<=n.log2+2
  ·rw [Nat.min_eq_left h]
  ·rw [Nat.min_eq_right (by omega)]
   have hn:n<2^(n.log2+1):=Nat.lt_log2_self
   rw [Nat.div_eq_of_lt (Nat.lt_of_lt_of_le hn (Nat.pow_le_pow_right (by omega) (by omega))),Nat.div_eq_of_lt (Nat.lt_of_lt_of_le hn (Nat.pow_le_pow_right (by omega) (by omega)))]
 unfold Toward.cut
 rcases hw with rfl | rfl<;>simp [key]
theorem Zpl (n d:Nat):Toward.even.cut false (n*2^d) d=n:=by
 by_cases h0:n=0
 ·subst h0
  simp [Toward.cut]
 ·have hp:=Nat.two_pow_pos d
  have h1:2^d<=n*2^d:=Nat.le_mul_of_pos_left _ (by omega)
  have hl:d<=(n*2^d).log2+2:=by
   have:=(Nat.le_log2 (n:=n*2^d) (k:=d) (by omega)).2 h1
   omega
  have e1:n*2^d/2^d=n:=Nat.mul_div_cancel _ hp
  have e2:n*2^d%2^d=0:=Nat.mul_mod_left _ _
  have e3:((2:Nat)^d == 0)=false:=by simp
  unfold Toward.cut
  simp only [Nat.min_eq_left hl,Nat.shiftLeft_eq,Nat.one_mul,e1,e2,Nat.mul_zero,e3,Bool.false_and,Bool.or_false]
  simp
theorem Zvn (n k:Nat) (h0:0<n):(n*2^k).log2=n.log2+k:=by
 have hp:=Nat.two_pow_pos k
 rw [Nat.log2_eq_iff (by have:=Nat.mul_pos h0 hp;omega)]
 have h1:=Nat.log2_self_le (n:=n) (by omega)
 have h2:=Nat.lt_log2_self (n:=n)
 refine ⟨?_,?_⟩
 ·rw [Nat.pow_add]
  exact Nat.mul_le_mul_right _ h1
 ·rw [show n.log2+k+1=(n.log2+1)+k by omega,Nat.pow_add]
  exact Nat.mul_lt_mul_of_pos_right h2 hp
theorem lp:Ieee.double.leastPlace = -1074:=by decide +kernel
theorem bin:Ieee.double.binade=4503599627370496:=by decide +kernel
theorem infr:Ieee.double.infRung=9218868437227405312:=by decide +kernel
theorem sgw:Ieee.double.signWeight=9223372036854775808:=by decide +kernel
theorem frb:(Ieee.double.fractionBits:Int)=52:=rfl
theorem Z02 (r:Nat):Ieee.double.word false r=r:=rfl
theorem Z4h (n:Nat) (h0:0<n) (hn:n<9007199254740992):n.log2<=52/\4503599627370496<=n*2^(52-n.log2)/\n*2^(52-n.log2)<9007199254740992:=by
 have hl:n.log2<=52:=by
  have:=(Nat.log2_lt (n:=n) (k:=53) (by omega)).2 (by omega)
  omega
 have h1:=Nat.log2_self_le (n:=n) (by omega)
 have h2:=Nat.lt_log2_self (n:=n)
 have e:2^n.log2*2^(52-n.log2)=4503599627370496:=by rw [<-Nat.pow_add,show n.log2+(52-n.log2)=52 by omega]
 have e2:2^(n.log2+1)*2^(52-n.log2)=9007199254740992:=by rw [<-Nat.pow_add,show n.log2+1+(52-n.log2)=53 by omega]
 refine ⟨hl,?_,?_⟩
 ·rw [<-e];exact Nat.mul_le_mul_right _ h1
 ·rw [<-e2];exact Nat.mul_lt_mul_of_pos_right h2 (Nat.two_pow_pos _)
theorem Zml (n k:Nat) (h0:0<n) (hn:n<9007199254740992):Ieee.double.nearest false (n*2^k) (-(k:Int))=(n.log2+1022)*4503599627370496+n*2^(52-n.log2):=by
 obtain ⟨hl,s1,s2⟩:=Z4h n h0 hn
 have hm:n*2^k≠0:=by have:=Nat.mul_pos h0 (Nat.two_pow_pos k);omega
 unfold Format.nearest
 rw [if_neg hm,Zvn n k h0,lp,infr,bin,frb]
 dsimp only
 have hlast:max (-(k:Int)+((n.log2+k:Nat):Int)-52) (-1074)=(n.log2:Int)-52:=by omega
 rw [hlast]
 have hkept:Toward.even.cut false ((n*2^k) <<< (-(k:Int)-((n.log2:Int)-52)).toNat) ((n.log2:Int)-52 - -(k:Int)).toNat=n*2^(52-n.log2):=by
  by_cases h:k<=52-n.log2
  ·rw [show ((n.log2:Int)-52 - -(k:Int)).toNat=0 by omega,show (-(k:Int)-((n.log2:Int)-52)).toNat=52-n.log2-k by omega,Nat.shiftLeft_eq,Nat.mul_assoc,<-Nat.pow_add,show k+(52-n.log2-k)=52-n.log2 by omega]
   have:=Zpl (n*2^(52-n.log2)) 0
   rwa [Nat.pow_zero,Nat.mul_one] at this
  ·rw [show ((n.log2:Int)-52 - -(k:Int)).toNat=n.log2+k-52 by omega,show (-(k:Int)-((n.log2:Int)-52)).toNat=0 by omega,Nat.shiftLeft_eq,Nat.pow_zero,Nat.mul_one]
   have:=Zpl (n*2^(52-n.log2)) (n.log2+k-52)
   rwa [Nat.mul_assoc,<-Nat.pow_add,show 52-n.log2+(n.log2+k-52)=k by omega] at this
 rw [hkept,Z02,show ((n.log2:Int)-52 - -1074).toNat=n.log2+1022 by omega,Nat.min_eq_left (by omega)]
theorem Z9d (n:Nat) (h0:0<n) (hn:n<9007199254740992):fl n=(n.log2+1022)*4503599627370496+n*2^(52-n.log2):=by
 have:=Zml n 0 h0 hn
 rwa [Nat.pow_zero,Nat.mul_one] at this
theorem Zzn:fl 0=0:=by decide +kernel
theorem Zn9:Ieee.double.read 0 = .number false 0 (-1074):=by decide +kernel
theorem Z1r:Ieee.double.read 4742290407621132288 = .number false 4503599627370496 (-22):=by decide +kernel
theorem Z8h:fl 1073741824=4742290407621132288:=by decide +kernel
def Is (d:Datum) (n:Nat):Prop:=∃k:Nat,d = .number false (n*2^k) (-(k:Int))
theorem Z5k (n:Nat) (h0:0<n) (hn:n<9007199254740992):Ieee.double.read (fl n) = .number false (n*2^(52-n.log2)) (-((52-n.log2:Nat):Int)):=by
 obtain ⟨hl,s1,s2⟩:=Z4h n h0 hn
 rw [Z9d n h0 hn]
 generalize n*2^(52-n.log2)=m at *
 unfold Format.read
 rw [sgw,bin,infr,lp]
 dsimp only
 rw [show ((n.log2+1022)*4503599627370496+m)/9223372036854775808=0 from Nat.div_eq_of_lt (by omega),Nat.mod_eq_of_lt (show (n.log2+1022)*4503599627370496+m<9223372036854775808 by omega)]
 rw [if_neg (by omega),if_pos (by omega)]
 have e1:4503599627370496+((n.log2+1022)*4503599627370496+m)%4503599627370496=m:=by omega
 have e2:((n.log2+1022)*4503599627370496+m)/4503599627370496-1=n.log2+1022:=by omega
 rw [e1,e2,show (-1074:Int)+((n.log2+1022:Nat):Int) = -((52-n.log2:Nat):Int) by omega]
 rfl
theorem Zxp (n:Nat) (hn:n<9007199254740992):Is (Ieee.double.read (fl n)) n:=by
 by_cases h0:0<n
 ·exact ⟨_,Z5k n h0 hn⟩
 ·obtain rfl:n=0:=by omega
  obtain ⟨K,hK⟩:∃K:Nat,(-1074:Int) = -(K:Int):=⟨1074,rfl⟩
  exact ⟨K,by rw [Zzn,Zn9,Nat.zero_mul,hK]⟩
theorem Zrv (a b:Int):compare a b=if a<b then .lt else if a=b then .eq else .gt:=rfl
theorem Zc0 (m u:Nat):signed false m u=((m*2^u:Nat):Int):=by
 unfold signed
 rw [if_neg (by simp),Nat.shiftLeft_eq]
def wtD:Datum->Nat
 | .number false m e=>min 1073741824 ((m <<< e.toNat)/2^(-e).toNat)
 | .infinity false=>1073741824
 | _=>0
def wtN (x:Nat):Nat:=wtD (Ieee.double.read x)
theorem Z7j (x:Nat):wtN x<=1073741824:=by
 unfold wtN wtD
 split<;>omega
theorem Z41 (m:Nat) (e:Int):((Datum.number false m e).order (.number false 4503599627370496 (-22))=some .gt)↔1073741824*2^(-e).toNat<m*2^e.toNat:=by
 show (some (compare (signed false m (e-min e (-22)).toNat) (signed false 4503599627370496 (-22-min e (-22)).toNat))=some .gt)↔_
 rw [Zc0,Zc0,Zrv]
 have key:(4503599627370496*2^(-22-min e (-22)).toNat<m*2^(e-min e (-22)).toNat)↔1073741824*2^(-e).toNat<m*2^e.toNat:=by
  by_cases h1:0<=e
  ·rw [show (-22-min e (-22)).toNat=0 by omega,show (e-min e (-22)).toNat=e.toNat+22 by omega,show (-e).toNat=0 by omega,Nat.pow_add,<-Nat.mul_assoc]
   omega
  ·by_cases h2 : -22<=e
   ·rw [show (-22-min e (-22)).toNat=0 by omega,show e.toNat=0 by omega]
    have e1:(4503599627370496:Nat)=1073741824*2^(-e).toNat*2^(e-min e (-22)).toNat:=by rw [Nat.mul_assoc,<-Nat.pow_add,show (-e).toNat+(e-min e (-22)).toNat=22 by omega]
    rw [Nat.pow_zero,Nat.mul_one,Nat.mul_one,e1]
    exact Nat.mul_lt_mul_right (Nat.two_pow_pos _)
   ·rw [show (e-min e (-22)).toNat=0 by omega,show e.toNat=0 by omega,show (-e).toNat=(-22-min e (-22)).toNat+22 by omega,Nat.pow_add]
    omega
 rw [<-key]
 generalize 4503599627370496*2^(-22-min e (-22)).toNat=a
 generalize m*2^(e-min e (-22)).toNat=b
 by_cases h1:(b:Int)<(a:Int)
 ·rw [if_pos h1]
  simp;omega
 ·by_cases h2:(b:Int)=(a:Int)
  ·rw [if_neg h1,if_pos h2]
   simp;omega
  ·rw [if_neg h1,if_neg h2]
   simp;omega
theorem Zp5 (s:Bool) (m:Nat) (e:Int):((Datum.number s m e).order (.number false 0 (-1074))=some .gt)↔s=false/\0<m:=by
 show (some (compare (signed s m (e-min e (-1074)).toNat) (signed false 0 (-1074-min e (-1074)).toNat))=some .gt)↔_
 rw [Zc0,Nat.zero_mul,Zrv]
 have hp:=Nat.two_pow_pos (e-min e (-1074)).toNat
 cases s
 ·rw [Zc0]
  by_cases h:0<m
  ·have:=Nat.mul_pos h hp
   rw [if_neg (by omega),if_neg (by omega)]
   simp [h]
  ·obtain rfl:m=0:=by omega
   rw [Nat.zero_mul]
   simp
 ·unfold signed
  rw [if_pos rfl,Nat.shiftLeft_eq]
  by_cases h:0<m
  ·have:=Nat.mul_pos h hp
   rw [if_pos (by omega)]
   simp
  ·obtain rfl:m=0:=by omega
   rw [Nat.zero_mul]
   simp
theorem Z79 (m:Nat) (e:Int):¬((Datum.number true m e).order (.number false 4503599627370496 (-22))=some .gt):=by
 show ¬(some (compare (signed true m (e-min e (-22)).toNat) (signed false 4503599627370496 (-22-min e (-22)).toNat))=some .gt)
 rw [Zc0,Zrv]
 unfold signed
 rw [if_pos rfl]
 have h:=Nat.mul_pos (show 0<4503599627370496 by omega) (Nat.two_pow_pos (-22-min e (-22)).toNat)
 generalize 4503599627370496*2^(-22-min e (-22)).toNat=z at h ⊢
 generalize m <<< (e-min e (-22)).toNat=y
 rw [if_pos (by omega)]
 simp
theorem Z00 (x:Nat) :
 ((Ieee.double.order x 4742290407621132288 == some .gt)=true/\wtN x=1073741824) \/
 ((Ieee.double.order x 4742290407621132288 == some .gt)=false/\(Ieee.double.order x 0 == some .gt)=true /\
   ∃m e,Ieee.double.read x = .number false m e/\wtN x=(m <<< e.toNat)/2^(-e).toNat) \/
 ((Ieee.double.order x 4742290407621132288 == some .gt)=false/\(Ieee.double.order x 0 == some .gt)=false/\wtN x=0):=by
 unfold wtN Format.order
 rw [Z1r,Zn9]
 generalize hd:Ieee.double.read x=d
 match d with
 | .nan s t=>exact .inr (.inr ⟨rfl,rfl,rfl⟩)
 | .infinity true=>exact .inr (.inr ⟨rfl,rfl,rfl⟩)
 | .infinity false=>exact .inl ⟨rfl,rfl⟩
 | .number true m e=>
  refine .inr (.inr ⟨?_,?_,rfl⟩)
  ·have:=Z79 m e
   simpa using this
  ·have:=(Zp5 true m e).1
   simpa using this
 | .number false m e=>
  have hp:=Nat.two_pow_pos (-e).toNat
  by_cases hb:1073741824*2^(-e).toNat<m*2^e.toNat
  ·refine .inl ⟨by simpa using (Z41 m e).2 hb,?_⟩
   show min 1073741824 ((m <<< e.toNat)/2^(-e).toNat)=_
   rw [Nat.shiftLeft_eq]
   have:=(Nat.le_div_iff_mul_le hp).2 (Nat.le_of_lt hb)
   omega
  ·have hle:(m <<< e.toNat)/2^(-e).toNat<=1073741824:=by
    rw [Nat.shiftLeft_eq]
    have h1:m*2^e.toNat<=1073741824*2^(-e).toNat:=by omega
    have h2:=Nat.div_le_div_right (c:=2^(-e).toNat) h1
    rwa [Nat.mul_div_cancel _ hp] at h2
   have hb2:¬((Datum.number false m e).order (.number false 4503599627370496 (-22))=some .gt):=fun h=>hb ((Z41 m e).1 h)
   by_cases h0:0<m
   ·exact .inr (.inl ⟨by simpa using hb2,by simpa using (Zp5 false m e).2 ⟨rfl,h0⟩,m,e,rfl,by show min _ _=_;omega⟩)
   ·obtain rfl:m=0:=by omega
    refine .inr (.inr ⟨by simpa using hb2,?_,?_⟩)
    ·have:=fun h=>(Zp5 false 0 e).1 h
     simpa using this
    ·show min 1073741824 ((0 <<< e.toNat)/2^(-e).toNat)=_
     simp
theorem Z9m (n:Nat) (hn:n<9007199254740992):wtN (fl n)=min 1073741824 n:=by
 obtain ⟨k,hk⟩:=Zxp n hn
 unfold wtN
 rw [hk]
 show min 1073741824 (((n*2^k) <<< (-(k:Int)).toNat)/2^(- -(k:Int)).toNat)=_
 rw [show (-(k:Int)).toNat=0 by omega,show (- -(k:Int)).toNat=k by omega,Nat.shiftLeft_eq,Nat.pow_zero,Nat.mul_one,Nat.mul_div_cancel _ (Nat.two_pow_pos k)]
theorem Z08 (m:Nat) (e:Int):(Datum.number false m e).toInt .zero=some ((((m <<< e.toNat)/2^(-e).toNat:Nat)):Int):=by
 show some (signed false (Toward.zero.cut false (m <<< e.toNat) (-e).toNat) 0)=_
 rw [Zpk _ (.inr rfl),Zc0,Nat.pow_zero,Nat.mul_one]
theorem Z3d (m:Nat) (e:Int):FloatKind.f64.encode ((Datum.number false m e).integral .down)=fl ((m <<< e.toNat)/2^(-e).toNat):=by
 show Ieee.double.write (.number false (Toward.down.cut false (m <<< e.toNat) (-e).toNat) 0)=_
 rw [Zpk _ (.inl rfl)]
 rfl
theorem Z1a (x m:Nat) (e:Int) (h:Ieee.double.read x = .number false m e) (hl:(m <<< e.toNat)/2^(-e).toNat<=1073741824):floatToIntVal .f64 x .i64=some ((((m <<< e.toNat)/2^(-e).toNat:Nat)):Int):=by
 unfold floatToIntVal
 show (match (Ieee.double.read x).toInt .zero with | some n=>_ | none=>_)=_
 rw [h,Z08]
 generalize (m <<< e.toNat)/2^(-e).toNat=z at hl ⊢
 dsimp only
 rw [if_pos]
 constructor
 ·rw [show IntKind.i64.min = -9223372036854775808 by decide +kernel];omega
 ·rw [show IntKind.i64.max=9223372036854775807 by decide +kernel];omega
theorem Z09 (n:Nat) (hn:n<=1073741824):floatToIntVal .f64 (fl n) .i64=some (n:Int):=by
 obtain ⟨k,hk⟩:=Zxp n (by omega)
 have e:((n*2^k) <<< (-(k:Int)).toNat)/2^(- -(k:Int)).toNat=n:=by
  rw [show (-(k:Int)).toNat=0 by omega,show (- -(k:Int)).toNat=k by omega,Nat.shiftLeft_eq,Nat.pow_zero,Nat.mul_one,Nat.mul_div_cancel _ (Nat.two_pow_pos k)]
 have:=Z1a (fl n) _ _ hk (by rw [e];exact hn)
 rwa [e] at this
end Go.Proofs.YtgfjmgebecmbiaaGreat.M
namespace Go.Proofs.YtgfjmgebecmbiaaGreat
open Lib(hid)
section
open Go.ChangeShapes Go.WideShapes Go.ChangeAt Go.RowKit Go.Joins Go.Deep Go.Sort M
def fcs (X:List Nat):List Value:=X.map fun x => .float .f64 x
theorem Z6h (X:List Nat):(fcs X).length=X.length:=by simp [fcs]
theorem Zv1 (X Y:List Nat):fcs (X++Y)=fcs X++fcs Y:=by simp [fcs]
theorem Z6g (x:Nat):fcs [x]=[.float .f64 x]:=rfl
theorem Z3h (X:List Nat) (k:Nat) (h:k<X.length):(fcs X)[k]? = some (.float .f64 X[k]):=by simp [fcs,h]
theorem Z9c:(Tryz.prog.info? 132).map (fun i=>(i.zero,i.size,i.bytes))=some (some (.float .f64 0),1,8):=by kernel_rfl
theorem Row.atF {w:World} {p:Option Addr} {X:List Nat} (h:Row w p (fcs X)) {k:Nat} (hk:k<X.length):∃g o,p=some ⟨g,o,none⟩/\g<w.heap.size/\w.cell? ⟨g,o+k,none⟩=some (.float .f64 X[k]):=by
 rcases h with h | ⟨g,o,e,hg,hc⟩
 ·have:=Z6h X
  rw [h] at this
  simp at this;omega
 ·exact ⟨g,o,e,hg,hc k _ (Z3h X k hk)⟩
section
variable {H:Type} {enc:TypeId×Value->H} {w:World} {base:Nat} {spare:Nat->Bool} {held:Bool} {r:Reach} {b0:Nat}
end
end
section
open Go.RowKit Go.Sort M
theorem gt64 {x y:Nat} {b:Bool} (h:(Ieee.double.order x y == some .gt)=b):(FloatKind.f64.format.order x y == some .gt)=b:=h
theorem Zwa (x m:Nat) (e:Int) (h:Ieee.double.read x = .number false m e) (w:World) :
 (callFunc 166 #[.float .f64 x]).run Tryz.prog w = .ok (.value (.float .f64 (fl ((m <<< e.toNat)/2^(-e).toNat)))) w:=by
 rw [run_callFunc_extern Tryz.func166 (by kernel_rfl) (by kernel_rfl) (by kernel_rfl) (e := Extern.MathFloor.toIntegral "math.archFloor" .down) (by kernel_rfl)]
 have hd:FloatKind.f64.decode x = .number false m e:=h
 have hi : (Extern.MathFloor.toIntegral "math.archFloor" .down #[.float .f64 x]) = (pure (.float .f64 (fl ((m <<< e.toNat) / 2 ^ (-e).toNat))) : Sem Value) := by
  rw [<-Z3d]
  show (match FloatKind.f64.decode x with | .nan s t=>_ | d=>_)=_
  rw [hd]
 rw [hi]
 rfl
theorem Zzm (x m:Nat) (e:Int) (h:Ieee.double.read x = .number false m e):Zak Tryz.prog 126 #[.float .f64 x] (.float .f64 (fl ((m <<< e.toNat)/2^(-e).toNat))):=by
 intro w
 have hc:=Zwa x m e h
 generalize (m <<< e.toNat)/2^(-e).toNat=T at hc ⊢
 clear h
 go_enter Tryz.func126,Tryz.ntmps126
 go_wp2_with (simp only [hc])
 go_ret
 exact ⟨rfl,by go_grown⟩
theorem Zue (x:Nat):Zak Tryz.prog 97 #[.float .f64 x] (.float .f64 (fl (wtN x))):=by
 intro w
 rcases Z00 x with ⟨h1,hw⟩ | ⟨h1,h2,m,e,hr,hw⟩ | ⟨h1,h2,hw⟩
 ·rw [hw,Z8h]
  clear hw
  replace h1:=gt64 h1
  go_enter Tryz.func97,Tryz.ntmps97
  go_wp2
  go_ret
  exact ⟨rfl,by go_grown⟩
 ·have HF:=Zzm x m e hr
  rw [<-hw] at HF
  replace HF:=hid HF
  clear hw hr
  replace h1:=gt64 h1
  replace h2:=gt64 h2
  go_enter Tryz.func97,Tryz.ntmps97
  go_wp2_with fail
  refine (HF.out _).mono ?_
  rintro e w1 ⟨rfl,hb1⟩
  go_wp2
  go_ret
  exact ⟨rfl,by go_grown⟩
 ·rw [hw,Zzn]
  clear hw
  replace h1:=gt64 h1
  replace h2:=gt64 h2
  go_enter Tryz.func97,Tryz.ntmps97
  go_wp2
  go_ret
  exact ⟨rfl,by go_grown⟩
end
end Go.Proofs.YtgfjmgebecmbiaaGreat
namespace Go.Proofs.YtgfjmgebecmbiaaGreat.M
open Lib(hid)
def sumF (f:Nat->Nat):Nat->Nat
 | 0=>0
 | n+1=>sumF f n+f n
theorem Znn {f g:Nat->Nat}:∀n,(∀j,j<n->f j=g j)->sumF f n=sumF g n
 | 0,_=>rfl
 | n+1,h=>by
  show sumF f n+f n=sumF g n+g n
  rw [Znn n (fun j hj=>h j (by omega)),h n (by omega)]
theorem Z1i (f:Nat->Nat) (c:Nat):∀n,sumF (fun j=>c*f j) n=c*sumF f n
 | 0=>rfl
 | n+1=>by
  show sumF _ n+c*f n=c*(sumF f n+f n)
  rw [Z1i f c n,Nat.mul_add]
theorem Zl8 (f g:Nat->Nat):∀n,sumF (fun j=>f j+g j) n=sumF f n+sumF g n
 | 0=>rfl
 | n+1=>by
  show sumF _ n+(f n+g n)=sumF f n+f n+(sumF g n+g n)
  rw [Zl8 f g n];omega
theorem Zk0 (c:Nat):∀n,sumF (fun _=>c) n=n*c
 | 0=>by simp [sumF]
 | n+1=>by
  show sumF _ n+c=(n+1)*c
  rw [Zk0 c n,Nat.add_mul,Nat.one_mul]
theorem Zno {f:Nat->Nat} {i n:Nat} (h:i<=n):sumF f i<=sumF f n:=by
 induction n with
 | zero=>
  obtain rfl:i=0:=by omega
  exact Nat.le_refl _
 | succ n ih=>
  by_cases e:i=n+1
  ·subst e;exact Nat.le_refl _
  ·exact Nat.le_trans (ih (by omega)) (Nat.le_add_right _ _)
theorem Zk1 {f:Nat->Nat} {c:Nat} (h:∀j,f j<=c):∀n,sumF f n<=n*c
 | 0=>by simp [sumF]
 | n+1=>by
  show sumF f n+f n<=(n+1)*c
  rw [Nat.add_mul,Nat.one_mul]
  exact Nat.add_le_add (Zk1 h n) (h n)
theorem Z1h {f:Nat->Nat} {j n:Nat} (h:j<n):f j<=sumF f n:=by
 have h1:sumF f (j+1)<=sumF f n:=Zno (by omega)
 have h2:sumF f (j+1)=sumF f j+f j:=rfl
 omega
def cutP (w:Nat->Nat) (left all:Nat) (j:Nat):Nat:=w j*left/all
def ov (w:Nat->Nat) (o:Nat):Nat->Nat
 | 0=>o
 | j+1=>if 0<ov w o j/\0<w j then ov w o j-1 else ov w o j
def deal (w:Nat->Nat) (o j:Nat):Nat:=if 0<ov w o j/\0<w j then 1 else 0
theorem Zx5 (w:Nat->Nat) (o j:Nat):ov w o (j+1)+deal w o j=ov w o j:=by
 show (if 0<ov w o j/\0<w j then ov w o j-1 else ov w o j)+(if 0<ov w o j/\0<w j then 1 else 0)=_
 by_cases h:0<ov w o j/\0<w j
 ·rw [if_pos h,if_pos h];omega
 ·rw [if_neg h,if_neg h];omega
theorem Z70 (w:Nat->Nat) (o:Nat):∀j,ov w o j<=o
 | 0=>Nat.le_refl _
 | j+1=>by have:=Zx5 w o j;have:=Z70 w o j;omega
def posF (w:Nat->Nat):Nat->Nat:=sumF fun j=>if 0<w j then 1 else 0
theorem Z4n (w:Nat->Nat) (o:Nat):∀j,ov w o j=o-posF w j
 | 0=>rfl
 | j+1=>by
  have ih:=Z4n w o j
  have e:posF w (j+1)=posF w j+if 0<w j then 1 else 0:=rfl
  show (if 0<ov w o j/\0<w j then ov w o j-1 else ov w o j)=_
  rw [e,ih]
  by_cases h:0<w j
  ·rw [if_pos h]
   by_cases h2:0<o-posF w j
   ·rw [if_pos ⟨h2,h⟩];omega
   ·rw [if_neg (fun x=>h2 x.1)];omega
  ·rw [if_neg h,if_neg (fun x=>h x.2)];omega
theorem Z4m (w:Nat->Nat) (o:Nat):∀j,ov w o j+sumF (deal w o) j=o
 | 0=>rfl
 | j+1=>by
  have e:sumF (deal w o) (j+1)=sumF (deal w o) j+deal w o j:=rfl
  have:=Zx5 w o j
  have:=Z4m w o j
  omega
theorem Zi6 (w:Nat->Nat) (left n:Nat) (h:0<sumF w n):∀i,i<=n->sumF (cutP w left (sumF w n)) i<=left:=by
 intro i hi
 have key:∀k,sumF w n*sumF (cutP w left (sumF w n)) k<=left*sumF w k:=by
  intro k
  induction k with
  | zero=>simp [sumF]
  | succ k ih=>
   show sumF w n*(sumF _ k+cutP w left (sumF w n) k)<=left*(sumF w k+w k)
   rw [Nat.mul_add,Nat.mul_add]
   refine Nat.add_le_add ih ?_
   rw [Nat.mul_comm left]
   exact Nat.mul_div_le _ _
 have h1:=key i
 have h2:left*sumF w i<=left*sumF w n:=Nat.mul_le_mul_left _ (Zno hi)
 have h3:sumF w n*sumF (cutP w left (sumF w n)) i<=sumF w n*left:=by rw [Nat.mul_comm (sumF w n) left];exact Nat.le_trans h1 h2
 exact Nat.le_of_mul_le_mul_left h3 h
theorem Zvb (w:Nat->Nat) (left n:Nat) (h:0<sumF w n):left-sumF (cutP w left (sumF w n)) n<=posF w n:=by
 have key:∀k,left*sumF w k<=sumF w n*sumF (cutP w left (sumF w n)) k+(sumF w n-1)*posF w k:=by
  intro k
  induction k with
  | zero=>simp [sumF]
  | succ k ih=>
   have e:posF w (k+1)=posF w k+if 0<w k then 1 else 0:=rfl
   show left*(sumF w k+w k)<=sumF w n*(sumF _ k+cutP w left (sumF w n) k)+(sumF w n-1)*posF w (k+1)
   rw [e,Nat.mul_add,Nat.mul_add,Nat.mul_add]
   have hd:left*w k<=sumF w n*cutP w left (sumF w n) k+(sumF w n-1)*(if 0<w k then 1 else 0):=by
    by_cases h0:0<w k
    ·rw [if_pos h0,Nat.mul_one]
     unfold cutP
     have h1:=Nat.div_add_mod (w k*left) (sumF w n)
     have h2:=Nat.mod_lt (w k*left) h
     rw [Nat.mul_comm left]
     omega
    ·rw [show w k=0 by omega];simp
   omega
 have h1:=key n
 have h2:=Zi6 w left n h n (Nat.le_refl _)
 generalize sumF (cutP w left (sumF w n)) n=s at *
 generalize sumF w n=a at *
 generalize posF w n=p at *
 have h3:a*(left-s)<=(a-1)*p:=by
  rw [Nat.mul_sub,Nat.mul_comm a left]
  omega
 have h4:(a-1)*p<=a*p:=Nat.mul_le_mul_right _ (by omega)
 exact Nat.le_of_mul_le_mul_left (Nat.le_trans h3 h4) h
def Zx4 (w:Nat->Nat) (left n:Nat):Nat:=left-sumF (cutP w left (sumF w n)) n
def Zfa (w:Nat->Nat) (least left n j:Nat):Nat:=
 if sumF w n=0 then (if j=0 then least+left else least) else least+cutP w left (sumF w n) j+deal w (Zx4 w left n) j
theorem Zxe (w:Nat->Nat) (least left n:Nat) (hn:0<n):sumF (Zfa w least left n) n=n*least+left:=by
 by_cases h:sumF w n=0
 ·have key:∀k,sumF (Zfa w least left n) (k+1)=(k+1)*least+left:=by
   intro k
   induction k with
   | zero=>
    show 0+Zfa w least left n 0=_
    unfold Zfa
    rw [if_pos h,if_pos rfl];omega
   | succ k ih=>
    show sumF _ (k+1)+Zfa w least left n (k+1)=_
    rw [ih]
    unfold Zfa
    rw [if_pos h,if_neg (by omega),Nat.add_mul (k+1) 1 least]
    omega
  have:=key (n-1)
  rwa [show n-1+1=n by omega] at this
 ·have e:sumF (Zfa w least left n) n=sumF (fun j=>(least+cutP w left (sumF w n) j)+deal w (Zx4 w left n) j) n:=by
   refine Znn n fun j _ => ?_
   unfold Zfa
   rw [if_neg h]
  rw [e,Zl8 (fun j=>least+cutP w left (sumF w n) j),Zl8 (fun _=>least),Zk0]
  have h1:=Z4m w (Zx4 w left n) n
  rw [Z4n] at h1
  have h2:=Zvb w left n (by omega)
  have h3:=Zi6 w left n (by omega) n (Nat.le_refl _)
  unfold Zx4 at *
  have e2:sumF (fun j=>cutP w left (sumF w n) j) n=sumF (cutP w left (sumF w n)) n:=rfl
  have e3:∀o,sumF (fun j=>deal w o j) n=sumF (deal w o) n:=fun _=>rfl
  rw [e2,e3]
  omega
theorem Zga (w:Nat->Nat) (least left n j:Nat):least<=Zfa w least left n j:=by
 unfold Zfa
 split
 ·split<;>omega
 ·omega
theorem Z5p (w:Nat->Nat) (left n j:Nat) (h:j<n) (h0:0<sumF w n):cutP w left (sumF w n) j<=left:=
 Nat.le_trans (Z1h h) (Zi6 w left n h0 n (Nat.le_refl _))
def mixL (f g:Nat->Int) (i n:Nat):List Int:=(List.range n).map fun j=>if j<i then f j else g j
theorem Zg7 (f g:Nat->Int) (i n:Nat):(mixL f g i n).length=n:=by simp [mixL]
theorem Zym (f g:Nat->Int) (i n j:Nat) (h:j<n):(mixL f g i n)[j]? = some (if j<i then f j else g j):=by simp [mixL,h]
theorem Zg6 (f g:Nat->Int) (i n:Nat):(mixL f g i n).set i (f i)=mixL f g (i+1) n:=by
 apply List.ext_getElem?
 intro j
 rw [List.getElem?_set,Zg7]
 by_cases h:j<n
 ·rw [Zym f g (i+1) n j h]
  by_cases e:i=j
  ·subst e
   rw [if_pos rfl,if_pos h,if_pos (by omega)]
  ·rw [if_neg e,Zym f g i n j h]
   by_cases h1:j<i
   ·rw [if_pos h1,if_pos (by omega)]
   ·rw [if_neg h1,if_neg (by omega)]
 ·rw [List.getElem?_eq_none (l:=mixL f g (i+1) n) (by rw [Zg7];omega)]
  by_cases e:i=j
  ·rw [if_pos e,if_neg (by omega)]
  ·rw [if_neg e,List.getElem?_eq_none (by rw [Zg7];omega)]
theorem Zyl {f g:Nat->Int} {i n:Nat} (h:f i=g i):mixL f g i n=mixL f g (i+1) n:=by
 unfold mixL
 refine List.map_congr_left fun j _ => ?_
 by_cases e:j=i
 ·subst e
  rw [if_neg (by omega),if_pos (by omega),h]
 ·by_cases h1:j<i
  ·rw [if_pos h1,if_pos (by omega)]
  ·rw [if_neg h1,if_neg (by omega)]
theorem Zvj {f g f' g':Nat->Int} {i i' n:Nat} (h:∀j,j<n->(if j<i then f j else g j)=(if j<i' then f' j else g' j)):mixL f g i n=mixL f' g' i' n:=by
 unfold mixL
 refine List.map_congr_left fun j hj=>h j (List.mem_range.1 hj)
theorem Zet (f g:Nat->Int) (n:Nat):mixL f g n n=(List.range n).map f:=by
 unfold mixL
 refine List.map_congr_left fun j hj => ?_
 rw [if_pos (List.mem_range.1 hj)]
theorem Zes (f g:Nat->Int) (n:Nat):mixL f g 0 n=(List.range n).map g:=by
 unfold mixL
 refine List.map_congr_left fun j hj => ?_
 rw [if_neg (by omega)]
end Go.Proofs.YtgfjmgebecmbiaaGreat.M
namespace Go.Proofs.YtgfjmgebecmbiaaGreat
open Lib(hid)
open Go.RowKit Go.Sort M
def wtF (X:List Nat) (j:Nat):Nat:=wtN (X.getD j 0)
theorem Zwj (X:List Nat) (j:Nat):wtF X j<=1073741824:=Z7j _
theorem Z7k (X:List Nat) (j:Nat) (h:j<X.length):wtF X j=wtN X[j]:=by simp [wtF,h]
theorem Zot (n:Nat):(madeCells #[.int .i64 0] n).toList=ics ((List.range n).map fun _=>(0:Int)):=by
 apply List.ext_getElem?
 intro j
 by_cases h:j<n
 ·simp [madeCells,ics,h,Nat.mod_one]
 ·rw [List.getElem?_eq_none (by simp [madeCells];omega),List.getElem?_eq_none (by simp [ics];omega)]
theorem Z59:(Tryz.prog.info? 2).map (fun i=>(i.zero,i.size,i.bytes))=some (some (.int .i64 0),1,8):=by kernel_rfl
theorem Zh6 (L:List Int) (k:Nat) (x:Int):(ics L).set k (.int .i64 x)=ics (L.set k x):=by
 unfold ics
 rw [List.map_set]
theorem Zem (f:Nat->Int) (n j:Nat) (h:j<n):(ics ((List.range n).map f))[j]? = some (.int .i64 (f j)):=by simp [ics,h]
theorem Zsy (f g:Nat->Int) (i n j:Nat) (h:j<n):(ics (mixL f g i n))[j]? = some (.int .i64 (if j<i then f j else g j)):=by simp [ics,mixL,h]
theorem Zne (p:Option Addr) (c:Nat) (X:List Nat) (w:World) (hX:Row w p (fcs X)) (h1:1<=X.length) (h2:X.length<=200) :
 Calls Tryz.prog 74 #[.slice p X.length c] w fun e w'=>∃g d,e = .returned (.tuple #[.slice (some ⟨g,0,none⟩) X.length d,.int .i64 (sumF (wtF X) X.length:Nat)]) /\
  w'.ownsRow w.heap.size 2 1 (.slice (some ⟨g,0,none⟩) X.length d) X.length (ics ((List.range X.length).map fun j=>((wtF X j:Nat):Int)))/\Below w.heap.size w w':=by
 obtain ⟨n,hn⟩:∃n,n=X.length:=⟨_,rfl⟩
 have hmk:=Zcm (P:=Tryz.prog) (t:=127) Tryz.underlying127 Z59 n (by omega) (by unfold maxLen;omega)
 have hb:∀k,sumF (wtF X) k<=k*1073741824:=Zk1 (Zwj X)
 have hatw:∀k,k<n->wtF X k=wtN (X.getD k 0):=fun k _=>rfl
 rw [<-hn]
 have HN:=hid hn
 have HX:=hid hX
 have HB:=hid hb
 have hown0:(w.alloc (.cells (madeCells #[.int .i64 0] n) 2)).ownsRow w.heap.size 2 1 (.slice (some ⟨w.heap.size,0,none⟩) n n) n (ics (mixL (fun j=>((wtF X j:Nat):Int)) (fun _=>0) 0 n)):=by
  rw [Zes,<-Zot]
  exact World.ownsRow_lit _ _ n (by omega) (by unfold maxLen;omega) (by simp [madeCells])
 rw [<-hn] at h1 h2
 clear hX hb hatw hn
 go_enter Tryz.func74,Tryz.ntmps74
 go_wp2_with fail
 go_loopw [3,11] (fun s3 s11 wr=>∃k:Nat,k<=n/\s11 = .int .i64 k/\s3 = .int .i64 (sumF (wtF X) k:Nat) /\
  wr.ownsRow w.heap.size 2 1 (.slice (some ⟨w.heap.size,0,none⟩) n n) n (ics (mixL (fun j=>((wtF X j:Nat):Int)) (fun _=>0) k n))/\Below w.heap.size w wr) (fun _ s11 _=>n-(intOf s11).toNat)
 case atStart=>exact ⟨0,Nat.zero_le _,rfl,rfl,hown0,by go_grown⟩
 case round=>
  clear hown0 hmk
  obtain ⟨k,hk,rfl,rfl,hown,hw1⟩:=hrel
  have hz1:=hw1.size
  by_cases hlt:k<n
  ·have hltX:k<X.length:=by rw [<-HN.out];exact hlt
   obtain ⟨g1,o1,rfl,hg1,a0⟩:=(HX.out.below hw1).atF hltX
   have hW:=Zue X[k]
   rw [<-Z7k X k hltX] at hW
   have hu:=Zwj X k
   have hsum:sumF (wtF X) (k+1)=sumF (wtF X) k+wtF X k:=rfl
   have hsb:=HB.out (k+1)
   have hset:=Zg6 (fun j=>((wtF X j:Nat):Int)) (fun _=>0) k n
   have hx:∃y,y=X[k]:=⟨_,rfl⟩
   obtain ⟨y,hy⟩:=hx
   rw [<-hy] at hW a0
   obtain ⟨u,hu2⟩:∃u,u=wtF X k:=⟨_,rfl⟩
   rw [<-hu2] at hW hu hsum hset
   have hcv:∀w,(convert 132 2 (.float .f64 (fl u))).run Tryz.prog w = .ok (.int .i64 (u:Nat)) w:=fun w=>run_convert_float_int w _ _ .f64 .i64 _ _ (by rw [Tryz.underlying132];rfl) Tryz.underlying2 (Z09 u hu)
   generalize fl u=v at hW hcv
   generalize sumF (wtF X) k=S at hsum ⊢
   have HW:=hid hW
   have HS:=hid hsum
   have HSET:=hid hset
   clear hW hset hy
   have hgz:=(hown.lt w.heap.size rfl).2
   have hgl:=(hown.lt w.heap.size rfl).1
   have hSb:S+u<=214748364800:=by rw [<-HS.out];omega
   clear hsb hsum hu2
   go_wp2_with fail
   refine (HW.out _).mono ?_
   rintro e w2 ⟨rfl,hb2⟩
   have hown2:=own_below hown hb2
   have hw2:=hw1.trans (hb2.mono hz1)
   have hgz2:w.heap.size<w2.heap.size:=Nat.lt_of_lt_of_le hgz hb2.size
   obtain ⟨v0,d0⟩:∃v,w2.cell? ⟨w.heap.size,k,none⟩=some v:=⟨_,(hown2.cellAt k (by omega)).trans (List.getElem?_eq_getElem (by rw [Zmu,Zg7];exact hlt))⟩
   have f0:=hown2.frozenAt k
   clear hown hb2 hw1 hz1
   go_wp2_with (simp only [hcv])
   go_roundw
   case rel=>
    refine ⟨k+1,by omega,by go_num,?_,?_,by go_grown⟩
    ·rw [HS.out];go_num
    ·have:=(hown2.stored k (.int .i64 (u:Nat))).1
     rw [Zh6,HSET.out] at this
     exact this
   case measure=>simp [intOf];omega
  ·have hkn:k=n:=by omega
   have HK:=hid hkn
   clear hkn
   go_wp2
   go_ret2
   refine ⟨w.heap.size,n,?_,?_,hw1⟩
   ·rw [HK.out];rfl
   ·have e:=HK.out
    rw [e] at hown
    rwa [Zet] at hown
end Go.Proofs.YtgfjmgebecmbiaaGreat
