import Derived.Test.YtpdphfgpdgadpaaGreatM17b
set_option linter.unusedSimpArgs false
set_option linter.unusedVariables false
set_option maxHeartbeats 1000000
open Go.Proofs.Tryz
namespace Go.Proofs.YtpdphfgpdgadpaaGreat
open Lib(hid)
section
open Go Go.RowKit Go.Sort M
def ablB (wd lo a st:Int):Bool:=decide (1<=wd/\wd<=128/\0<=lo/\lo<=wd/\0<=a/\a<=128/\1<=st/\st<=20)
theorem S9 (a b c d:Int):Aj prog 29 #[.int .i64 a,.int .i64 b,.int .i64 c,.int .i64 d] (.bool (ablB a b c d)):=by
 intro w;by_cases h:ablB a b c d=true
 ·rw [h];unfold ablB at h;obtain ⟨q,p,o,n,m,l,k,i⟩:=of_decide_eq_true h;clear h;go_enter func29,ntmps29;go_wp2;go_ret;exact ⟨rfl,Qg⟩
 ·have j:ablB a b c d=false:=by simpa using h
  rw [j];unfold ablB at h;have f:=λe=>h (decide_eq_true e);clear h j;by_cases q:1<=a
  ·by_cases p:a<=128
   ·by_cases o:0<=b
    ·by_cases n:b<=a
     ·by_cases m:0<=c
      ·by_cases l:c<=128
       ·by_cases k:1<=d
        ·have i:¬d<=20:=λi=>f ⟨q,p,o,n,m,l,k,i⟩;clear f;go_enter func29,ntmps29;go_wp2;go_ret;exact ⟨rfl,Qg⟩
        ·clear f;go_enter func29,ntmps29;go_wp2;go_ret;exact ⟨rfl,Qg⟩
       ·clear f;go_enter func29,ntmps29;go_wp2;go_ret;exact ⟨rfl,Qg⟩
      ·clear f;go_enter func29,ntmps29;go_wp2;go_ret;exact ⟨rfl,Qg⟩
     ·clear f;go_enter func29,ntmps29;go_wp2;go_ret;exact ⟨rfl,Qg⟩
    ·clear f;go_enter func29,ntmps29;go_wp2;go_ret;exact ⟨rfl,Qg⟩
   ·clear f;go_enter func29,ntmps29;go_wp2;go_ret;exact ⟨rfl,Qg⟩
  ·clear f;go_enter func29,ntmps29;go_wp2;go_ret;exact ⟨rfl,Qg⟩
def rgB (st wd:Int):Int->List Int->Bool
 | a,[]=>decide (a=wd)
 | a,b::L=>decide (a<b)&&decide (b-a<=st)&&rgB st wd b L
def Bg (wd lo a st:Int) (L:List Int):Bool:=ablB wd lo a st&&decide ((L.length:Int)<=a)&&rgB st wd lo L
theorem Z1w (st wd lo:Int) (L:List Int) (i:Nat) (hi:i<L.length):rgB st wd lo (L.drop i)=(decide (lo<L[i])&&decide (L[i]-lo<=st)&&rgB st wd L[i] (L.drop (i+1))):=by rw [List.drop_eq_getElem_cons hi];rfl
theorem Zu4 (q:Option Addr) (d:Nat) (L:List Int) (wd lo k st:Int) (w:World) (z:IRow w q L) (hl:L.length<=1000000) (y:∀x∈L,x<=9223372036854775807) :
 Calls prog 45 #[.int .i64 wd,.int .i64 lo,.int .i64 k,.int .i64 st,.slice q L.length d] w λe w'=>e = .returned (.bool (Bg wd lo k st L))/\Below w.heap.size w w':=by
 have m:=S9 wd lo k st;by_cases f:ablB wd lo k st=true/\(L.length:Int)<=k
 ·have c:=f.1;have r:=f.2;have t:Bg wd lo k st L=rgB st wd lo L:=by unfold Bg;rw [c,decide_eq_true r];rfl
  rw [t];rw [c] at m;unfold ablB at c;obtain ⟨h1,h2,E,S,h5,h6,h7,h8⟩:=of_decide_eq_true c;obtain ⟨R,n⟩:=Q' (rgB st wd lo L);rw [<-n];have HL:=hid z;have Y:=hid y;have F:=hid n.symm;have u:=hid m;clear t m c f z n y;go_enter func45,ntmps45;go_wp2_with fail;refine (u.o _).mono ?_;rintro e w1 ⟨rfl,l⟩;go_wp2;go_loopg [1,27] L.length (λO N A wr=>∃(i:Nat) (a:Int),A = .int .i64 (i:Int)/\L.length-i<=O/\i<=L.length/\N = .int .i64 a/\0<=a/\Hid (rgB st wd a (L.drop i)=R)/\Below w.heap.size w wr)
  case atStart=>exact ⟨0,lo,rfl,Qa,Qa,rfl,E,F,l⟩
  case round=>
   clear F l E S;obtain ⟨i,a,rfl,h9,X,rfl,U,I,p⟩:=hrel;by_cases hi:i<L.length
   ·obtain ⟨g,o,rfl,hg,K⟩:=(HL.o.below p).at hi;have j:=Z1w st wd a L i hi;rw [I.o] at j;have C:=Y.o L[i] (Qp hi);obtain ⟨b,s⟩:=Q' (L[i]);rw [<-s] at K j C;have i1:(0:Int)<=(i:Int):=Qa;have i2:(i:Int)<(L.length:Int):=Qa;clear s;by_cases c1:b<=a
    ·have D:Hid (false=R):=by rw [decide_eq_false (by omega:¬a<b)] at j;exact hid j.symm
     clear j;go_wp2;go_ret;exact ⟨Au D.o,p⟩
    ·by_cases c2:st<b-a
     ·have D:Hid (false=R):=by rw [decide_eq_false (by omega:¬b-a<=st)] at j;simp at j;exact hid j.symm
      clear j;go_wp2;go_ret;exact ⟨Au D.o,p⟩
     ·have Z:Hid (rgB st wd b (L.drop (i+1))=R):=by rw [decide_eq_true (by omega:a<b),decide_eq_true (by omega:b-a<=st)] at j;simp at j;exact hid j.symm
      clear j;go_wp2;go_roundg (L.length-(i+1))
      case measure=>omega
      case rel=>exact ⟨i+1,b,Qj,Qa,Qa,rfl,Qa,Z,p⟩
   ·have J:Hid (decide (a=wd)=R):=by have:=I.o;rw [List.drop_eq_nil_of_le Qa] at this;exact hid this
    by_cases B:a=wd
    ·subst B;go_wp2;go_ret;exact ⟨Au (by have:=J.o;simpa using this),p⟩
    ·have Q:(a == wd)=false:=by simpa using B
     go_wp2;go_ret;exact ⟨Au (by have:=J.o;rw [decide_eq_false B] at this;exact this),p⟩
 ·have t:Bg wd lo k st L=false:=by
   unfold Bg;cases h:ablB wd lo k st with
   | false=>rfl
   | true=>rw [decide_eq_false (λe=>f ⟨h,e⟩)];rfl
  rw [t];clear t;by_cases c:ablB wd lo k st=true
  ·rw [c] at m;have r:¬(L.length:Int)<=k:=λh=>f ⟨c,h⟩;have u:=hid m;clear m c z f y;go_enter func45,ntmps45;go_wp2_with fail;refine (u.o _).mono ?_;rintro e w1 ⟨rfl,l⟩;go_wp2;go_ret;exact ⟨rfl,Qg⟩
  ·have c:ablB wd lo k st=false:=by simpa using c
   rw [c] at m;have u:=hid m;clear m c z f y;go_enter func45,ntmps45;go_wp2_with fail;refine (u.o _).mono ?_;rintro e w1 ⟨rfl,l⟩;go_wp2;go_ret;exact ⟨rfl,Qg⟩
end
section
open Go.ChangeShapes Go.WideShapes Go.ChangeAt Go.RowKit Go.Joins Go.Deep Go.Sort M
section
variable {H:Type} {enc:TypeId×Value->H} {w:World} {base:Nat} {spare:Nat->Bool} {held:Bool} {r:Reach} {b0:Nat}
end
end
end Go.Proofs.YtpdphfgpdgadpaaGreat
namespace Go.Proofs.YtpdphfgpdgadpaaGreat.M
open Lib(hid)
open Ieee
def fl (n:Nat):Nat:=Ieee.double.nearest false n 0
theorem Zk0 (n:Nat):Go.floatOfInt .f64 (n:Int)=fl n:=by unfold Go.floatOfInt FloatKind.nearest FloatKind.encode fl;show Ieee.double.write (.number (decide ((n:Int)<0)) (n:Int).natAbs 0)=_;have h:decide ((n:Int)<0)=false:=Qf;rw [h,Int.natAbs_natCast];rfl
theorem Ta (a:Toward) (c:a = .down\/a = .zero) (n d:Nat):a.cut false n d=n/2^d:=by
 have key:n/(1 <<< min d (n.log2+2))=n/2^d:=by
  rw [Nat.shiftLeft_eq,Nat.one_mul];by_cases h:d<=n.log2+2
  ·rw [Nat.min_eq_left h]
  ·rw [Nat.min_eq_right Qa];have b:n<2^(n.log2+1):=Nat.lt_log2_self;rw [Nat.div_eq_of_lt (Qm b (Nat.pow_le_pow_right Qa Qa)),Nat.div_eq_of_lt (Qm b (Nat.pow_le_pow_right Qa Qa))]
 unfold Toward.cut;rcases c with rfl | rfl<;>simp [key]
theorem Tc (n d:Nat):Toward.even.cut false (n*2^d) d=n:=by
 by_cases e:n=0
 ·subst e;simp [Toward.cut]
 ·have a:=Nat.two_pow_pos d;have c:2^d<=n*2^d:=Nat.le_mul_of_pos_left _ Qa;have b:d<=(n*2^d).log2+2:=by have:=(Nat.le_log2 (n:=n*2^d) (k:=d) Qa).2 c;omega
  have i:n*2^d/2^d=n:=Nat.mul_div_cancel _ a;have h:n*2^d%2^d=0:=Nat.mul_mod_left _ _;have f:((2:Nat)^d == 0)=false:=Qf;unfold Toward.cut;simp only [Nat.min_eq_left b,Nat.shiftLeft_eq,Nat.one_mul,i,h,Nat.mul_zero,f,Bool.false_and,Bool.or_false];simp
theorem Zvq (n k:Nat) (d:0<n):(n*2^k).log2=n.log2+k:=by
 have a:=Nat.two_pow_pos k;rw [Nat.log2_eq_iff (by have:=Nat.mul_pos d a;omega)];have c:=Nat.log2_self_le (n:=n) Qa;have b:=Nat.lt_log2_self (n:=n);refine ⟨?_,?_⟩
 ·rw [Nat.pow_add];exact Nat.mul_le_mul_right _ c
 ·rw [show n.log2+k+1=(n.log2+1)+k by omega,Nat.pow_add];exact Nat.mul_lt_mul_of_pos_right b a
theorem lp:Ieee.double.leastPlace = -1074:=by decide +kernel
theorem bin:Ieee.double.binade=4503599627370496:=by decide +kernel
theorem infr:Ieee.double.infRung=9218868437227405312:=by decide +kernel
theorem sgw:Ieee.double.signWeight=9223372036854775808:=by decide +kernel
theorem frb:(Ieee.double.fractionBits:Int)=52:=rfl
theorem Z06 (r:Nat):Ieee.double.word false r=r:=rfl
theorem Td (n:Nat) (h:0<n) (f:n<9007199254740992):n.log2<=52/\4503599627370496<=n*2^(52-n.log2)/\n*2^(52-n.log2)<9007199254740992:=by
 have a:n.log2<=52:=by have:=(Nat.log2_lt (n:=n) (k:=53) Qa).2 Qa;omega
 have c:=Nat.log2_self_le (n:=n) Qa;have b:=Nat.lt_log2_self (n:=n);have e:2^n.log2*2^(52-n.log2)=4503599627370496:=by rw [<-Nat.pow_add,show n.log2+(52-n.log2)=52 by omega]
 have d:2^(n.log2+1)*2^(52-n.log2)=9007199254740992:=by rw [<-Nat.pow_add,show n.log2+1+(52-n.log2)=53 by omega]
 refine ⟨a,?_,?_⟩
 ·rw [<-e];exact Nat.mul_le_mul_right _ c
 ·rw [<-d];exact Nat.mul_lt_mul_of_pos_right b (Nat.two_pow_pos _)
theorem Zms (n k:Nat) (c:0<n) (d:n<9007199254740992):Ieee.double.nearest false (n*2^k) (-(k:Int))=(n.log2+1022)*4503599627370496+n*2^(52-n.log2):=by
 obtain ⟨i,f,s2⟩:=Td n c d;have e:n*2^k≠0:=by have:=Nat.mul_pos c (Nat.two_pow_pos k);omega
 unfold Format.nearest;rw [if_neg e,Zvq n k c,lp,infr,bin,frb];dsimp only;have a:max (-(k:Int)+((n.log2+k:Nat):Int)-52) (-1074)=(n.log2:Int)-52:=Qa;rw [a];have b:Toward.even.cut false ((n*2^k) <<< (-(k:Int)-((n.log2:Int)-52)).toNat) ((n.log2:Int)-52 - -(k:Int)).toNat=n*2^(52-n.log2):=by
  by_cases h:k<=52-n.log2
  ·rw [show ((n.log2:Int)-52 - -(k:Int)).toNat=0 by omega,show (-(k:Int)-((n.log2:Int)-52)).toNat=52-n.log2-k by omega,Nat.shiftLeft_eq,Nat.mul_assoc,<-Nat.pow_add,show k+(52-n.log2-k)=52-n.log2 by omega];have:=Tc (n*2^(52-n.log2)) 0
   rwa [Nat.pow_zero,Nat.mul_one] at this
  ·rw [show ((n.log2:Int)-52 - -(k:Int)).toNat=n.log2+k-52 by omega,show (-(k:Int)-((n.log2:Int)-52)).toNat=0 by omega,Nat.shiftLeft_eq,Nat.pow_zero,Nat.mul_one];have:=Tc (n*2^(52-n.log2)) (n.log2+k-52)
   rwa [Nat.mul_assoc,<-Nat.pow_add,show 52-n.log2+(n.log2+k-52)=k by omega] at this
 rw [b,Z06,show ((n.log2:Int)-52 - -1074).toNat=n.log2+1022 by omega,Nat.min_eq_left Qa]
theorem fl_eq (n:Nat) (b:0<n) (a:n<9007199254740992):fl n=(n.log2+1022)*4503599627370496+n*2^(52-n.log2):=by
 have:=Zms n 0 b a
 rwa [Nat.pow_zero,Nat.mul_one] at this
theorem Te:fl 0=0:=by decide +kernel
theorem Tf:Ieee.double.read 0 = .number false 0 (-1074):=by decide +kernel
theorem Z1x:Ieee.double.read 4742290407621132288 = .number false 4503599627370496 (-22):=by decide +kernel
theorem Z8i:fl 1073741824=4742290407621132288:=by decide +kernel
def Is (d:Datum) (n:Nat):Prop:=∃k:Nat,d = .number false (n*2^k) (-(k:Int))
theorem Z5n (n:Nat) (b:0<n) (a:n<9007199254740992):Ieee.double.read (fl n) = .number false (n*2^(52-n.log2)) (-((52-n.log2:Nat):Int)):=by
 obtain ⟨f,e,s2⟩:=Td n b a;rw [fl_eq n b a];generalize n*2^(52-n.log2)=m at *
 unfold Format.read;rw [sgw,bin,infr,lp];dsimp only;rw [show ((n.log2+1022)*4503599627370496+m)/9223372036854775808=0 from Nat.div_eq_of_lt Qa,Nat.mod_eq_of_lt (show (n.log2+1022)*4503599627370496+m<9223372036854775808 by omega)];rw [if_neg Qa,if_pos Qa];have d:4503599627370496+((n.log2+1022)*4503599627370496+m)%4503599627370496=m:=Qa;have c:((n.log2+1022)*4503599627370496+m)/4503599627370496-1=n.log2+1022:=Qa;rw [d,c,show (-1074:Int)+((n.log2+1022:Nat):Int) = -((52-n.log2:Nat):Int) by omega];rfl
theorem Tg (n:Nat) (a:n<9007199254740992):Is (Ieee.double.read (fl n)) n:=by
 by_cases c:0<n
 ·exact ⟨_,Z5n n c a⟩
 ·obtain rfl:n=0:=Qa;obtain ⟨K,b⟩:∃K:Nat,(-1074:Int) = -(K:Int):=⟨1074,rfl⟩;exact ⟨K,by rw [Te,Tf,Nat.zero_mul,b]⟩
theorem Ms (a b:Int):compare a b=if a<b then .lt else if a=b then .eq else .gt:=rfl
theorem F0 (m u:Nat):signed false m u=((m*2^u:Nat):Int):=by unfold signed;rw [if_neg Qf,Nat.shiftLeft_eq]
def wtD:Datum->Nat
 | .number false m e=>min 1073741824 ((m <<< e.toNat)/2^(-e).toNat)
 | .infinity false=>1073741824
 | _=>0
def wtN (x:Nat):Nat:=wtD (Ieee.double.read x)
theorem Z7i (x:Nat):wtN x<=1073741824:=by unfold wtN wtD;split<;>omega
theorem Ti (m:Nat) (e:Int):((Datum.number false m e).order (.number false 4503599627370496 (-22))=some .gt)↔1073741824*2^(-e).toNat<m*2^e.toNat:=by
 show (some (compare (signed false m (e-min e (-22)).toNat) (signed false 4503599627370496 (-22-min e (-22)).toNat))=some .gt)↔_;rw [F0,F0,Ms];have key:(4503599627370496*2^(-22-min e (-22)).toNat<m*2^(e-min e (-22)).toNat)↔1073741824*2^(-e).toNat<m*2^e.toNat:=by
  by_cases c:0<=e
  ·rw [show (-22-min e (-22)).toNat=0 by omega,show (e-min e (-22)).toNat=e.toNat+22 by omega,show (-e).toNat=0 by omega,Nat.pow_add,<-Nat.mul_assoc];omega
  ·by_cases d : -22<=e
   ·rw [show (-22-min e (-22)).toNat=0 by omega,show e.toNat=0 by omega];have f:(4503599627370496:Nat)=1073741824*2^(-e).toNat*2^(e-min e (-22)).toNat:=by rw [Nat.mul_assoc,<-Nat.pow_add,show (-e).toNat+(e-min e (-22)).toNat=22 by omega]
    rw [Nat.pow_zero,Nat.mul_one,Nat.mul_one,f];exact Nat.mul_lt_mul_right (Nat.two_pow_pos _)
   ·rw [show (e-min e (-22)).toNat=0 by omega,show e.toNat=0 by omega,show (-e).toNat=(-22-min e (-22)).toNat+22 by omega,Nat.pow_add];omega
 rw [<-key];generalize 4503599627370496*2^(-22-min e (-22)).toNat=a;generalize m*2^(e-min e (-22)).toNat=b;by_cases c:(b:Int)<(a:Int)
 ·rw [if_pos c];simp;omega
 ·by_cases d:(b:Int)=(a:Int)
  ·rw [if_neg c,if_pos d];simp;omega
  ·rw [if_neg c,if_neg d];simp;omega
theorem Mt (s:Bool) (m:Nat) (e:Int):((Datum.number s m e).order (.number false 0 (-1074))=some .gt)↔s=false/\0<m:=by
 show (some (compare (signed s m (e-min e (-1074)).toNat) (signed false 0 (-1074-min e (-1074)).toNat))=some .gt)↔_;rw [F0,Nat.zero_mul,Ms];have a:=Nat.two_pow_pos (e-min e (-1074)).toNat;cases s
 ·rw [F0];by_cases h:0<m
  ·have:=Nat.mul_pos h a;rw [if_neg Qa,if_neg Qa];simp [h]
  ·obtain rfl:m=0:=Qa;rw [Nat.zero_mul];simp
 ·unfold signed;rw [if_pos rfl,Nat.shiftLeft_eq];by_cases h:0<m
  ·have:=Nat.mul_pos h a;rw [if_pos Qa];simp
  ·obtain rfl:m=0:=Qa;rw [Nat.zero_mul];simp
theorem Z8d (m:Nat) (e:Int):¬((Datum.number true m e).order (.number false 4503599627370496 (-22))=some .gt):=by show ¬(some (compare (signed true m (e-min e (-22)).toNat) (signed false 4503599627370496 (-22-min e (-22)).toNat))=some .gt);rw [F0,Ms];unfold signed;rw [if_pos rfl];have h:=Nat.mul_pos (show 0<4503599627370496 by omega) (Nat.two_pow_pos (-22-min e (-22)).toNat);generalize 4503599627370496*2^(-22-min e (-22)).toNat=z at h ⊢;generalize m <<< (e-min e (-22)).toNat=y;rw [if_pos Qa];simp
theorem Z04 (x:Nat) :
 ((Ieee.double.order x 4742290407621132288 == some .gt)=true/\wtN x=1073741824) \/
 ((Ieee.double.order x 4742290407621132288 == some .gt)=false/\(Ieee.double.order x 0 == some .gt)=true /\
   ∃m e,Ieee.double.read x = .number false m e/\wtN x=(m <<< e.toNat)/2^(-e).toNat) \/
 ((Ieee.double.order x 4742290407621132288 == some .gt)=false/\(Ieee.double.order x 0 == some .gt)=false/\wtN x=0):=by
 unfold wtN Format.order;rw [Z1x,Tf];generalize hd:Ieee.double.read x=d
 match d with
 | .nan s t=>exact .inr (.inr ⟨rfl,rfl,rfl⟩)
 | .infinity true=>exact .inr (.inr ⟨rfl,rfl,rfl⟩)
 | .infinity false=>exact .inl ⟨rfl,rfl⟩
 | .number true m e=>
  refine .inr (.inr ⟨?_,?_,rfl⟩)
  ·have:=Z8d m e;simpa using this
  ·have:=(Mt true m e).1;simpa using this
 | .number false m e=>
  have f:=Nat.two_pow_pos (-e).toNat;by_cases b:1073741824*2^(-e).toNat<m*2^e.toNat
  ·refine .inl ⟨by simpa using (Ti m e).2 b,?_⟩;show min 1073741824 ((m <<< e.toNat)/2^(-e).toNat)=_;rw [Nat.shiftLeft_eq];have:=(Nat.le_div_iff_mul_le f).2 (Nat.le_of_lt b);omega
  ·have i:(m <<< e.toNat)/2^(-e).toNat<=1073741824:=by
    rw [Nat.shiftLeft_eq];have k:m*2^e.toNat<=1073741824*2^(-e).toNat:=Qa;have j:=Nat.div_le_div_right (c:=2^(-e).toNat) k
    rwa [Nat.mul_div_cancel _ f] at j
   have a:¬((Datum.number false m e).order (.number false 4503599627370496 (-22))=some .gt):=λh=>b ((Ti m e).1 h);by_cases l:0<m
   ·exact .inr (.inl ⟨by simpa using a,by simpa using (Mt false m e).2 ⟨rfl,l⟩,m,e,rfl,by show min _ _=_;omega⟩)
   ·obtain rfl:m=0:=Qa;refine .inr (.inr ⟨by simpa using a,?_,?_⟩)
    ·have:=λh=>(Mt false 0 e).1 h;simpa using this
    ·show min 1073741824 ((0 <<< e.toNat)/2^(-e).toNat)=_;simp
theorem wtN_fl (n:Nat) (a:n<9007199254740992):wtN (fl n)=min 1073741824 n:=by obtain ⟨k,b⟩:=Tg n a;unfold wtN;rw [b];show min 1073741824 (((n*2^k) <<< (-(k:Int)).toNat)/2^(- -(k:Int)).toNat)=_;rw [show (-(k:Int)).toNat=0 by omega,show (- -(k:Int)).toNat=k by omega,Nat.shiftLeft_eq,Nat.pow_zero,Nat.mul_one,Nat.mul_div_cancel _ (Nat.two_pow_pos k)]
theorem Z1b (m:Nat) (e:Int):(Datum.number false m e).toInt .zero=some ((((m <<< e.toNat)/2^(-e).toNat:Nat)):Int):=by show some (signed false (Toward.zero.cut false (m <<< e.toNat) (-e).toNat) 0)=_;rw [Ta _ (.inr rfl),F0,Nat.pow_zero,Nat.mul_one]
theorem Z3d (m:Nat) (e:Int):FloatKind.f64.encode ((Datum.number false m e).integral .down)=fl ((m <<< e.toNat)/2^(-e).toNat):=by show Ieee.double.write (.number false (Toward.down.cut false (m <<< e.toNat) (-e).toNat) 0)=_;rw [Ta _ (.inl rfl)];rfl
theorem Z1d (x m:Nat) (e:Int) (h:Ieee.double.read x = .number false m e) (a:(m <<< e.toNat)/2^(-e).toNat<=1073741824):floatToIntVal .f64 x .i64=some ((((m <<< e.toNat)/2^(-e).toNat:Nat)):Int):=by
 unfold floatToIntVal;show (match (Ieee.double.read x).toInt .zero with | some n=>_ | none=>_)=_;rw [h,Z1b];generalize (m <<< e.toNat)/2^(-e).toNat=z at a ⊢;dsimp only;rw [if_pos];constructor
 ·rw [show IntKind.i64.min = -9223372036854775808 by decide +kernel];omega
 ·rw [show IntKind.i64.max=9223372036854775807 by decide +kernel];omega
theorem Z1c (n:Nat) (a:n<=1073741824):floatToIntVal .f64 (fl n) .i64=some (n:Int):=by
 obtain ⟨k,b⟩:=Tg n Qa;have e:((n*2^k) <<< (-(k:Int)).toNat)/2^(- -(k:Int)).toNat=n:=by rw [show (-(k:Int)).toNat=0 by omega,show (- -(k:Int)).toNat=k by omega,Nat.shiftLeft_eq,Nat.pow_zero,Nat.mul_one,Nat.mul_div_cancel _ (Nat.two_pow_pos k)]
 have:=Z1d (fl n) _ _ b (by rw [e];exact a)
 rwa [e] at this
end Go.Proofs.YtpdphfgpdgadpaaGreat.M
namespace Go.Proofs.YtpdphfgpdgadpaaGreat
open Lib(hid)
section
open Go.ChangeShapes Go.WideShapes Go.ChangeAt Go.RowKit Go.Joins Go.Deep Go.Sort M
def fcs (X:List Nat):List Value:=X.map λx => .float .f64 x
theorem Z6l (X:List Nat):(fcs X).length=X.length:=by simp [fcs]
theorem Zv3 (X Y:List Nat):fcs (X++Y)=fcs X++fcs Y:=by simp [fcs]
theorem Z6k (x:Nat):fcs [x]=[.float .f64 x]:=rfl
theorem Z3i (X:List Nat) (k:Nat) (h:k<X.length):(fcs X)[k]? = some (.float .f64 X[k]):=by simp [fcs,h]
theorem infoF:(prog.info? 130).map (λi=>(i.zero,i.size,i.bytes))=some (some (.float .f64 0),1,8):=Qb
theorem Row.atF {w:World} {p:Option Addr} {X:List Nat} (h:Row w p (fcs X)) {k:Nat} (a:k<X.length):∃g o,p=some ⟨g,o,none⟩/\g<w.heap.size/\w.cell? ⟨g,o+k,none⟩=some (.float .f64 X[k]):=by
 rcases h with h | ⟨g,o,e,b,c⟩
 ·have:=Z6l X;rw [h] at this;simp at this;omega
 ·exact ⟨g,o,e,b,c k _ (Z3i X k a)⟩
section
variable {H:Type} {enc:TypeId×Value->H} {w:World} {base:Nat} {spare:Nat->Bool} {held:Bool} {r:Reach} {b0:Nat}
end
end
section
open Go.RowKit Go.Sort M
theorem gt64 {x y:Nat} {b:Bool} (h:(Ieee.double.order x y == some .gt)=b):(FloatKind.f64.format.order x y == some .gt)=b:=h
theorem Zwb (x m:Nat) (e:Int) (h:Ieee.double.read x = .number false m e) (w:World) :
 (callFunc 110 #[.float .f64 x]).run prog w = .ok (.value (.float .f64 (fl ((m <<< e.toNat)/2^(-e).toNat)))) w:=by
 rw [run_callFunc_extern func110 Qb Qb Qb (e := Extern.MathFloor.toIntegral "math.archFloor" .down) Qb];have hd:FloatKind.f64.decode x = .number false m e:=h
 have hi : (Extern.MathFloor.toIntegral "math.archFloor" .down #[.float .f64 x]) = (pure (.float .f64 (fl ((m <<< e.toNat) / 2 ^ (-e).toNat))) : Sem Value) := by
  rw [<-Z3d];show (match FloatKind.f64.decode x with | .nan s t=>_ | d=>_)=_;rw [hd]
 rw [hi];rfl
theorem Zzp (x m:Nat) (e:Int) (h:Ieee.double.read x = .number false m e):Aj prog 96 #[.float .f64 x] (.float .f64 (fl ((m <<< e.toNat)/2^(-e).toNat))):=by intro w;have a:=Zwb x m e h;generalize (m <<< e.toNat)/2^(-e).toNat=T at a ⊢;clear h;go_enter func96,ntmps96;go_wp2_with (simp only [a]);go_ret;exact ⟨rfl,Qg⟩
theorem Zul (x:Nat):Aj prog 84 #[.float .f64 x] (.float .f64 (fl (wtN x))):=by
 intro w;rcases Z04 x with ⟨b,a⟩ | ⟨b,c,m,e,f,a⟩ | ⟨b,c,a⟩
 ·rw [a,Z8i];clear a;replace b:=gt64 b;go_enter func84,ntmps84;go_wp2;go_ret;exact ⟨rfl,Qg⟩
 ·have d:=Zzp x m e f;rw [<-a] at d;replace d:=hid d;clear a f;replace b:=gt64 b;replace c:=gt64 c;go_enter func84,ntmps84;go_wp2_with fail;refine (d.o _).mono ?_;rintro e w1 ⟨rfl,h⟩;go_wp2;go_ret;exact ⟨rfl,Qg⟩
 ·rw [a,Te];clear a;replace b:=gt64 b;replace c:=gt64 c;go_enter func84,ntmps84;go_wp2;go_ret;exact ⟨rfl,Qg⟩
end
end Go.Proofs.YtpdphfgpdgadpaaGreat
namespace Go.Proofs.YtpdphfgpdgadpaaGreat.M
open Lib(hid)
def sumF (f:Nat->Nat):Nat->Nat
 | 0=>0
 | n+1=>sumF f n+f n
theorem Tj {f g:Nat->Nat}:∀n,(∀j,j<n->f j=g j)->sumF f n=sumF g n
 | 0,_=>rfl
 | n+1,h=>by show sumF f n+f n=sumF g n+g n;rw [Tj n (λj a=>h j Qa),h n Qa]
theorem Z1l (f:Nat->Nat) (c:Nat):∀n,sumF (λj=>c*f j) n=c*sumF f n
 | 0=>rfl
 | n+1=>by show sumF _ n+c*f n=c*(sumF f n+f n);rw [Z1l f c n,Nat.mul_add]
theorem Mu (f g:Nat->Nat):∀n,sumF (λj=>f j+g j) n=sumF f n+sumF g n
 | 0=>rfl
 | n+1=>by show sumF _ n+(f n+g n)=sumF f n+f n+(sumF g n+g n);rw [Mu f g n];omega
theorem Tk (c:Nat):∀n,sumF (λ_=>c) n=n*c
 | 0=>by simp [sumF]
 | n+1=>by show sumF _ n+c=(n+1)*c;rw [Tk c n,Nat.add_mul,Nat.one_mul]
theorem Tl {f:Nat->Nat} {i n:Nat} (h:i<=n):sumF f i<=sumF f n:=by
 induction n with
 | zero=>obtain rfl:i=0:=Qa;exact Qn _
 | succ n ih=>
  by_cases e:i=n+1
  ·subst e;exact Qn _
  ·exact Qw (ih Qa) (Nat.le_add_right _ _)
theorem Tm {f:Nat->Nat} {c:Nat} (h:∀j,f j<=c):∀n,sumF f n<=n*c
 | 0=>by simp [sumF]
 | n+1=>by show sumF f n+f n<=(n+1)*c;rw [Nat.add_mul,Nat.one_mul];exact Nat.add_le_add (Tm h n) (h n)
theorem Z1k {f:Nat->Nat} {j n:Nat} (h:j<n):f j<=sumF f n:=by have b:sumF f (j+1)<=sumF f n:=Tl Qa;have a:sumF f (j+1)=sumF f j+f j:=rfl;omega
def cutP (w:Nat->Nat) (left all:Nat) (j:Nat):Nat:=w j*left/all
def ov (w:Nat->Nat) (o:Nat):Nat->Nat
 | 0=>o
 | j+1=>if 0<ov w o j/\0<w j then ov w o j-1 else ov w o j
def deal (w:Nat->Nat) (o j:Nat):Nat:=if 0<ov w o j/\0<w j then 1 else 0
theorem Tn (w:Nat->Nat) (o j:Nat):ov w o (j+1)+deal w o j=ov w o j:=by
 show (if 0<ov w o j/\0<w j then ov w o j-1 else ov w o j)+(if 0<ov w o j/\0<w j then 1 else 0)=_;by_cases h:0<ov w o j/\0<w j
 ·rw [if_pos h,if_pos h];omega
 ·rw [if_neg h,if_neg h];omega
theorem To (w:Nat->Nat) (o:Nat):∀j,ov w o j<=o
 | 0=>Qn _
 | j+1=>by have:=Tn w o j;have:=To w o j;omega
def posF (w:Nat->Nat):Nat->Nat:=sumF λj=>if 0<w j then 1 else 0
theorem Tp (w:Nat->Nat) (o:Nat):∀j,ov w o j=o-posF w j
 | 0=>rfl
 | j+1=>by
  have b:=Tp w o j;have e:posF w (j+1)=posF w j+if 0<w j then 1 else 0:=rfl
  show (if 0<ov w o j/\0<w j then ov w o j-1 else ov w o j)=_;rw [e,b];by_cases h:0<w j
  ·rw [if_pos h];by_cases a:0<o-posF w j
   ·rw [if_pos ⟨a,h⟩];omega
   ·rw [if_neg (λx=>a x.1)];omega
  ·rw [if_neg h,if_neg (λx=>h x.2)];omega
theorem Tq (w:Nat->Nat) (o:Nat):∀j,ov w o j+sumF (deal w o) j=o
 | 0=>rfl
 | j+1=>by have e:sumF (deal w o) (j+1)=sumF (deal w o) j+deal w o j:=rfl;have:=Tn w o j;have:=Tq w o j;omega
theorem Jd (w:Nat->Nat) (left n:Nat) (h:0<sumF w n):∀i,i<=n->sumF (cutP w left (sumF w n)) i<=left:=by
 intro i hi;have key:∀k,sumF w n*sumF (cutP w left (sumF w n)) k<=left*sumF w k:=by
  intro k
  induction k with
  | zero=>simp [sumF]
  | succ k ih=>show sumF w n*(sumF _ k+cutP w left (sumF w n) k)<=left*(sumF w k+w k);rw [Nat.mul_add,Nat.mul_add];refine Nat.add_le_add ih ?_;rw [Nat.mul_comm left];exact Nat.mul_div_le _ _
 have c:=key i;have b:left*sumF w i<=left*sumF w n:=Nat.mul_le_mul_left _ (Tl hi);have a:sumF w n*sumF (cutP w left (sumF w n)) i<=sumF w n*left:=by rw [Nat.mul_comm (sumF w n) left];exact Qw c b
 exact Nat.le_of_mul_le_mul_left a h
theorem Zvj (w:Nat->Nat) (left n:Nat) (h:0<sumF w n):left-sumF (cutP w left (sumF w n)) n<=posF w n:=by
 have key:∀k,left*sumF w k<=sumF w n*sumF (cutP w left (sumF w n)) k+(sumF w n-1)*posF w k:=by
  intro k
  induction k with
  | zero=>simp [sumF]
  | succ k ih=>
   have e:posF w (k+1)=posF w k+if 0<w k then 1 else 0:=rfl
   show left*(sumF w k+w k)<=sumF w n*(sumF _ k+cutP w left (sumF w n) k)+(sumF w n-1)*posF w (k+1);rw [e,Nat.mul_add,Nat.mul_add,Nat.mul_add];have hd:left*w k<=sumF w n*cutP w left (sumF w n) k+(sumF w n-1)*(if 0<w k then 1 else 0):=by
    by_cases i:0<w k
    ·rw [if_pos i,Nat.mul_one];unfold cutP;have f:=Nat.div_add_mod (w k*left) (sumF w n);have d:=Nat.mod_lt (w k*left) h;rw [Nat.mul_comm left];omega
    ·rw [show w k=0 by omega];simp
   omega
 have f:=key n;have d:=Jd w left n h n (Qn _);generalize sumF (cutP w left (sumF w n)) n=s at *
 generalize sumF w n=a at *
 generalize posF w n=p at *
 have c:a*(left-s)<=(a-1)*p:=by rw [Nat.mul_sub,Nat.mul_comm a left];omega
 have b:(a-1)*p<=a*p:=Nat.mul_le_mul_right _ Qa;exact Nat.le_of_mul_le_mul_left (Qw c b) h
def G8 (w:Nat->Nat) (left n:Nat):Nat:=left-sumF (cutP w left (sumF w n)) n
def Bp (w:Nat->Nat) (least left n j:Nat):Nat:=
 if sumF w n=0 then (if j=0 then least+left else least) else least+cutP w left (sumF w n) j+deal w (G8 w left n) j
theorem Zxa (w:Nat->Nat) (least left n:Nat) (d:0<n):sumF (Bp w least left n) n=n*least+left:=by
 by_cases h:sumF w n=0
 ·have key:∀k,sumF (Bp w least left n) (k+1)=(k+1)*least+left:=by
   intro k
   induction k with
   | zero=>show 0+Bp w least left n 0=_;unfold Bp;rw [if_pos h,if_pos rfl];omega
   | succ k ih=>show sumF _ (k+1)+Bp w least left n (k+1)=_;rw [ih];unfold Bp;rw [if_pos h,if_neg Qa,Nat.add_mul (k+1) 1 least];omega
  have:=key (n-1)
  rwa [show n-1+1=n by omega] at this
 ·have e:sumF (Bp w least left n) n=sumF (λj=>(least+cutP w left (sumF w n) j)+deal w (G8 w left n) j) n:=by refine Tj n λj _ => ?_;unfold Bp;rw [if_neg h]
  rw [e,Mu (λj=>least+cutP w left (sumF w n) j),Mu (λ_=>least),Tk];have a:=Tq w (G8 w left n) n;rw [Tp] at a;have i:=Zvj w left n Qa;have f:=Jd w left n Qa n (Qn _);unfold G8 at *
  have c:sumF (λj=>cutP w left (sumF w n) j) n=sumF (cutP w left (sumF w n)) n:=rfl;have b:∀o,sumF (λj=>deal w o j) n=sumF (deal w o) n:=λ_=>rfl;rw [c,b];omega
theorem Mv (w:Nat->Nat) (least left n j:Nat):least<=Bp w least left n j:=by
 unfold Bp;split
 ·split<;>omega
 ·omega
theorem Z5r (w:Nat->Nat) (left n j:Nat) (h:j<n) (a:0<sumF w n):cutP w left (sumF w n) j<=left:=
 Qw (Z1k h) (Jd w left n a n (Qn _))
def mixL (f g:Nat->Int) (i n:Nat):List Int:=(List.range n).map λj=>if j<i then f j else g j
theorem G9 (f g:Nat->Int) (i n:Nat):(mixL f g i n).length=n:=by simp [mixL]
theorem Ts (f g:Nat->Int) (i n j:Nat) (h:j<n):(mixL f g i n)[j]? = some (if j<i then f j else g j):=by simp [mixL,h]
theorem Ha (f g:Nat->Int) (i n:Nat):(mixL f g i n).set i (f i)=mixL f g (i+1) n:=by
 apply List.ext_getElem?;intro j;rw [List.getElem?_set,G9];by_cases h:j<n
 ·rw [Ts f g (i+1) n j h];by_cases e:i=j
  ·subst e;rw [if_pos rfl,if_pos h,if_pos Qa]
  ·rw [if_neg e,Ts f g i n j h];by_cases a:j<i
   ·rw [if_pos a,if_pos Qa]
   ·rw [if_neg a,if_neg Qa]
 ·rw [List.getElem?_eq_none (l:=mixL f g (i+1) n) (by rw [G9];omega)];by_cases e:i=j
  ·rw [if_pos e,if_neg Qa]
  ·rw [if_neg e,List.getElem?_eq_none (by rw [G9];omega)]
theorem Zyq {f g:Nat->Int} {i n:Nat} (h:f i=g i):mixL f g i n=mixL f g (i+1) n:=by
 unfold mixL;refine List.map_congr_left λj _ => ?_;by_cases e:j=i
 ·subst e;rw [if_neg Qa,if_pos Qa,h]
 ·by_cases a:j<i
  ·rw [if_pos a,if_pos Qa]
  ·rw [if_neg a,if_neg Qa]
theorem Zvo {f g c b:Nat->Int} {i a n:Nat} (h:∀j,j<n->(if j<i then f j else g j)=(if j<a then c j else b j)):mixL f g i n=mixL c b a n:=by unfold mixL;refine List.map_congr_left λj d=>h j (List.mem_range.1 d)
theorem Hb (f g:Nat->Int) (n:Nat):mixL f g n n=(List.range n).map f:=by unfold mixL;refine List.map_congr_left λj a => ?_;rw [if_pos (List.mem_range.1 a)]
theorem Hc (f g:Nat->Int) (n:Nat):mixL f g 0 n=(List.range n).map g:=by unfold mixL;refine List.map_congr_left λj a => ?_;rw [if_neg Qa]
end Go.Proofs.YtpdphfgpdgadpaaGreat.M
namespace Go.Proofs.YtpdphfgpdgadpaaGreat
open Lib(hid)
open Go.RowKit Go.Sort M
def wtF (X:List Nat) (j:Nat):Nat:=wtN (X.getD j 0)
theorem Mw (X:List Nat) (j:Nat):wtF X j<=1073741824:=Z7i _
theorem Z7j (X:List Nat) (j:Nat) (h:j<X.length):wtF X j=wtN X[j]:=by simp [wtF,h]
theorem Tt (n:Nat):(madeCells #[.int .i64 0] n).toList=ics ((List.range n).map λ_=>(0:Int)):=by
 apply List.ext_getElem?;intro j;by_cases h:j<n
 ·simp [madeCells,ics,h,Nat.mod_one]
 ·rw [List.getElem?_eq_none (by simp [madeCells];omega),List.getElem?_eq_none (by simp [ics];omega)]
theorem Z6e:(prog.info? 2).map (λi=>(i.zero,i.size,i.bytes))=some (some (.int .i64 0),1,8):=Qb
theorem F1 (L:List Int) (k:Nat) (x:Int):(ics L).set k (.int .i64 x)=ics (L.set k x):=by unfold ics;rw [List.map_set]
theorem Mx (f:Nat->Int) (n j:Nat) (h:j<n):(ics ((List.range n).map f))[j]? = some (.int .i64 (f j)):=by simp [ics,h]
theorem Tu (f g:Nat->Int) (i n j:Nat) (h:j<n):(ics (mixL f g i n))[j]? = some (.int .i64 (if j<i then f j else g j)):=by simp [ics,mixL,h]
theorem Zni (p:Option Addr) (c:Nat) (X:List Nat) (w:World) (Q:Row w p (fcs X)) (h1:1<=X.length) (h2:X.length<=200) :
 Calls prog 68 #[.slice p X.length c] w λe w'=>∃g d,e = .returned (.tuple #[.slice (some ⟨g,0,none⟩) X.length d,.int .i64 (sumF (wtF X) X.length:Nat)]) /\
  w'.ownsRow w.heap.size 2 1 (.slice (some ⟨g,0,none⟩) X.length d) X.length (ics ((List.range X.length).map λj=>((wtF X j:Nat):Int)))/\Below w.heap.size w w':=by
 obtain ⟨n,E⟩:=Q' X.length;have I:=B9 (P:=prog) (t:=126) underlying126 Z6e n Qa Qk;have O:∀k,sumF (wtF X) k<=k*1073741824:=Tm (Mw X);have C:∀k,k<n->wtF X k=wtN (X.getD k 0):=λk _=>rfl;rw [<-E];have HN:=hid E;have HX:=hid Q;have HB:=hid O;have l:(w.alloc (.cells (madeCells #[.int .i64 0] n) 2)).ownsRow w.heap.size 2 1 (.slice (some ⟨w.heap.size,0,none⟩) n n) n (ics (mixL (λj=>((wtF X j:Nat):Int)) (λ_=>0) 0 n)):=by rw [Hc,<-Tt];exact World.ownsRow_lit _ _ n Qa Qk (by simp [madeCells])
 rw [<-E] at h1 h2;clear Q O C E;go_enter func68,ntmps68;go_wp2_with fail;go_loopw [3,11] (λY q wr=>∃k:Nat,k<=n/\q = .int .i64 k/\Y = .int .i64 (sumF (wtF X) k:Nat) /\
  wr.ownsRow w.heap.size 2 1 (.slice (some ⟨w.heap.size,0,none⟩) n n) n (ics (mixL (λj=>((wtF X j:Nat):Int)) (λ_=>0) k n))/\Below w.heap.size w wr) (λ_ q _=>n-(intOf q).toNat)
 case atStart=>exact ⟨0,Nat.zero_le _,rfl,rfl,l,Qg⟩
 case round=>
  clear l I;obtain ⟨k,hk,rfl,rfl,a,h⟩:=hrel;have s:=h.size;by_cases z:k<n
  ·have o:k<X.length:=by rw [<-HN.o];exact z
   obtain ⟨g1,o1,rfl,a3,a0⟩:=(HX.o.below h).atF o;have r:=Zul X[k];rw [<-Z7j X k o] at r;have L:=Mw X k;have f:sumF (wtF X) (k+1)=sumF (wtF X) k+wtF X k:=rfl;have F:=HB.o (k+1);have i:=Ha (λj=>((wtF X j:Nat):Int)) (λ_=>0) k n;have Z:∃y,y=X[k]:=⟨_,rfl⟩;obtain ⟨y,K⟩:=Z;rw [<-K] at r a0;obtain ⟨u,x⟩:=Q' (wtF X k);rw [<-x] at r L f i;have B:∀w,(convert 130 2 (.float .f64 (fl u))).run prog w = .ok (.int .i64 (u:Nat)) w:=λw=>run_convert_float_int w _ _ .f64 .i64 _ _ (by rw [underlying130];rfl) underlying2 (Z1c u L);generalize fl u=v at r B;generalize sumF (wtF X) k=S at f ⊢;have HW:=hid r;have R:=hid f;have D:=hid i;clear r i K;have J:=(a.lt w.heap.size rfl).2;have a2:=(a.lt w.heap.size rfl).1;have a4:S+u<=214748364800:=by rw [<-R.o];omega
   clear F f x;go_wp2_with fail;refine (HW.o _).mono ?_;rintro e w2 ⟨rfl,m⟩;have b:=own_below a m;have a1:=h.trans (m.mono s);have N:w.heap.size<w2.heap.size:=Qm J m.size;obtain ⟨v0,d0⟩:∃v,w2.cell? ⟨w.heap.size,k,none⟩=some v:=⟨_,(b.cellAt k Qa).trans (Qr (by rw [Lh,G9];exact z))⟩;have f0:=b.frozenAt k;clear a m h s;go_wp2_with (simp only [B]);go_roundw
   case rel=>
    refine ⟨k+1,Qa,Qj,?_,?_,Qg⟩
    ·rw [R.o];go_num
    ·have:=(b.stored k (.int .i64 (u:Nat))).1;rw [F1,D.o] at this;exact this
   case measure=>simp [intOf];omega
  ·have A:k=n:=Qa;have U:=hid A;clear A;go_wp2;go_ret2;refine ⟨w.heap.size,n,?_,?_,h⟩
   ·rw [U.o];rfl
   ·have e:=U.o;rw [e] at a
    rwa [Hb] at a
end Go.Proofs.YtpdphfgpdgadpaaGreat
