import Derived.Test.YtpdphfgpdgadpaaGreatM22d
import Derived.Test.YtpdphfgpdgadpaaGreatW22c
import Derived.Test.YtpdphfgpdgadpaaGreatW22e
set_option linter.unusedSimpArgs false
set_option linter.unusedVariables false
set_option maxHeartbeats 8000000
set_option maxRecDepth 100000
open Go.Proofs.Tryz
namespace Go.Proofs.YtpdphfgpdgadpaaGreat
open Lib(hid)
section
open M
def B7 (a:Int) (L:List Int) (i:Nat):Int:=if i=0 then a else L.getD (i-1) 0
theorem Oz (a:Int) (L:List Int) (i:Nat) (h:i<L.length):B7 a L (i+1)=L[i]:=by unfold B7;rw [if_neg Qa,Nat.add_sub_cancel,List.getD_eq_getElem?_getD,Qr h];rfl
theorem Zd (a b:Int) (L:List Int) (i:Nat) (h:i<=L.length):B7 a (b::L) (i+1)=B7 b L i:=by
 rw [Oz _ _ _ Qe];cases i with
 | zero=>rfl
 | succ i=>rw [Oz _ _ _ Qa];simp
theorem O0 {st wd:Int}:∀(L:List Int) (a:Int),rgB st wd a L=true->∀(i:Nat) (h:i<L.length),a<=B7 a L i/\B7 a L i<L[i]/\L[i]-B7 a L i<=st/\L[i]<=wd
 | b::L,a,h,0,_=>by simp only [rgB,Qq,decide_eq_true_eq] at h;have:=N8 L b h.2;exact ⟨Int.le_refl _,h.1.1,h.1.2,this⟩
 | b::L,a,h,i+1,hi=>by
  simp only [rgB,Qq,decide_eq_true_eq] at h;have c:i<L.length:=by simpa using hi
  have:=O0 L b h.2 i c;rw [Zd _ _ _ _ Qa];simp only [List.getElem_cons_succ];exact ⟨Qa,this.2⟩
theorem Ze {st wd:Int}:∀(L:List Int) (a:Int),rgB st wd a L=true->(L.length:Int)<=wd-a
 | [],a,h=>by have:a=wd:=of_decide_eq_true h;simp;omega
 | b::L,a,h=>by simp only [rgB,Qq,decide_eq_true_eq] at h;have:=Ze L b h.2;rw [Qt];omega
theorem Zf (C:List Int):∀(L:List Int) (a:Int) (i:Nat) (h:i<L.length),(Bh C a L)[i]? = some (sumE C (B7 a L i) L[i])
 | b::L,a,0,_=>rfl
 | b::L,a,i+1,h=>by
  have hi:i<L.length:=by simpa using h
  unfold Bh;rw [List.getElem?_cons_succ,Zf C L b i hi,Zd _ _ _ _ Qa];rfl
theorem Znh (C:List Int) (L:List Int) (a:Int) (i:Nat) (h:i<L.length):((Bh C a L).map fl).take (i+1)=((Bh C a L).map fl).take i++[fl (sumE C (B7 a L i) L[i])]:=by rw [List.take_add_one,List.getElem?_map,Zf C L a i h];rfl
def cutM (S:List Int) (i:Nat):List Int:=(S.take i).map (λn=>min n 65536)++S.drop i
theorem Z3q (S:List Int) (i:Nat):(cutM S i).length=S.length:=by unfold cutM;rw [Qo,List.length_map,Qs,List.length_drop];omega
theorem Z6x (S:List Int) (i:Nat) (h:i<S.length):(cutM S i)[i]? = some S[i]:=by unfold cutM;rw [List.getElem?_append_right (by rw [List.length_map,Qs];omega),List.length_map,Qs,Nat.min_eq_left Qa,Nat.sub_self,List.getElem?_drop,Nat.add_zero,Qr h]
theorem Z3p (S:List Int) (i:Nat) (h:i<S.length):(cutM S i).set i (min S[i] 65536)=cutM S (i+1):=by unfold cutM;rw [List.set_append_right _ _ (by rw [List.length_map,Qs];omega),List.length_map,Qs,Nat.min_eq_left Qa,Nat.sub_self,List.drop_eq_getElem_cons h,List.set_cons_zero,List.take_add_one,Qr h,List.map_append,Qu];rfl
theorem Z3r (S:List Int):cutM S S.length=S.map λn=>min n 65536:=by unfold cutM;rw [List.take_of_length_le (Qn _),List.drop_length,List.append_nil]
theorem Z3z {x:Int} (h:1<=x):((capB x:Nat):Int)=min x 65536:=by unfold capB;omega
theorem Z33 (c:Cf) (a C:List Int) (h:1<=c.le):(shL c.bt c.le ((Bh C c.di a).map fl)).map (λn=>min n 65536)=toI (B4 c a C):=by unfold B4 toI;rw [List.map_map];refine List.map_congr_left λx b => ?_;unfold shL at b;obtain ⟨j,-,rfl⟩:=List.mem_map.1 b;have:=Mv (wtF ((Bh C c.di a).map fl)) c.le.toNat (c.bt-c.le*((Bh C c.di a).map fl).length).toNat ((Bh C c.di a).map fl).length j;exact (Z3z (by unfold shF;omega)).symm
end
section
open Go Go.RowKit Go.Sort M
theorem Zl6 (low st wd:Int) (p q:Option Addr) (k l:Nat) (L C:List Int) (w:World) (Z:IRow w p L) (hC:IRow w q C) (h0:0<=low) (a3:st<=20) (a2:wd<=128) (d:rgB st wd low L=true) (a4:C.length<=l) (a5:C.length<=1000000) :
 Calls prog 47 #[.int .i64 low,.slice p L.length k,.slice q C.length l] w λe w'=>∃v,e = .returned v/\w'.ownsRow w.heap.size 130 1 v L.length (fcs ((Bh C low L).map fl))/\Below w.heap.size w w':=by
 have c:=Ze L low d;obtain ⟨i0,Q,O,N,K⟩:=info_parts infoF;have HL:=hid Z;have HC:=hid hC;have S:=hid (O0 L low d);have f:Hid (w.ownsRow w.heap.size 130 1 (.slice none 0 0) 0 (fcs (((Bh C low L).map fl).take 0))):=hid (World.ownsRow_nil _ _ _ _);clear Z hC d;go_enter func47,ntmps47;go_wp2;go_loopg [0,7,14] L.length (λkx s0 s7 J wr=>∃(i:Nat) (E:Option Addr) (F:Nat),J = .int .i64 (i:Int)/\s0 = .int .i64 (B7 low L i)/\s7 = .slice E i F/\L.length-i<=kx/\i<=L.length/\Hid (wr.ownsRow w.heap.size 130 1 (.slice E i F) i (fcs (((Bh C low L).map fl).take i)))/\Below w.heap.size w wr)
 case atStart=>exact ⟨0,none,0,rfl,rfl,rfl,Qa,Qa,f,Qg⟩
 case round=>
  clear f;obtain ⟨i,E,F,rfl,rfl,rfl,h1,h2,I,h⟩:=hrel;by_cases hi:i<L.length
  ·obtain ⟨g,o,rfl,hg,x0⟩:=(HL.o.below h).at hi;have d:=S.o i hi;obtain ⟨r,x⟩:=Q' (sumE C (B7 low L i) L[i]);have Y:=Znh C L low i hi;have b:=Zv6 C (B7 low L i) L[i] Qa d.2.1 Qa Qa;rw [<-x] at Y b;have s:=Oz low L i hi;obtain ⟨m,A⟩:=Qv (show 0<=L[i] by omega);rw [A] at x0 d b s;rw [Int.toNat_natCast] at b;have U:=hid s;have i1:(0:Int)<=(i:Int):=Qa;have i2:(i:Int)<(L.length:Int):=Qa;clear A x s;have c:(C.take (m+1)).length=((min (C.length:Int) ((m:Int)+1)).toNat):=by rw [Qs];omega
   have t:=λW (hW:Below w.heap.size w W) y (hy:IRow W y [(m:Int)])=>G7 q y l 1 (C.take (m+1)) [(m:Int)] (B7 low L i) W ((HC.o.below hW).take (m+1)) hy (Qn _) (by rw [c];omega) Qf;rw [b,c] at t;have D:Hid (∀W,Below w.heap.size w W->∀y,IRow W y [(m:Int)]->Calls prog 67 #[.slice q (((min (C.length:Int) ((m:Int)+1)).toNat)) l,.slice y 1 1,.int .i64 (B7 low L i)] W λe w'=>e = .returned (.tuple #[.int .i64 (r:Int),.bool true])/\Below W.heap.size W w'):=hid t;have HR:=hid Y;clear b c t;generalize B7 low L i=pr at *
   go_wp2_with fail;refine (D.o _ (h.alloc h.size _) _ (Hf _ _ _)).mono ?_;rintro e w1 ⟨rfl,B⟩;have n:Below wr.heap.size wr w1:=((Below.refl _ _).alloc (Qn _) _).trans (B.mono Qf);have h:=h.trans (n.mono h.size);have a1:=h.size;have u:=hid (own_below I.o n);clear D I B n;go_wp2_with (at_builtin;go_loud (refine wpList_append_own_at _ rfl (.tmp 32) (.tmp 35) 104 rfl w.heap.size 130 i0 _ 1 8 underlying104 Q O N K rfl Qd _ _ _ rfl (u.o.alloc _) ⟨w1.heap.size,0,none⟩ 1 1 [.float .f64 (floatOfInt .f64 (r:Int))] rfl rfl (Ft Qi) (by simp [Value.oneCell']) Qk Qa Qe ?_));intro v2 w2 a z _ _;obtain ⟨p2,c2,rfl⟩:=Aq a;rw [Zk0] at a;have R:Below w.heap.size w w2:=(h.alloc h.size _).grown z Qe (λj hj=>by have:=(u.o.lt j hj).1;omega);have X:Hid (w2.ownsRow w.heap.size 130 1 (.slice p2 (i+1) c2) (i+1) (fcs (((Bh C low L).map fl).take (i+1)))):=by rw [HR.o,Zv3,Z6k];exact hid a
   clear a z u h;go_wp2;go_roundg (L.length-(i+1))
   case measure=>omega
   case rel=>exact ⟨i+1,p2,c2,Qj,by rw [U.o],rfl,Qa,Qa,X,R⟩
  ·obtain rfl:i=L.length:=Qa;have HE:Hid (wr.ownsRow w.heap.size 130 1 (.slice E L.length F) L.length (fcs ((Bh C low L).map fl))):=by have:=I.o;rw [List.take_of_length_le (by rw [List.length_map,Hy];omega)] at this;exact hid this
   clear I;go_wp2;go_ret;exact ⟨_,rfl,HE.o,h⟩
def szD (B:Nat) (X:List Nat) (S:List Int) (n:Nat):Nat->Value->World->Prop
 | 8,v,W=>∃p c,v = .slice p n c/\W.ownsRow B 130 1 (.slice p n c) n (fcs X)
 | 9,v,W | 10,v,W=>∃p c e,v = .tuple #[.slice p n c,.int .i64 e]/\W.ownsRow B 3 1 (.slice p n c) n (ics S)
 | 11,v,W | 13,v,W=>∃p c,v = .slice p n c/\W.ownsRow B 3 1 (.slice p n c) n (ics S)
 | _,_,_=>True
theorem Zuo (B:Nat) (X:List Nat) (S:List Int) (n:Nat):∀i v W W',Below W.heap.size W W'->szD B X S n i v W->szD B X S n i v W':=by
 intro i v W W' d h;unfold szD at h ⊢;split at h
 ·obtain ⟨p,c,b,a⟩:=h;exact ⟨p,c,b,own_below a d⟩
 ·obtain ⟨p,c,e,b,a⟩:=h;exact ⟨p,c,e,b,own_below a d⟩
 ·obtain ⟨p,c,e,b,a⟩:=h;exact ⟨p,c,e,b,own_below a d⟩
 ·obtain ⟨p,c,b,a⟩:=h;exact ⟨p,c,b,own_below a d⟩
 ·obtain ⟨p,c,b,a⟩:=h;exact ⟨p,c,b,own_below a d⟩
 ·trivial
theorem Zn2 (bt le:Int) (p:Option Addr) (c:Nat) (X:List Nat) (w:World) (f:Row w p (fcs X)) (h:X.length=0\/shOk bt le X.length) :
 Calls prog 46 #[.int .i64 bt,.int .i64 le,.slice p X.length c] w λe w'=>∃q d x,e = .returned (.tuple #[.slice q X.length d,.int .i64 x]) /\
  w'.ownsRow w.heap.size 3 1 (.slice q X.length d) X.length (ics (shL bt le X))/\Below w.heap.size w w':=by
 rcases h with h | h
 ·refine (Zux bt le p c X.length w Qa (λa=>by have:=a.1;omega)).mono ?_;rintro e w' ⟨rfl,b⟩;obtain rfl:X=[]:=List.length_eq_zero_iff.1 h;exact ⟨none,0,1,rfl,World.ownsRow_nil _ _ _ _,b⟩
 ·refine (Zuy bt le p c X w f h).mono ?_;rintro e w' ⟨q,d,rfl,i,a⟩;exact ⟨q,d,0,rfl,i,a⟩
theorem Zqv (b:Cf) (p q:Option Addr) (k l:Nat) (L C:List Int) (w:World) (hL:IRow w p L) (hC:IRow w q C) (a4:okCf b=true) (a3:Bg b.wd b.di b.lv b.st L=true) (ad:C.length<=l) (ae:C.length<=1000000) :
 Calls prog 34 #[cfgA b,.slice p L.length k,.slice q C.length l] w λe w'=>∃p2 c2,e = .returned (.slice p2 L.length c2)/\w'.ownsRow w.heap.size 3 1 (.slice p2 L.length c2) L.length (ics (toI (B4 b L C)))/\Below w.heap.size w w':=by
 have s:=a4;unfold okCf at s;obtain ⟨⟨q1,q2⟩,⟨q3,q4,q5⟩,⟨q6,q7⟩,⟨q8,q9⟩,-,⟨l1,l2⟩,⟨t1,t2⟩,-⟩:=of_decide_eq_true s;have c:=a3;unfold Bg at c;simp only [Qq,decide_eq_true_eq] at c;have d:=Z33 b L C l1;have I:=λW (h1:Below w.heap.size w W)=>Zl6 b.di b.st b.wd p q k l L C W (hL.below h1) (hC.below h1) q3 Qa q2 c.2 ad ae;obtain ⟨X,hX⟩:=Q' ((Bh C b.di L).map fl);have z:X.length=L.length:=by rw [hX,List.length_map,Hy]
 rw [<-hX] at d I;have a5:b.le*(L.length:Int)<=b.bt:=Int.le_trans (Int.mul_le_mul_of_nonneg_left (show (L.length:Int)<=max b.lv 1 by have:=c.1.2;omega) Qa) t1;have ax:(L.length:Int)<=128:=by have:=c.1.2;omega
 have a2:X.length=0\/shOk b.bt b.le X.length:=by
  rw [z];by_cases h:L.length=0
  ·exact .inl h
  ·exact .inr ⟨Qa,Qa,l1,l2,a5,t2⟩
 have u:=λW pw cw (h:Row W pw (fcs X))=>Zn2 b.bt b.le pw cw X W h a2;obtain ⟨S,hS⟩:=Q' (shL b.bt b.le X);have af:S.length=L.length:=by rw [hS,Tv,z]
 rw [<-hS] at d u;rw [z] at u;obtain ⟨wd,di,lv,st,hs,bt,le,bk,rt,hp⟩:=b;unfold cfgA;simp only at *
 rw [<-d];have al:=hid I;have am:=hid u;have A:=hid af;clear I u a2 hX z hS d a5 a3 c a4 s hL hC q1 q2 q3 q4 q5 q6 q7 q8 q9 l1 l2 t1 t2;obtain ⟨Z,f⟩:∃W:World,W=w.alloc (.cells #[.int .i64 wd,.int .i64 di,.int .i64 lv,.int .i64 st,.int .i64 hs,.int .i64 bt,.int .i64 le,.int .i64 bk,.int .i64 rt,.int .i64 hp] 23):=⟨_,rfl⟩;have hw:Below w.heap.size w Z:=by rw [f];go_grown
 have hz:w.heap.size<Z.heap.size:=by rw [f];simp
 have k1:Z.cell? ⟨w.heap.size,1,none⟩=some (.int .i64 di):=by rw [f];simp [go_sem]
 have k5:Z.cell? ⟨w.heap.size,5,none⟩=some (.int .i64 bt):=by rw [f];simp [go_sem]
 have k6:Z.cell? ⟨w.heap.size,6,none⟩=some (.int .i64 le):=by rw [f];simp [go_sem]
 have HW:=hid hw;clear hw;go_enter func34,ntmps34;go_upto_region 1 with fail;rw [<-f];clear f;have kg:=Ad;refine wp_region_noPanic ?_;generalize a6:NoPanic _=NQ;refine Jw [0,2,4,6,7] [1,3,5] [(8,20,[]),(9,21,[(8,20)]),(10,11,[(9,21)]),(11,22,[(10,11)]),(12,23,[(10,11)]),(13,7,[(11,22)]),(14,8,[(12,23)])] [] (szD Z.heap.size X S L.length) (Zuo _ _ _ _) Qb (by rw [<-a6];exact λ_ _ _ h=>h) Qb Qb Qb ?_;simp only [Ag,List.filterMap_cons,List.filterMap_nil,List.getElem?_toArray,List.getElem?_cons_succ,List.getElem?_cons_zero];repeat (any_goals (quiet_step (fail)))
 refine wpQuiet_nil ?_;clear kg;refine ⟨by rfl,⟨?_,?_,?_,?_,?_,?_,?_,trivial⟩,?_⟩
 ·intro W r K m o a;injection a with a;subst a;go_simp;go_at_call 47;refine (al.o W (HW.o.trans (r.mono HW.o.size))).mono ?_;rintro e w3 ⟨v3,rfl,y,Q⟩;obtain ⟨p3,c3,rfl⟩:=Aq y;exact m _ _ Q ⟨p3,c3,rfl,A7 y r.size⟩
 ·intro W r v8 h8 K;obtain ⟨p8,c8,rfl,ac⟩:=h8;go_simp;intro m o a;injection a with a;subst a;go_simp;go_at_call 46;refine (am.o W p8 c8 (Row.of_own ac)).mono ?_;rintro e w3 ⟨p3,c3,x3,rfl,y,Q⟩;exact m _ _ Q ⟨p3,c3,x3,rfl,A7 y r.size⟩
 ·intro W r v9 t K;obtain ⟨E,R,x9,rfl,j⟩:=t;go_simp;intro m o a;injection a with a;subst a;go_simp;exact m _ _ (Below.refl _ _) ⟨E,R,x9,rfl,j⟩
 ·intro W r v9 t K;obtain ⟨E,R,x9,rfl,j⟩:=t;go_simp;intro m o a;injection a with a;subst a;go_simp;exact m _ _ (Below.refl _ _) ⟨E,R,rfl,j⟩
 ·intro W r v9 t K;obtain ⟨E,R,x9,rfl,j⟩:=t;go_simp;intro m o a;injection a with a;subst a;go_simp;exact m _ _ (Below.refl _ _) trivial
 ·intro W r v9 t K;obtain ⟨E,R,rfl,j⟩:=t;go_simp;intro m o a;injection a with a;subst a;go_simp;exact m _ _ (Below.refl _ _) ⟨E,R,rfl,j⟩
 ·intro W r v9 t K;clear t;go_simp;intro m o a;injection a with a;subst a;go_simp;exact m _ _ (Below.refl _ _) trivial
 ·intro W r v8 h8 v9 t au ak ar aj aq ai ap ah ao ag;obtain ⟨p8,c8,rfl,-⟩:=h8;obtain ⟨E,R,x9,rfl,-⟩:=t;obtain ⟨aw,b3,an,rfl,-⟩:=ak;obtain ⟨av,b0,rfl,-⟩:=aj;obtain ⟨F,U,rfl,a⟩:=ah;have a1:=HW.o.trans (r.mono HW.o.size);have D:Hid (W.ownsRow w.heap.size 3 1 (.slice F L.length U) L.length (ics (cutM S 0))):=hid (A7 a HW.o.size);clear ai ag r a;show wpList _ _ _ _ _ _;simp only [Ag,List.filterMap_nil];subst a6;go_wp2_with fail;refine NoPanic.normal ?_;go_wp2;go_loopg [26] L.length (λkx a8 wr=>∃i:Nat,a8 = .int .i64 (i:Int)/\L.length-i<=kx/\i<=L.length/\Hid (wr.ownsRow w.heap.size 3 1 (.slice F L.length U) L.length (ics (cutM S i)))/\Below w.heap.size w wr)
  case atStart=>exact ⟨0,rfl,Qa,Qa,D,by first|exact a1|go_grown⟩
  case round=>
   clear D a1;obtain ⟨i,rfl,h1,h2,Y,hb⟩:=hrel;by_cases hi:i<L.length
   ·obtain ⟨g,cap,az,hv,-,ay,-,-,-,-,-⟩:=Dm Y.o Qa;injection hv with ab aa a9;subst ab a9;have O:i<(cutM S i).length:=by rw [Z3q,A.o];exact hi
    obtain ⟨gx,ox,eg,-,x0⟩:=(IRow.of_own Y.o).at O;injection eg with eg;injection eg with eg eo;subst eg eo;have N:i<S.length:=by rw [A.o];exact hi
    have hx:(cutM S i)[i]=S[i]:=by have:=Z6x S i N;rw [Qr O] at this;exact Option.some.inj this
    have B:=Z3p S i N;rw [hx] at x0;simp only [Nat.zero_add] at x0;have fx:=Y.o.frozenAt i;have J:=Y.o.stored i (.int .i64 (min S[i] 65536));rw [F1,B] at J;have a7:=hid J;generalize S[i]=x at *
    have i1:(0:Int)<=(i:Int):=Qa;have i2:(i:Int)<(L.length:Int):=Qa;clear J B hx O N aa;go_wp2;go_roundg (L.length-(i+1))
    case measure=>omega
    case rel=>exact ⟨i+1,Qj,Qa,Qa,hid a7.o.1,hb.grown a7.o.2 hb.size (λk e=>by injection e with e;have:=(Y.o.lt g rfl).1;omega)⟩
   ·obtain rfl:i=L.length:=Qa;have HE:Hid (wr.ownsRow w.heap.size 3 1 (.slice F L.length U) L.length (ics (S.map λn=>min n 65536))):=by have:=Y.o;rw [<-A.o,Z3r,A.o] at this;exact hid this
    clear Y;go_wp2;go_ret;exact ⟨_,_,rfl,HE.o,hb⟩
theorem Z22:(prog.info? 84).map (λi=>(i.zero,i.size,i.bytes))=some (some (.agg #[.pointer none,.int .i64 0]),2,16):=Qb
theorem Z5e (q n:Nat):tcs [(q,n)]=[.pointer (some ⟨q,0,none⟩),.int .i64 (n:Int)]:=rfl
section
variable {w1 w3:World} {K:Nat->Prop} {t:Nat} {E:Eg} {col:Nat->Nat} {v:Value} {d:Nat} {L0:List Rt} {X:List (Nat×Nat)} {p:Option Addr} {c:Nat}
theorem EngB.push {B q:Nat} {V:Lv} {p3:Option Addr} {c3:Nat} (H:EngB w1 K t E col v d L0 X p c) (hK:∀g,K g->g<B) (hB:B<=w1.heap.size) (hV:LevP w1 (λj=>B<=j) q V)
 (Y:Touch (λj=>(Value.slice p E.L.length c).ownBlock=some j) w1 w3) (J:w3.ownsRow B 84 2 (.slice p3 (E.L.length+1) c3) (E.L.length+1) (tcs (X++[(q,V.C.length)]))\/w3.ownsRow 0 84 2 (.slice p3 (E.L.length+1) c3) (E.L.length+1) (tcs (X++[(q,V.C.length)])))
 (A:(Value.slice p3 (E.L.length+1) c3).ownBlock=(Value.slice p E.L.length c).ownBlock\/∃k,(Value.slice p3 (E.L.length+1) c3).ownBlock=some k/\w1.heap.size<=k) :
 ∃F,EngB (w3.setCell ⟨t,4,none⟩ (.slice p3 (E.L.length+1) c3)) (λj=>K j\/B<=j) t { E with L:=E.L++[V] } F v d L0 (X++[(q,V.C.length)]) p3 c3/\Touch (λj=>j=t\/(Value.slice p E.L.length c).ownBlock=some j) w1 (w3.setCell ⟨t,4,none⟩ (.slice p3 (E.L.length+1) c3)):=by
 have J:w3.ownsRow 0 84 2 (.slice p3 (E.L.length+1) c3) (E.L.length+1) (tcs (X++[(q,V.C.length)])):=J.elim (λh=>A7 h (Nat.zero_le _)) id;obtain ⟨w4,i⟩:=Q' (w3.setCell ⟨t,4,none⟩ (.slice p3 (E.L.length+1) c3));have l:∀j,(Value.slice p E.L.length c).ownBlock=some j->col j=2/\K j:=λj b=>by
  cases p with
  | none=>simp [Value.ownBlock] at b
  | some a=>
   have:=(H.kp a rfl).1;have e:a.block=j:=by obtain ⟨g,o,pa⟩:=a;simp only [Value.ownBlock] at b;injection b
   rw [<-e];exact this
 have w:¬(Value.slice p E.L.length c).ownBlock=some t:=λe=>by have:=(l t e).1;have:=H.kt.1;omega
 have a2:w4.heap.size=w3.heap.size:=by rw [i];exact World.size_setCell _ _ _
 have D:Touch (λj=>j=t) w3 w4:=by rw [i];exact ⟨rfl,rfl,rfl,by rw [World.size_setCell];exact Qn _,λk _ hn=>Below.heap_setCell w3 ⟨t,4,none⟩ _ k (by simpa using hn)⟩
 have m:Touch (λj=>j=t\/(Value.slice p E.L.length c).ownBlock=some j) w1 w4:=(Y.mono λ_ _ h => .inr h).trans (D.mono λ_ _ h => .inl h);have hb:=Y.block t H.lt w;have hc:∀j,w3.cell? ⟨t,j,none⟩=w1.cell? ⟨t,j,none⟩:=λj=>World.cell?_of_block (a:=⟨t,j,none⟩) hb;have I:∀j,j≠4->w4.cell? ⟨t,j,none⟩=w1.cell? ⟨t,j,none⟩:=λj b=>by
  rw [i,World.cell?_setCell_other]
  ·exact hc j
  ·intro e;injection e with _ O;exact b O.symm
 have a1:=Y.size;have z:(Value.slice p3 (E.L.length+1) c3).ownBlock≠some t:=by
  rcases A with e | ⟨k,e,s⟩
  ·rw [e];exact w
  ·rw [e];intro O;injection O with O;have:=H.lt;omega
 have y:=Touch.own J D (λj b e=>z (by rw [b,e]));have N:∀j,(j=t\/(Value.slice p E.L.length c).ownBlock=some j)->(col j=0\/col j=2)/\K j:=λj b=>by
  rcases b with rfl | b
  ·exact ⟨.inl H.kt.1,H.kt.2⟩
  ·exact ⟨.inr (l j b).1,(l j b).2⟩
 refine ⟨λj=>if j<B then col j else if j<w1.heap.size then E.L.length+4 else 2,?_,by rw [<-i];exact m⟩;rw [<-i];have n:∀j,K j->(if j<B then col j else if j<w1.heap.size then E.L.length+4 else 2)=col j:=λj b=>if_pos (hK j b);have Q:∀a,p3=some a->(Value.slice p3 (E.L.length+1) c3).ownBlock=some a.block:=λa ha=>by subst ha;rfl
 refine ⟨Qm H.lt m.size,(I 0 Qd).trans H.c0,(I 1 Qd).trans H.c1,(I 2 Qd).trans H.c2,(I 3 Qd).trans H.c3,?_,λj => ?_,Touch.own H.own m (λj b x=>by have:=(N j x).1;have:=(H.kv j b).1;omega),
  Row.of_own y,?_,λk s R => ?_,?_,λk s R => ?_,?_,⟨(n t H.kt.2).trans H.kt.1,.inl H.kt.2⟩,λj b=>⟨(n j (H.kv j b).2).trans (H.kv j b).1,.inl (H.kv j b).2⟩,λa ha => ?_⟩
 ·rw [Qo,i];exact World.cell?_setCell_same _ _ _ ((hc 4).trans H.c4)
 ·rw [i,World.frozen?_setCell];exact (World.frozen?_of_block (a:=⟨t,j,none⟩) hb).trans (H.f j)
 ·rw [Qo,Qo,H.xl];rfl
 ·by_cases h:k<X.length
  ·have r:k<E.L.length:=by rw [<-H.xl];exact h
   rw [List.getElem_append_left h,List.getElem_append_left r];exact H.xc k h r
  ·have e1:k=X.length:=by rw [Qo] at s;simp at s;omega
   subst e1;rw [List.getElem_append_right (Qn _),List.getElem_append_right (by rw [H.xl];exact Qn _)];simp
 ·rw [Qo];exact C6 J
 ·by_cases h:k<X.length
  ·have r:k<E.L.length:=by rw [<-H.xl];exact h
   rw [List.getElem_append_left h];simp only [List.getElem_append_left r];exact ((H.lev k h r).touched m (λj b x=>by have:=(N j x).1;have:=b.1;omega)).mono λj b=>⟨(n j b.2).trans b.1,.inl b.2⟩
  ·have e1:k=X.length:=by rw [Qo] at s;simp at s;omega
   subst e1;have hl:=H.xl;have U:(X++[(q,V.C.length)])[X.length]=(q,V.C.length):=by rw [List.getElem_append_right (Qn _)];simp
   have S:(E.L++[V])[X.length]=V:=by rw [List.getElem_append_right Qa];simp
   rw [U];simp only [S];refine (hV.old.touched m (λj b x=>by have:=hK j (N j x).2;have:=b.1;omega)).mono λj b=>⟨?_,.inr b.1⟩;rw [if_neg (by have:=b.1;omega),if_pos b.2,hl]
 ·exact (H.dir.touched m (λj b x=>by have:=(N j x).1;have:=b.1;omega)).mono λj b=>⟨(n j b.2).trans b.1,.inl b.2⟩
 ·have u:=Q a ha;have r:=(y.lt a.block u).2;rcases A with e | ⟨k,e,s⟩
  ·rw [e] at u;have Z:=l _ u;exact ⟨⟨(n _ Z.2).trans Z.1,.inl Z.2⟩,r⟩
  ·rw [e] at u;injection u with u;subst u;exact ⟨⟨by rw [if_neg Qa,if_neg Qa],.inr Qa⟩,r⟩
end
theorem Zyl (c:Cf) (s:Nat) (L C:List Int) (p q:Option Addr) (k l:Nat) (w:World) (Z:W64 s) (U:IRow w p L) (S:L.length<=1000) (o:∀x∈L,x<=9223372036854775807) (d:okE c L=false) :
 Calls prog 18 #[cfgA c,.int .u64 (s:Int),.slice p L.length k,.slice q C.length l] w λe w'=>e = .returned (.tuple #[.pointer none,.int .i64 1])/\Below w.heap.size w w':=by
 have u:=Ow c;have r:=λW (h:Below w.heap.size w W)=>Y7 c p k L W (U.below h) Qa o;unfold okE at d;obtain ⟨wd,y,t,st,A,bt,le,bk,rt,B⟩:=c;unfold cfgA at u r ⊢;simp only at r d ⊢;generalize okCf ⟨wd,y,t,st,A,bt,le,bk,rt,B⟩=b1 at u d;generalize Bg wd y t st L=b2 at r d;obtain ⟨i,a⟩:∃W:World,W=w.alloc (.cells #[.int .i64 wd,.int .i64 y,.int .i64 t,.int .i64 st,.int .i64 A,.int .i64 bt,.int .i64 le,.int .i64 bk,.int .i64 rt,.int .i64 B] 23):=⟨_,rfl⟩;have m:Below w.heap.size w i:=by rw [a];go_grown
 have f:w.heap.size<i.heap.size:=by rw [a];simp
 have R:i.cell? ⟨w.heap.size,0,none⟩=some (.int .i64 wd):=by rw [a];simp [go_sem]
 have k1:i.cell? ⟨w.heap.size,1,none⟩=some (.int .i64 y):=by rw [a];simp [go_sem]
 have Q:i.cell? ⟨w.heap.size,2,none⟩=some (.int .i64 t):=by rw [a];simp [go_sem]
 have O:i.cell? ⟨w.heap.size,3,none⟩=some (.int .i64 st):=by rw [a];simp [go_sem]
 have N:i.cell? ⟨w.heap.size,4,none⟩=some (.int .i64 A):=by rw [a];simp [go_sem]
 have K:i.cell? ⟨w.heap.size,5,none⟩=some (.int .i64 bt):=by rw [a];simp [go_sem]
 have J:i.cell? ⟨w.heap.size,6,none⟩=some (.int .i64 le):=by rw [a];simp [go_sem]
 have I:i.cell? ⟨w.heap.size,7,none⟩=some (.int .i64 bk):=by rw [a];simp [go_sem]
 have F:i.cell? ⟨w.heap.size,8,none⟩=some (.int .i64 rt):=by rw [a];simp [go_sem]
 have E:i.cell? ⟨w.heap.size,9,none⟩=some (.int .i64 B):=by rw [a];simp [go_sem]
 have X:=hid u;have Y:=hid r;clear u r U o;go_enter func18,ntmps18;go_upto_region 1 with fail;rw [<-a];clear a;go_wp2_with fail;refine (X.o _).mono ?_;rintro e w1 ⟨rfl,j⟩;obtain ⟨b,D⟩:=Ac j;have R:=(b _ _ f).trans R;have k1:=(b _ _ f).trans k1;have Q:=(b _ _ f).trans Q;have O:=(b _ _ f).trans O;have N:=(b _ _ f).trans N;have K:=(b _ _ f).trans K;have J:=(b _ _ f).trans J;have I:=(b _ _ f).trans I;have F:=(b _ _ f).trans F;have E:=(b _ _ f).trans E;have m:=m.trans (j.mono m.size);have f:=Qm f j.size;clear b D j;cases b1 with
 | false=>go_wp2;go_ret2;exact ⟨rfl,m⟩
 | true=>
  have n:b2=false:=by simpa using d
  subst n;go_wp2_with fail;refine (Y.o _ m).mono ?_;rintro e w2 ⟨rfl,n⟩;have z:=m.trans (n.mono m.size);go_wp2;go_ret2;exact ⟨rfl,z⟩
end
end Go.Proofs.YtpdphfgpdgadpaaGreat
