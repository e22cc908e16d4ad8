import Derived.Test.YtpdphfgpdgadpaaGreatM22
set_option linter.unusedSimpArgs false
set_option linter.unusedVariables false
set_option maxHeartbeats 16000000
set_option maxRecDepth 100000
open Go.Proofs.Tryz
namespace Go.Proofs.YtpdphfgpdgadpaaGreat
section
open M
structure Cf where
 wd:Int
 di:Int
 lv:Int
 st:Int
 hs:Int
 bt:Int
 le:Int
 bk:Int
 rt:Int
 hp:Int
def okCf (c:Cf):Bool:=decide ((1<=c.wd/\c.wd<=128)/\(0<=c.di/\c.di<=c.wd/\c.di<=8)/\(0<=c.lv/\c.lv<=128)/\(1<=c.st/\c.st<=6)/\(1<=c.hs/\c.hs<=16)/\(1<=c.le/\c.le<=65536)/\(c.le*max c.lv 1<=c.bt/\c.bt<=1073741824)/\(1<=c.bk/\c.bk<=1000)/\(0<=c.rt/\c.rt<=300)/\(0<=c.hp/\c.hp<=60)/\c.wd-c.di<=c.lv*c.st)
def sumE (C:List Int) (a b:Int):Nat:=sumF (λj=>atC C (a.toNat+1+j)*2^((b-a).toNat-1-j)) (b-a).toNat
def Bh (C:List Int):Int->List Int->List Nat
 | _,[]=>[]
 | a,b::L=>sumE C a b::Bh C b L
theorem Hy (C:List Int):∀(L:List Int) (a:Int),(Bh C a L).length=L.length
 | [],_=>rfl
 | b::L,a=>by unfold Bh;rw [Qt,Qt,Hy C L b]
def capB (n:Int):Nat:=(max 1 (min n 65536)).toNat
def B4 (c:Cf) (a C:List Int):List Nat:=(shL c.bt c.le ((Bh C c.di a).map fl)).map capB
theorem Xl (c:Cf) (a C:List Int):(B4 c a C).length=a.length:=by unfold B4;rw [List.length_map,Tv,List.length_map,Hy]
def mkE (c:Cf) (s:Nat):Nat->List Int->List Nat->List Lv
 | i,n::L,b::B=>newV n (mixN ((s+i)%18446744073709551616)) c.hs b c.bk.toNat::mkE c s (i+1) L B
 | _,_,_=>[]
structure Eg where
 wd:Int
 di:Int
 L:List Lv
 R:List Rt
def newE (c:Cf) (s:Nat) (a C:List Int):Eg:=⟨c.wd,c.di,mkE c s 0 a (B4 c a C),[]⟩
structure Eg.ok (E:Eg):Prop where
 rts:C4 E.R
 lev:EgLv E.R E.di E.L
 top:topE E.di E.L=E.wd
 dir:0<=E.di/\E.di<=8
 wid:E.wd<=128
def D8 (E:Eg) (r:Rt):Bool:=Ap r.k.h r.k.l r.k.n&&decide (r.k.n<=E.wd)&&decide (0<=r.v)
def Eg.toR (E:Eg) (R':List Rt):Eg:={ E with L:=B2 E.R R' E.di E.L,R:=R' }
def Eg.put (E:Eg) (r:Rt):Eg:=if D8 E r=true then E.toR (Ak E.R r) else E
def Eg.del (E:Eg) (k:Ky):Eg:=if k∈Aa E.R then E.toR (outS E.R k) else E
def Eg.cutA (E:Eg) (b a:Nat):Ky:=cutK b a E.wd.toNat
def Eg.dir22 (E:Eg) (b a:Nat):Option Int:=hopK (upS E.R E.di) (-1) (cutK b a E.di.toNat)
def Eg.probes (E:Eg) (b a:Nat):List Int:=(A8 (E.cutA b a).h (E.cutA b a).l E.L.reverse).2
theorem N6 {R:List Rt} (h:C4 R) {r:Rt} (c:r.k.good) (b:0<=r.v):C4 (Ak R r):=by
 refine ⟨Cb r h.sort,λq a => ?_,λq a => ?_⟩
 ·rcases (Dt h.sort).1 a with e | ⟨e,-⟩
  ·rw [e];exact c
  ·exact h.good q e
 ·rcases (Dt h.sort).1 a with e | ⟨e,-⟩
  ·rw [e];exact b
  ·exact h.pos q e
theorem N7 {R:List Rt} (h:C4 R) (k:Ky):C4 (outS R k):=⟨Cm k h.sort,λq a=>h.good q (A6.1 a).1,λq a=>h.pos q (A6.1 a).1⟩
theorem Eg.ok.toR {E:Eg} (h:E.ok) {R':List Rt} (a:C4 R'):(E.toR R').ok:=
 ⟨a,Xd h.rts a _ _ h.lev,(Xe _ _ _ _).trans h.top,h.dir,h.wid⟩
theorem Eg.ok.put {E:Eg} (h:E.ok) (r:Rt) (b:r.k.good):(E.put r).ok:=by
 unfold Eg.put;by_cases a:D8 E r=true
 ·rw [if_pos a];unfold D8 at a;simp only [Qq,decide_eq_true_eq] at a;exact h.toR (N6 h.rts b a.2)
 ·rw [if_neg a];exact h
theorem Eg.ok.del {E:Eg} (h:E.ok) (k:Ky):(E.del k).ok:=by
 unfold Eg.del;split
 ·exact h.toR (N7 h.rts k)
 ·exact h
theorem Xm (E:Eg) (r:Rt):(E.put r).R=if D8 E r=true then Ak E.R r else E.R:=by unfold Eg.put;split<;>rfl
theorem Xn (E:Eg) (k:Ky):(E.del k).R=outS E.R k:=by
 unfold Eg.del;split
 ·rfl
 ·rename_i h;exact (Kh h).symm
theorem Z7y (E:Eg) (r:Rt):(E.put r).wd=E.wd:=by unfold Eg.put;split<;>rfl
theorem Z8n (E:Eg) (k:Ky):(E.del k).wd=E.wd:=by unfold Eg.del;split<;>rfl
theorem Eg.ok.down {E:Eg} (h:E.ok) (b a:Nat):(E.probes b a).Pairwise (· > ·):=Zq3 h.lev _ _
theorem Z1t (a b:Int):setS [] a b=[]:=by unfold setS;split<;>rfl
theorem N8 {st wd:Int}:∀(L:List Int) (a:Int),rgB st wd a L=true->a<=wd
 | [],a,h=>by have:a=wd:=of_decide_eq_true h;omega
 | b::L,a,h=>by simp only [rgB,Qq,decide_eq_true_eq] at h;have:=N8 L b h.2;omega
theorem Xo (c:Cf) (s:Nat) (q:c.st<=8) (f:c.wd<=128) (k:1<=c.bk) (j:c.bk<=65536):∀(d:List Int) (B:List Nat) (i:Nat) (a:Int),B.length=d.length->0<=a->rgB c.st c.wd a d=true->EgLv [] a (mkE c s i d B)/\topE a (mkE c s i d B)=c.wd
 | [],[],_,a,_,_,h=>⟨trivial,of_decide_eq_true h⟩
 | [],b::B,_,_,e,_,_=>by simp at e
 | n::L,[],_,_,e,_,_=>by simp at e
 | n::L,b::B,i,a,e,ha,h=>by simp only [rgB,Qq,decide_eq_true_eq] at h;obtain ⟨⟨r,t⟩,l⟩:=h;obtain ⟨o,m⟩:=Xo c s q f k j L B (i+1) n (by simpa using e) Qa l;have p:=N8 L n l;unfold mkE EgLv topE;refine ⟨⟨⟨⟨ha,r,by show n-a<=8;omega,by show n<=128;omega⟩,?_⟩,o⟩,m⟩;rw [Z1t];exact Z52 _ _ _ _ _ Qa Qa
theorem Xp (c:Cf) (s:Nat):∀(a:List Int) (B:List Nat) (i:Nat),B.length=a.length->(mkE c s i a B).map Lv.n=a
 | [],[],_,_=>rfl
 | [],b::B,_,d=>by simp at d
 | n::L,[],_,d=>by simp at d
 | n::L,b::B,i,d=>by unfold mkE;rw [List.map_cons,Xp c s L B (i+1) (by simpa using d)];rfl
theorem Z53 {c:Cf} {s:Nat} {a C:List Int} (h:okCf c=true) (b:Bg c.wd c.di c.lv c.st a=true):(newE c s a C).ok:=by unfold okCf at h;obtain ⟨⟨w1,w2⟩,⟨d1,d2,d3⟩,-,⟨e,s2⟩,-,-,-,⟨b1,b2⟩,-⟩:=of_decide_eq_true h;unfold Bg at b;simp only [Qq] at b;have d:=Xo c s Qa w2 b1 Qa a (B4 c a C) 0 c.di (Xl c a C) d1 b.2;exact ⟨⟨List.Pairwise.nil,λr b=>(by cases b),λr b=>(by cases b)⟩,d.1,d.2,⟨d1,d3⟩,w2⟩
end
section
open Go.ChangeShapes Go.WideShapes Go.ChangeAt Go.RowKit Go.Joins Go.Deep M
def cfgL (c:Cf):List Value:=[.int .i64 c.wd,.int .i64 c.di,.int .i64 c.lv,.int .i64 c.st,.int .i64 c.hs,.int .i64 c.bt,.int .i64 c.le,.int .i64 c.bk,.int .i64 c.rt,.int .i64 c.hp]
def cfgA (c:Cf):Value := .agg #[.int .i64 c.wd,.int .i64 c.di,.int .i64 c.lv,.int .i64 c.st,.int .i64 c.hs,.int .i64 c.bt,.int .i64 c.le,.int .i64 c.bk,.int .i64 c.rt,.int .i64 c.hp]
section
variable {H:Type} {enc:TypeId×Value->H} {w:World} {base:Nat} {spare:Nat->Bool} {held:Bool} {r:Reach} {b0:Nat}
theorem Zky {n:Nat} {a:List Value} {x:DataW H×List MemPlace} (h:DataW.trod enc prog w base spare held n 23 a=some x):∃c:Cf,a=cfgL c:=by
 obtain ⟨xs,m,-,-,C,B,b⟩:=DataW.trod_struct underlying23 h;rw [show prog.cellsOf 23=10 by kernel_rfl] at C;have q:DataW.trod enc prog w base spare held m 3 ((a.drop 0).take (prog.cellsOf 3))=xs[0]? := b 0 _ rfl;have p:DataW.trod enc prog w base spare held m 3 ((a.drop 1).take (prog.cellsOf 3))=xs[1]? := b 1 _ rfl;have o:DataW.trod enc prog w base spare held m 3 ((a.drop 2).take (prog.cellsOf 3))=xs[2]? := b 2 _ rfl;have l:DataW.trod enc prog w base spare held m 3 ((a.drop 3).take (prog.cellsOf 3))=xs[3]? := b 3 _ rfl;have k:DataW.trod enc prog w base spare held m 3 ((a.drop 4).take (prog.cellsOf 3))=xs[4]? := b 4 _ rfl;have j:DataW.trod enc prog w base spare held m 3 ((a.drop 5).take (prog.cellsOf 3))=xs[5]? := b 5 _ rfl;have i:DataW.trod enc prog w base spare held m 3 ((a.drop 6).take (prog.cellsOf 3))=xs[6]? := b 6 _ rfl;have f:DataW.trod enc prog w base spare held m 3 ((a.drop 7).take (prog.cellsOf 3))=xs[7]? := b 7 _ rfl;have e:DataW.trod enc prog w base spare held m 3 ((a.drop 8).take (prog.cellsOf 3))=xs[8]? := b 8 _ rfl;have d:DataW.trod enc prog w base spare held m 3 ((a.drop 9).take (prog.cellsOf 3))=xs[9]? := b 9 _ rfl;rw [show prog.cellsOf 3=1 by kernel_rfl] at q p o l k j i f e d;obtain ⟨A,z,c2,c3,c4,y,u,t,s,r,rfl⟩:∃A z c2 c3 c4 y u t s r,a=[A,z,c2,c3,c4,y,u,t,s,r]:=by rcases a with _ | ⟨A,_ | ⟨z,_ | ⟨c2,_ | ⟨c3,_ | ⟨c4,_ | ⟨y,_ | ⟨u,_ | ⟨t,_ | ⟨s,_ | ⟨r,_ | ⟨a1,a⟩⟩⟩⟩⟩⟩⟩⟩⟩⟩⟩<;>simp at C;exact ⟨A,z,c2,c3,c4,y,u,t,s,r,rfl⟩
 simp only [List.drop_zero,List.take_succ_cons,List.take_zero,List.drop_succ_cons] at q p o l k j i f e d;rw [Qr (by rw [B];decide)] at q p o l k j i f e d;obtain ⟨y0,Q,-,-⟩:=DataW.trod_int underlying3 q;obtain ⟨y1,O,-,-⟩:=DataW.trod_int underlying3 p;obtain ⟨y2,N,-,-⟩:=DataW.trod_int underlying3 o;obtain ⟨y3,L,-,-⟩:=DataW.trod_int underlying3 l;obtain ⟨Z,K,-,-⟩:=DataW.trod_int underlying3 k;obtain ⟨Y,J,-,-⟩:=DataW.trod_int underlying3 j;obtain ⟨X,I,-,-⟩:=DataW.trod_int underlying3 i;obtain ⟨U,F,-,-⟩:=DataW.trod_int underlying3 f;obtain ⟨S,E,-,-⟩:=DataW.trod_int underlying3 e;obtain ⟨R,D,-,-⟩:=DataW.trod_int underlying3 d;simp only [List.cons.injEq,and_true] at Q O N L K J I F E D;exact ⟨⟨y0,y1,y2,y3,Z,Y,X,U,S,R⟩,by rw [Q,O,N,L,K,J,I,F,E,D];rfl⟩
theorem Z17 {v:Value} {d:DataW H} {p:List MemPlace} (a:Value.okWide prog w r b0 23 v) (h:DataW.Trod enc prog w base spare held 23 v d p):∃c:Cf,v=cfgA c:=by obtain ⟨j,rfl,b⟩:=okWide_struct underlying23 a;obtain ⟨m,f⟩:=h;obtain ⟨c,e⟩:=Zky f;refine ⟨c,?_⟩;obtain ⟨l⟩:=j;have i:l=_:=e;rw [i];rfl
end
end
section
open Go Go.RowKit Go.Sort M
theorem wrap_small {a b A B:Int} (e:0<=a) (d:a<=A) (c:0<=b) (f:b<=B) (h:A*B<=1000000000000):wrap64 (a*b)=a*b:=by have j:0<=a*b:=Int.mul_nonneg e c;have i:a*b<=A*B:=Int.mul_le_mul d f c (Int.le_trans e d);exact IntWalk.wrap64_in _ Qa
theorem Xq (c:Cf):Aj prog 6 #[cfgA c] (.bool (okCf c)):=by
 intro w;have b:okCf c=decide ((1<=c.wd/\c.wd<=128)/\(0<=c.di/\c.di<=c.wd/\c.di<=8)/\(0<=c.lv/\c.lv<=128)/\(1<=c.st/\c.st<=6)/\(1<=c.hs/\c.hs<=16)/\(1<=c.le/\c.le<=65536)/\(c.le*max c.lv 1<=c.bt/\c.bt<=1073741824)/\(1<=c.bk/\c.bk<=1000)/\(0<=c.rt/\c.rt<=300)/\(0<=c.hp/\c.hp<=60)/\c.wd-c.di<=c.lv*c.st):=rfl;obtain ⟨wd,h,f,st,j,bt,le,bk,rt,k⟩:=c;unfold cfgA;simp only at *
 obtain ⟨l,e⟩:=Q' (le*max f 1);obtain ⟨i,d⟩:=Q' (f*st);rw [<-e,<-d] at b;by_cases E:f=0
 ·have D:(f == 0)=true:=by simpa using E
  have U:l=le:=by rw [e,show max f 1=1 by omega,Int.mul_one]
  rw [U] at b;clear E;by_cases R:wd<1
  ·skip;have a:=b.trans (decide_eq_false Qa);rw [a];clear b a d e;go_enter func6,ntmps6;go_wp2;go_ret;exact ⟨rfl,Qg⟩
  by_cases Q:128<wd
  ·skip;have a:=b.trans (decide_eq_false Qa);rw [a];clear b a d e;go_enter func6,ntmps6;go_wp2;go_ret;exact ⟨rfl,Qg⟩
  by_cases n2:h<0
  ·skip;have a:=b.trans (decide_eq_false Qa);rw [a];clear b a d e;go_enter func6,ntmps6;go_wp2;go_ret;exact ⟨rfl,Qg⟩
  by_cases O:wd<h
  ·skip;have a:=b.trans (decide_eq_false Qa);rw [a];clear b a d e;go_enter func6,ntmps6;go_wp2;go_ret;exact ⟨rfl,Qg⟩
  by_cases N:8<h
  ·skip;have a:=b.trans (decide_eq_false Qa);rw [a];clear b a d e;go_enter func6,ntmps6;go_wp2;go_ret;exact ⟨rfl,Qg⟩
  by_cases L:f<0
  ·skip;have a:=b.trans (decide_eq_false Qa);rw [a];clear b a d e;go_enter func6,ntmps6;go_wp2;go_ret;exact ⟨rfl,Qg⟩
  by_cases K:128<f
  ·skip;have a:=b.trans (decide_eq_false Qa);rw [a];clear b a d e;go_enter func6,ntmps6;go_wp2;go_ret;exact ⟨rfl,Qg⟩
  by_cases J:st<1
  ·skip;have a:=b.trans (decide_eq_false Qa);rw [a];clear b a d e;go_enter func6,ntmps6;go_wp2;go_ret;exact ⟨rfl,Qg⟩
  by_cases I:6<st
  ·skip;have a:=b.trans (decide_eq_false Qa);rw [a];clear b a d e;go_enter func6,ntmps6;go_wp2;go_ret;exact ⟨rfl,Qg⟩
  by_cases F:j<1
  ·skip;have a:=b.trans (decide_eq_false Qa);rw [a];clear b a d e;go_enter func6,ntmps6;go_wp2;go_ret;exact ⟨rfl,Qg⟩
  by_cases y:16<j
  ·skip;have a:=b.trans (decide_eq_false Qa);rw [a];clear b a d e;go_enter func6,ntmps6;go_wp2;go_ret;exact ⟨rfl,Qg⟩
  by_cases x:le<1
  ·skip;have a:=b.trans (decide_eq_false Qa);rw [a];clear b a d e;go_enter func6,ntmps6;go_wp2;go_ret;exact ⟨rfl,Qg⟩
  by_cases u:65536<le
  ·skip;have a:=b.trans (decide_eq_false Qa);rw [a];clear b a d e;go_enter func6,ntmps6;go_wp2;go_ret;exact ⟨rfl,Qg⟩
  have C:wrap64 (f*st)=i:=by rw [d];exact wrap_small (A:=128) (B:=6) Qa Qa Qa Qa Qd
  have z:wrap64 (wd-h)=wd-h:=IntWalk.wrap64_in _ Qa;by_cases t:bt<le
  ·skip;have a:=b.trans (decide_eq_false Qa);rw [a];clear b a d e;go_enter func6,ntmps6;go_wp2;go_ret;exact ⟨rfl,Qg⟩
  by_cases s:1073741824<bt
  ·skip;have a:=b.trans (decide_eq_false Qa);rw [a];clear b a d e;go_enter func6,ntmps6;go_wp2;go_ret;exact ⟨rfl,Qg⟩
  by_cases r:bk<1
  ·skip;have a:=b.trans (decide_eq_false Qa);rw [a];clear b a d e;go_enter func6,ntmps6;go_wp2;go_ret;exact ⟨rfl,Qg⟩
  by_cases q:1000<bk
  ·skip;have a:=b.trans (decide_eq_false Qa);rw [a];clear b a d e;go_enter func6,ntmps6;go_wp2;go_ret;exact ⟨rfl,Qg⟩
  by_cases p:rt<0
  ·skip;have a:=b.trans (decide_eq_false Qa);rw [a];clear b a d e;go_enter func6,ntmps6;go_wp2;go_ret;exact ⟨rfl,Qg⟩
  by_cases o:300<rt
  ·skip;have a:=b.trans (decide_eq_false Qa);rw [a];clear b a d e;go_enter func6,ntmps6;go_wp2;go_ret;exact ⟨rfl,Qg⟩
  by_cases n:k<0
  ·skip;have a:=b.trans (decide_eq_false Qa);rw [a];clear b a d e;go_enter func6,ntmps6;go_wp2;go_ret;exact ⟨rfl,Qg⟩
  by_cases m:60<k
  ·skip;have a:=b.trans (decide_eq_false Qa);rw [a];clear b a d e;go_enter func6,ntmps6;go_wp2;go_ret;exact ⟨rfl,Qg⟩
  have a:okCf ⟨wd,h,f,st,j,bt,le,bk,rt,k⟩=decide (wd-h<=i):=b.trans (decide_eq_decide.2 Qa);rw [a];clear b a d e;go_enter func6,ntmps6;go_wp2;go_ret;exact ⟨rfl,Qg⟩
 ·have D:(f == 0)=false:=by simpa using E
  by_cases R:wd<1
  ·skip;have a:=b.trans (decide_eq_false Qa);rw [a];clear b a d e;go_enter func6,ntmps6;go_wp2;go_ret;exact ⟨rfl,Qg⟩
  by_cases Q:128<wd
  ·skip;have a:=b.trans (decide_eq_false Qa);rw [a];clear b a d e;go_enter func6,ntmps6;go_wp2;go_ret;exact ⟨rfl,Qg⟩
  by_cases n2:h<0
  ·skip;have a:=b.trans (decide_eq_false Qa);rw [a];clear b a d e;go_enter func6,ntmps6;go_wp2;go_ret;exact ⟨rfl,Qg⟩
  by_cases O:wd<h
  ·skip;have a:=b.trans (decide_eq_false Qa);rw [a];clear b a d e;go_enter func6,ntmps6;go_wp2;go_ret;exact ⟨rfl,Qg⟩
  by_cases N:8<h
  ·skip;have a:=b.trans (decide_eq_false Qa);rw [a];clear b a d e;go_enter func6,ntmps6;go_wp2;go_ret;exact ⟨rfl,Qg⟩
  by_cases L:f<0
  ·skip;have a:=b.trans (decide_eq_false Qa);rw [a];clear b a d e;go_enter func6,ntmps6;go_wp2;go_ret;exact ⟨rfl,Qg⟩
  by_cases K:128<f
  ·skip;have a:=b.trans (decide_eq_false Qa);rw [a];clear b a d e;go_enter func6,ntmps6;go_wp2;go_ret;exact ⟨rfl,Qg⟩
  by_cases J:st<1
  ·skip;have a:=b.trans (decide_eq_false Qa);rw [a];clear b a d e;go_enter func6,ntmps6;go_wp2;go_ret;exact ⟨rfl,Qg⟩
  by_cases I:6<st
  ·skip;have a:=b.trans (decide_eq_false Qa);rw [a];clear b a d e;go_enter func6,ntmps6;go_wp2;go_ret;exact ⟨rfl,Qg⟩
  by_cases F:j<1
  ·skip;have a:=b.trans (decide_eq_false Qa);rw [a];clear b a d e;go_enter func6,ntmps6;go_wp2;go_ret;exact ⟨rfl,Qg⟩
  by_cases y:16<j
  ·skip;have a:=b.trans (decide_eq_false Qa);rw [a];clear b a d e;go_enter func6,ntmps6;go_wp2;go_ret;exact ⟨rfl,Qg⟩
  by_cases x:le<1
  ·skip;have a:=b.trans (decide_eq_false Qa);rw [a];clear b a d e;go_enter func6,ntmps6;go_wp2;go_ret;exact ⟨rfl,Qg⟩
  by_cases u:65536<le
  ·skip;have a:=b.trans (decide_eq_false Qa);rw [a];clear b a d e;go_enter func6,ntmps6;go_wp2;go_ret;exact ⟨rfl,Qg⟩
  have C:wrap64 (f*st)=i:=by rw [d];exact wrap_small (A:=128) (B:=6) Qa Qa Qa Qa Qd
  have z:wrap64 (wd-h)=wd-h:=IntWalk.wrap64_in _ Qa;have S:wrap64 (le*f)=l:=by rw [e,show max f 1=f by omega];exact wrap_small (A:=65536) (B:=128) Qa Qa Qa Qa Qd
  by_cases t:bt<l
  ·skip;have a:=b.trans (decide_eq_false Qa);rw [a];clear b a d e;go_enter func6,ntmps6;go_wp2;go_ret;exact ⟨rfl,Qg⟩
  by_cases s:1073741824<bt
  ·skip;have a:=b.trans (decide_eq_false Qa);rw [a];clear b a d e;go_enter func6,ntmps6;go_wp2;go_ret;exact ⟨rfl,Qg⟩
  by_cases r:bk<1
  ·skip;have a:=b.trans (decide_eq_false Qa);rw [a];clear b a d e;go_enter func6,ntmps6;go_wp2;go_ret;exact ⟨rfl,Qg⟩
  by_cases q:1000<bk
  ·skip;have a:=b.trans (decide_eq_false Qa);rw [a];clear b a d e;go_enter func6,ntmps6;go_wp2;go_ret;exact ⟨rfl,Qg⟩
  by_cases p:rt<0
  ·skip;have a:=b.trans (decide_eq_false Qa);rw [a];clear b a d e;go_enter func6,ntmps6;go_wp2;go_ret;exact ⟨rfl,Qg⟩
  by_cases o:300<rt
  ·skip;have a:=b.trans (decide_eq_false Qa);rw [a];clear b a d e;go_enter func6,ntmps6;go_wp2;go_ret;exact ⟨rfl,Qg⟩
  by_cases n:k<0
  ·skip;have a:=b.trans (decide_eq_false Qa);rw [a];clear b a d e;go_enter func6,ntmps6;go_wp2;go_ret;exact ⟨rfl,Qg⟩
  by_cases m:60<k
  ·skip;have a:=b.trans (decide_eq_false Qa);rw [a];clear b a d e;go_enter func6,ntmps6;go_wp2;go_ret;exact ⟨rfl,Qg⟩
  have a:okCf ⟨wd,h,f,st,j,bt,le,bk,rt,k⟩=decide (wd-h<=i):=b.trans (decide_eq_decide.2 Qa);rw [a];clear b a d e;go_enter func6,ntmps6;go_wp2;go_ret;exact ⟨rfl,Qg⟩
end
section
open M
structure Sh where
 E:Eg
 W:List (Bool×Rt)
 sl:Nat
def opE (E:Eg) (x:Bool×Rt):Eg:=if x.1 then E.del x.2.k else E.put x.2
def opsE (E:Eg) (l:List (Bool×Rt)):Eg:=l.foldl opE E
def Sh.step (S:Sh):Sh:=⟨opsE S.E (S.W.take S.sl),S.W.drop S.sl,S.sl⟩
def lvC (c:Cf) (C:List Int):List Int:=toI ((Er C c.wd c.di c.lv c.st).getD [])
def C5 (c:Cf) (s:Nat) (L:List Rt) (sl:Nat):Sh:=⟨newE c s (lvC c (cntR L)) (cntR L),L.map λr=>(false,r),sl⟩
theorem Z77 {E:Eg} (h:E.ok) (x:Bool×Rt) (a:x.2.k.good):(opE E x).ok:=by
 unfold opE;split
 ·exact h.del _
 ·exact h.put _ a
theorem Xr {E:Eg} (h:E.ok) (x:Bool×Rt):(opE E x).R.length<=E.R.length+1:=by
 unfold opE;split
 ·rw [Xn];have:(outS E.R x.2.k).length<=E.R.length:=List.length_filter_le _ _;omega
 ·rw [Xm];split
  ·have a:=(Cl x.2 h.rts.sort).length_eq;have b:(outS E.R x.2.k).length<=E.R.length:=List.length_filter_le _ _;simp only [Qt] at a;omega
  ·omega
theorem Ge:∀(l:List (Bool×Rt)) {E:Eg},E.ok->(∀x∈l,x.2.k.good)->(opsE E l).ok/\(opsE E l).R.length<=E.R.length+l.length
 | [],_,h,_=>⟨h,Qn _⟩
 | x::l,E,h,b=>by have d:=Z77 h x (b x List.mem_cons_self);have e:=Xr h x;have a:=Ge l d (λy c=>b y (List.mem_cons_of_mem _ c));refine ⟨a.1,?_⟩;have:=a.2;show (opsE (opE E x) l).R.length<=_;rw [Qt];omega
theorem Gf (E:Eg) (l m:List (Bool×Rt)):opsE E (l++m)=opsE (opsE E l) m:=by unfold opsE;rw [List.foldl_append]
theorem Kk (E:Eg) (x:Bool×Rt):opsE E [x]=opE E x:=by unfold opsE;rw [List.foldl_cons,List.foldl_nil]
theorem Gg (E:Eg):opsE E []=E:=by unfold opsE;rw [List.foldl_nil]
theorem Z5u (E:Eg) (k:Ky) (v:Int):opE E (true,⟨k,v⟩)=E.del k:=by unfold opE;rw [if_pos rfl]
theorem Z76 (E:Eg) (x:Bool×Rt):(opE E x).wd=E.wd:=by
 unfold opE;split
 ·exact Z8n _ _
 ·exact Z7y _ _
theorem Xs:∀(l:List (Bool×Rt)) (E:Eg),(opsE E l).wd=E.wd
 | [],_=>rfl
 | x::l,E=>(Xs l (opE E x)).trans (Z76 E x)
theorem Xt (st wd:Nat):∀(k a:Nat),a<=wd->wd-a<=k*st->∃L,okC st wd a L=true/\L.length<=k
 | 0,a,h,b=>⟨[],Cs.2 Qa,Qn _⟩
 | k+1,a,h,b=>by
  by_cases e:a=wd
  ·exact ⟨[],Cs.2 e,Nat.zero_le _⟩
  ·by_cases f:wd<=a+st
   ·exact ⟨[wd],Ce.2 ⟨Qa,f,Cs.2 rfl⟩,Qf⟩
   ·by_cases c:st=0
    ·subst c;simp only [Nat.mul_zero] at b;omega
    ·have j:(k+1)*st=k*st+st:=Nat.succ_mul _ _;obtain ⟨L,d,i⟩:=Xt st wd k (a+st) Qa Qa;exact ⟨(a+st)::L,Ce.2 ⟨Qa,Qa,d⟩,by rw [Qt];omega⟩
theorem N9 {c:Cf} (h:okCf c=true) (C:List Int):(∃L,Er C c.wd c.di c.lv c.st=some L)/\Bg c.wd c.di c.lv c.st (lvC c C)=true:=by
 unfold okCf at h;obtain ⟨⟨w1,w2⟩,⟨d1,d2,d3⟩,⟨n,t⟩,⟨u,s2⟩,-,-,-,-,-,-,y⟩:=of_decide_eq_true h;have m:ablB c.wd c.di c.lv c.st=true:=decide_eq_true ⟨w1,w2,d1,d2,n,t,u,Qa⟩;obtain ⟨wd,i⟩:=Qv (show 0<=c.wd by omega);obtain ⟨f,l⟩:=Qv d1;obtain ⟨d,k⟩:=Qv n;obtain ⟨st,j⟩:=Qv (show 0<=c.st by omega);unfold lvC Er;rw [m,if_pos rfl];unfold Bg;rw [m];rw [i,l,k,j] at y ⊢;rw [i] at w1 w2 d2;rw [l] at d1 d2 d3;rw [k] at n t;rw [j] at u s2;simp only [Int.toNat_natCast];have q:wd-f<=d*st:=by
  have:(d:Int)*(st:Int)=((d*st:Nat):Int):=by rw [Int.natCast_mul]
  omega
 have p:wd-f<=min d wd*st:=by
  by_cases z:d<=wd
  ·rw [Nat.min_eq_left z];exact q
  ·rw [Nat.min_eq_right Qa];have:wd*1<=wd*st:=Nat.mul_le_mul_left _ Qa;omega
 have e:=Mp C st wd (min d wd) f;obtain ⟨L,s,r⟩:=Xt st wd (min d wd) f Qa p;obtain ⟨x,w,-⟩:=e.2 L s r;obtain ⟨k1,B,-⟩:=e.1 x w;simp only [w,Option.map_some,Option.getD_some];refine ⟨⟨x.2,rfl⟩,?_⟩;show (true&&decide (((toI x.2).length:Int)<=(d:Int))&&rgB (st:Int) (wd:Int) (f:Int) (toI x.2))=true;have o:∀(M:List Nat) (a:Nat),okC st wd a M=true->rgB (st:Int) (wd:Int) (a:Int) (toI M)=true:=by
  intro M
  induction M with
  | nil=>intro a ha;have:=Cs.1 ha;exact decide_eq_true Qa
  | cons b M ih=>intro a ha;obtain ⟨E,D,A⟩:=Ce.1 ha;show (decide ((a:Int)<(b:Int))&&decide ((b:Int)-(a:Int)<=(st:Int))&&rgB (st:Int) (wd:Int) (b:Int) (toI M))=true;rw [ih b A,decide_eq_true Qa,decide_eq_true Qa];rfl
 rw [o x.2 f k1,Jc,decide_eq_true Qa];rfl
theorem Xu {c:Cf} (h:okCf c=true) (s:Nat) (L:List Rt) (sl:Nat):(C5 c s L sl).E.ok:=Z53 h (N9 h _).2
def shR (i:Nat):Rt:=⟨⟨i*144115188075855872,0,7⟩,i⟩
def Ah (n:Nat):List Rt:=(List.range n).map shR
theorem Oa (n:Nat):Ah (n+1)=Ah n++[shR n]:=by unfold Ah;rw [List.range_succ,List.map_append];rfl
theorem B5 (n:Nat):(Ah n).length=n:=by simp [Ah]
theorem Z1p {i j:Nat} (h:i<j):An (shR i).k (shR j).k=true:=by unfold An shR;simp only;unfold A5;rw [if_pos Qa];exact decide_eq_true Qa
theorem Hz (n:Nat):Sorted (Ah n):=by unfold Ah Sorted;rw [List.pairwise_map];exact List.Pairwise.imp (λ{a b} h=>Z1p h) List.pairwise_lt_range
theorem Z5h (n i:Nat):(shR i).k∈Aa (Ah n)↔i<n:=by
 unfold Aa Ah;rw [List.map_map,List.mem_map];constructor
 ·rintro ⟨j,a,e⟩;have a:j<n:=by simpa using a
  have e:(shR j).k=(shR i).k:=e;unfold shR at e;simp only [Ky.mk.injEq] at e;omega
 ·intro h;exact ⟨i,by simpa using h,rfl⟩
theorem Xv {i:Nat} (h:i<128):(shR i).k.good:=⟨W64.mk (show i*144115188075855872<18446744073709551616 by omega),W64.mk (show 0<18446744073709551616 by decide)⟩
theorem Zxb {i:Nat} (h:i<128):Ap (shR i).k.h (shR i).k.l (shR i).k.n=true:=by
 rw [Fj];refine ⟨show (0:Int)<=7 by decide,show (7:Int)<=128 by decide,?_,?_⟩
 ·show cutW (i*144115188075855872) 7=i*144115188075855872;unfold cutW;show i*144115188075855872/2^57*2^57=_;rw [show (2:Nat)^57=144115188075855872 by decide,Nat.mul_div_cancel _ Qd]
 ·show cutW 0 (7-64)=0;unfold cutW;rw [Nat.zero_div,Nat.zero_mul]
theorem Z1s {n:Nat} (h:n<=30):∀r∈Ah n,r.k.good:=by
 intro r a;obtain ⟨i,hi,rfl⟩:=List.mem_map.1 a;have:i<n:=by simpa using hi
 exact Xv Qa
theorem Z1r (n:Nat):Ak (Ah n) (shR n)=Ah (n+1):=by
 refine Du (Cb _ (Hz n)) (Hz _) λq => ?_;rw [Dt (Hz n),Oa,List.mem_append,List.mem_singleton];constructor
 ·rintro (h | ⟨h,-⟩)
  ·exact .inr h
  ·exact .inl h
 ·rintro (h | h)
  ·refine .inr ⟨h,λe => ?_⟩;have a:(shR n).k∈Aa (Ah n):=by rw [<-e];exact List.mem_map.2 ⟨q,h,rfl⟩
   have:=(Z5h n n).1 a;omega
  ·exact .inl h
theorem Z7z {E:Eg} {n:Nat} (d:E.R=Ah n) (a:7<=E.wd) (h:n<30):(opE E (false,shR n)).R=Ah (n+1):=by
 have e:opE E (false,shR n)=E.put (shR n):=by unfold opE;rw [if_neg Qf]
 have c:D8 E (shR n)=true:=by have f:(shR n).k.n=7:=rfl;have b:(shR n).v=(n:Int):=rfl;unfold D8;rw [Zxb Qa,f,b,decide_eq_true a,decide_eq_true (show (0:Int)<=(n:Int) by omega)];rfl
 rw [e,Xm,if_pos c,d,Z1r]
theorem Xw {E:Eg} (b:E.R=[]) (a:7<=E.wd):∀k,k<=30->(opsE E ((Ah k).map λr=>(false,r))).R=Ah k
 | 0,_=>by rw [show Ah 0=[] by rfl,List.map_nil,Gg,b]
 | k+1,h=>by
  have e:(Ah (k+1)).map (λr=>(false,r))=(Ah k).map (λr=>(false,r))++[(false,shR k)]:=by rw [Oa,List.map_append,List.map_cons,List.map_nil]
  rw [e,Gf];have c:=Xw b a k Qa;rw [Kk];exact Z7z c (by rw [Xs];exact a) Qa
theorem Z6t (n i:Nat):outS ((Ah n).drop i) (shR i).k=(Ah n).drop (i+1):=by
 by_cases h:i<n
 ·have d:i<(Ah n).length:=by rw [B5];exact h
  have e:(Ah n)[i]=shR i:=by simp [Ah]
  have a:Sorted ((Ah n).drop i):=List.Pairwise.sublist (List.drop_sublist _ _) (Hz n);rw [List.drop_eq_getElem_cons d,e] at a ⊢;have c:=List.pairwise_cons.1 a;unfold outS;rw [List.filter_cons,if_neg Qf,List.filter_eq_self];intro r b;have:=c.1 r b;simp only [ne_eq,decide_not,Bool.not_eq_true',decide_eq_false_iff_not];intro f;rw [f,Bf] at this;cases this
 ·rw [List.drop_eq_nil_of_le (by rw [B5];omega),List.drop_eq_nil_of_le (by rw [B5];omega)];rfl
def dlL (k:Nat):List (Bool×Rt):=(List.range k).map λi=>(true,⟨(shR i).k,0⟩)
theorem Xx (k:Nat):dlL (k+1)=dlL k++[(true,⟨(shR k).k,0⟩)]:=by unfold dlL;rw [List.range_succ,List.map_append];rfl
theorem Fh (k:Nat):(dlL k).length=k:=by simp [dlL]
theorem Xy {E:Eg} {n:Nat} (a:E.R=Ah n):∀k,(opsE E (dlL k)).R=(Ah n).drop k
 | 0=>by rw [show dlL 0=[] by rfl,Gg,a,List.drop_zero]
 | k+1=>by rw [Xx,Gf,Kk,Z5u,Xn,Xy a k,Z6t]
theorem Xz {k:Nat} (h:k<=30):∀x∈dlL k,x.2.k.good:=by
 intro x a;obtain ⟨i,hi,rfl⟩:=List.mem_map.1 a;have:i<k:=by simpa using hi
 exact Xv Qa
structure Sh.ok (S:Sh):Prop where
 eng:S.E.ok
 good:∀x∈S.W,x.2.k.good
 few:∀j,(opsE S.E (S.W.take j)).R.length<=300
 cnt:S.W.length<=100000
 sl:1<=S.sl/\S.sl<=9223372036854775807
theorem X0 {E:Eg} (h:E.ok) {l:List (Bool×Rt)} (b:∀x∈l,x.2.k.good) (d:E.R.length+l.length<=300) (j:Nat):(opsE E (l.take j)).R.length<=300:=by have c:=(Ge (l.take j) h (λx a=>b x (List.mem_of_mem_take a))).2;rw [Qs] at c;omega
def Sh.add (S:Sh) (x:Bool×Rt):Sh:=⟨S.E,S.W++[x],S.sl⟩
def Sh.fin (S:Sh):Eg:=opsE S.E S.W
theorem Sh.ok.step {S:Sh} (h:S.ok):S.step.ok:=by
 have b:=Ge (S.W.take S.sl) h.eng (λx a=>h.good x (List.mem_of_mem_take a));refine ⟨b.1,λx a=>h.good x (List.mem_of_mem_drop a),λj => ?_,?_,h.sl⟩
 ·show (opsE (opsE S.E (S.W.take S.sl)) ((S.W.drop S.sl).take j)).R.length<=300;rw [<-Gf,<-List.take_add];exact h.few _
 ·have:=h.cnt;show (S.W.drop S.sl).length<=100000;rw [List.length_drop];omega
theorem Sh.ok.push {S:Sh} (h:S.ok) {x:Bool×Rt} (c:x.2.k.good) (e:(opE S.fin x).R.length<=300) (f:S.W.length<100000):(S.add x).ok:=by
 refine ⟨h.eng,λy b => ?_,λj => ?_,?_,h.sl⟩
 ·rcases List.mem_append.1 b with a | a
  ·exact h.good y a
  ·rw [List.mem_singleton.1 a];exact c
 ·show (opsE S.E ((S.W++[x]).take j)).R.length<=300;by_cases d:j<=S.W.length
  ·rw [List.take_append_of_le_length d];exact h.few j
  ·rw [List.take_of_length_le (by rw [Qo,List.length_singleton];omega),Gf,Kk];exact e
 ·show (S.W++[x]).length<=100000;rw [Qo,List.length_singleton];omega
theorem Sh.ok.add {S:Sh} (h:S.ok) {x:Bool×Rt} (b:x.2.k.good) (c:S.E.R.length+S.W.length<200):(S.add x).ok:=by have a:=Ge S.W h.eng h.good;have e:=Xr a.1 x;have d:=a.2;refine h.push b ?_ Qa;show (opE (opsE S.E S.W) x).R.length<=300;omega
theorem Sh.step_fin (S:Sh):S.step.fin=S.fin:=by show opsE (opsE S.E (S.W.take S.sl)) (S.W.drop S.sl)=opsE S.E S.W;rw [<-Gf,List.take_append_drop]
theorem Sh.step_few {S:Sh} (h:S.ok) {m:Nat} (a:S.W.length<=m+1):S.step.W.length<=m:=by show (S.W.drop S.sl).length<=m;have:=h.sl.1;rw [List.length_drop];omega
theorem X3 {c:Cf} (h:okCf c=true) (s:Nat) {L:List Rt} (i:∀r∈L,r.k.good) (f:L.length<=300) {sl:Nat} (l:1<=sl) (j:sl<=9223372036854775807):(C5 c s L sl).ok:=by
 have b:∀x∈(C5 c s L sl).W,x.2.k.good:=λx d=>by obtain ⟨r,e,rfl⟩:=List.mem_map.1 d;exact i r e
 have a:(C5 c s L sl).W.length=L.length:=List.length_map _;refine ⟨Xu h s L sl,b,X0 (Xu h s L sl) b ?_,Qa,l,j⟩;rw [a];show ([]:List Rt).length+L.length<=300;rw [List.length_nil,Nat.zero_add];exact f
theorem Zus (c:Cf) (s:Nat) (L:List Rt) (sl:Nat):(C5 c s L sl).W.length=L.length:=List.length_map _
theorem Zut (c:Cf) (s n:Nat) (sl:Nat) (a:7<=c.wd) (b:n<=30):(C5 c s (Ah n) sl).fin.R=Ah n:=
 Xw (E:=(C5 c s (Ah n) sl).E) rfl a n b
def Sh.dels (S:Sh) (k:Nat):Sh:=⟨S.E,dlL k,S.sl⟩
theorem Sh.dels_zero {S:Sh} (h:S.W=[]):S.dels 0=S:=by obtain ⟨E,W,sl⟩:=S;have h:W=[]:=h;subst h;rfl
theorem Sh.dels_succ (S:Sh) (k:Nat):(S.dels k).add (true,⟨(shR k).k,0⟩)=S.dels (k+1):=by unfold Sh.add Sh.dels;rw [Xx]
theorem Sh.dels_fin (S:Sh) {n:Nat} (a:S.E.R=Ah n) (k:Nat):(S.dels k).fin.R=(Ah n).drop k:=Xy a k
theorem Sh.dels_nil (S:Sh) (k:Nat):(S.dels k).W=[]↔k=0:=by
 constructor
 ·intro h;have:=Fh k;rw [show dlL k=[] from h] at this;simpa using this.symm
 ·rintro rfl;rfl
theorem Sh.dels_ok {S:Sh} (h:S.ok) {k:Nat} (a:k<=30) (b:S.E.R.length<=30):(S.dels k).ok:=by
 refine ⟨h.eng,Xz a,X0 h.eng (Xz a) ?_,?_,h.sl⟩
 ·show S.E.R.length+(dlL k).length<=300;rw [Fh];omega
 ·show (dlL k).length<=100000;rw [Fh];omega
theorem Sh.fin_done {S:Sh} (h:S.W=[]):S.fin=S.E:=by unfold Sh.fin;rw [h,Gg]
end
end Go.Proofs.YtpdphfgpdgadpaaGreat
