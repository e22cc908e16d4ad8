import Derived.Test.YtpdphfgpdgadpaaGreatW21a
import Derived.Test.YtpdphfgpdgadpaaGreatM22d
set_option linter.unusedSimpArgs false
set_option linter.unusedVariables false
set_option maxHeartbeats 4000000
set_option maxRecDepth 100000
open Go.Proofs.Tryz
namespace Go.Proofs.YtpdphfgpdgadpaaGreat
open Lib(hid)
section
open Go Go.RowKit Go.Sort M
def ptD (a:Int) (b:Bool) (n:Nat) (i:Nat) (v:Value) (_:World):Prop:=
 match i with
 | 5=>∃p c,v = .tuple #[.int .i64 a,.bool b,.slice p n c]
 | 6=>∃p c,v = .tuple #[.int .i64 a,.bool b,.slice p n c]
 | 7=>v = .int .i64 a
 | 8=>v = .bool b
 | 10=>v = .int .i64 a
 | 11=>v = .bool b
 | _=>True
def Dx (w w':World) (K:Nat->Prop) (t:Nat) (a:Lv):Prop:=∃K',LevP w' K' t a/\Touch K w w'/\∀g,K' g->K g\/In w.heap.size w'.heap.size g
theorem Dx.end0 {w w':World} {K b K':Nat->Prop} {t:Nat} {d:Lv} (c:∀g,b g->K g) (h:LevP w' K' t d) (f:Touch b w w') (e:∀g,K' g->b g\/In w.heap.size w'.heap.size g):Dx w w' K t d:=
 ⟨K',h,f.mono λg _ a=>c g a,λg a=>(e g a).imp (c g) id⟩
theorem Z0b {T:Tab} {k:Ky} (h:(delT T k).2=false):(delT T k).1=T:=by
 unfold delT at h ⊢;split at h
 ·cases h
 ·rename_i d;split at h
  ·cases h
  ·rename_i c;show ({ T with st:=outS T.st k }:Tab)=T;have a:k∉Aa T.st:=λb=>by rw [<-Si] at b;simp only [decide_eq_false_iff_not] at h;exact h b
   rw [Kh a]
theorem Zx0 (w:World) (K:Nat->Prop) (t:Nat) (V:Lv) (N:List Rt) (m l:Nat) (d o v:Int) (H:LevP w K t V) (HV:LvOk V N) (z:(⟨m,l,d⟩:Ky).good) (hn:d=V.n) (hv:0<=v) (hl:N.length<=100000) :
 Calls prog 86 #[.pointer (some ⟨t,0,none⟩),.agg #[.int .u64 (m:Int),.int .u64 (l:Int),.int .i64 d],.int .i64 v] w λe w'=>e = .returned (.tuple #[])/\Dx w w' K t (V.turn ⟨⟨m,l,d⟩,o,v⟩):=by
 obtain ⟨lo,hi,f,u,H⟩:=H;have hB:=H.old;obtain ⟨K0,R⟩:∃K0:Nat->Prop,K0=λj=>K j/\j<w.heap.size:=⟨_,rfl⟩;rw [<-R] at hB;have ac:Hid (∀g,K0 g->K g):=hid λg z=>by rw [R] at z;exact z.1
 have a2:¬K0 w.heap.size:=λh=>by rw [R] at h;have:=h.2;omega
 have c:=hid hB;clear R hB;have al:=HV.kept.len;have q:=λ(Q:Nat->Prop) W (h:Seat Q W u V.T)=>Seat.get u V.T ⟨m,l,d⟩ W h HV.kept.inv z Qa;have y:=λ(Q:Nat->Prop) W (h:Seat Q W u V.T) hP=>Seat.put u V.T ⟨⟨m,l,d⟩,v⟩ W h HV.kept.inv z Qa hP;unfold kyV at q y;simp only at q y;have Y:=λW C (h:Fil W lo hi f V.s V.k C)=>Z3j lo hi f V.s V.k C m l d W h z.1 z.2;have B:V.has ⟨m,l,d⟩=true->V.turn ⟨⟨m,l,d⟩,o,v⟩={ V with T:=putF 16 V.T ⟨⟨m,l,d⟩,v⟩ }:=λh=>by unfold Lv.turn;rw [if_pos (show (⟨⟨m,l,d⟩,o,v⟩:Ch).k.n=V.n from hn),if_pos (show 0<=(⟨⟨m,l,d⟩,o,v⟩:Ch).n from hv)];rw [show V.has (⟨⟨m,l,d⟩,o,v⟩:Ch).k=true from h,if_pos rfl]
 have A:V.has ⟨m,l,d⟩=false->V.turn ⟨⟨m,l,d⟩,o,v⟩={ V with C:=addL V.C (plc V.s m l d V.k V.C.length),T:=putF 16 V.T ⟨⟨m,l,d⟩,v⟩ }:=λh=>by unfold Lv.turn;rw [if_pos (show (⟨⟨m,l,d⟩,o,v⟩:Ch).k.n=V.n from hn),if_pos (show 0<=(⟨⟨m,l,d⟩,o,v⟩:Ch).n from hv)];rw [show V.has (⟨⟨m,l,d⟩,o,v⟩:Ch).k=false from h,if_neg Qf];rfl
 have X:V.has ⟨m,l,d⟩=(getT V.T ⟨m,l,d⟩).isSome:=rfl;obtain ⟨hs,a3⟩:=Q' (V.has ⟨m,l,d⟩);simp only [<-X] at q;rw [<-a3] at B A;simp only [<-a3] at q;generalize (getT V.T ⟨m,l,d⟩).getD 0=ah at *
 generalize (Dj V.T ⟨m,l,d⟩).length=rl at *
 have Z:=hid q;have ab:=hid y;have ad:=hid Y;have av:=hid B;have au:=hid A;clear H HV z hn hv hl al q y Y B A X a3;go_enter func86,ntmps86;go_wp2_with fail;obtain ⟨W1,x⟩:=Q' (w.alloc (.cells #[.int .u64 (m:Int),.int .u64 (l:Int),.int .i64 d] 32));try rw [<-x]
 have J:Below w.heap.size w W1:=by rw [x];go_grown
 have e0:W1.cell? ⟨w.heap.size,0,none⟩=some (.int .u64 (m:Int)):=by rw [x];simp [go_sem]
 have e1:W1.cell? ⟨w.heap.size,1,none⟩=some (.int .u64 (l:Int)):=by rw [x];simp [go_sem]
 have e2:W1.cell? ⟨w.heap.size,2,none⟩=some (.int .i64 d):=by rw [x];simp [go_sem]
 have p:w.heap.size<W1.heap.size:=by rw [x];simp
 have c:=hid (c.o.below J);clear x;have d1:=c.o.c1;have d2:=c.o.c2;have dl:=c.o.lt;have kg:=Ad;refine wp_region_noPanic ?_;generalize a9:NoPanic _=NQ;refine Jw [0,1,2] [3,4] [(5,15,[]),(6,9,[(5,15)]),(7,16,[(6,9)]),(8,17,[(6,9)]),(9,18,[(6,9)]),(10,6,[(7,16)]),(11,7,[(8,17)]),(12,8,[(9,18)])] [] (ptD ah hs rl) (λi v W W' _ h=>h) Qb (by rw [<-a9];exact λ_ _ _ h=>h) Qb Qb Qb ?_;simp only [Ag,List.filterMap_cons,List.filterMap_nil,List.getElem?_toArray,List.getElem?_cons_succ,List.getElem?_cons_zero];repeat (any_goals (quiet_step (fail)))
 refine wpQuiet_nil ?_;clear kg;refine ⟨by rfl,⟨?_,?_,?_,?_,?_,?_,?_,?_,trivial⟩,?_⟩
 ·intro W4 r K9 b o9 a;injection a with a;subst a;go_simp;go_at_call 99;have a5:=(c.o.below r).tab;refine (Z.o _ _ a5).mono ?_;rintro e w5 ⟨p5,c5,rfl,-,an⟩;exact b _ _ an ⟨p5,c5,rfl⟩
 ·intro W4 r v5 S K9;obtain ⟨p6,c6,rfl⟩:=S;go_simp;intro b o9 a;injection a with a;subst a;go_simp;exact b _ _ (Below.refl _ _) ⟨p6,c6,rfl⟩
 ·intro W4 r v5 S K9;obtain ⟨p6,c6,rfl⟩:=S;go_simp;intro b o9 a;injection a with a;subst a;go_simp;exact b _ _ (Below.refl _ _) rfl
 ·intro W4 r v5 S K9;obtain ⟨p6,c6,rfl⟩:=S;go_simp;intro b o9 a;injection a with a;subst a;go_simp;exact b _ _ (Below.refl _ _) rfl
 ·intro W4 r v5 S K9;obtain ⟨p6,c6,rfl⟩:=S;go_simp;intro b o9 a;injection a with a;subst a;go_simp;exact b _ _ (Below.refl _ _) trivial
 ·intro W4 r v7 h7 K9;obtain rfl:v7=_:=h7;go_simp;intro b o9 a;injection a with a;subst a;go_simp;exact b _ _ (Below.refl _ _) rfl
 ·intro W4 r v8 h8 K9;obtain rfl:v8=_:=h8;go_simp;intro b o9 a;injection a with a;subst a;go_simp;exact b _ _ (Below.refl _ _) rfl
 ·intro W4 r v9 h9 K9;clear h9;go_simp;intro b o9 a;injection a with a;subst a;go_simp;exact b _ _ (Below.refl _ _) trivial
 ·intro w4 F v5 S v6 h6 v7 h7 v8 h8 v9 h9 af ar ae aq aw ap;obtain ⟨p5,c5,rfl⟩:=S;obtain ⟨p6,c6,rfl⟩:=h6;obtain rfl:v7=_:=h7;obtain rfl:v8=_:=h8;obtain rfl:af=_:=ar;obtain rfl:ae=_:=aq;show wpList _ _ _ _ _ _;simp only [Ag,List.filterMap_nil];subst a9;obtain ⟨O,-⟩:=Ac F;have c:=hid (c.o.below F);have e0:=(O _ _ p).trans e0;have e1:=(O _ _ p).trans e1;have e2:=(O _ _ p).trans e2;have p:=Qm p (F).size;have J:=J.trans ((F).mono J.size);clear d1 d2 dl;have d1:=c.o.c1;have d2:=c.o.c2;have dl:=c.o.lt;clear h9 ap Z F O;go_wp2_with fail;refine NoPanic.normal ?_;go_wp2_with fail;have kg:=Ad;refine A1 6 Qb Qb ?_;simp only [List.take_succ_cons,List.take_zero,List.drop_succ_cons,List.drop_zero];repeat (any_goals (first|go_big_quiet_step (fail)|quiet_step (fail)))
  refine wpQuiet_nil ?_;clear kg;intro w6 E;obtain ⟨L,ak⟩:=Ac E;have c:=hid (c.o.below E);have e0:=(L _ _ p).trans e0;have e1:=(L _ _ p).trans e1;have e2:=(L _ _ p).trans e2;have p:=Qm p (E).size;have J:=J.trans ((E).mono J.size);clear d1 d2 dl;have d1:=c.o.c1;have d2:=c.o.c2;have dl:=c.o.lt;clear E L ak;go_wp2_with fail;refine (ab.o _ _ c.o.seat c.o.fresh).mono ?_;rintro e w7 ⟨rfl,a6,a4⟩;obtain ⟨aa,I⟩:=c.o.tab_step a6 a4;have ag:=a4.size;have e0:=I.cell e0 a2;have e1:=I.cell e1 a2;have e2:=I.cell e2 a2;have p:=Qm p ag;have U:=hid (Touch.trans (.quiet J) I);have c:=hid aa;have az:=J.size;clear d1 d2 dl a6 a4 aa I J;have d1:=c.o.c1;have d2:=c.o.c2;have dl:=c.o.lt;cases hs with
  | true=>
   have a1:=av.o rfl;go_wp2;go_end0;refine ⟨rfl,?_⟩;rw [a1];refine Dx.end0 ac.o ⟨lo,hi,f,u,c.o⟩ U.o λg z => ?_;rcases z with h | h
   ·exact .inl h
   ·exact .inr ⟨by have:=h.1;omega,h.2⟩
  | false=>
   have a1:=au.o rfl;go_wp2_with fail;have kg:=Ad;refine A1 5 Qb Qb ?_;simp only [List.take_succ_cons,List.take_zero,List.drop_succ_cons,List.drop_zero];repeat (any_goals (first|go_big_quiet_step (fail)|quiet_step (fail)))
   refine wpQuiet_nil ?_;clear kg;intro w8 D;obtain ⟨am,aj⟩:=Ac D;have ay:=D.size;have c:=hid (c.o.below D);have U:=hid (U.o.trans (.quiet D));clear D am aj d1 d2 dl;go_wp2_with fail;refine (ad.o _ _ c.o.fil).mono ?_;rintro e w9 ⟨rfl,ai,a8⟩;obtain ⟨ao,a7⟩:=c.o.fil_step ai a8 (I1 _ _);have ax:=a8.size;go_wp2;go_end0;refine ⟨rfl,?_⟩;rw [a1];refine Dx.end0 ac.o ⟨lo,hi,f,u,ao⟩ (Bq U.o (λg z => ?_) a7) λg z => ?_
   ·rcases z with h | h
    ·exact .inl h
    ·exact .inr (by have:=h.1;omega)
   ·rcases z with h | h
    ·exact .inl h
    ·exact .inr ⟨by have:=h.1;omega,by have:=h.2;omega⟩
theorem Zn9 (w:World) (K:Nat->Prop) (t:Nat) (V:Lv) (N:List Rt) (c b:Nat) (a o v:Int) (H:LevP w K t V) (HV:LvOk V N) (q:(⟨c,b,a⟩:Ky).good) (hn:a=V.n) (hv:¬0<=v) (hl:N.length<=100000) :
 Calls prog 85 #[.pointer (some ⟨t,0,none⟩),.agg #[.int .u64 (c:Int),.int .u64 (b:Int),.int .i64 a]] w λe w'=>e = .returned (.tuple #[])/\Dx w w' K t (V.turn ⟨⟨c,b,a⟩,o,v⟩):=by
 obtain ⟨lo,hi,f,u,H⟩:=H;have S:=H.old;obtain ⟨K0,E⟩:∃K0:Nat->Prop,K0=λj=>K j/\j<w.heap.size:=⟨_,rfl⟩;rw [<-E] at S;have a4:Hid (∀g,K0 g->K g):=hid λg q=>by rw [E] at q;exact q.1
 have O:¬K0 w.heap.size:=λh=>by rw [E] at h;have:=h.2;omega
 have d:=hid S;clear E S;have aa:=HV.kept.len;have i:=λ(Q:Nat->Prop) W (h:Seat Q W u V.T) hP=>Seat.del u V.T ⟨c,b,a⟩ W h HV.kept q Qa hP;unfold kyV at i;simp only at i;have I:=λW C (h:Fil W lo hi f V.s V.k C)=>Z29 lo hi f V.s V.k C c b a W h q.1 q.2;have B:(delT V.T ⟨c,b,a⟩).2=V.has ⟨c,b,a⟩:=by rw [Bool.eq_iff_iff,HV.kept.del_tells,HV.has]
 have x:V.has ⟨c,b,a⟩=true->V.turn ⟨⟨c,b,a⟩,o,v⟩={ V with C:=remL V.C (plc V.s c b a V.k V.C.length),T:=(delT V.T ⟨c,b,a⟩).1 }:=λh=>by unfold Lv.turn;rw [if_pos (show (⟨⟨c,b,a⟩,o,v⟩:Ch).k.n=V.n from hn),if_neg (show ¬0<=(⟨⟨c,b,a⟩,o,v⟩:Ch).n from hv)];rw [show V.has (⟨⟨c,b,a⟩,o,v⟩:Ch).k=true from h,if_pos rfl];rfl
 have r:V.has ⟨c,b,a⟩=false->V.turn ⟨⟨c,b,a⟩,o,v⟩=V:=λh=>by unfold Lv.turn;rw [if_pos (show (⟨⟨c,b,a⟩,o,v⟩:Ch).k.n=V.n from hn),if_neg (show ¬0<=(⟨⟨c,b,a⟩,o,v⟩:Ch).n from hv)];rw [show V.has (⟨⟨c,b,a⟩,o,v⟩:Ch).k=false from h,if_neg Qf]
 have l:V.has ⟨c,b,a⟩=false->(delT V.T ⟨c,b,a⟩).1=V.T:=λh=>Z0b (by rw [B];exact h);obtain ⟨hs,Y⟩:=Q' (V.has ⟨c,b,a⟩);rw [<-Y] at x r l B;rw [B] at i;have a5:=hid i;have a3:=hid I;have ae:=hid x;have ad:=hid r;have af:=hid l;clear H HV q hn hv hl aa i I x r B l Y;go_enter func85,ntmps85;go_wp2_with fail;obtain ⟨W1,p⟩:=Q' (w.alloc (.cells #[.int .u64 (c:Int),.int .u64 (b:Int),.int .i64 a] 32));try rw [<-p]
 have J:Below w.heap.size w W1:=by rw [p];go_grown
 have e0:W1.cell? ⟨w.heap.size,0,none⟩=some (.int .u64 (c:Int)):=by rw [p];simp [go_sem]
 have e1:W1.cell? ⟨w.heap.size,1,none⟩=some (.int .u64 (b:Int)):=by rw [p];simp [go_sem]
 have e2:W1.cell? ⟨w.heap.size,2,none⟩=some (.int .i64 a):=by rw [p];simp [go_sem]
 have m:w.heap.size<W1.heap.size:=by rw [p];simp
 have d:=hid (d.o.below J);clear p;have d1:=d.o.c1;have d2:=d.o.c2;have dl:=d.o.lt;have kg:=Ad;refine A1 5 Qb Qb ?_;simp only [List.take_succ_cons,List.take_zero,List.drop_succ_cons,List.drop_zero];repeat (any_goals (first|go_big_quiet_step (fail)|quiet_step (fail)))
 refine wpQuiet_nil ?_;clear kg;intro w6 z;obtain ⟨D,a9⟩:=Ac z;have d:=hid (d.o.below z);have e0:=(D _ _ m).trans e0;have e1:=(D _ _ m).trans e1;have e2:=(D _ _ m).trans e2;have m:=Qm m (z).size;have J:=J.trans ((z).mono J.size);clear d1 d2 dl;have d1:=d.o.c1;have d2:=d.o.c2;have dl:=d.o.lt;clear z D a9;go_wp2_with fail;refine (a5.o _ _ d.o.seat d.o.fresh).mono ?_;rintro e w7 ⟨rfl,U,R⟩;obtain ⟨a2,A⟩:=d.o.tab_step U R;have a6:=R.size;have e0:=A.cell e0 O;have e1:=A.cell e1 O;have e2:=A.cell e2 O;have m:=Qm m a6;have F:=hid (Touch.trans (.quiet J) A);have d:=hid a2;have ai:=J.size;clear d1 d2 dl U R a2 A J;have d1:=d.o.c1;have d2:=d.o.c2;have dl:=d.o.lt;cases hs with
 | false=>
  have L:=ad.o rfl;have X:=af.o rfl;have S:=d.o;rw [X] at S;have d:=hid S;clear S X;go_wp2;go_end0;refine ⟨rfl,?_⟩;rw [L];refine Dx.end0 a4.o ⟨lo,hi,f,u,d.o⟩ F.o λg q => ?_;rcases q with h | h
  ·exact .inl h
  ·exact .inr ⟨by have:=h.1;omega,h.2⟩
 | true=>
  have L:=ae.o rfl;go_wp2_with fail;have kg:=Ad;refine A1 5 Qb Qb ?_;simp only [List.take_succ_cons,List.take_zero,List.drop_succ_cons,List.drop_zero];repeat (any_goals (first|go_big_quiet_step (fail)|quiet_step (fail)))
  refine wpQuiet_nil ?_;clear kg;intro w8 y;obtain ⟨ab,a8⟩:=Ac y;have ah:=y.size;have d:=hid (d.o.below y);have F:=hid (F.o.trans (.quiet y));clear y ab a8 d1 d2 dl;go_wp2_with fail;refine (a3.o _ _ d.o.fil).mono ?_;rintro e w9 ⟨rfl,a7,a1⟩;obtain ⟨ac,Z⟩:=d.o.fil_step a7 a1 (I2 _ _);have ag:=a1.size;go_wp2;go_end0;refine ⟨rfl,?_⟩;rw [L];refine Dx.end0 a4.o ⟨lo,hi,f,u,ac⟩ (Bq F.o (λg q => ?_) Z) λg q => ?_
  ·rcases q with h | h
   ·exact .inl h
   ·exact .inr (by have:=h.1;omega)
  ·rcases q with h | h
   ·exact .inl h
   ·exact .inr ⟨by have:=h.1;omega,by have:=h.2;omega⟩
def C7 (w wr:World) (K:Nat->Prop) (t:Nat) (V:Lv) (N:List Rt):Prop:=LvOk V N/\∃K',LevP wr K' t V/\Touch K w wr/\∀g,K' g->K g\/In w.heap.size wr.heap.size g
theorem C7.below {w wr w':World} {K:Nat->Prop} {t:Nat} {V:Lv} {N:List Rt} (h:C7 w wr K t V N) (a:Below wr.heap.size wr w'):C7 w w' K t V N:=by
 obtain ⟨f,K',e,d,c⟩:=h;refine ⟨f,K',e.below a,d.trans (.quiet a),λg b => ?_⟩;rcases c g b with h | h
 ·exact .inl h
 ·exact .inr ⟨h.1,Qm h.2 a.size⟩
theorem C7.step {w wr w':World} {K K':Nat->Prop} {t:Nat} {b:Lv} {i:List Rt} (j:LvOk b i) (f:Touch K w wr) (e:∀g,K' g->K g\/In w.heap.size wr.heap.size g) (k:Dx wr w' K' t b):C7 w w' K t b i:=by
 obtain ⟨c,m,d,l⟩:=k;refine ⟨j,c,m,Bq f (λg a=>(e g a).imp id λh=>h.1) d,λg a => ?_⟩;rcases l g a with h | h
 ·rcases e g h with h | h
  ·exact .inl h
  ·exact .inr ⟨h.1,Qm h.2 d.size⟩
 ·exact .inr ⟨Qw f.size h.1,h.2⟩
theorem Zq2 (w:World) (K:Nat->Prop) (t:Nat) (V:Lv) (N:List Rt) (p:Option Addr) (c:Nat) (L:List Ch) (H:LevP w K t V) (HV:LvOk V N) (S:∀x∈L,x.k.good) (hl:N.length+L.length<=100000) (hR:Row w p (ccs L)) (hp:∀a,p=some a->¬K a.block) :
 Calls prog 74 #[.pointer (some ⟨t,0,none⟩),.slice p L.length c] w λe w'=>e = .returned (.tuple #[])/\∃K',LevP w' K' t (V.turns L)/\Touch K w w'/\∀g,K' g->K g\/In w.heap.size w'.heap.size g:=by
 have HR:=hid hR;have HG:=hid S;have HP:=hid hp;have ab:=hid HV;have Z:Hid (C7 w w K t (V.turns (L.take 0)) (Bn V.n N (L.take 0))):=hid ⟨HV,K,H,Touch.refl _ _,λg h => .inl h⟩;clear hR S hp H HV;go_enter func74,ntmps74;go_wp2;go_loopg [10] L.length (λkx a8 wr=>∃i:Nat,a8 = .int .i64 (i:Int)/\L.length-i<=kx/\i<=L.length/\Hid (C7 w wr K t (V.turns (L.take i)) (Bn V.n N (L.take i))))
 case atStart=>exact ⟨0,rfl,Qa,Qa,Z⟩
 case round=>
  clear Z;obtain ⟨i,rfl,k1,k2,Z⟩:=hrel;by_cases hi:i<L.length
  ·obtain ⟨g0,o0,rfl,a9,x0,x1,x2,x3,x4⟩:=HR.o.ch hi;have s:¬K g0:=HP.o _ rfl;obtain ⟨hV,K1,⟨lo,R,f,u,a4⟩,I,hK⟩:=Z.o;have hB:=a4.old;obtain ⟨K2,E⟩:∃K2:Nat->Prop,K2=λj=>K1 j/\j<wr.heap.size:=⟨_,rfl⟩;rw [<-E] at hB;have a3:∀g,K2 g->K g\/In w.heap.size wr.heap.size g:=λg S=>by rw [E] at S;exact hK g S.1
   have ah:¬K2 wr.heap.size:=λh=>by rw [E] at h;have:=h.2;omega
   have a1:L.take (i+1)=L.take i++[L[i]]:=List.take_succ_eq_append_getElem hi;have D:=HG.o _ (Qp hi);have F:=(ab.o.turns (L.take i) (λx hx=>HG.o x (List.mem_of_mem_take hx))).2;rw [Qs] at F;have C:=Hw V (L.take i);have z0:=I.cell x0 s;have z1:=I.cell x1 s;have z2:=I.cell x2 s;have z3:=I.cell x3 s;have z4:=I.cell x4 s;have ai:=Qm a9 I.size;have i1:(0:Int)<=(i:Int):=Qa;have i2:(i:Int)<(L.length:Int):=Qa;have d:∀J,C7 w J K t ((V.turns (L.take i)).turn L[i]) (rowT V.n (Bn V.n N (L.take i)) L[i])->C7 w J K t (V.turns (L.take (i+1))) (Bn V.n N (L.take (i+1))):=λJ h=>by rw [a1,Lv.turns_snoc,Nz];exact h
   have y:=hV.turn L[i] D;rw [C] at y;have hM:(Bn V.n N (L.take i)).length<=100000:=Qa;generalize L[i]=x at *
   obtain ⟨V1,a2⟩:=Q' (V.turns (L.take i));obtain ⟨N1,Y⟩:=Q' (Bn V.n N (L.take i));rw [<-a2] at hV hB d y C;rw [<-Y] at hV d hM;rw [<-Y] at y;obtain ⟨⟨kh,kl,A⟩,xo,z⟩:=x;simp only at z0 z1 z2 z3 z4 D;have r:=hid hB;have a5:=hid hV;have aa:=hid y;have ae:=hid d;have ac:=hid I;have af:=hid a3;have a7:=hid D;clear Z hV hB a4 I hK a3 E x0 x1 x2 x3 x4 a1 d y a2 Y F D;have d0:=r.o.c0;change _=some (Value.int .i64 V1.n) at d0;have dl:=r.o.lt;have ag:t≠wr.heap.size:=Qa;go_wp2_with fail;obtain ⟨W1,l⟩:=Q' (wr.alloc (.cells #[.int .u64 (kh:Int),.int .u64 (kl:Int),.int .i64 A,.int .i64 xo,.int .i64 z] 158));try rw [<-l]
   have Q:Below wr.heap.size wr W1:=by rw [l];go_grown
   have e0:W1.cell? ⟨wr.heap.size,0,none⟩=some (.int .u64 (kh:Int)):=by rw [l];simp [go_sem]
   have e1:W1.cell? ⟨wr.heap.size,1,none⟩=some (.int .u64 (kl:Int)):=by rw [l];simp [go_sem]
   have e2:W1.cell? ⟨wr.heap.size,2,none⟩=some (.int .i64 A):=by rw [l];simp [go_sem]
   have e4:W1.cell? ⟨wr.heap.size,4,none⟩=some (.int .i64 z):=by rw [l];simp [go_sem]
   have q:wr.heap.size<W1.heap.size:=by rw [l];simp
   have r:=hid (r.o.below Q);clear l d0 dl z0 z1 z2 z3 z4;have d0:=r.o.c0;change _=some (Value.int .i64 V1.n) at d0;have dl:=r.o.lt;have hE:∀W2 J,Below wr.heap.size wr W2->Dx W2 J K2 t (V1.turn ⟨⟨kh,kl,A⟩,xo,z⟩)->C7 w J K t (V.turns (L.take (i+1))) (Bn V.n N (L.take (i+1))):=λW2 J h2 X=>
    ae.o _ (C7.step aa.o (ac.o.trans (.quiet h2)) (λg S=>(af.o g S).imp id λh=>⟨h.1,Qm h.2 h2.size⟩) X)
   have HE:=hid hE;clear hE;by_cases o:A=V1.n
   ·have nq:(A != V1.n)=false:=by simpa using o
    have a6:=hid o;clear o C;have kg:=Ad;refine Am Qb Qb ?_;repeat (any_goals (first|go_big_quiet_step (fail)|quiet_step (fail)))
    refine wpQuiet_nil ?_;clear kg;intro O b;obtain ⟨m,U⟩:=Ac b;have B:=Q.trans (b.mono Q.size);have r:=hid (r.o.below b);have e0:=(m _ _ q).trans e0;have e1:=(m _ _ q).trans e1;have e2:=(m _ _ q).trans e2;have e4:=(m _ _ q).trans e4;have q:=Qm q b.size;clear Q b m U d0 dl;by_cases h0:0<=z
    ·have HP:=hid (λ(O:World) (h:LevP O K2 t V1)=>Zx0 O K2 t V1 N1 kh kl A xo z h a5.o a7.o a6.o h0 hM);have h1:¬z<0:=Qa;clear h0;go_wp2_with fail;refine (HP.o _ ⟨lo,R,f,u,r.o⟩).mono ?_;rintro e w7 ⟨rfl,X⟩;have HS:=hid X;clear X;go_wp2;go_roundg (L.length-(i+1))
     case measure=>omega
     case rel=>exact ⟨i+1,Qj,Qa,Qa,hid (HE.o _ _ B HS.o)⟩
    ·have HP:=hid (λ(O:World) (h:LevP O K2 t V1)=>Zn9 O K2 t V1 N1 kh kl A xo z h a5.o a7.o a6.o h0 hM);have h1:z<0:=Qa;clear h0;go_wp2_with fail;refine (HP.o _ ⟨lo,R,f,u,r.o⟩).mono ?_;rintro e w7 ⟨rfl,X⟩;have HS:=hid X;clear X;go_wp2;go_roundg (L.length-(i+1))
     case measure=>omega
     case rel=>exact ⟨i+1,Qj,Qa,Qa,hid (HE.o _ _ B HS.o)⟩
   ·have nq:(A != V1.n)=true:=by simpa using o
    have ad:Hid (V1.turn ⟨⟨kh,kl,A⟩,xo,z⟩=V1):=hid (if_neg o);clear o C;have kg:=Ad;refine Am Qb Qb ?_;repeat (any_goals (first|go_big_quiet_step (fail)|quiet_step (fail)))
    refine wpQuiet_nil ?_;clear kg;intro O b;obtain ⟨m,U⟩:=Ac b;have B:=Q.trans (b.mono Q.size);have r:=hid (r.o.below b);clear Q b m U d0 dl e0 e1 e2 e4;go_wp2;go_roundg (L.length-(i+1))
    case measure=>omega
    case rel=>exact ⟨i+1,Qj,Qa,Qa,hid (HE.o _ _ B (by
     rw [ad.o]
     exact ⟨K2,⟨lo,R,f,u,r.o⟩,Touch.refl _ _,λg h => .inl h⟩))⟩
  ·have HE:Hid (C7 w wr K t (V.turns L) (Bn V.n N L)):=by have:=Z.o;rw [List.take_of_length_le Qa] at this;exact hid this
   clear Z;go_wp2;go_end0;obtain ⟨-,K',h2,h3,h4⟩:=HE.o;exact ⟨rfl,K',h2,h3,h4⟩
theorem Zq6 (w:World) (K:Nat->Prop) (t:Nat) (V:Lv) (H:LevP w K t V) :
 Calls prog 76 #[.pointer (some ⟨t,0,none⟩)] w λe w'=>e = .returned (.int .i64 V.n)/\Below w.heap.size w w':=by
 obtain ⟨lo,hi,f,u,H⟩:=H;have b:=H.c0;have a:=H.lt;clear H;go_enter func76,ntmps76;go_wp2;go_ret;exact ⟨rfl,Qg⟩
theorem Kq:LevC LevP where
 bad:=λn k m b s w a h=>Zvc n k m b s w a h
 new:=λn k s m b w a h=>Zvb n k s m b w a h
 turn:=λw K t V N p c L H o j i _ l e=>Zq2 w K t V N p c L H o j i l e
 bits:=λw K t V H=>Zq6 w K t V H
 touched:=λ_ _ _ _ _ _ H d f=>H.touched d f
theorem Zr4 (e d:Nat) (a v low high:Int) :
 Aj prog 107 #[.agg #[.int .u64 (e:Int),.int .u64 (d:Int),.int .i64 a,.int .i64 v],.int .i64 low,.int .i64 high] (.bool (decide (low<a)&&decide (a<=high))):=by
 intro w;by_cases b:low<a
 ·by_cases c:a<=high
  ·rw [decide_eq_true b,decide_eq_true c];go_enter func107,ntmps107;go_wp2;go_ret;exact ⟨rfl,Qg⟩
  ·rw [decide_eq_true b,decide_eq_false c];go_enter func107,ntmps107;go_wp2;go_ret;exact ⟨rfl,Qg⟩
 ·rw [decide_eq_false b,Bool.false_and];go_enter func107,ntmps107;go_wp2;go_ret;exact ⟨rfl,Qg⟩
end
section
open Go.RowKit Go.Sort M
section
variable {α:Type} [Inhabited α] {enc:α->List Value} {k:Nat} {w0:World} {blk off n:Nat} {lt:α->α->Bool} {g:Nat} {lb:Array Value} {sf:Nat} {sb:Array Value}
theorem Oj (hk:∀x,(enc x).length=k) (O:SwapSwapsK prog sf sb enc k blk off n) (hn:n<4611686018427387904)
 (P X Q Y S:List α) (a b m:Nat) (ha:a=P.length) (L:m=X.length) (r:m=Y.length) (z:b=P.length+X.length+Q.length) (N:P.length+X.length+Q.length+Y.length+S.length=n) (W:World) (H:Srt enc k w0 blk off n (P++(X++(Q++(Y++S)))).toArray W) :
 Calls prog 95 #[.agg #[.func (.func g) #[] lb,.func (.func sf) #[] sb],.int .i64 (a:Int),.int .i64 (b:Int),.int .i64 (m:Int)] W λe w'=>
  e = .returned (.tuple #[])/\Srt enc k w0 blk off n (P++(Y++(Q++(X++S)))).toArray w'/\Touch (· = blk) W w':=by
 have C:=hid O;clear O;obtain ⟨G,B⟩:=Q' (P++(Y++(Q++(X++S))));rw [<-B];have R0:∃(c d Q' h j:List α),Hid (a=c.length/\d.length=m/\h.length=m/\b=c.length+d.length+Q'.length/\c++(h++(Q'++(d++j)))=G/\c.length+d.length+Q'.length+h.length+j.length=n/\Srt enc k w0 blk off n (c++(d++(Q'++(h++j)))).toArray W):=
  ⟨P,X,Q,Y,S,ha,L.symm,r.symm,z,B.symm,N,H⟩
 clear H B N z r L ha P X Q Y S;obtain ⟨P,X,Q,Y,S,E⟩:=R0;go_enter func95,ntmps95;go_wp2_with fail;have R:=Srd.start (x := .func (.func g) #[] lb) (y := .func (.func sf) #[] sb) E.o.2.2.2.2.2.2 95;go_loopg [8] m (λZ U wr=>∃(i:Nat) (c d Q' h j:List α),U = .int .i64 (i:Int)/\m-i<=Z/\i<=m/\Hid (a+i=c.length/\d.length=m-i/\h.length=m-i/\b+i=c.length+d.length+Q'.length/\c++(h++(Q'++(d++j)))=G/\c.length+d.length+Q'.length+h.length+j.length=n)/\Hid (Srd enc k w0 blk off n (.func (.func g) #[] lb) (.func (.func sf) #[] sb) W (c++(d++(Q'++(h++j)))).toArray wr))
 case atStart=>obtain ⟨i1,i2,i3,i4,i5,i6,-⟩:=E.o;exact ⟨0,P,X,Q,Y,S,rfl,Qa,Qa,hid ⟨Qa,Qa,Qa,Qa,i5,i6⟩,hid R⟩
 case round=>
  clear R E P X Q Y S;obtain ⟨i,c,d,Q',h,j,rfl,h1,h2,u,q⟩:=hrel;have c1:=q.o.box.c1;have a1:=q.o.box.lt;by_cases hi:i<m
  ·obtain ⟨x,f,rfl⟩:=List.exists_cons_of_length_pos (l:=d) (by have:=u.o.2.1;omega);obtain ⟨y,o,rfl⟩:=List.exists_cons_of_length_pos (l:=h) (by have:=u.o.2.2.1;omega);obtain ⟨w2,p,R2,D,ha,z⟩:∃w2,(callFunc sf (#[.int .i64 ((a:Int)+(i:Int)),.int .i64 ((b:Int)+(i:Int))]++sb)).run prog wr = .ok (.value (.tuple #[])) w2/\Hid (Srd enc k w0 blk off n (.func (.func g) #[] lb) (.func (.func sf) #[] sb) W ((c++[y])++(f++((Q'++[x])++(o++j)))).toArray w2)
    /\ Hid (a+(i+1)=(c++[y]).length/\f.length=m-(i+1)/\o.length=m-(i+1)/\b+(i+1)=(c++[y]).length+f.length+(Q'++[x]).length/\(c++[y])++(o++((Q'++[x])++(f++j)))=G/\(c++[y]).length+f.length+(Q'++[x]).length+o.length+j.length=n)/\a+i<n/\b+i<n:=by
    obtain ⟨K,n2,J,I,t,F⟩:=u.o;simp only [Qt] at n2 J I F;obtain ⟨w2,p,s,A⟩:=q.o.srt.swap C.o hk ((a:Int)+(i:Int)) ((b:Int)+(i:Int)) (a+i) (b+i) Qa Qa Qa Qa;have e2:=Zu7 (X:=f) (Q:=Q') (Y:=o) (S:=j) (x:=x) (y:=y) (a+i) (b+i) K Qa;rw [e2] at s;exact ⟨w2,p,hid (q.o.next s A),hid ⟨Qe,Qa,Qa,Qe,by simpa using t,Qe⟩,Qa,Qa⟩
   go_wp2_with fail;go_roundg (m-(i+1))
   case measure=>omega
   case rel=>exact ⟨i+1,_,_,_,_,_,Qj,Qa,Qa,D,R2⟩
  ·go_wp2;go_end0;obtain ⟨K,n2,J,I,t,F⟩:=u.o;obtain rfl:=List.eq_nil_of_length_eq_zero (l:=d) Qa;obtain rfl:=List.eq_nil_of_length_eq_zero (l:=h) Qa;have w:=q.o.srt;simp only [List.nil_append] at t w;rw [t] at w;exact ⟨rfl,w,q.o.touch⟩
structure Rot (G:List α) (n m i j:Nat) (P U V S:List α):Prop where
 p:P.length+i=m
 u:U.length=i
 v:V.length=j
 i0:0<i
 j0:0<j
 e:P++(V++(U++S))=G
 l:P.length+U.length+V.length+S.length=n
theorem Zu2 (E:∀x,(enc x).length=k) (O:SwapSwapsK prog sf sb enc k blk off n) (D:n<4611686018427387904)
 (P U V S:List α) (a m b:Nat) (ha:a=P.length) (hm:m=P.length+U.length) (hb:b=m+V.length) (hu:0<U.length) (hv:0<V.length) (N:P.length+U.length+V.length+S.length=n) (W:World) (H:Srt enc k w0 blk off n (P++(U++(V++S))).toArray W) :
 Calls prog 81 #[.agg #[.func (.func g) #[] lb,.func (.func sf) #[] sb],.int .i64 (a:Int),.int .i64 (m:Int),.int .i64 (b:Int)] W λe w'=>
  e = .returned (.tuple #[])/\Srt enc k w0 blk off n (P++(V++(U++S))).toArray w'/\Touch (· = blk) W w':=by
 have l:=hid O;clear O;obtain ⟨G,F⟩:=Q' (P++(V++(U++S)));rw [<-F];have R0:∃(P U V S:List α),Hid (Rot G n m (m-a) (b-m) P U V S/\Srt enc k w0 blk off n (P++(U++(V++S))).toArray W):=
  ⟨P,U,V,S,⟨Qa,Qa,Qa,Qa,Qa,F.symm,N⟩,H⟩
 have b1:a<=m:=Qa;have b2:m<=b:=Qa;have b3:b<=n:=Qa;clear H F N hb hm hu hv ha P U V S;obtain ⟨P,U,V,S,K⟩:=R0;go_enter func81,ntmps81;go_wp2_with fail;have R:=Srd.start (x := .func (.func g) #[] lb) (y := .func (.func sf) #[] sb) K.o.2 95;go_loopg [8,9] (b-a) (λkx s8 s9 wr=>∃(i j:Nat) (Z X Q Y:List α),s8 = .int .i64 (i:Int)/\s9 = .int .i64 (j:Int)/\i+j<=kx/\i<=m/\m+j<=n/\Hid (Rot G n m i j Z X Q Y)/\Hid (Srd enc k w0 blk off n (.func (.func g) #[] lb) (.func (.func sf) #[] sb) W (Z++(X++(Q++Y))).toArray wr))
 case atStart=>exact ⟨m-a,b-m,P,U,V,S,Qj,Qj,Qa,Qa,Qa,hid K.o.1,hid R⟩
 case round=>
  clear R K P U V S;obtain ⟨i,j,P,U,V,S,rfl,rfl,h1,h2,h3,J,f⟩:=hrel;have c0:=f.o.box.c0;have c1:=f.o.box.c1;have a2:=f.o.box.lt;rcases Nat.lt_trichotomy i j with h | h | h
  ·have C:i≠j:=Qa;have a1:¬j<i:=Qa;obtain ⟨r,o,i0⟩:Hid (Calls prog 95 #[.agg #[.func (.func g) #[] lb,.func (.func sf) #[] sb],.int .i64 ((m:Int)-(i:Int)),.int .i64 ((m:Int)+(j:Int)-(i:Int)),.int .i64 (i:Int)] wr λe w'=>
    e = .returned (.tuple #[])/\Srt enc k w0 blk off n (P++(V.drop (j-i)++(V.take (j-i)++(U++S)))).toArray w'/\Touch (· = blk) wr w')/\Hid (Rot G n m i (j-i) P (V.drop (j-i)) (V.take (j-i)) (U++S))/\0<i:=by
    obtain ⟨B,n2,w,u,t,p,L⟩:=J.o;have A:(V.drop (j-i)).length=i:=by rw [List.length_drop];omega
    have z:(V.take (j-i)).length=j-i:=by rw [Qs];omega
    have s:V.take (j-i)++V.drop (j-i)=V:=List.take_append_drop _ _;have I:P++(U++(V++S))=P++(U++(V.take (j-i)++(V.drop (j-i)++S))):=by rw [<-Qu (V.take (j-i)),s]
    have q:=f.o.srt;rw [I] at q;have:=Oj (g:=g) (lb:=lb) E l.o D P U (V.take (j-i)) (V.drop (j-i)) S (m-i) (m+j-i) i Qa n2.symm A.symm Qa Qa wr q;rw [show ((m-i:Nat):Int)=(m:Int)-(i:Int) from by omega,show ((m+j-i:Nat):Int)=(m:Int)+(j:Int)-(i:Int) from by omega] at this;refine ⟨hid this,hid ⟨B,A,z,u,Qa,?_,by simp only [Qo];omega⟩,u⟩;rw [<-p,<-Qu (V.take (j-i)),s]
   go_wp2_with fail;refine r.o.mono ?_;rintro e w1 ⟨rfl,d,c⟩;have R1:=hid (f.o.next d c);clear d c;go_wp2;go_roundg (i+(j-i))
   case measure=>omega
   case rel=>exact ⟨i,j-i,_,_,_,_,Qj,Qj,Qa,Qa,Qa,o,R1⟩
  ·subst h;have r:Hid (Calls prog 95 #[.agg #[.func (.func g) #[] lb,.func (.func sf) #[] sb],.int .i64 ((m:Int)-(i:Int)),.int .i64 (m:Int),.int .i64 (i:Int)] wr λe w'=>
    e = .returned (.tuple #[])/\Srt enc k w0 blk off n G.toArray w'/\Touch (· = blk) wr w'):=by
    obtain ⟨B,n2,w,u,t,p,L⟩:=J.o;have:=Oj (g:=g) (lb:=lb) E l.o D P U [] V S (m-i) m i Qa n2.symm w.symm Qe Qe wr (by simpa using f.o.srt);rw [show ((m-i:Nat):Int)=(m:Int)-(i:Int) from by omega] at this;simp only [List.nil_append] at this;rw [p] at this;exact hid this
   go_wp2_with fail;refine r.o.mono ?_;rintro e w1 ⟨rfl,d,c⟩;have R1:=hid (f.o.next d c);clear d c;go_wp2;go_end0;exact ⟨rfl,R1.o.srt,R1.o.touch⟩
  ·have C:i≠j:=Qa;obtain ⟨r,o,i0⟩:Hid (Calls prog 95 #[.agg #[.func (.func g) #[] lb,.func (.func sf) #[] sb],.int .i64 ((m:Int)-(i:Int)),.int .i64 (m:Int),.int .i64 (j:Int)] wr λe w'=>
    e = .returned (.tuple #[])/\Srt enc k w0 blk off n ((P++V)++(U.drop j++(U.take j++S))).toArray w'/\Touch (· = blk) wr w')/\Hid (Rot G n m (i-j) j (P++V) (U.drop j) (U.take j) S)/\0<j:=by
    obtain ⟨B,n2,w,u,t,p,L⟩:=J.o;have A:(U.drop j).length=i-j:=by rw [List.length_drop];omega
    have z:(U.take j).length=j:=by rw [Qs];omega
    have s:U.take j++U.drop j=U:=List.take_append_drop _ _;have I:P++(U++(V++S))=P++(U.take j++(U.drop j++(V++S))):=by rw [<-Qu (U.take j),s]
    have q:=f.o.srt;rw [I] at q;have:=Oj (g:=g) (lb:=lb) E l.o D P (U.take j) (U.drop j) V S (m-i) m j Qa z.symm w.symm Qa Qa wr q;rw [show ((m-i:Nat):Int)=(m:Int)-(i:Int) from by omega,<-Qu P] at this;refine ⟨hid this,hid ⟨by simp only [Qo];omega,A,z,Qa,t,?_,by simp only [Qo];omega⟩,t⟩;rw [<-p,<-Qu (U.take j),s,Qu]
   go_wp2_with fail;refine r.o.mono ?_;rintro e w1 ⟨rfl,d,c⟩;have R1:=hid (f.o.next d c);clear d c;go_wp2;go_roundg (i-j+j)
   case measure=>omega
   case rel=>exact ⟨i-j,j,_,_,_,_,Qj,Qj,Qa,Qa,Qa,o,R1⟩
end
end
end Go.Proofs.YtpdphfgpdgadpaaGreat
