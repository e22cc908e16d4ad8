import Derived.Test.YtpdphfgpdgadpaaGreatW22d
set_option linter.unusedSimpArgs false
set_option linter.unusedVariables false
set_option maxHeartbeats 20000000
set_option maxRecDepth 100000
open Go.Proofs.Tryz
namespace Go.Proofs.YtpdphfgpdgadpaaGreat
open Lib(hid)
open Go Go.RowKit Go.Sort M
theorem Zzd {N:List Rt} (h:Sorted N) (r:Rt):(Ak N r).length<=N.length+1:=by have:=(Cl r h).length_eq;rw [this,Qt];have:=List.length_filter_le (λq:Rt=>decide (q.k≠r.k)) N;unfold outS;omega
theorem Za {E:Eg} (a:Sorted E.R) (c:0<=E.di):DirE E E.R:=λe d _ _=>by obtain ⟨m,b⟩:=Qv c;unfold dirK Eg.dir22;rw [b,Int.toNat_natCast,Z8k a,Nw a]
theorem Oy (w:World) (K:Nat->Prop) (t:Nat) (E:Eg) (col:Nat->Nat) (v:Value) (d:Nat) (L0:List Rt) (X:List (Nat×Nat)) (p:Option Addr) (c:Nat) (n:Int) (H:EngB w K t E col v d L0 X p c) (f:C4 E.R) (l:E.R.length<=4000) (r:0<=E.di)
 (k:n<=E.di\/DirE E L0) :
 Calls prog 53 #[.pointer (some ⟨t,0,none⟩),.int .i64 n] w λe w'=>e = .returned (.tuple #[])/\∃K',EngP w' K' t E/\Touch K w w'/\∀g,K' g->K g\/In w.heap.size w'.heap.size g:=by
 obtain ⟨A,B,rfl⟩:=Aq H.own;have d1:=H.c1;have d2:=H.c2;have d3:=H.c3;have O:=H.lt;by_cases D:n<=E.di
 ·have hF:=λW (s:Below w.heap.size w W)=>Y1.fill W (λj=>col j=3/\K j) d E.di.toNat L0 E.R A B (H.dir.touched (Touch.quiet s) (λ_ _ x=>x)) ((Row.of_own H.own).below s) f.good (E1 H.own) (C6 H.own) l;have L:=hid hF;have z:=hid H;have i:=hid (Za f.sort r);clear hF H k f l r;go_enter func53,ntmps53;go_wp2_with fail;have C:=Ad;refine A1 8 Qb Qb ?_;simp only [List.take_succ_cons,List.take_zero,List.drop_succ_cons,List.drop_zero];repeat (any_goals (first|go_big_quiet_step (fail)|quiet_step (fail)))
  refine wpQuiet_nil ?_;clear C;intro w1 b;obtain ⟨I,F⟩:=Ac b;have a:Below w.heap.size w w1:=by
   refine Below.trans ?_ (b.mono ?_)
   ·go_grown
   ·first|omega|go_size
  go_wp2_with fail;refine (L.o _ a).mono ?_;rintro e w2 ⟨rfl,Q,y,q,u⟩;have N:=hid ((z.o.below a).dir_step y u q);have o:Touch K w w2:=Touch.trans (Touch.quiet a) (q.mono λg _ h=>h.2);clear y q u z;go_wp2;go_end0;refine ⟨rfl,_,⟨_,_,_,_,_,_,_,N.o,i.o⟩,o,λg m=>m.imp id λh=>⟨Qw a.size h.1,h.2⟩⟩
 ·have i:DirE E L0:=k.resolve_left D;have J:=hid (show EngP w K t E from ⟨_,_,_,_,_,_,_,H,i⟩);clear i H k f l r;go_enter func53,ntmps53;go_wp2;go_end0;exact ⟨rfl,K,J.o,Touch.quiet Qg,λg m => .inl m⟩
theorem Z20 {R:List Rt} (a:Sorted R) (r:Rt) (h:r.k∈Aa R):Ak R r=R.set (bh R r.k) r:=Md R r _ a (Y8 a h)
theorem Z21 {R:List Rt} (a:Sorted R) (r:Rt) (h:r.k∉Aa R):Ak R r=R.take (bh R r.k)++r::R.drop (bh R r.k):=Mc R r (Zzv a h)
theorem Z5t {R:List Rt} (a:Sorted R) (k:Ky) (h:k∈Aa R):outS R k=R.take (bh R k)++R.drop (bh R k+1):=by rw [I5 R k _ a (Y8 a h),List.eraseIdx_eq_take_drop_succ]
theorem Zz7 {E:Eg} {L0:List Rt} (e:Sorted E.R) (f:DirE E L0) (r:Rt) (h:E.di<r.k.n):DirE (E.toR (Ak E.R r)) L0:=λb a d c=>by rw [show (E.toR (Ak E.R r)).dir22 b a=hopK (upS (Ak E.R r) E.di) (-1) (cutK b a E.di.toNat) from rfl,Zwq e r _ h];exact f b a d c
theorem Z3o {E:Eg} {L0:List Rt} (e:Sorted E.R) (f:DirE E L0) (k:Ky) (h:E.di<k.n):DirE (E.toR (outS E.R k)) L0:=λb a d c=>by rw [show (E.toR (outS E.R k)).dir22 b a=hopK (upS (outS E.R k) E.di) (-1) (cutK b a E.di.toNat) from rfl,Z1a e k _ h];exact f b a d c
section
variable {w w4:World} {K:Nat->Prop} {t:Nat} {E:Eg} {col:Nat->Nat} {v v':Value} {d:Nat} {L0:List Rt} {X:List (Nat×Nat)} {p:Option Addr} {c:Nat} {R':List Rt}
theorem EngB.mono {K':Nat->Prop} (H:EngB w K t E col v d L0 X p c) (h:∀j,K j->K' j):EngB w K' t E col v d L0 X p c:=
 ⟨H.lt,H.c0,H.c1,H.c2,H.c3,H.c4,H.f,H.own,H.ts,H.xl,H.xc,H.cap,λi k e=>(H.lev i k e).mono λj b=>⟨b.1,h _ b.2⟩,H.dir.mono λj b=>⟨b.1,h _ b.2⟩,⟨H.kt.1,h _ H.kt.2⟩,
  λj b=>⟨(H.kv j b).1,h _ (H.kv j b).2⟩,λa ha=>⟨⟨(H.kp a ha).1.1,h _ (H.kp a ha).1.2⟩,(H.kp a ha).2⟩⟩
theorem EngB.tv (H:EngB w K t E col v d L0 X p c):v.ownBlock≠some t:=λe=>by have:=(H.kv t e).1;have:=H.kt.1;omega
theorem EngB.rts_in (H:EngB w K t E col v d L0 X p c) (e:Touch (λj=>v.ownBlock=some j) w w4) (k:w4.ownsRow 0 34 4 v R'.length (rcs R')) :
 EngB w4 (λj=>K j\/In w.heap.size w4.heap.size j) t { E with R:=R' } (colN w col 1) v d L0 X p c/\Touch K w w4:=by
 have i:=e.block t H.lt H.tv;have b:∀j,w4.cell? ⟨t,j,none⟩=w.cell? ⟨t,j,none⟩:=λj=>World.cell?_of_block (a:=⟨t,j,none⟩) i;exact ⟨H.rts_step (e.mono λ_ _ h => .inr h) (b 0) (b 1) ((b 2).trans H.c2) (b 3) (b 4) (λj=>(World.frozen?_of_block (a:=⟨t,j,none⟩) i).trans (H.f j)) k (.inl rfl),e.mono λj _ h=>(H.kv j h).2⟩
theorem EngB.rts_store (H:EngB w K t E col v d L0 X p c) (x:Touch (λj=>v.ownBlock=some j) w w4) (y:w4.ownsRow 0 34 4 v' R'.length (rcs R')) (l:v'.ownBlock=v.ownBlock\/∃k,v'.ownBlock=some k/\w.heap.size<=k) :
 EngB (w4.setCell ⟨t,2,none⟩ v') (λj=>K j\/In w.heap.size w4.heap.size j) t { E with R:=R' } (colN w col 1) v' d L0 X p c/\Touch K w (w4.setCell ⟨t,2,none⟩ v'):=by
 have u:=x.block t H.lt H.tv;have s:∀j,w4.cell? ⟨t,j,none⟩=w.cell? ⟨t,j,none⟩:=λj=>World.cell?_of_block (a:=⟨t,j,none⟩) u;have i:(w4.setCell ⟨t,2,none⟩ v').heap.size=w4.heap.size:=World.size_setCell _ _ _;have n:Touch (λj=>j=t) w4 (w4.setCell ⟨t,2,none⟩ v'):=⟨rfl,rfl,rfl,by rw [i];exact Qn _,λk _ z=>Below.heap_setCell w4 ⟨t,2,none⟩ _ k (by simpa using z)⟩;have o:∀j,j≠2->(w4.setCell ⟨t,2,none⟩ v').cell? ⟨t,j,none⟩=w.cell? ⟨t,j,none⟩:=λj b=>by
  rw [World.cell?_setCell_other]
  ·exact s j
  ·intro e;injection e with _ q;exact b q.symm
 have r:v'.ownBlock≠some t:=by
  rcases l with e | ⟨k,e,A⟩
  ·rw [e];exact H.tv
  ·rw [e];intro q;injection q with q;have:=H.lt;omega
 have m:Touch (λj=>j=t\/v.ownBlock=some j) w (w4.setCell ⟨t,2,none⟩ v'):=(x.mono λ_ _ h => .inr h).trans (n.mono λ_ _ h => .inl h);have h:=H.rts_step (v':=v') m (o 0 Qd) (o 1 Qd) (World.cell?_setCell_same _ _ _ ((s 2).trans H.c2)) (o 3 Qd) (o 4 Qd) (λj=>by
  rw [World.frozen?_setCell]
  exact (World.frozen?_of_block (a:=⟨t,j,none⟩) u).trans (H.f j)) (Touch.own y n (λj b e=>r (by rw [b,e]))) l
 rw [i] at h;refine ⟨h,m.mono λj _ b => ?_⟩;rcases b with rfl | b
 ·exact H.kt.2
 ·exact (H.kv j b).2
end
theorem Zb (w:World) (K:Nat->Prop) (t:Nat) (E:Eg) (r:Rt) (HP:EngP w K t E) (C:E.ok) (hg:r.k.good) (hl:E.R.length<=300) :
 Calls prog 38 #[.pointer (some ⟨t,0,none⟩),rtA r] w λe w'=>e = .returned (.tuple #[])/\∃K',EngP w' K' t (E.put r)/\Touch K w w'/\∀g,K' g->K g\/In w.heap.size w'.heap.size g:=by
 obtain ⟨⟨s,q,i⟩,B⟩:=r;unfold rtA;simp only;have gk:W64 s/\W64 q:=hg;have b4:=HP;obtain ⟨col,v,d,L0,X,p,c,H0,hD⟩:=HP;have H:=H0.old;obtain ⟨K0,ae⟩:∃K0:Nat->Prop,K0=λj=>K j/\j<w.heap.size:=⟨_,rfl⟩;rw [<-ae] at H;have ce:t≠w.heap.size:=by have:=H.lt;omega
 have az:¬K0 w.heap.size:=by rw [ae];intro h;have:=h.2;omega
 have b0:∀g,K0 g->K g:=by rw [ae];exact λg h=>h.1
 obtain ⟨W0,n⟩:∃W:World,W=w.alloc (.cells #[.int .u64 (s:Int),.int .u64 (q:Int),.int .i64 i,.int .i64 B] 34):=⟨_,rfl⟩;have a1:Below w.heap.size w W0:=by rw [n];go_grown
 have bb:W0.heap.size=w.heap.size+1:=by rw [n];simp
 have u0:W0.cell? ⟨w.heap.size,0,none⟩=some (.int .u64 (s:Int)):=by rw [n];simp [go_sem]
 have u1:W0.cell? ⟨w.heap.size,1,none⟩=some (.int .u64 (q:Int)):=by rw [n];simp [go_sem]
 have u2:W0.cell? ⟨w.heap.size,2,none⟩=some (.int .i64 i):=by rw [n];simp [go_sem]
 have u3:W0.cell? ⟨w.heap.size,3,none⟩=some (.int .i64 B):=by rw [n];simp [go_sem]
 have N:w.heap.size<W0.heap.size:=Qa;have c0:=(a1.cell (p:=⟨t,0,none⟩) H.lt).trans H.c0;have c3:=(a1.cell (p:=⟨t,3,none⟩) H.lt).trans H.c3;have cl:=Qm H.lt a1.size;have HU:=hid (λW (h:Below W0.heap.size W0 W)=>Oq t d W (Qm cl h.size) ((h.cell (p:=⟨t,3,none⟩) cl).trans c3));have u:=hid (U8 s q i gk.1 gk.2);have D:=hid a1;have HP:=hid b4;have Q:=hid az;by_cases hT:D8 E ⟨⟨s,q,i⟩,B⟩=true
 ·have ac:E.put ⟨⟨s,q,i⟩,B⟩=E.toR (Ak E.R ⟨⟨s,q,i⟩,B⟩):=if_pos hT;rw [ac];unfold D8 at hT;simp only [Qq,decide_eq_true_eq] at hT;obtain ⟨⟨q1,q2⟩,q3⟩:=hT;rw [q1] at u;have a8:=hid (λW (h:Below W0.heap.size W0 W)=>Y9 W K0 t E col v d L0 X p c ⟨s,q,i⟩ B ((H.below a1).below h) C hg hl (.inl q3));rw [Yl C.rts.sort _ _ q3] at a8;unfold kyV at a8;obtain ⟨R',a7⟩:=Q' (Ak E.R ⟨⟨s,q,i⟩,B⟩);have aa:=N6 C.rts hg q3;rw [<-a7] at a8 aa ⊢;have n1:¬E.wd<i:=Qa;have n2:¬B<0:=Qa;have n3:decide (E.wd<i)=false:=decide_eq_false n1;have n4:decide (B<0)=false:=decide_eq_false n2;have b5:=hid C;obtain ⟨rp,rc,rfl⟩:=Aq H.own;have am:i<=E.di\/DirE (E.toR R') L0:=by
   by_cases h:i<=E.di
   ·exact .inl h
   ·rw [a7];exact .inr (Zz7 C.rts.sort hD _ (by show E.di<i;omega))
  have ak:R'.length<=4000:=by rw [a7];have:=Zzd C.rts.sort ⟨⟨s,q,i⟩,B⟩;omega
  have b9:=hid aa;have ag:=hid b0;have c9:=hid am;have c7:=hid ak;by_cases I:(⟨s,q,i⟩:Ky)∈Aa E.R
  ·have bp:Hid (decide ((⟨s,q,i⟩:Ky)∈Aa E.R)=true):=hid (decide_eq_true I);obtain ⟨hb,bx⟩:=(Ot C.rts.sort _).1 I;have a9:=Z20 C.rts.sort ⟨⟨s,q,i⟩,B⟩ I;rw [<-a7] at a9;obtain ⟨g,cap,cq,hv,-,cp,-,-,-,-,-⟩:=Dm H.own Qa;injection hv with cd cc cb;subst cd cb;simp only at a9;have cs:=hid bx;have b8:=hid a9;clear a9 bx I a7 am ak aa b0 H H0 hD C hg gk q1 q2 q3 ac b4 az ae a1 cc bb;go_enter func38,ntmps38;go_upto_region 1 with fail;rw [<-n];clear n;have kg:=Ad;refine Am Qb Qb ?_;repeat (any_goals (first|go_big_quiet_step ((first|exact u.o.at _ _ _|exact Calls.regrown_of (HU.o _ (below_regrown _ _ _))))|quiet_step ((first|exact u.o.at _ _ _|exact Calls.regrown_of (HU.o _ (below_regrown _ _ _))))))
   refine wpQuiet_nil ?_;clear kg;intro w1 l;obtain ⟨y,ad⟩:=Ac l;have u0:=(y _ _ N).trans u0;have u1:=(y _ _ N).trans u1;have u2:=(y _ _ N).trans u2;have u3:=(y _ _ N).trans u3;have ba:=Qm N l.size;have a2:=hid (D.o.trans (l.mono D.o.size));have a3:=hid (a8.o _ l);clear a8 HU u y ad l c0 c3 cl D;go_wp2_with fail;refine a3.o.mono ?_;rintro e w2 ⟨rfl,K2,c6,HE,HT,HG⟩;have u0:=HT.cell u0 Q.o;have u1:=HT.cell u1 Q.o;have u2:=HT.cell u2 Q.o;have u3:=HT.cell u3 Q.o;have F:=Qm ba HT.size;have U:=hid (Ou t E.R ⟨s,q,i⟩ _ _ w2 (Row.of_own HE.own) b5.o.rts.sort Qa HE.lt HE.c2);unfold kyV at U;simp only [bp.o] at U;have aw:=hid HE;have af:=hid HT;have au:=hid HG;clear HE HT HG a3;go_wp2_with fail;refine U.o.mono ?_;rintro e w3 ⟨rfl,L⟩;obtain ⟨J,bg⟩:=Ac L;have u0:=(J _ _ F).trans u0;have u1:=(J _ _ F).trans u1;have u2:=(J _ _ F).trans u2;have u3:=(J _ _ F).trans u3;have ai:=Qm F L.size;have z:=hid (aw.o.below L);have ah:=hid L;have c2:=z.o.c2;have cl:=z.o.lt;clear U J bg L aw;generalize bh E.R ⟨s,q,i⟩=b at *
   obtain ⟨gx,ox,eg,-,r0,r1,r2,r3⟩:=(Row.of_own z.o.own).rt hb;injection eg with eg;injection eg with eg eo;subst eg eo;simp only [Nat.zero_add] at r0 r1 r2 r3;have f0:=z.o.own.frozenAt (b*4);have f1:=z.o.own.frozenAt (b*4+1);have f2:=z.o.own.frozenAt (b*4+2);have f3:=z.o.own.frozenAt (b*4+3);have i1:(0:Int)<=(b:Int):=Qa;have i2:(b:Int)<(E.R.length:Int):=Qa;go_wp2_with fail;go_region;go_wp2_with fail;obtain ⟨W5,a5⟩:∃W:World,W=((((w3.setCell ⟨g,b*4,none⟩ (.int .u64 (s:Int))).setCell ⟨g,b*4+1,none⟩ (.int .u64 (q:Int))).setCell ⟨g,b*4+2,none⟩ (.int .i64 i)).setCell ⟨g,b*4+3,none⟩ (.int .i64 B)).drew:=⟨_,rfl⟩;rw [<-a5];have bf:=z.o.own.stored (b*4) (.int .u64 (s:Int));have be:=bf.1.stored (b*4+1) (.int .u64 (q:Int));have bd:=be.1.stored (b*4+2) (.int .i64 i);have bc:=bd.1.stored (b*4+3) (.int .i64 B);have bi:Below ((((w3.setCell ⟨g,b*4,none⟩ (.int .u64 (s:Int))).setCell ⟨g,b*4+1,none⟩ (.int .u64 (q:Int))).setCell ⟨g,b*4+2,none⟩ (.int .i64 i)).setCell ⟨g,b*4+3,none⟩ (.int .i64 B)).heap.size ((((w3.setCell ⟨g,b*4,none⟩ (.int .u64 (s:Int))).setCell ⟨g,b*4+1,none⟩ (.int .u64 (q:Int))).setCell ⟨g,b*4+2,none⟩ (.int .i64 i)).setCell ⟨g,b*4+3,none⟩ (.int .i64 B)) W5:=by rw [a5];go_grown
   have Z:=own_below bc.1 bi;have al:∀k,some k=some g->(Value.slice (some ⟨g,0,none⟩) E.R.length rc).ownBlock=some k:=λk e=>e.symm;have m:Touch (λj=>(Value.slice (some ⟨g,0,none⟩) E.R.length rc).ownBlock=some j) w3 W5:=((((Touch.of_grown bf.2 al).trans (Touch.of_grown be.2 al)).trans (Touch.of_grown bd.2 al)).trans (Touch.of_grown bc.2 al)).trans (Touch.quiet bi);rw [J3 E.R b ⟨⟨s,q,i⟩,B⟩ hb,<-b8.o] at Z;have bj:R'.length=E.R.length:=by rw [b8.o,List.length_set]
   rw [<-bj] at Z;have I:=z.o.rts_in m (by rw [bj] at Z ⊢;exact Z);have av:=hid I.1;have aq:=hid I.2;clear I Z bj m bi bf be bd bc al a5 r0 r1 r2 r3 f0 f1 f2 f3;have ax:Hid (Touch K w W5):=hid (Bq ((Bq (Touch.quiet a2.o) (λg h => .inl (ag.o g h)) af.o).trans (Touch.quiet ah.o)) (λj A=>by
    rcases au.o j A with h | h
    ·exact .inl (ag.o j h)
    ·exact .inr (Qw a2.o.size h.1)) aq.o)
   have ar:Hid (∀j,(K2 j\/In w3.heap.size W5.heap.size j)->K j\/In w.heap.size W5.heap.size j):=hid λj A=>by
    have z1:=a2.o.size;have z2:=af.o.size;have z3:=ah.o.size;have z5:=aq.o.size;rcases A with A | A
    ·rcases au.o j A with h | h
     ·exact .inl (ag.o j h)
     ·exact .inr ⟨by have:=h.1;omega,by have:=h.2;omega⟩
    ·exact .inr ⟨by have:=A.1;omega,A.2⟩
   have bo:=hid (Oy W5 _ t (E.toR R') _ _ d L0 X p c i av.o b9.o c7.o b5.o.dir.1 c9.o);clear av;refine bo.o.mono ?_;rintro e w6 ⟨rfl,K6,ao,a6,ap⟩;have bm:=hid ao;have bq:=hid (Bq ax.o (λj A=>(ar.o j A).imp id λh=>h.1) a6);have bn:Hid (∀j,K6 j->K j\/In w.heap.size w6.heap.size j):=hid λj A=>by
    have z6:=a6.size;have z5:=ax.o.size;rcases ap j A with h | h
    ·rcases ar.o j h with h | h
     ·exact .inl h
     ·exact .inr ⟨h.1,by have:=h.2;omega⟩
    ·exact .inr ⟨by have:=h.1;omega,h.2⟩
   clear ao a6 ap;go_wp2;go_end0;exact ⟨rfl,K6,bm.o,bq.o,bn.o⟩
  ·have bp:Hid (decide ((⟨s,q,i⟩:Ky)∈Aa E.R)=false):=hid (decide_eq_false I);have ab:=Z21 C.rts.sort ⟨⟨s,q,i⟩,B⟩ I;rw [<-a7] at ab;simp only at ab;have bw:=Eo E.R ⟨s,q,i⟩;have c8:=hid ab;have aj:=H.vlt;have bu:(Value.slice rp E.R.length rc).ownBlock≠some w.heap.size:=λe=>by have:=aj _ e;omega
   have b6:=hid bu;have cg:=hid aj;clear ab I a7 am ak aa b0 H H0 hD C hg gk q1 q2 q3 ac b4 az ae a1 bb bu aj;go_enter func38,ntmps38;go_upto_region 1 with fail;rw [<-n];clear n;have kg:=Ad;refine Am Qb Qb ?_;repeat (any_goals (first|go_big_quiet_step ((first|exact u.o.at _ _ _|exact Calls.regrown_of (HU.o _ (below_regrown _ _ _))))|quiet_step ((first|exact u.o.at _ _ _|exact Calls.regrown_of (HU.o _ (below_regrown _ _ _))))))
   refine wpQuiet_nil ?_;clear kg;intro w1 l;obtain ⟨y,ad⟩:=Ac l;have u0:=(y _ _ N).trans u0;have u1:=(y _ _ N).trans u1;have u2:=(y _ _ N).trans u2;have u3:=(y _ _ N).trans u3;have ba:=Qm N l.size;have a2:=hid (D.o.trans (l.mono D.o.size));have a3:=hid (a8.o _ l);clear a8 HU u y ad l c0 c3 cl D;go_wp2_with fail;refine a3.o.mono ?_;rintro e w2 ⟨rfl,K2,c6,HE,HT,HG⟩;have u0:=HT.cell u0 Q.o;have u1:=HT.cell u1 Q.o;have u2:=HT.cell u2 Q.o;have u3:=HT.cell u3 Q.o;have F:=Qm ba HT.size;have U:=hid (Ou t E.R ⟨s,q,i⟩ _ _ w2 (Row.of_own HE.own) b5.o.rts.sort Qa HE.lt HE.c2);unfold kyV at U;simp only [bp.o] at U;have aw:=hid HE;have af:=hid HT;have au:=hid HG;clear HE HT HG a3;go_wp2_with fail;refine U.o.mono ?_;rintro e w3 ⟨rfl,L⟩;obtain ⟨J,bg⟩:=Ac L;have u0:=(J _ _ F).trans u0;have u1:=(J _ _ F).trans u1;have u2:=(J _ _ F).trans u2;have u3:=(J _ _ F).trans u3;have ai:=Qm F L.size;have z:=hid (aw.o.below L);have ah:=hid L;have c2:=z.o.c2;have cl:=z.o.lt;clear U J bg L aw;generalize bh E.R ⟨s,q,i⟩=b at *
   have f2:=z.o.f 2;have ck:=a2.o.size;have cj:=af.o.size;have ci:=ah.o.size;go_wp2_with fail;refine wp_region_noPanic ?_;generalize bz:NoPanic _=NQ;refine U7 (λw'=>w'.cell? ⟨t,2,none⟩=some (.slice rp E.R.length rc)/\w'.cell? ⟨w.heap.size,0,none⟩=some (.int .u64 (s:Int))/\w'.cell? ⟨w.heap.size,1,none⟩=some (.int .u64 (q:Int))/\w'.cell? ⟨w.heap.size,2,none⟩=some (.int .i64 i)/\w'.cell? ⟨w.heap.size,3,none⟩=some (.int .i64 B)) [0,1,2,3,5] [4,6] [7,8] [9,10,11] Qb (by rw [<-bz];exact λ_ _ _ h=>h) Qb Qb ⟨c2,u0,u1,u2,u3⟩ ?_;simp only [Ag,List.filterMap_cons,List.filterMap_nil,List.getElem?_toArray,List.getElem?_cons_succ,List.getElem?_cons_zero]
   iterate 5 (quiet_step (fail))
   refine wpQuiet_nil ?_;refine J0 (.slice rp E.R.length rc) rfl (λw' ⟨c2,u0,u1,u2,u3⟩=>by go_simp) ?_;refine J0 (.agg #[.int .u64 (s:Int),.int .u64 (q:Int),.int .i64 i,.int .i64 B]) rfl (λw' ⟨c2,u0,u1,u2,u3⟩=>by go_simp) ?_;refine wpQuiet_nil ?_;intro K hK o ho;injection ho with ho;subst ho;go_simp;obtain ⟨W4,an⟩:∃W:World,W=(w3.alloc (.cells #[.int .u64 (s:Int),.int .u64 (q:Int),.int .i64 i,.int .i64 B] 34)).drew:=⟨_,rfl⟩;have a4:Below w3.heap.size w3 W4:=by rw [an];go_grown
   have br:W4.heap[w3.heap.size]? = some (.cells (Ae ⟨⟨s,q,i⟩,B⟩).toArray 34 (0,0)):=by rw [an];exact heap_alloc_new w3 _
   have cn:W4.heap.size=w3.heap.size+1:=by rw [an];simp
   try rw [<-an]
   clear an;have O:=hid (z.o.below a4);have u0:=(a4.cell (p:=⟨w.heap.size,0,none⟩) ai).trans u0;have u1:=(a4.cell (p:=⟨w.heap.size,1,none⟩) ai).trans u1;have u2:=(a4.cell (p:=⟨w.heap.size,2,none⟩) ai).trans u2;have u3:=(a4.cell (p:=⟨w.heap.size,3,none⟩) ai).trans u3;refine hK _ _ ⟨O.o.c2,u0,u1,u2,u3⟩ ?_;clear hK K;intro K hK o ho;injection ho with ho;subst ho;go_simp;go_at_call 55;refine (U5 _ E.R b ⟨⟨s,q,i⟩,B⟩ w3.heap.size W4 O.o.own bw Qa br (λe=>by have:=cg.o _ e;omega)).mono ?_;rintro e w5 ⟨v5,rfl,ay,bv,b7⟩;rw [<-c8.o] at ay;have m:Touch (λj=>(Value.slice rp E.R.length rc).ownBlock=some j) W4 w5:=Touch.of_grown bv (λk e=>e.symm);obtain ⟨p5,c5,rfl⟩:=Aq ay;have bs:=O.o.rts_store m ay b7;have u0:=m.cell u0 b6.o;have u1:=m.cell u1 b6.o;have u2:=m.cell u2 b6.o;have u3:=m.cell u3 b6.o;have c2:=m.cell O.o.c2 O.o.tv;have f2:=(World.frozen?_of_block (a:=⟨t,2,none⟩) (m.block t O.o.lt O.o.tv)).trans (O.o.f 2);have cr:=Qm O.o.lt m.size;have co:=Qm (show w.heap.size<W4.heap.size by omega) m.size;have cm:=m.size;have bl:=hid bs;have ca:=hid a4;refine hK _ _ ⟨c2,u0,u1,u2,u3⟩ ?_;clear hK K bs ay bv b7 m O a4 br;show wpList _ _ _ _ _ _;simp only [Ag,List.filterMap_cons,List.filterMap_nil,List.getElem?_toArray,List.getElem?_cons_succ,List.getElem?_cons_zero];subst bz;go_wp2_with fail;refine NoPanic.normal ?_;go_wp2_with fail;obtain ⟨W5,a5⟩:∃W:World,W=w5.setCell ⟨t,2,none⟩ (.slice p5 R'.length c5):=⟨_,rfl⟩;have b3:=bl.o.1;have m:=(Touch.quiet (S:=K2) ca.o).trans bl.o.2;have cf:W5.heap.size=w5.heap.size:=by rw [a5];exact World.size_setCell _ _ _
   rw [<-a5] at b3 m ⊢;rw [<-cf] at b3;have c1:=b3.mono (K':=λj=>K2 j\/In w3.heap.size W5.heap.size j) (λj A=>A.imp id λh=>⟨by have:=h.1;omega,h.2⟩);have av:=hid c1;have aq:=hid m;clear b3 c1 m bl ca a5;have ax:Hid (Touch K w W5):=hid (Bq ((Bq (Touch.quiet a2.o) (λg h => .inl (ag.o g h)) af.o).trans (Touch.quiet ah.o)) (λj A=>by
    rcases au.o j A with h | h
    ·exact .inl (ag.o j h)
    ·exact .inr (Qw a2.o.size h.1)) aq.o)
   have ar:Hid (∀j,(K2 j\/In w3.heap.size W5.heap.size j)->K j\/In w.heap.size W5.heap.size j):=hid λj A=>by
    have z1:=a2.o.size;have z2:=af.o.size;have z3:=ah.o.size;have z5:=aq.o.size;rcases A with A | A
    ·rcases au.o j A with h | h
     ·exact .inl (ag.o j h)
     ·exact .inr ⟨by have:=h.1;omega,by have:=h.2;omega⟩
    ·exact .inr ⟨by have:=A.1;omega,A.2⟩
   have bo:=hid (Oy W5 _ t (E.toR R') _ _ d L0 X p c i av.o b9.o c7.o b5.o.dir.1 c9.o);clear av;refine bo.o.mono ?_;rintro e w6 ⟨rfl,K6,ao,a6,ap⟩;have bm:=hid ao;have bq:=hid (Bq ax.o (λj A=>(ar.o j A).imp id λh=>h.1) a6);have bn:Hid (∀j,K6 j->K j\/In w.heap.size w6.heap.size j):=hid λj A=>by
    have z6:=a6.size;have z5:=ax.o.size;rcases ap j A with h | h
    ·rcases ar.o j h with h | h
     ·exact .inl h
     ·exact .inr ⟨h.1,by have:=h.2;omega⟩
    ·exact .inr ⟨by have:=h.1;omega,h.2⟩
   clear ao a6 ap;go_wp2;go_end0;exact ⟨rfl,K6,bm.o,bq.o,bn.o⟩
 ·have ac:E.put ⟨⟨s,q,i⟩,B⟩=E:=if_neg hT;rw [ac];clear ac H H0 hD C hg b0 az ae a1 Q b4 bb gk hl ce;unfold D8 at hT;simp only [Qq,decide_eq_true_eq] at hT;cases q1:Ap s q i with
  | false=>
   rw [q1] at u;clear q1 hT;go_enter func38,ntmps38;go_upto_region 1 with fail;rw [<-n];clear n;have kg:=Ad;refine Am Qb Qb ?_;repeat (any_goals (first|go_big_quiet_step ((first|exact u.o.at _ _ _|exact Calls.regrown_of (HU.o _ (below_regrown _ _ _))))|quiet_step ((first|exact u.o.at _ _ _|exact Calls.regrown_of (HU.o _ (below_regrown _ _ _))))))
   refine wpQuiet_nil ?_;clear kg;intro w1 l;obtain ⟨y,ad⟩:=Ac l;have Y:=D.o.trans (l.mono D.o.size);go_wp2
   (try simp only [Exit.inBlock,Exit.then])
   refine bodyPost_ret (results_none rfl _ _ _) rfl ?_;exact ⟨rfl,K,HP.o.touched (S:=λ_=>False) (Touch.quiet Y) (λ_ _ x=>x),Touch.quiet Y,λg hg => .inl hg⟩
  | true=>
   rw [q1] at u hT;by_cases q2:i<=E.wd
   ·have n1:¬E.wd<i:=Qa;have n3:decide (E.wd<i)=false:=decide_eq_false n1;have q3:B<0:=by
     by_cases q3:B<0
     ·exact q3
     ·exact absurd ⟨⟨rfl,q2⟩,Qa⟩ hT
    have n4:decide (B<0)=true:=decide_eq_true q3;clear hT q2 q1;go_enter func38,ntmps38;go_upto_region 1 with fail;rw [<-n];clear n;have kg:=Ad;refine Am Qb Qb ?_;repeat (any_goals (first|go_big_quiet_step ((first|exact u.o.at _ _ _|exact Calls.regrown_of (HU.o _ (below_regrown _ _ _))))|quiet_step ((first|exact u.o.at _ _ _|exact Calls.regrown_of (HU.o _ (below_regrown _ _ _))))))
    refine wpQuiet_nil ?_;clear kg;intro w1 l;obtain ⟨y,ad⟩:=Ac l;have Y:=D.o.trans (l.mono D.o.size);go_wp2
    (try simp only [Exit.inBlock,Exit.then])
    refine bodyPost_ret (results_none rfl _ _ _) rfl ?_;exact ⟨rfl,K,HP.o.touched (S:=λ_=>False) (Touch.quiet Y) (λ_ _ x=>x),Touch.quiet Y,λg hg => .inl hg⟩
   ·have n1:E.wd<i:=Qa;have n3:decide (E.wd<i)=true:=decide_eq_true n1;clear hT q2 q1;go_enter func38,ntmps38;go_upto_region 1 with fail;rw [<-n];clear n;have kg:=Ad;refine Am Qb Qb ?_;repeat (any_goals (first|go_big_quiet_step ((first|exact u.o.at _ _ _|exact Calls.regrown_of (HU.o _ (below_regrown _ _ _))))|quiet_step ((first|exact u.o.at _ _ _|exact Calls.regrown_of (HU.o _ (below_regrown _ _ _))))))
    refine wpQuiet_nil ?_;clear kg;intro w1 l;obtain ⟨y,ad⟩:=Ac l;have Y:=D.o.trans (l.mono D.o.size);go_wp2
    (try simp only [Exit.inBlock,Exit.then])
    refine bodyPost_ret (results_none rfl _ _ _) rfl ?_;exact ⟨rfl,K,HP.o.touched (S:=λ_=>False) (Touch.quiet Y) (λ_ _ x=>x),Touch.quiet Y,λg hg => .inl hg⟩
theorem Zc (w:World) (K:Nat->Prop) (t:Nat) (E:Eg) (k:Ky) (HP:EngP w K t E) (o:E.ok) (hg:k.good) (hl:E.R.length<=300) :
 Calls prog 37 #[.pointer (some ⟨t,0,none⟩),kyV k] w λe w'=>e = .returned (.bool (decide (k∈Aa E.R)))/\∃K',EngP w' K' t (E.del k)/\Touch K w w'/\∀g,K' g->K g\/In w.heap.size w'.heap.size g:=by
 obtain ⟨C,B,y⟩:=k;have gk:W64 C/\W64 B:=hg;have al:=HP;obtain ⟨col,v,d,L0,X,p,c,H0,hD⟩:=HP;have H:=H0.old;obtain ⟨K0,Y⟩:∃K0:Nat->Prop,K0=λj=>K j/\j<w.heap.size:=⟨_,rfl⟩;rw [<-Y] at H;have c1:t≠w.heap.size:=by have:=H.lt;omega
 have ab:¬K0 w.heap.size:=by rw [Y];intro h;have:=h.2;omega
 have ai:∀g,K0 g->K g:=by rw [Y];exact λg h=>h.1
 obtain ⟨J,u⟩:∃W:World,W=w.alloc (.cells #[.int .u64 (C:Int),.int .u64 (B:Int),.int .i64 y] 32):=⟨_,rfl⟩;have s:Below w.heap.size w J:=by rw [u];go_grown
 have aq:J.heap.size=w.heap.size+1:=by rw [u];simp
 have u0:J.cell? ⟨w.heap.size,0,none⟩=some (.int .u64 (C:Int)):=by rw [u];simp [go_sem]
 have u1:J.cell? ⟨w.heap.size,1,none⟩=some (.int .u64 (B:Int)):=by rw [u];simp [go_sem]
 have u2:J.cell? ⟨w.heap.size,2,none⟩=some (.int .i64 y):=by rw [u];simp [go_sem]
 have z:w.heap.size<J.heap.size:=Qa;have c3:=(s.cell (p:=⟨t,3,none⟩) H.lt).trans H.c3;have cl:=Qm H.lt s.size;have HU:=hid (λW (h:Below J.heap.size J W)=>Oq t d W (Qm cl h.size) ((h.cell (p:=⟨t,3,none⟩) cl).trans c3));have a8:=hid s;have HP:=hid al;have a5:=hid ab;obtain ⟨rp,rc,rfl⟩:=Aq H.own;have A:=hid (λW (h:Below J.heap.size J W)=>Ou t E.R ⟨C,B,y⟩ _ _ W (Row.of_own ((H.below s).below h).own) o.rts.sort Qa ((H.below s).below h).lt ((H.below s).below h).c2);unfold kyV at A ⊢;by_cases i:(⟨C,B,y⟩:Ky)∈Aa E.R
 ·have O:E.del ⟨C,B,y⟩=E.toR (outS E.R ⟨C,B,y⟩):=if_pos i;rw [O,decide_eq_true i];simp only [decide_eq_true i] at A;have Z:=hid (λW (h:Below J.heap.size J W)=>Y9 W K0 t E col _ d L0 X p c ⟨C,B,y⟩ (-1) ((H.below s).below h) o hg hl (.inr rfl));rw [Ym] at Z;unfold kyV at Z;obtain ⟨R',U⟩:=Q' (outS E.R ⟨C,B,y⟩);have N:=N7 o.rts ⟨C,B,y⟩;rw [<-U] at Z N ⊢;have aa:y<=E.di\/DirE (E.toR R') L0:=by
   by_cases h:y<=E.di
   ·exact .inl h
   ·rw [U];exact .inr (Z3o o.rts.sort hD _ (by show E.di<y;omega))
  have a9:R'.length<=4000:=by rw [U];have:=List.length_filter_le (λq:Rt=>decide (q.k≠(⟨C,B,y⟩:Ky))) E.R;unfold outS;omega
  obtain ⟨hb,bo⟩:=(Ot o.rts.sort _).1 i;have Q:=Z5t o.rts.sort ⟨C,B,y⟩ i;rw [<-U] at Q;obtain ⟨m,hm⟩:∃m,E.R.length=m+1:=⟨E.R.length-1,Qa⟩;have bq:=hid o;have b7:=hid N;have am:=hid ai;have bv:=hid aa;have br:=hid a9;have bb:=hid Q;clear Q bo i U aa a9 N ai H H0 hD o hg gk O al ab Y s aq c3 cl;go_enter func37,ntmps37;go_upto_region 1 with fail;rw [<-u];clear u;go_wp2_with fail;refine (HU.o _ (Below.refl _ _)).mono ?_;rintro e w1 ⟨rfl,l⟩;obtain ⟨r,ac⟩:=Ac l;have u0:=(r _ _ z).trans u0;have u1:=(r _ _ z).trans u1;have u2:=(r _ _ z).trans u2;have a1:=Qm z l.size;have a6:=hid (A.o _ l);have n:=hid l;clear r ac l A HU;go_wp2_with fail;refine a6.o.mono ?_;rintro e w2 ⟨rfl,D⟩;obtain ⟨a2,bm⟩:=Ac D;have u0:=(a2 _ _ a1).trans u0;have u1:=(a2 _ _ a1).trans u1;have u2:=(a2 _ _ a1).trans u2;have be:=Qm a1 D.size;have aj:=hid (n.o.trans (D.mono n.o.size));have b8:=hid (Z.o _ aj.o);clear a2 bm D a6 Z n;go_wp2_with fail;refine b8.o.mono ?_;rintro e w3 ⟨rfl,K2,bx,HE,HT,HG⟩;have u0:=HT.cell u0 a5.o;have u1:=HT.cell u1 a5.o;have u2:=HT.cell u2 a5.o;have ap:=Qm be HT.size;obtain ⟨g,cap,b4,hv,-,c5,av,h1,h2,h3,h4⟩:=Dm HE.own (by show 0<E.R.length;omega);injection hv with bi bg bf;subst bi bf;have bn:(⟨{ E with L:=B2 E.R R' E.di E.L }.R.length,0⟩:Nat×Nat)=⟨m+1,0⟩:=by show (E.R.length,0)=_;rw [hm]
  have b3:m+1<=rc:=by rw [<-hm];exact h1
  have b0:b4.toList.take ((m+1)*4)=rcs E.R:=by rw [<-hm];exact h4
  generalize c6:bh E.R ⟨C,B,y⟩=b at *
  have ao:=hid (U3 g rc m b b4 E.R w3 hm av b3 h2 h3 b0 Qa Qa);rw [<-bb.o] at ao;have a7:=hid HE;have b6:=hid HT;have an:=hid HG;have c2:=HE.c2;have cl:=HE.lt;have f2:=HE.f 2;have i0:(0:Int)<=(b:Int):=Qa;have c0:IntKind.i64.wrap ((b:Int)+1)=(b:Int)+1:=by rw [IntKind.wrap_i64];omega
  have aw:=a7.o.kv g rfl;have bl:g≠w.heap.size:=λe=>by
   rcases an.o g aw.2 with h | h
   ·exact a5.o (e▸h)
   ·have:=h.1;omega
  simp only [hm] at c2;clear HE HT HG h1 b3 h2 h3 h4 b0 av bg bn b8 aw;go_wp2_with fail;refine ao.o.mono ?_;rintro e w4 ⟨rfl,au,ax⟩;have ah:R'.length=m:=by have:=bb.o;rw [this,Qo,Qs,List.length_drop];omega
  have F:Touch (λj=>(Value.slice (some ⟨g,0,none⟩) E.R.length rc).ownBlock=some j) w3 w4:=Touch.of_grown ax (λk e=>e.symm);have ak:=hid (a7.o.rts_store (v' := .slice (some ⟨g,0,none⟩) m rc) (R':=R') F (by rw [ah];exact au) (.inl rfl));have ad:=F.block t a7.o.lt a7.o.tv;have a3:=F.block w.heap.size ap (λe=>bl (by injection e));have c2:=(World.cell?_of_block (a:=⟨t,2,none⟩) ad).trans c2;have f2:=(World.frozen?_of_block (a:=⟨t,2,none⟩) ad).trans f2;have u0:=(World.cell?_of_block (a:=⟨w.heap.size,0,none⟩) a3).trans u0;have u1:=(World.cell?_of_block (a:=⟨w.heap.size,1,none⟩) a3).trans u1;have u2:=(World.cell?_of_block (a:=⟨w.heap.size,2,none⟩) a3).trans u2;have c7:=Qm cl F.size;have bz:=Qm ap F.size;have c8:=hid ah;clear F au ax ad a3 ao ah;go_wp2_with fail;obtain ⟨W5,ae⟩:∃W:World,W=w4.setCell ⟨t,2,none⟩ (.slice (some ⟨g,0,none⟩) m rc):=⟨_,rfl⟩;have a4:=ak.o.1;have ag:=ak.o.2;have bj:W5.heap.size=w4.heap.size:=by rw [ae];exact World.size_setCell _ _ _
  rw [<-ae] at a4 ag ⊢;rw [<-bj] at a4;have ba:=hid a4;have b5:=hid ag;have bc:=hid (Below.refl w3.heap.size w3);have n:=hid (a8.o.trans (aj.o.mono a8.o.size));clear a4 ag ak ae aj;have bd:Hid (Touch K w W5):=hid (Bq ((Bq (Touch.quiet n.o) (λg h => .inl (am.o g h)) b6.o).trans (Touch.quiet bc.o)) (λj I=>by
   rcases an.o j I with h | h
   ·exact .inl (am.o j h)
   ·exact .inr (Qw n.o.size h.1)) b5.o)
  have b9:Hid (∀j,(K2 j\/In w3.heap.size W5.heap.size j)->K j\/In w.heap.size W5.heap.size j):=hid λj I=>by
   have z1:=n.o.size;have z2:=b6.o.size;have z3:=bc.o.size;have z5:=b5.o.size;rcases I with I | I
   ·rcases an.o j I with h | h
    ·exact .inl (am.o j h)
    ·exact .inr ⟨by have:=h.1;omega,by have:=h.2;omega⟩
   ·exact .inr ⟨by have:=I.1;omega,I.2⟩
  have bu:=hid (Oy W5 _ t (E.toR R') _ _ d L0 X p c y ba.o b7.o br.o bq.o.dir.1 bv.o);clear ba;refine bu.o.mono ?_;rintro e w6 ⟨rfl,K6,ay,af,az⟩;have bp:=hid ay;have bw:=hid (Bq bd.o (λj I=>(b9.o j I).imp id λh=>h.1) af);have bs:Hid (∀j,K6 j->K j\/In w.heap.size w6.heap.size j):=hid λj I=>by
   have z6:=af.size;have z5:=bd.o.size;rcases az j I with h | h
   ·rcases b9.o j h with h | h
    ·exact .inl h
    ·exact .inr ⟨h.1,by have:=h.2;omega⟩
   ·exact .inr ⟨by have:=h.1;omega,h.2⟩
  clear ay af az;go_wp2;go_ret;exact ⟨rfl,K6,bp.o,bw.o,bs.o⟩
 ·have O:E.del ⟨C,B,y⟩=E:=if_neg i;rw [O,decide_eq_false i];simp only [decide_eq_false i] at A;clear i H H0 hD o hg gk O al ab Y s aq c3 cl ai;go_enter func37,ntmps37;go_upto_region 1 with fail;rw [<-u];clear u;go_wp2_with fail;refine (HU.o _ (Below.refl _ _)).mono ?_;rintro e w1 ⟨rfl,l⟩;obtain ⟨r,ac⟩:=Ac l;have u0:=(r _ _ z).trans u0;have u1:=(r _ _ z).trans u1;have u2:=(r _ _ z).trans u2;have a6:=hid (A.o _ l);have n:=hid (a8.o.trans (l.mono a8.o.size));clear r ac l A HU;go_wp2_with fail;refine a6.o.mono ?_;rintro e w2 ⟨rfl,D⟩;have ar:=n.o.trans (D.mono n.o.size);go_wp2;go_ret;exact ⟨rfl,K,HP.o.touched (S:=λ_=>False) (Touch.quiet ar) (λ_ _ x=>x),Touch.quiet ar,λg hg => .inl hg⟩
end Go.Proofs.YtpdphfgpdgadpaaGreat
