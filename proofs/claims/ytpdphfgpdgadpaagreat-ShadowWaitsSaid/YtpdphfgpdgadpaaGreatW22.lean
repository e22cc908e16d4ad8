import Derived.Test.YtpdphfgpdgadpaaGreatW22g
set_option linter.unusedSimpArgs false
set_option linter.unusedVariables false
set_option maxHeartbeats 20000000
set_option maxRecDepth 100000
open Go.Proofs.Tryz
namespace Go.Proofs.YtpdphfgpdgadpaaGreat
open Lib(hid)
section
open Go Go.RowKit Go.Sort M
def nwD (B:Nat) (wd a:Int):Nat->Value->World->Prop
 | 6,v,W=>∃d,v = .pointer (some ⟨d,0,none⟩)/\DirP W (λj=>B<=j) d (B6 a) []
 | 7,v,W=>∃d,v = .agg #[.int .i64 wd,.int .i64 a,.slice none 0 0,.pointer (some ⟨d,0,none⟩),.slice none 0 0]/\DirP W (λj=>B<=j) d (B6 a) []
 | 8,v,W | 9,v,W=>∃d t,v = .pointer (some ⟨t,0,none⟩)/\B<=t/\t<W.heap.size/\DirP W (λj=>B<=j/\j≠t) d (B6 a) []/\W.cell? ⟨t,0,none⟩=some (.int .i64 wd)/\W.cell? ⟨t,1,none⟩=some (.int .i64 a)/\W.cell? ⟨t,2,none⟩=some (.slice none 0 0)/\W.cell? ⟨t,3,none⟩=some (.pointer (some ⟨d,0,none⟩))/\W.cell? ⟨t,4,none⟩=some (.slice none 0 0)/\∀j,W.frozen? ⟨t,j,none⟩=false
 | _,_,_=>True
theorem DirP.below22 {w w':World} {K:Nat->Prop} {t m:Nat} {L:List Rt} (H:DirP w K t m L) (a:Below w.heap.size w w'):DirP w' K t m L:=H.touched (S:=λ_=>False) (Touch.quiet a) (λ_ _ x=>x)
theorem Zvk (B:Nat) (wd c:Int):∀i v W W',Below W.heap.size W W'->nwD B wd c i v W->nwD B wd c i v W':=by
 intro i v W W' a h;have key:(∃d t,v = .pointer (some ⟨t,0,none⟩)/\B<=t/\t<W.heap.size/\DirP W (λj=>B<=j/\j≠t) d (B6 c) []/\W.cell? ⟨t,0,none⟩=some (.int .i64 wd)/\W.cell? ⟨t,1,none⟩=some (.int .i64 c)/\W.cell? ⟨t,2,none⟩=some (.slice none 0 0)/\W.cell? ⟨t,3,none⟩=some (.pointer (some ⟨d,0,none⟩))/\W.cell? ⟨t,4,none⟩=some (.slice none 0 0)/\∀j,W.frozen? ⟨t,j,none⟩=false) ->
  (∃d t,v = .pointer (some ⟨t,0,none⟩)/\B<=t/\t<W'.heap.size/\DirP W' (λj=>B<=j/\j≠t) d (B6 c) []/\W'.cell? ⟨t,0,none⟩=some (.int .i64 wd)/\W'.cell? ⟨t,1,none⟩=some (.int .i64 c)/\W'.cell? ⟨t,2,none⟩=some (.slice none 0 0)/\W'.cell? ⟨t,3,none⟩=some (.pointer (some ⟨d,0,none⟩))/\W'.cell? ⟨t,4,none⟩=some (.slice none 0 0)/\∀j,W'.frozen? ⟨t,j,none⟩=false):=by
  rintro ⟨d,t,k,e,b,l,n,m,c2,c3,c4,f⟩;exact ⟨d,t,k,e,Qm b a.size,l.below22 a,(a.cell (p:=⟨t,0,none⟩) b).trans n,(a.cell (p:=⟨t,1,none⟩) b).trans m,(a.cell (p:=⟨t,2,none⟩) b).trans c2,(a.cell (p:=⟨t,3,none⟩) b).trans c3,(a.cell (p:=⟨t,4,none⟩) b).trans c4,λj=>(a.frozen (p:=⟨t,j,none⟩) b).trans (f j)⟩
 unfold nwD at h ⊢;split at h
 ·obtain ⟨d,k,e⟩:=h;exact ⟨d,k,e.below22 a⟩
 ·obtain ⟨d,k,e⟩:=h;exact ⟨d,k,e.below22 a⟩
 ·exact key h
 ·exact key h
 ·trivial
def nrD (B s:Nat) (V:Lv):Nat->Value->World->Prop
 | 8,v,_=>v = .int .u64 (s:Int)
 | 14,v,W | 15,v,W=>∃q,v = .tuple #[.pointer (some ⟨q,0,none⟩),.int .i64 0]/\LevP W (λj=>B<=j) q V
 | 16,v,W | 18,v,W=>∃q,v = .pointer (some ⟨q,0,none⟩)/\LevP W (λj=>B<=j) q V
 | _,_,_=>True
theorem Zvl (B s:Nat) (V:Lv):∀i v W W',Below W.heap.size W W'->nrD B s V i v W->nrD B s V i v W':=by
 intro i v W W' c h;unfold nrD at h ⊢;split at h
 ·exact h
 ·obtain ⟨q,b,a⟩:=h;exact ⟨q,b,a.below c⟩
 ·obtain ⟨q,b,a⟩:=h;exact ⟨q,b,a.below c⟩
 ·obtain ⟨q,b,a⟩:=h;exact ⟨q,b,a.below c⟩
 ·obtain ⟨q,b,a⟩:=h;exact ⟨q,b,a.below c⟩
 ·trivial
def NewI (w3 w4 wr:World) (B:Nat) (wd b:Int) (e:List Lv) (t d i:Nat) (p:Option Addr) (c:Nat):Prop:=
 ∃K a X,EngB wr K t ⟨wd,b,e.take i,[]⟩ a (.slice none 0 0) d [] X p c/\wr.ownsRow w4.heap.size 84 2 (.slice p i c) i (tcs X)/\Touch (λj=>j=t) w4 wr/\∀g,K g->B<=g/\g<wr.heap.size/\(g<w3.heap.size\/w4.heap.size<=g)
theorem Zg (c:Cf) (s:Nat):∀(a:List Int) (B:List Nat) (j i:Nat) (e:i<a.length) (d:i<B.length),(mkE c s j a B)[i]? = some (newV a[i] (mixN ((s+(j+i))%18446744073709551616)) c.hs B[i] c.bk.toNat)
 | n::L,b::B,j,0,_,_=>rfl
 | n::L,b::B,j,i+1,e,d=>by have:=Zg c s L B (j+1) i (by simpa using e) (by simpa using d);unfold mkE;rw [List.getElem?_cons_succ,this];simp only [List.getElem_cons_succ];rw [show j+1+i=j+(i+1) by omega]
theorem Zvn (c:Cf) (s:Nat) (L C:List Int) (p q:Option Addr) (k l:Nat) (w:World) (ws:W64 s) (hL:IRow w p L) (hC:IRow w q C) (dk:L.length<=1000) (e1:C.length<=1000) (hk:L.length<=k) (cw:C.length<=l) (S:okE c L=true) :
 Calls prog 18 #[cfgA c,.int .u64 (s:Int),.slice p L.length k,.slice q C.length l] w λe w'=>
  ∃t,e = .returned (.tuple #[.pointer (some ⟨t,0,none⟩),.int .i64 0])/\EngP w' (In w.heap.size w'.heap.size) t (newE c s L C)/\Below w.heap.size w w':=by
 unfold okE at S;simp only [Qq] at S;obtain ⟨a3,a1⟩:=S;have a2:=a3;unfold okCf at a2;obtain ⟨⟨q1,q2⟩,⟨q3,q4,q5⟩,⟨q6,q7⟩,⟨q8,q9⟩,⟨y1,y2⟩,⟨l1,l2⟩,⟨t1,t2⟩,⟨b1,b2⟩,-⟩:=of_decide_eq_true a2;have N:=a1;unfold Bg at N;simp only [Qq,decide_eq_true_eq] at N;have Y:=O0 L c.di N.2;have bd:∀x∈L,x<=9223372036854775807:=λx hx=>by obtain ⟨i,hi,rfl⟩:=List.getElem_of_mem hx;have:=(Y i hi).2.2.2;omega
 have cm:L.length<=128:=by have:=N.1.2;omega
 have hr:=Ow c;have hf:=λW (h:Below w.heap.size w W)=>Y7 c p k L W (hL.below h) Qa bd;have al:=λW (h:Below w.heap.size w W)=>Zqv c p q k l L C W (hL.below h) (hC.below h) a3 a1 cw Qa;have bl:=λW=>Y1.new c.di W;have bm:=Xl c L C;have a4:=(Z68 (C:=C) a3 a1).1;have E:=Zg c s L (B4 c L C) 0;have af:newE c s L C=⟨c.wd,c.di,mkE c s 0 L (B4 c L C),[]⟩:=rfl;have dz:(mkE c s 0 L (B4 c L C)).length=L.length:=by
  have:=Xp c s L (B4 c L C) 0 bm;have h2:=congrArg List.length this
  rwa [List.length_map] at h2
 rw [af];rw [a3] at hr;simp only [a1] at hf;obtain ⟨ac,bn⟩:=Qv (show 0<=c.bk by omega);obtain ⟨z,ah⟩:=Qv q3;generalize B4 c L C=BS at *
 generalize mkE c s 0 L BS=LV at *
 obtain ⟨wd,di,lv,st,hs,bt,le,bk,rt,hp⟩:=c;simp only at bn ah;subst bn;subst ah;unfold cfgA at hr hf al ⊢;simp only [Int.toNat_natCast] at *
 have HR:=hid hr;have HF:=hid hf;have bw:=hid al;have de:=hid bl;have df:=hid a4;have dc:=hid E;have da:=hid Y;have HL:=hid hL;have dj:Hid (B6 ((z:Nat):Int)=z):=hid (by unfold B6;rw [if_neg Qa,if_neg Qa,Int.toNat_natCast]);obtain ⟨W0,y⟩:∃W:World,W=w.alloc (.cells #[.int .i64 wd,.int .i64 (z:Int),.int .i64 lv,.int .i64 st,.int .i64 hs,.int .i64 bt,.int .i64 le,.int .i64 (ac:Int),.int .i64 rt,.int .i64 hp] 23):=⟨_,rfl⟩;have hw:Below w.heap.size w W0:=by rw [y];go_grown
 have r:w.heap.size<W0.heap.size:=by rw [y];simp
 have k0:W0.cell? ⟨w.heap.size,0,none⟩=some (.int .i64 wd):=by rw [y];simp [go_sem]
 have k1:W0.cell? ⟨w.heap.size,1,none⟩=some (.int .i64 (z:Int)):=by rw [y];simp [go_sem]
 have k2:W0.cell? ⟨w.heap.size,2,none⟩=some (.int .i64 lv):=by rw [y];simp [go_sem]
 have k3:W0.cell? ⟨w.heap.size,3,none⟩=some (.int .i64 st):=by rw [y];simp [go_sem]
 have k4:W0.cell? ⟨w.heap.size,4,none⟩=some (.int .i64 hs):=by rw [y];simp [go_sem]
 have k5:W0.cell? ⟨w.heap.size,5,none⟩=some (.int .i64 bt):=by rw [y];simp [go_sem]
 have k6:W0.cell? ⟨w.heap.size,6,none⟩=some (.int .i64 le):=by rw [y];simp [go_sem]
 have k7:W0.cell? ⟨w.heap.size,7,none⟩=some (.int .i64 (ac:Int)):=by rw [y];simp [go_sem]
 have k8:W0.cell? ⟨w.heap.size,8,none⟩=some (.int .i64 rt):=by rw [y];simp [go_sem]
 have k9:W0.cell? ⟨w.heap.size,9,none⟩=some (.int .i64 hp):=by rw [y];simp [go_sem]
 clear hr hf al bl a4 E Y hL hC bd a3 a2 a1 N af;go_enter func18,ntmps18;go_upto_region 1 with fail;rw [<-y];clear y;go_wp2_with fail;refine (HR.o _).mono ?_;rintro e w1 ⟨rfl,ab⟩;obtain ⟨D,cr⟩:=Ac ab;have k0:=(D _ _ r).trans k0;have k1:=(D _ _ r).trans k1;have k2:=(D _ _ r).trans k2;have k3:=(D _ _ r).trans k3;have k4:=(D _ _ r).trans k4;have k5:=(D _ _ r).trans k5;have k6:=(D _ _ r).trans k6;have k7:=(D _ _ r).trans k7;have k8:=(D _ _ r).trans k8;have k9:=(D _ _ r).trans k9;have hw:=hw.trans (ab.mono hw.size);have r:=Qm r ab.size;clear D cr ab;go_wp2_with fail;refine (HF.o _ hw).mono ?_;rintro e w2 ⟨rfl,aa⟩;obtain ⟨A,cq⟩:=Ac aa;have k0:=(A _ _ r).trans k0;have k1:=(A _ _ r).trans k1;have k2:=(A _ _ r).trans k2;have k3:=(A _ _ r).trans k3;have k4:=(A _ _ r).trans k4;have k5:=(A _ _ r).trans k5;have k6:=(A _ _ r).trans k6;have k7:=(A _ _ r).trans k7;have k8:=(A _ _ r).trans k8;have k9:=(A _ _ r).trans k9;have hw:=hw.trans (aa.mono hw.size);have r:=Qm r aa.size;clear A cq aa;have HW:=hid hw;clear HR HF;go_wp2_with fail;have kg:=Ad;refine wp_region_noPanic ?_;generalize a6:NoPanic _=NQ;refine Jw [0,2,4] [1,3,5] [(6,30,[]),(7,31,[(6,30)]),(8,32,[(7,31)]),(9,10,[(8,32)])] [] (nwD w2.heap.size wd ((z:Nat):Int)) (Zvk _ _ _) Qb (by rw [<-a6];exact λ_ _ _ h=>h) Qb Qb Qb ?_;simp only [Ag,List.filterMap_cons,List.filterMap_nil,List.getElem?_toArray,List.getElem?_cons_succ,List.getElem?_cons_zero];repeat (any_goals (quiet_step (fail)))
 refine wpQuiet_nil ?_;clear kg;refine ⟨by rfl,⟨?_,?_,?_,?_,trivial⟩,?_⟩
 ·intro W J K I o m;injection m with m;subst m;go_simp;go_at_call 33;refine (de.o W).mono ?_;rintro e w3 ⟨d3,rfl,a5,cv⟩;exact I _ _ a5 ⟨d3,rfl,cv.mono λj F=>Qw J.size F.1⟩
 ·intro W J v6 h6 K;obtain ⟨d6,rfl,cu⟩:=h6;go_simp;intro I o m;injection m with m;subst m;go_simp;exact I _ _ (Below.refl _ _) ⟨d6,rfl,cu⟩
 ·intro W J v7 h7 K;obtain ⟨d7,rfl,ct⟩:=h7;go_simp;intro I o m;injection m with m;subst m;go_simp;have cs:=(ct.old.below22 (by go_grown:Below W.heap.size W (W.alloc (.cells #[.int .i64 wd,.int .i64 ((z:Nat):Int),.slice none 0 0,.pointer (some ⟨d7,0,none⟩),.slice none 0 0] 64)))).mono (K':=λj=>w2.heap.size<=j/\j≠W.heap.size) (λj F=>⟨F.1,by have:=F.2;omega⟩);exact I _ _ Qg ⟨d7,W.heap.size,rfl,J.size,Qf,cs,Qi,Qi,Qi,Qi,Qi,λj=>Qi⟩
 ·intro W J v8 h8 K;obtain ⟨d8,t8,rfl,h8⟩:=h8;go_simp;intro I o m;injection m with m;subst m;go_simp;exact I _ _ (Below.refl _ _) ⟨d8,t8,rfl,h8⟩
 ·intro W3 u v6 h6 v7 h7 v8 h8 v9 h9;obtain ⟨d6,rfl,-⟩:=h6;obtain ⟨d7,rfl,-⟩:=h7;obtain ⟨d8,t8,rfl,-⟩:=h8;obtain ⟨d,t,rfl,cj,b9,hd,c0,c1,c2,c3,c4,cf⟩:=h9;have az:=hid (HW.o.trans (u.mono HW.o.size));have dv:=u.size;have dx:=HW.o.size;have k4:=(u.cell (p:=⟨w.heap.size,4,none⟩) r).trans k4;have k7:=(u.cell (p:=⟨w.heap.size,7,none⟩) r).trans k7;have k0:=(u.cell (p:=⟨w.heap.size,0,none⟩) r).trans k0;have k1:=(u.cell (p:=⟨w.heap.size,1,none⟩) r).trans k1;have k2:=(u.cell (p:=⟨w.heap.size,2,none⟩) r).trans k2;have k3:=(u.cell (p:=⟨w.heap.size,3,none⟩) r).trans k3;have k5:=(u.cell (p:=⟨w.heap.size,5,none⟩) r).trans k5;have k6:=(u.cell (p:=⟨w.heap.size,6,none⟩) r).trans k6;have k8:=(u.cell (p:=⟨w.heap.size,8,none⟩) r).trans k8;have k9:=(u.cell (p:=⟨w.heap.size,9,none⟩) r).trans k9;have r:=Qm r u.size;have b6:t≠w.heap.size:=Qa;rw [dj.o] at hd;have br:EngB W3 (λj=>w2.heap.size<=j/\j<W3.heap.size) t ⟨wd,(z:Nat),LV.take 0,[]⟩ (λj=>if j=t then 0 else 3) (.slice none 0 0) d [] [] none 0:=
   ⟨b9,c0,c1,c2,c3,c4,cf,World.ownsRow_nil _ _ _ _,.inl rfl,rfl,λi h=>absurd h Qf,Qn _,λi h=>absurd h Qf,hd.old.mono λj F=>⟨if_neg F.1.2,F.1.1,F.2⟩,⟨if_pos rfl,cj,b9⟩,λj F=>(by simp [Value.ownBlock] at F),λa ha=>(by cases ha)⟩
  have c8:=hid br;clear br hd c0 c1 c2 c3 c4 cf u;show wpList _ _ _ _ _ _;simp only [Ag,List.filterMap_nil];subst a6;go_wp2_with fail;refine NoPanic.normal ?_;go_wp2_with fail;refine (bw.o _ az.o).mono ?_;rintro e w4 ⟨sp,sc,rfl,an,U⟩;have du:=U.size;have k4:=(U.cell (p:=⟨w.heap.size,4,none⟩) r).trans k4;have k7:=(U.cell (p:=⟨w.heap.size,7,none⟩) r).trans k7;have r:=Qm r U.size;have ae:=hid (az.o.trans (U.mono az.o.size));have bq:IRow w4 sp (toI BS):=by have:=an;exact IRow.of_own (by rw [<-Jc BS,bm] at *;exact this)
  have d5:=hid bq;have d9:=hid (λa (h:sp=some a)=>(an.lt a.block (by subst h;rfl)).1);have HI:Hid (NewI W3 w4 w4 w2.heap.size wd (z:Nat) LV t d 0 none 0):=hid ⟨_,_,_,c8.o.below U,World.ownsRow_nil _ _ _ _,Touch.refl _ _,λg hg=>⟨hg.1,by have:=hg.2;omega,.inl hg.2⟩⟩;clear an U bq bw c8 k0 k1 k2 k3 k5 k6 k8 k9;go_wp2;go_loopg [38] L.length (λkx cd wr=>∃(i:Nat) (pp:Option Addr) (cc:Nat),cd = .int .i64 (i:Int)/\L.length-i<=kx/\i<=L.length/\Hid (NewI W3 w4 wr w2.heap.size wd (z:Nat) LV t d i pp cc))
  case atStart=>exact ⟨0,none,0,rfl,Qa,Qa,HI⟩
  case round=>
   clear HI;obtain ⟨i,pp,cc,rfl,g1,g2,HI⟩:=hrel;obtain ⟨K,e2,X,HE,HO,HT,HK⟩:=HI.o;by_cases hi:i<L.length
   ·obtain ⟨gl,ol,rfl,cp,y0⟩:=HL.o.at hi;have ap:i<BS.length:=Qa;have bf:i<(toI BS).length:=by rw [Jc];exact ap
    obtain ⟨gs,os,rfl,co,x0⟩:=d5.o.at bf;have b8:(toI BS)[i]=(BS[i]:Int):=by simp [toI]
    rw [b8] at x0;have bg:gs≠t:=by have:W3.heap.size<=gs:=d9.o _ rfl;omega
    have bi:gl≠t:=Qa;have x0:=HT.cell x0 bg;have y0:=HT.cell ((ae.o.cell (p:=⟨gl,ol+i,none⟩) cp).trans y0) bi;have k4:=HT.cell k4 (λe=>b6 e.symm);have k7:=HT.cell k7 (λe=>b6 e.symm);have b5:=HT.size;have dn:=ae.o.size;have dl:=Qm co b5;have dm:gl<wr.heap.size:=Qa;have dw:=Qm r b5;have Y:=da.o i hi;have a4:=df.o BS[i] (Qp ap);have E:=dc.o i hi ap;rw [Nat.zero_add] at E;obtain ⟨sd,a9⟩:=Q' ((s+i)%18446744073709551616);rw [<-a9] at E;have ba:W64 sd:=by rw [a9];exact Nat.mod_lt _ Qd
    have am:IntKind.u64.wrap ((s:Int)+(i:Int))=(sd:Int):=by rw [IntKind.wrap_u64,a9];omega
    have e0:IntKind.u64.wrap (i:Int)=(i:Int):=by rw [IntKind.wrap_u64];omega
    obtain ⟨b,hb⟩:=Q' (BS[i]);obtain ⟨n,hn⟩:=Q' (L[i]);rw [<-hb] at x0 a4 E;rw [<-hn] at y0 E Y;obtain ⟨V,hV⟩:=Q' (newV n (mixN sd) hs b ac);rw [<-hV] at E;have bo:V.C.length=b:=by rw [hV];simp [newV]
    have aw:=hid (λW=>Kq.new n hs (mixN sd) b ac W (Ca sd) (λh=>h ⟨Qa,Qa,⟨y1,y2,Qa,Qa⟩,Qa,Qa⟩));rw [<-hV] at aw;have ao:=J2 sd ba;rw [<-am] at ao;have c5:=hid ao;clear ao;have b7:LV.take (i+1)=LV.take i++[V]:=by rw [List.take_add_one,E];rfl
    have be:(LV.take i).length=i:=by rw [Qs];omega
    have i1:(0:Int)<=(i:Int):=Qa;have i2:(i:Int)<(L.length:Int):=Qa;have c7:=hid HE;have bz:=hid HO;have bv:=hid HT;have ax:=hid HK;have d0:=hid b7;have c6:=hid be;have cz:=hid bo;have e4:=hid am;clear HE HO HT HK b7 be bo hV hn hb a9 ba E a4 Y b8 bf HI am;go_wp2_with fail;have kg:=Ad;refine wp_region_noPanic ?_;generalize a6:NoPanic _=NQ;refine Jw [0,1,2,4,5,6,7,9,11,12] [3,10,13] [(8,52,[]),(14,58,[(8,52)]),(15,43,[(14,58)]),(16,59,[(15,43)]),(17,60,[(15,43)]),(18,13,[(16,59)]),(19,14,[(17,60)])] [] (nrD wr.heap.size (mixN sd) V) (Zvl _ _ _) Qb (by rw [<-a6];exact λ_ _ _ h=>h) Qb Qb Qb ?_;simp only [Ag,List.filterMap_cons,List.filterMap_nil,List.getElem?_toArray,List.getElem?_cons_succ,List.getElem?_cons_zero];repeat (any_goals (quiet_step (fail)))
    refine wpQuiet_nil ?_;clear kg;refine ⟨by rfl,⟨?_,?_,?_,?_,?_,?_,?_,trivial⟩,?_⟩
    ·intro W J K I o m;injection m with m;subst m;go_simp;go_at_call 36;refine (c5.o W).mono ?_;rintro e w3 ⟨rfl,a5⟩;exact I _ _ a5 rfl
    ·intro W J v8 h8 K;obtain rfl:v8=_:=h8;go_simp;intro I o m;injection m with m;subst m;go_simp;go_at_call 35;refine (aw.o W).mono ?_;rintro e w3 ⟨q3,rfl,ck,a5⟩;exact I _ _ a5 ⟨q3,rfl,ck.mono λj F=>Qw J.size F.1⟩
    ·intro W J cb av K;obtain ⟨b4,rfl,hp⟩:=av;go_simp;intro I o m;injection m with m;subst m;go_simp;exact I _ _ (Below.refl _ _) ⟨b4,rfl,hp⟩
    ·intro W J b0 a7 K;obtain ⟨ak,rfl,hp⟩:=a7;go_simp;intro I o m;injection m with m;subst m;go_simp;exact I _ _ (Below.refl _ _) ⟨ak,rfl,hp⟩
    ·intro W J b0 a7 K;obtain ⟨ak,rfl,hp⟩:=a7;go_simp;intro I o m;injection m with m;subst m;go_simp;exact I _ _ (Below.refl _ _) trivial
    ·intro W J ca au K;obtain ⟨b3,rfl,hp⟩:=au;go_simp;intro I o m;injection m with m;subst m;go_simp;exact I _ _ (Below.refl _ _) ⟨b3,rfl,hp⟩
    ·intro W J c9 ar K;clear ar;go_simp;intro I o m;injection m with m;subst m;go_simp;exact I _ _ (Below.refl _ _) trivial
    ·intro W J v8 h8 cb av b0 a7 ca au c9 ar dr cy dq cx;obtain rfl:v8=_:=h8;obtain ⟨b4,rfl,-⟩:=av;obtain ⟨ak,rfl,-⟩:=a7;obtain ⟨b3,rfl,-⟩:=au;obtain ⟨qv,rfl,bb⟩:=cy;clear ar cx;have a8:=hid (c7.o.below J);have ad:=hid (own_below bz.o J);have bx:=hid bb;have bu:=hid J;have c4:=a8.o.c4;have bs:W.cell? ⟨t,4,none⟩=some (.slice pp i cc):=by have:=c4;simp only [c6.o] at this;exact this
     have cl:=a8.o.lt;have fr:=a8.o.f 4;have ds:=J.size;obtain ⟨i0,cn,ci,cg,ce⟩:=info_parts Z22;clear c4 bb J x0 y0 k4 k7 aw c5;show wpList _ _ _ _ _ _;simp only [Ag,List.filterMap_nil];subst a6;go_wp2_with fail;refine NoPanic.normal ?_;go_wp2_with (at_builtin;go_loud (refine wpList_append_own_at _ rfl (.tmp 65) (.tmp 69) 62 rfl w4.heap.size 84 i0 _ 2 16 underlying62 cn ci cg ce rfl Qd _ _ _ rfl (ad.o.alloc _) ⟨W.heap.size,0,none⟩ 1 1 [.pointer (some ⟨qv,0,none⟩),.int .i64 (b:Int)] rfl rfl (Ee W #[_,_] _) (by simp [Value.oneCell']) Qk Qa Qe ?_));intro v3 w6 R bj _ aj;obtain ⟨p3,c3,rfl⟩:=Aq R;have Z:Touch (λj=>(Value.slice pp i cc).ownBlock=some j) W w6:=(Touch.quiet (by go_grown:Below W.heap.size W (W.alloc (.cells #[.pointer (some ⟨qv,0,none⟩),.int .i64 (b:Int)] 84)))).trans (Touch.of_grown bj (λk e=>e.symm));have bc:¬(Value.slice pp i cc).ownBlock=some t:=λe=>by have:=(ad.o.lt t e).1;omega
     have c4:=Z.cell bs bc;have fr:=(World.frozen?_of_block (a:=⟨t,4,none⟩) (Z.block t cl bc)).trans fr;have e3:=Qm cl Z.size;have Q:w6.ownsRow w4.heap.size 84 2 (.slice p3 (i+1) c3) (i+1) (tcs (X++[(qv,V.C.length)])):=by rw [Y5,Z5e,cz.o];exact R
     have O:=λh1 h2 h3=>a8.o.push (w3:=w6) (B:=wr.heap.size) (q:=qv) (V:=V) (p3:=p3) (c3:=c3) (λg hg=>(ax.o g hg).2.1) bu.o.size bx.o h1 h2 h3;simp only [c6.o] at O;obtain ⟨dp,aq,bp⟩:=O Z (.inr (A7 Q (Nat.zero_le _))) (aj.imp id λe=>⟨_,e,Qf⟩);rw [<-d0.o] at aq;have dy:(w6.setCell ⟨t,4,none⟩ (.slice p3 (i+1) c3)).heap.size=w6.heap.size:=World.size_setCell _ _ _;have dt:=Z.size;have db:Hid (NewI W3 w4 (w6.setCell ⟨t,4,none⟩ (.slice p3 (i+1) c3)) w2.heap.size wd (z:Nat) LV t d (i+1) p3 c3):=hid ⟨_,_,_,aq.old,ownsRow_setCell_below Q (by show t<w4.heap.size;omega) _,Bq (bv.o.trans (Touch.quiet bu.o)) (λj F=>by
      rcases F with F | F
      ·exact .inl F
      ·exact .inr (ad.o.lt j F).1) bp,λg hg=>by
      have h2:=hg.2
      rcases hg.1 with h | h
      ·have h3:=ax.o g h
       exact ⟨h3.1,h2,h3.2.2⟩
      ·exact ⟨Qa,h2,.inr Qa⟩⟩
     clear O aq bp Z R Q bj aj a8 ad bx c7 bz bv ax bs;go_wp2;go_roundg (L.length-(i+1))
     case measure=>omega
     case rel=>exact ⟨i+1,p3,c3,Qj,Qa,Qa,db⟩
   ·have ay:=HE;rw [List.take_of_length_le Qa] at ay;have ag:EngP wr (In w.heap.size wr.heap.size) t ⟨wd,(z:Nat),LV,[]⟩:=⟨_,_,_,_,_,_,_,ay.mono λj F=>⟨by have:=(HK j F).1;omega,(HK j F).2.1⟩,Za List.Pairwise.nil (by show (0:Int)<=(z:Int);omega)⟩;have ai:Below w.heap.size w wr:=ae.o.trans (HT.below (by have:=ae.o.size;omega) (λk hk=>by subst hk;omega));have dd:=hid ag;have dh:=hid ai;clear HE ay HO HT HK ag ai;go_wp2;go_ret2;exact ⟨t,rfl,dd.o,dh.o⟩
theorem Zn6 (w:World) (K:Nat->Prop) (t:Nat) (E:Eg) (r:EngP w K t E) (x:E.R.length<=301) :
 Calls prog 12 #[.pointer (some ⟨t,0,none⟩)] w λe w'=>Cw w w' e E.R:=by
 obtain ⟨o,v,d,y,X,p,c,H,-⟩:=r;obtain ⟨m,n,rfl⟩:=Aq H.own;have l:=λW (h:Below w.heap.size w W)=>Oq t d W (Qm H.lt h.size) ((h.cell (p:=⟨t,3,none⟩) H.lt).trans H.c3);have f:=λW (h:Below w.heap.size w W)=>Ol m n E.R W ((Row.of_own H.own).below h) (E1 H.own) Qa;have q:=hid l;have j:=hid f;have c2:=H.c2;have k:=H.lt;clear l f H;go_enter func12,ntmps12;go_wp2_with fail;refine (q.o _ (Below.refl _ _)).mono ?_;rintro e w1 ⟨rfl,a⟩;have c2:=(a.cell (p:=⟨t,2,none⟩) k).trans c2;have k:=Qm k a.size;go_wp2_with fail;refine (j.o _ a).mono ?_;rintro e w2 ⟨p2,c22,rfl,b,i⟩;have s:=hid (A7 b a.size);have u:=hid (a.trans (i.mono a.size));clear b i j;go_wp2;go_ret;exact ⟨p2,c22,rfl,s.o,u.o⟩
attribute [local go_sem] Oper.semAt_some
end
section
open M
end
section
open Go Go.RowKit Go.Sort M
attribute [local go_sem] Oper.semAt_some
theorem Ks:EngC EngP where
 bad:=λc s L C p q k l w d f j i o n m h y=>Zyl c s L C p q k l w d f i h y
 new:=λc s L C p q k l w d f j i o n m h=>Zvn c s L C p q k l w d f j i o n m h
 put:=λw K t E r H a e b=>Zb w K t E r H a e b
 del:=λw K t E k H a e b=>Zc w K t E k H a e b
 routes:=λw K t E H a b=>Zn6 w K t E H b
 right:=λc w=>Ow c w
 touched:=λ_ _ _ _ _ _ H u x=>H.touched u x
end
end Go.Proofs.YtpdphfgpdgadpaaGreat
