import Derived.Test.YtgfjmgebecmbiaaGreatW18c
set_option linter.unusedSimpArgs false
set_option linter.unusedVariables false
set_option maxHeartbeats 8000000
namespace Go.Proofs.YtgfjmgebecmbiaaGreat
open Lib(hid)
open Go Go.RowKit Go.Sort M
theorem Zgu {w w':World} {a b g o:Nat} (h:∀k,a<k->k<b->w'.heap[k]? = w.heap[k]?) (h1:a<g) (h2:g<b):w'.cell? ⟨g,o,none⟩=w.cell? ⟨g,o,none⟩:=World.cell?_of_block (a:=⟨g,o,none⟩) (h g h1 h2)
theorem Z64 (L:List Rt) (k:Ky) (v:Int) (j:Nat) (hj:j=L.length) (h:j<(L++[(⟨k,0⟩:Rt)]).length):(L++[(⟨k,0⟩:Rt)]).set j ⟨(L++[(⟨k,0⟩:Rt)])[j].k,v⟩=L++[⟨k,v⟩]:=by
 subst hj
 simp
set_option maxRecDepth 100000 in
theorem Z2o (B:Nat) (q:Option Addr) (cq:Nat) (K P Mm S:List Rt) (kh kl:Nat) (kn v high:Int) (w:World) (hO:w.ownsRow B 41 4 (.slice q K.length cq) K.length (rcs K)) (hB:B<=w.heap.size)
 (hs:Sorted K) (hKl:K.length<=1040000) (g1:W64 kh) (g2:W64 kl) (h0:0<(sprK ⟨kh,kl,kn⟩ high).length) (hKe:K=P++(Mm++S)) (hP:P.length=bh K (sprK ⟨kh,kl,kn⟩ high)[0])
 (hM:Mm.map Rt.k=sprK ⟨kh,kl,kn⟩ high\/(Mm=[]/\S=[])) :
 Calls Tryz.prog 111 #[.slice q K.length cq,.agg #[.int .u64 (kh:Int),.int .u64 (kl:Int),.int .i64 kn,.int .i64 v],.int .i64 high] w fun e w'=>LayR B w w' e (P++((sprK ⟨kh,kl,kn⟩ high).map (fun k=>(⟨k,v⟩:Rt))++S)):=by
 have hUl:=Zul ⟨kh,kl,kn⟩ g2 high
 have hk:=Zta kh kl kn high g1 g2
 have hat:=Z0w ⟨kh,kl,kn⟩ high
 have hsl:(sprK ⟨kh,kl,kn⟩ high).length=(Zd7 kh kl kn high).length:=by simp [sprK]
 simp only at hat
 obtain ⟨U,hU⟩:∃U,U=sprK ⟨kh,kl,kn⟩ high:=⟨_,rfl⟩
 obtain ⟨V,hV⟩:∃V,V=Zd7 kh kl kn high:=⟨_,rfl⟩
 have hat2:∀j (h1:j<U.length) (h2:j<V.length),U[j]=kyP V[j]:=by
  intro j h1 h2
  subst hU
  subst hV
  exact hat j h2
 clear hat
 have hP2:∀h:0<U.length,P.length=bh K U[0]:=by
  intro h
  subst hU
  exact hP
 clear hP
 rw [<-hU] at hUl h0 hM hsl ⊢
 rw [<-hV] at hk hsl
 have hV0:0<V.length:=by omega
 have hP:=hP2 h0
 clear hP2
 have hu0:=hat2 0 h0 hV0
 have hat0:P.length<=K.length:=by rw [hP];exact Zpw K _
 obtain ⟨F,hF⟩:∃F:Nat->List Rt,F=curL P Mm S U v:=⟨_,rfl⟩
 have hF0:F 0=K:=by rw [hF,Z0b,hKe]
 have hMl:Mm.length=U.length\/(Mm.length=0/\S.length=0):=by
  rcases hM with h | ⟨h1,h2⟩
  ·exact .inl (by rw [<-h,List.length_map])
  ·exact .inr ⟨by rw [h1];rfl,by rw [h2];rfl⟩
 have hFn:F U.length=P++(U.map (fun k=>(⟨k,v⟩:Rt))++S):=by rw [hF,Z3r _ _ _ _ _ (by omega)]
 have hFl:∀i,i<=U.length->(F i).length=P.length+i+(Mm.length-i)+S.length:=fun i hi=>by rw [hF,Z6t _ _ _ _ _ _ hi]
 -- one key more
 have hset:∀i (hi:i<U.length) (h:P.length+i<(F i).length),Mm.length=U.length->F (i+1)=(F i).set (P.length+i) ⟨(F i)[P.length+i].k,v⟩:=fun i hi h hm=>by
  rcases hM with hM | ⟨hM,-⟩
  ·have h2:=Z8p (S:=S) (P:=P) (v:=v) hM hi (by rw [<-hF];exact h)
   have h3:=Z6s (P:=P) (S:=S) (v:=v) hm hi
   subst hF
   rw [h3,h2]
  ·rw [hM] at hm
   simp at hm
   omega
 have happ:∀i (hi:i<U.length),Mm.length=0->S.length=0->F (i+1)=F i++[⟨U[i],v⟩]:=fun i hi h1 h2=>by
  rw [hF,List.length_eq_zero_iff.1 h1,List.length_eq_zero_iff.1 h2]
  exact Z6u hi
 rw [<-hFn]
 have hKl2:K.length<=P.length+Mm.length+S.length/\P.length+Mm.length+S.length<=K.length:=by
  have:=congrArg List.length hKe
  simp only [List.length_append] at this
  omega
 obtain ⟨hKla,hKlb⟩:=hKl2
 have HK:=hid hk
 have HO:=hid hO
 have HAT:=hid hat2
 have HF0:=hid hF0
 have HFL:=hid hFl
 have HSET:=hid hset
 have HAPP:=hid happ
 have HSL:=hid hsl
 have HMl:=hid hMl
 have HP:=hid (And.intro hP hu0)
 have HS:=hid hs
 have hVl:V.length<=256:=by omega
 have eg:=enters_of Tryz.func143 (by kernel_rfl) rfl
 clear hk hO hat2 hF0 hFl hset happ hsl hMl hP hu0 hs hU hV hF hM hKe hFn
 go_enter Tryz.func111,Tryz.ntmps111
 go_wp2_with fail
 refine (HK.out _).mono ?_
 rintro e w1 ⟨p1,c1,rfl,ho1,hb1⟩
 have hw1:Below w.heap.size w w1:=Below.trans (by go_grown) (hb1.mono (by simp;omega))
 obtain ⟨nc,nf⟩:=Zaf hb1
 have k0:=(nc w.heap.size 0 (by simp;omega)).trans (show _=some (Value.slice q K.length cq) by simp [go_sem])
 have kf:∀j,w1.frozen? ⟨w.heap.size,j,none⟩=false:=fun j=>(nf w.heap.size j (by simp;omega)).trans (by simp [go_sem])
 have r3:=(nc (w.heap.size+1) 3 (by simp)).trans (show _=some (Value.int .i64 v) by simp [go_sem])
 have hz:w.heap.size+1<w1.heap.size:=by have:=hb1.size;simp at this;omega
 have hz':w.heap.size<w1.heap.size:=by omega
 have HV:=hid (Row.of_own ho1)
 have hVlow:∀g o,p1=some ⟨g,o,none⟩->w.heap.size+2<=g:=fun g o hg=>by
  rcases ho1.2 with ⟨e,_⟩ | ⟨blk,cap,cur,e,h3,_⟩
  ·injection e with e
   rw [e] at hg
   cases hg
  ·injection e with e
   rw [e] at hg
   injection hg with hg
   injection hg with hg
   simp at h3
   omega
 have HVL:=hid hVlow
 have hS:∀W,Below w1.heap.size w1 W->w1.heap.size<W.heap.size->W.cell? ⟨w1.heap.size,0,none⟩=some (.slice p1 V.length c1) ->
  Calls Tryz.prog 54 #[.int .i64 (K.length:Int),.func (.func 143) #[] #[.pointer (some ⟨w.heap.size,0,none⟩),.pointer (some ⟨w1.heap.size,0,none⟩)]] W fun e w'=>e = .returned (.int .i64 (P.length:Int))/\Below W.heap.size W w':=by
  intro W hW hzW e0
  refine Zhw _ _ _ _ _ hat0 (by omega) W eg fun wx i hx hi => ?_
  rw [HP.out.1]
  refine Zq9 w.heap.size w1.heap.size q p1 cq c1 K V U[0] i wx ?_ ?_ HS.out hi hV0 HP.out.2 (by have:=hx.size;omega) (by have:=hx.size;omega) ?_ ?_
  ·exact (Row.of_own HO.out).below ((hw1.trans (hW.mono hw1.size)).trans (hx.mono (by have:=hw1.size;have:=hW.size;omega)))
  ·exact HV.out.below (hW.trans (hx.mono hW.size))
  ·exact (hx.cell (p:=⟨w.heap.size,0,none⟩) (by show w.heap.size<_;omega)).trans ((hW.cell (p:=⟨w.heap.size,0,none⟩) hz').trans k0)
  ·exact (hx.cell (p:=⟨w1.heap.size,0,none⟩) hzW).trans e0
 have HSE:=hid hS
 clear hS eg nc nf hVlow ho1 hb1
 go_wp2_with fail
 refine (HSE.out _ (by go_grown) (by simp) (by simp [go_sem])).mono ?_
 rintro e w2 ⟨rfl,hb2⟩
 have hw2:Below w1.heap.size w1 w2:=Below.trans (by go_grown) (hb2.mono (by simp))
 have o0:w2.cell? ⟨w1.heap.size,0,none⟩=some (.slice p1 V.length c1):=(hb2.cell (p:=⟨w1.heap.size,0,none⟩) (by simp)).trans (by simp [go_sem])
 have ko:=(hw2.cell (p:=⟨w.heap.size,0,none⟩) hz').trans k0
 have kof:∀j,w2.frozen? ⟨w.heap.size,j,none⟩=false:=fun j=>(hw2.frozen (p:=⟨w.heap.size,j,none⟩) hz').trans (kf j)
 have r3:=(hw2.cell (p:=⟨w.heap.size+1,3,none⟩) hz).trans r3
 have hzo:w1.heap.size<w2.heap.size:=Nat.lt_of_lt_of_le (by simp) hb2.size
 have HV2:=hid (HV.out.below hw2)
 have hwB:Below w.heap.size w w2:=hw1.trans (hw2.mono hw1.size)
 have HO2:=hid (own_below HO.out hwB)
 have hqlt:∀g,q=some ⟨g,0,none⟩->g<w.heap.size:=fun g hg=>by
  subst hg
  exact (HO.out.lt g rfl).2
 have HQ:=hid hqlt
 clear k0 kf HSE HV hb2 hqlt
 go_wp2
 go_loopg [25] V.length (fun kx s25 wr=>∃(i n:Nat) (q:Option Addr) (cq:Nat),s25 = .int .i64 (i:Int)/\V.length-i<=kx/\i<=V.length/\Hid (n=(F i).length)/\n<=1041000 /\
  Hid (wr.ownsRow B 41 4 (.slice q n cq) n (rcs (F i)))/\wr.cell? ⟨w.heap.size,0,none⟩=some (.slice q n cq)/\(∀j,wr.frozen? ⟨w.heap.size,j,none⟩=false) /\
  Hid (∀k,w.heap.size<k->k<w2.heap.size->wr.heap[k]? = w2.heap[k]?)/\w2.heap.size<=wr.heap.size/\Hid (∀g,q=some ⟨g,0,none⟩->g<w.heap.size\/w2.heap.size<=g)/\Below B w wr)
 case atStart=>
  refine ⟨0,K.length,q,cq,rfl,by omega,by omega,hid (by rw [HF0.out]),by omega,hid (by rw [HF0.out];exact HO2.out),ko,kof,hid (fun _ _ _=>rfl),Nat.le_refl _,hid (fun g hg => .inl (HQ.out g hg)),hwB.mono hB⟩
 case round=>
  clear ko kof HO2 HO HQ
  obtain ⟨i,n,q,cq,rfl,h1,h2,HN,hn,HOWN,kb,kf,HKEEP,hsz,HQG,hb⟩:=hrel
  by_cases hi:i<V.length
  ·have hiU:i<U.length:=by have:=HSL.out;omega
   obtain ⟨gv,ov,rfl,hgv,v0,v1,v2⟩:=HV2.out.at hi
   have hgv2:=HVL.out gv ov rfl
   have v0:=(Zgu HKEEP.out (by omega) hgv).trans v0
   have v1:=(Zgu HKEEP.out (by omega) hgv).trans v1
   have v2:=(Zgu HKEEP.out (by omega) hgv).trans v2
   have y3:=(Zgu (o:=3) HKEEP.out (show w.heap.size<w.heap.size+1 by omega) (by omega)).trans r3
   have hgv':gv<wr.heap.size:=by omega
   have hzk:w.heap.size<wr.heap.size:=by omega
   have hz1k:w.heap.size+1<wr.heap.size:=by omega
   have hUi:=HAT.out i hiU hi
   have hss:=HSET.out i hiU
   have haa:=HAPP.out i hiU
   rw [hUi] at haa
   have hfl:=HFL.out i (by omega)
   rw [<-HN.out] at hfl
   have i1:(0:Int)<=(i:Int):=by omega
   have i2:(i:Int)<(V.length:Int):=by omega
   generalize V[i]=pv at *
   obtain ⟨pa,pn⟩:=pv
   simp only at v0 v1 v2
   unfold kyP at haa hUi
   simp only at haa hUi
   have HOa:=hid (HOWN.out.alloc (.cells #[.int .u64 (hiW pa:Nat),.int .u64 (loW pa:Nat),.int .i64 pn] 39))
   rcases HMl.out with hm | ⟨hm1,hm2⟩
   ·have hlt:P.length+i<n:=by omega
    have hlt2:P.length+i<(F i).length:=by rw [<-HN.out];exact hlt
    have hss:=hss hlt2 hm
    obtain ⟨g,c5,cur5,eq4,hB5,hg5,-,-,-,-,-⟩:=Zbk HOWN.out (by omega)
    injection eq4 with eq4 _ eq6
    subst eq4 eq6
    have hrow:=(Row.of_own HOWN.out).rt hlt2
    obtain ⟨g',o',eq5,-,-,-,-,x3⟩:=hrow
    injection eq5 with eq5
    injection eq5 with eg eo
    subst eg eo
    simp only [Nat.zero_add] at x3
    have f3:=HOWN.out.frozenAt ((P.length+i)*4+3)
    have hs3:=HOWN.out.stored ((P.length+i)*4+3) (.int .i64 v)
    have hown6:=hs3.1
    rw [Zob (F i) (P.length+i) v hlt2,<-hss] at hown6
    have HO6:=hid (hown6.alloc (.cells #[.int .u64 (hiW pa:Nat),.int .u64 (loW pa:Nat),.int .i64 pn] 39))
    have HSS:=hid hss
    have hgq:=HQG.out g rfl
    have hne:((P.length:Int)+(i:Int) == (n:Int))=false:=by
     rw [beq_eq_false_iff_ne]
     omega
    have j1:(0:Int)<=(P.length:Int)+(i:Int):=by omega
    have j2:(P.length:Int)+(i:Int)<(n:Int):=by omega
    clear hs3 hown6 hss haa hfl hm
    generalize (F i)[P.length+i]=xx at *
    go_wp2
    go_roundg (V.length-(i+1))
    case measure=>omega
    case rel=>
     have hgw:g≠w.heap.size:=by omega
     refine ⟨i+1,n,some ⟨g,0,none⟩,cq,by go_num,by omega,by omega,hid (by rw [HSS.out,List.length_set];exact HN.out),hn,HO6,?_,?_,hid (fun k k1 k2 => ?_),by simp;omega,HQG,?_⟩
     ·simp [go_sem,hgw,hgw.symm,hzk,kb]
     ·intro j
      simp [go_sem,hgw,hgw.symm,hzk,kf]
     ·rw [Below.heap_alloc _ _ _ (by simp;omega),Below.heap_setCell _ _ _ _ (by show k≠g;omega)]
      exact HKEEP.out k k1 k2
     ·exact (hb.setCell hB5 _).alloc (by simp;have:=hw1.size;omega) _
   ·have hob:∀k,(Value.slice q n cq).ownBlock=some k->(k<w.heap.size\/w2.heap.size<=k)/\B<=k:=by
     intro k hk
     have h:=HOWN.out.lt k hk
     refine ⟨?_,h.1⟩
     rcases HOWN.out.2 with ⟨e,_⟩ | ⟨blk,cap,cur,e,_⟩
     ·rw [e] at hk
      simp [Value.ownBlock] at hk
     ·injection e with e
      rw [e] at hk
      simp [Value.ownBlock] at hk
      subst hk
      exact HQG.out _ e
    have hBw:=hb.size
    have haa:=haa hm1 hm2
    have HAA:=hid haa
    have hne:((P.length:Int)+(i:Int) == (n:Int))=true:=by
     rw [beq_iff_eq]
     omega
    have HOb:=hid (HOa.out.alloc (.cells #[.int .u64 (hiW pa:Nat),.int .u64 (loW pa:Nat),.int .i64 pn,.int .i64 0] 41))
    have HNP:Hid (P.length+i=(F i).length):=by
     have:=HN.out
     exact hid (by omega)
    have hown2:Hid (((wr.alloc (.cells #[.int .u64 (hiW pa:Nat),.int .u64 (loW pa:Nat),.int .i64 pn] 39)).alloc (.cells #[.int .u64 (hiW pa:Nat),.int .u64 (loW pa:Nat),.int .i64 pn,.int .i64 0] 41)).ownsRow B 41 4 (.slice q n cq) (F i).length (rcs (F i))):=by
     have h:=HOb.out
     rw [HN.out] at h ⊢
     exact hid h
    have hsrc:Hid (∀j u,(rcs [⟨⟨hiW pa,loW pa,pn⟩,0⟩])[j]? = some u->((wr.alloc (.cells #[.int .u64 (hiW pa:Nat),.int .u64 (loW pa:Nat),.int .i64 pn] 39)).alloc (.cells #[.int .u64 (hiW pa:Nat),.int .u64 (loW pa:Nat),.int .i64 pn,.int .i64 0] 41)).cell? ((⟨wr.heap.size+1,0,none⟩:Addr).add j)=some u):=by
     rw [Zgc]
     exact hid (Zb9 (by simp [go_sem]) (by simp [go_sem]) (by simp [go_sem]) (by simp [go_sem]))
    have hnl:(F i).length<=1041000:=by
     rw [<-HN.out]
     exact hn
    have HNL:=hid hnl
    have hn1:n<=P.length+i:=by omega
    have hn2:P.length+i<=n:=by omega
    have HOBK:=hid hob
    clear hob haa hss hnl HOb HOa hm1 hm2 hfl
    go_wp2_with (at_builtin;go_loud (refine Zbf rfl (.tmp 36) (.tmp 39) rfl B _ (F i) [⟨⟨hiW pa,loW pa,pn⟩,0⟩] (F i++[⟨⟨hiW pa,loW pa,pn⟩,0⟩]) rfl rfl ⟨wr.heap.size+1,0,none⟩ 1 rfl hown2.out hsrc.out (by have:=HNL.out;simp;omega) (by simp;omega) ?_))
    intro v9 w9 hown9 hg9 hat9
    obtain ⟨gb,c9,cur9,rfl,hB9,hgb,-,-,-,-,-⟩:=Zbk hown9 (by simp)
    have hgs:=hg9.size
    simp only [World.size_alloc] at hgs
    have hblk:∀k,w.heap.size<=k->k<w2.heap.size->w9.heap[k]? = wr.heap[k]? := fun k k1 k2=>by
     have h:=hg9.block k (by simp;omega) (fun e=>by
      rcases (HOBK.out k e.symm).1 with h | h<;>omega)
     rw [h,Below.heap_alloc _ _ _ (by simp;omega),Below.heap_alloc _ _ _ (by omega)]
    have hgbs:gb<w.heap.size\/w2.heap.size<=gb:=by
     rcases hat9 with h | h
     ·exact (HOBK.out gb (by rw [<-h];rfl)).1
     ·simp [Value.ownBlock] at h
      omega
    have hgw:gb≠w.heap.size:=by omega
    have hgw':w.heap.size≠gb:=by omega
    have kb9:=(World.cell?_of_block (a:=⟨w.heap.size,0,none⟩) (hblk w.heap.size (Nat.le_refl _) (by omega))).trans kb
    have kf9:=fun j=>(World.frozen?_of_block (a:=⟨w.heap.size,j,none⟩) (hblk w.heap.size (Nat.le_refl _) (by omega))).trans (kf j)
    have y3:=(World.cell?_of_block (a:=⟨w.heap.size+1,3,none⟩) (hblk (w.heap.size+1) (by omega) (by omega))).trans y3
    have hb9:Below B w w9:=Below.grown ((hb.alloc (by omega) _).alloc (by simp;omega) _) hg9 (by simp;omega) (fun k e=>(HOBK.out k e).2)
    have hlt9:P.length+i<(F i++[(⟨⟨hiW pa,loW pa,pn⟩,0⟩:Rt)]).length:=by
     have:=HNP.out
     simp
     omega
    obtain ⟨g',o',eq5,-,-,-,-,x3⟩:=(Row.of_own hown9).rt hlt9
    injection eq5 with eq5
    injection eq5 with eg eo
    subst eg eo
    simp only [Nat.zero_add] at x3
    have f3:=hown9.frozenAt ((P.length+i)*4+3)
    have hown10:=((ownsRow_setCell_other hown9 (a:=⟨w.heap.size,0,none⟩) (by simp [Value.ownBlock,hgw]) (.slice (some ⟨gb,0,none⟩) (F i++[(⟨⟨hiW pa,loW pa,pn⟩,0⟩:Rt)]).length c9)).stored ((P.length+i)*4+3) (.int .i64 v)).1
    rw [Zob _ _ v hlt9,Z64 _ _ _ _ HNP.out,<-HAA.out] at hown10
    have hm9:(F i++[(⟨⟨hiW pa,loW pa,pn⟩,0⟩:Rt)]).length=(F (i+1)).length:=by rw [HAA.out];simp
    have hL9:(F i++[(⟨⟨hiW pa,loW pa,pn⟩,0⟩:Rt)]).length=(F i).length+1:=by simp
    obtain ⟨m,hm⟩:∃m,m=(F i).length+1:=⟨_,rfl⟩
    generalize hxx:(F i++[(⟨⟨hiW pa,loW pa,pn⟩,0⟩:Rt)])[P.length+i]=xx at *
    rw [hL9,<-hm] at hown10 hm9 hlt9
    rw [<-hm]
    clear hxx hL9
    have hm1:m<=1041000:=by
     rw [hm9,HFL.out (i+1) (by omega)]
     omega
    have HO10:=hid hown10
    have HM:=hid hm9
    have HBLK:=hid hblk
    have j1:(0:Int)<=(P.length:Int)+(i:Int):=by omega
    have j2:(P.length:Int)+(i:Int)<(m:Int):=by omega
    clear hm hm9 hown10 hown9 hg9 hat9 hblk hlt9
    go_wp2
    go_roundg (V.length-(i+1))
    case measure=>omega
    case rel=>
     refine ⟨i+1,m,some ⟨gb,0,none⟩,c9,by go_num,by omega,by omega,HM,hm1,HO10,?_,?_,hid (fun k k1 k2 => ?_),by simp;omega,hid (fun g hg => ?_),?_⟩
     ·rw [World.cell?_setCell_other _ _ _ _ (by rintro e;injection e with e1 e2;exact hgw e1)]
      exact World.cell?_setCell_same _ _ _ kb9
     ·intro j
      rw [World.frozen?_setCell,World.frozen?_setCell]
      exact kf9 j
     ·rw [Below.heap_setCell _ _ _ _ (by show k≠gb;omega),Below.heap_setCell _ _ _ _ (by show k≠w.heap.size;omega),HBLK.out k (by omega) k2]
      exact HKEEP.out k k1 k2
     ·injection hg with hg
      injection hg with hg
      subst hg
      exact hgbs
     ·exact (hb9.setCell (by show B<=w.heap.size;omega) _).setCell hB9 _
  ·have hiU:i=U.length:=by have:=HSL.out;omega
   have HNF:Hid (n=(F U.length).length):=by rw [<-hiU];exact HN
   have HOF:Hid (wr.ownsRow B 41 4 (.slice q n cq) n (rcs (F U.length))):=by rw [<-hiU];exact HOWN
   have hzk:w.heap.size<wr.heap.size:=by omega
   clear HN HOWN hiU
   go_wp2
   go_ret
   refine ⟨q,cq,by rw [<-HNF.out];rfl,?_,hb⟩
   rw [<-HNF.out]
   exact HOF.out
set_option maxRecDepth 100000 in
theorem Zxg:SetC:=by
 intro p c L low high w hR hg hcap hc hl
 have hS:=Zp6 p c L w hR hcap (by omega)
 have hlen:=Zdi L
 have hsrt:=(Za9 L).1
 obtain ⟨N,hN⟩:∃N,N=Zap L:=⟨_,rfl⟩
 have hgN:∀x∈N,x.k.good:=fun x hx=>hg x (Zc5 (by rw [<-hN];exact hx))
 rw [<-hN] at hS hlen hsrt ⊢
 have HS:=hid hS
 have HG:=hid hgN
 have HSRT:=hid hsrt
 have HLN:N.length<=4000:=by omega
 have HBT:=hid Zry
 clear hS hgN hsrt hR hg hN hlen hcap
 go_enter Tryz.func84,Tryz.ntmps84
 go_wp2_with fail
 refine HS.out.mono ?_
 rintro e w1 ⟨p1,c1,rfl,ho1,hb1⟩
 have HROW:=hid (Row.of_own ho1)
 have hz1:=hb1.size
 clear ho1 HS
 go_wp2
 go_loopg [7,13] N.length (fun kx s7 s13 wr=>∃(i n:Nat) (K:List Rt) (q:Option Addr) (cq:Nat),s13 = .int .i64 (i:Int)/\N.length-i<=kx/\i<=N.length/\s7 = .slice q n cq/\Hid (n=K.length)/\Hid (InvS N low high i K) /\
  Hid (wr.ownsRow w1.heap.size 41 4 (.slice q n cq) n (rcs K))/\Below w1.heap.size w1 wr)
 case atStart=>exact ⟨0,0,[],none,0,rfl,by omega,by omega,rfl,hid rfl,hid (InvS.start _ _ _),hid (World.ownsRow_nil _ _ _ _),Below.refl _ _⟩
 case round=>
  obtain ⟨i,n,K,q,cq,rfl,k1,k2,rfl,HN,HI,HO,hb⟩:=hrel
  by_cases hi:i<N.length
  ·obtain ⟨g,o,rfl,hgs,x0,x1,x2,x3⟩:=(HROW.out.below hb).rt hi
   have hgd:=HG.out _ (List.getElem_mem hi)
   have hout:=HI.out.out HG.out hi
   have hnone:=HI.out.none HSRT.out HG.out hi
   have hlay:=HI.out.lay HSRT.out HG.out hi
   have hKl:=HI.out.len HG.out k2
   have hsK:=HI.out.sorted
   generalize N[i]=r at *
   obtain ⟨⟨kh,kl,kn⟩,v⟩:=r
   simp only at x0 x1 x2 x3 hout hnone hlay
   obtain ⟨hg1,hg2⟩:W64 kh/\W64 kl:=hgd
   have hbt:=HBT.out kh kl kn v low high
   have i1:(0:Int)<=(i:Int):=by omega
   have i2:(i:Int)<(N.length:Int):=by omega
   unfold insB at hout hnone hlay
   simp only at hout hnone hlay
   cases hc:(decide (low<kn)&&decide (kn<=high)) with
   | false=>
    rw [hc] at hbt
    have HB:=hid hbt
    have HI2:=hid (hout hc)
    clear hout hnone hlay hbt hc hsK
    go_wp2_with fail
    refine (HB.out _).mono ?_
    rintro e w2 ⟨rfl,hb2⟩
    have hbr:=hb.trans ((Below.trans (by go_grown) (hb2.mono (by simp)):Below wr.heap.size wr w2).mono hb.size)
    have HO2:=hid (own_below HO.out (Below.trans (by go_grown) (hb2.mono (by simp))))
    go_wp2
    go_roundg (N.length-(i+1))
    case measure=>omega
    case rel=>exact ⟨i+1,n,K,q,cq,by go_num,by omega,by omega,rfl,HN,HI2,HO2,hbr⟩
   | true=>
    rw [hc] at hbt
    have HB:=hid hbt
    have hL:∃K',InvS N low high (i+1) K'/\∀W q cq,w1.heap.size<=W.heap.size->W.ownsRow w1.heap.size 41 4 (.slice q K.length cq) K.length (rcs K) ->
     Calls Tryz.prog 111 #[.slice q K.length cq,.agg #[.int .u64 (kh:Int),.int .u64 (kl:Int),.int .i64 kn,.int .i64 v],.int .i64 high] W fun e w'=>LayR w1.heap.size W w' e K':=by
     by_cases h0:0<(sprK ⟨kh,kl,kn⟩ high).length
     ·obtain ⟨P,Mm,S,e1,e2,e3,e4⟩:=hlay hc h0
      exact ⟨_,e4,fun W q cq hz ho=>Z2o _ q cq K P Mm S kh kl kn v high W ho hz hsK (by omega) hg1 hg2 h0 e1 e2 e3⟩
     ·have h0:sprK ⟨kh,kl,kn⟩ high=[]:=List.length_eq_zero_iff.1 (by omega)
      exact ⟨K,hnone hc h0,fun W q cq hz ho=>Z2p _ q cq K kh kl kn v high W ho hz hg1 hg2 h0⟩
    obtain ⟨K',hI2,hcall⟩:=hL
    rw [<-HN.out] at hcall
    have HI2:=hid hI2
    have HC:=hid hcall
    clear hout hnone hlay hbt hc hsK hI2 hcall hKl
    go_wp2_with fail
    refine (HB.out _).mono ?_
    rintro e w2 ⟨rfl,hb2⟩
    have hw2:Below wr.heap.size wr w2:=Below.trans (by go_grown) (hb2.mono (by simp))
    obtain ⟨nc,-⟩:=Zaf hb2
    have r0:=(nc wr.heap.size 0 (by simp)).trans (show _=some (Value.int .u64 (kh:Int)) by simp [go_sem])
    have r1:=(nc wr.heap.size 1 (by simp)).trans (show _=some (Value.int .u64 (kl:Int)) by simp [go_sem])
    have r2:=(nc wr.heap.size 2 (by simp)).trans (show _=some (Value.int .i64 kn) by simp [go_sem])
    have r3:=(nc wr.heap.size 3 (by simp)).trans (show _=some (Value.int .i64 v) by simp [go_sem])
    have hz2:wr.heap.size<w2.heap.size:=by have:=hb2.size;simp at this;omega
    have HO2:=hid (own_below HO.out hw2)
    have hb2':=hb.trans (hw2.mono hb.size)
    clear nc hb2 hw2 x0 x1 x2 x3 HO
    go_wp2_with fail
    refine (HC.out w2 q cq hb2'.size HO2.out).mono ?_
    rintro e w3 ⟨q3,c3,rfl,ho3,hb3⟩
    have hb3':=hb2'.trans hb3
    have HO3:=hid ho3
    clear ho3 hb3 HC
    go_wp2
    go_roundg (N.length-(i+1))
    case measure=>omega
    case rel=>exact ⟨i+1,K'.length,K',q3,c3,by go_num,by omega,by omega,rfl,hid rfl,HI2,HO3,hb3'⟩
  ·have hil:i=N.length:=by omega
   have hd:K=setS N low high:=by
    have:=HI.out
    rw [hil] at this
    exact this.done
   have HD:=hid hd
   have hbw:=hb1.trans (hb.mono hz1)
   clear hil hd
   go_wp2
   go_ret
   refine ⟨q,cq,?_,?_,hbw⟩
   ·rw [<-HD.out,HN.out];rfl
   ·have h:=Za4 HO.out hz1
    rw [HN.out,HD.out] at h
    exact h
end Go.Proofs.YtgfjmgebecmbiaaGreat
