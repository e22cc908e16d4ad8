import Derived.Test.YtgfjmgebecmbiaaGreatW22g
set_option linter.unusedSimpArgs false
set_option linter.unusedVariables false
set_option maxHeartbeats 20000000
namespace Go.Proofs.YtgfjmgebecmbiaaGreat
open Lib(hid)
section
open Go Go.RowKit Go.Sort M
def nwD (B:Nat) (wd di:Int):Nat->Value->World->Prop
 | 6,v,W=>∃d,v = .pointer (some ⟨d,0,none⟩)/\DirP W (fun j=>B<=j) d (Zgk di) []
 | 7,v,W=>∃d,v = .agg #[.int .i64 wd,.int .i64 di,.slice none 0 0,.pointer (some ⟨d,0,none⟩),.slice none 0 0]/\DirP W (fun j=>B<=j) d (Zgk di) []
 | 8,v,W | 9,v,W=>∃d t,v = .pointer (some ⟨t,0,none⟩)/\B<=t/\t<W.heap.size/\DirP W (fun j=>B<=j/\j≠t) d (Zgk di) []/\W.cell? ⟨t,0,none⟩=some (.int .i64 wd)/\W.cell? ⟨t,1,none⟩=some (.int .i64 di)/\W.cell? ⟨t,2,none⟩=some (.slice none 0 0)/\W.cell? ⟨t,3,none⟩=some (.pointer (some ⟨d,0,none⟩))/\W.cell? ⟨t,4,none⟩=some (.slice none 0 0)/\∀j,W.frozen? ⟨t,j,none⟩=false
 | _,_,_=>True
theorem DirP.below22 {w w':World} {K:Nat->Prop} {t m:Nat} {L:List Rt} (H:DirP w K t m L) (hb:Below w.heap.size w w'):DirP w' K t m L:=H.touched (S:=fun _=>False) (Touch.quiet hb) (fun _ _ x=>x)
theorem Zve (B:Nat) (wd di:Int):∀i v W W',Below W.heap.size W W'->nwD B wd di i v W->nwD B wd di i v W':=by
 intro i v W W' hb h
 have key:(∃d t,v = .pointer (some ⟨t,0,none⟩)/\B<=t/\t<W.heap.size/\DirP W (fun j=>B<=j/\j≠t) d (Zgk di) []/\W.cell? ⟨t,0,none⟩=some (.int .i64 wd)/\W.cell? ⟨t,1,none⟩=some (.int .i64 di)/\W.cell? ⟨t,2,none⟩=some (.slice none 0 0)/\W.cell? ⟨t,3,none⟩=some (.pointer (some ⟨d,0,none⟩))/\W.cell? ⟨t,4,none⟩=some (.slice none 0 0)/\∀j,W.frozen? ⟨t,j,none⟩=false) ->
  (∃d t,v = .pointer (some ⟨t,0,none⟩)/\B<=t/\t<W'.heap.size/\DirP W' (fun j=>B<=j/\j≠t) d (Zgk di) []/\W'.cell? ⟨t,0,none⟩=some (.int .i64 wd)/\W'.cell? ⟨t,1,none⟩=some (.int .i64 di)/\W'.cell? ⟨t,2,none⟩=some (.slice none 0 0)/\W'.cell? ⟨t,3,none⟩=some (.pointer (some ⟨d,0,none⟩))/\W'.cell? ⟨t,4,none⟩=some (.slice none 0 0)/\∀j,W'.frozen? ⟨t,j,none⟩=false):=by
  rintro ⟨d,t,h1,h2,h3,h4,c0,c1,c2,c3,c4,f⟩
  exact ⟨d,t,h1,h2,Nat.lt_of_lt_of_le h3 hb.size,h4.below22 hb,(hb.cell (p:=⟨t,0,none⟩) h3).trans c0,(hb.cell (p:=⟨t,1,none⟩) h3).trans c1,(hb.cell (p:=⟨t,2,none⟩) h3).trans c2,(hb.cell (p:=⟨t,3,none⟩) h3).trans c3,(hb.cell (p:=⟨t,4,none⟩) h3).trans c4,fun j=>(hb.frozen (p:=⟨t,j,none⟩) h3).trans (f j)⟩
 unfold nwD at h ⊢
 split at h
 ·obtain ⟨d,h1,h2⟩:=h
  exact ⟨d,h1,h2.below22 hb⟩
 ·obtain ⟨d,h1,h2⟩:=h
  exact ⟨d,h1,h2.below22 hb⟩
 ·exact key h
 ·exact key h
 ·trivial
def nrD (B s:Nat) (V:Lv):Nat->Value->World->Prop
 | 8,v,_=>v = .int .u64 (s:Int)
 | 14,v,W | 15,v,W=>∃q,v = .tuple #[.pointer (some ⟨q,0,none⟩),.int .i64 0]/\LevP W (fun j=>B<=j) q V
 | 16,v,W | 18,v,W=>∃q,v = .pointer (some ⟨q,0,none⟩)/\LevP W (fun j=>B<=j) q V
 | _,_,_=>True
theorem Zvf (B s:Nat) (V:Lv):∀i v W W',Below W.heap.size W W'->nrD B s V i v W->nrD B s V i v W':=by
 intro i v W W' hb h
 unfold nrD at h ⊢
 split at h
 ·exact h
 ·obtain ⟨q,h1,h2⟩:=h
  exact ⟨q,h1,h2.below hb⟩
 ·obtain ⟨q,h1,h2⟩:=h
  exact ⟨q,h1,h2.below hb⟩
 ·obtain ⟨q,h1,h2⟩:=h
  exact ⟨q,h1,h2.below hb⟩
 ·obtain ⟨q,h1,h2⟩:=h
  exact ⟨q,h1,h2.below hb⟩
 ·trivial
def NewI (w3 w4 wr:World) (B:Nat) (wd di:Int) (LV:List Lv) (t d i:Nat) (p:Option Addr) (c:Nat):Prop:=
 ∃K col X,EngB wr K t ⟨wd,di,LV.take i,[]⟩ col (.slice none 0 0) d [] X p c/\wr.ownsRow w4.heap.size 72 2 (.slice p i c) i (tcs X)/\Touch (fun j=>j=t) w4 wr/\∀g,K g->B<=g/\g<wr.heap.size/\(g<w3.heap.size\/w4.heap.size<=g)
theorem Zyk (c:Cf) (s:Nat):∀(levels:List Int) (B:List Nat) (j i:Nat) (h1:i<levels.length) (h2:i<B.length),(mkE c s j levels B)[i]? = some (newV levels[i] (mixN ((s+(j+i))%18446744073709551616)) c.hs B[i] c.bk.toNat)
 | n::L,b::B,j,0,_,_=>rfl
 | n::L,b::B,j,i+1,h1,h2=>by
  have:=Zyk c s L B (j+1) i (by simpa using h1) (by simpa using h2)
  unfold mkE
  rw [List.getElem?_cons_succ,this]
  simp only [List.getElem_cons_succ]
  rw [show j+1+i=j+(i+1) by omega]
set_option maxRecDepth 100000 in
theorem Zvi (c:Cf) (s:Nat) (L C:List Int) (p q:Option Addr) (k l:Nat) (w:World) (ws:W64 s) (hL:IRow w p L) (hC:IRow w q C) (hlen:L.length<=1000) (hcl:C.length<=1000) (hk:L.length<=k) (hcp:C.length<=l) (hgood:okE c L=true) :
 Calls Tryz.prog 8 #[cfgA c,.int .u64 (s:Int),.slice p L.length k,.slice q C.length l] w fun e w'=>
  ∃t,e = .returned (.tuple #[.pointer (some ⟨t,0,none⟩),.int .i64 0])/\EngP w' (In w.heap.size w'.heap.size) t (newE c s L C)/\Below w.heap.size w w':=by
 unfold okE at hgood
 simp only [Bool.and_eq_true] at hgood
 obtain ⟨hok,hri⟩:=hgood
 have hok2:=hok
 unfold okCf at hok2
 obtain ⟨⟨q1,q2⟩,⟨q3,q4,q5⟩,⟨q6,q7⟩,⟨q8,q9⟩,⟨y1,y2⟩,⟨l1,l2⟩,⟨t1,t2⟩,⟨b1,b2⟩,-⟩:=of_decide_eq_true hok2
 have hri2:=hri
 unfold Zc7 at hri2
 simp only [Bool.and_eq_true,decide_eq_true_eq] at hri2
 have hrg:=Z5i L c.di hri2.2
 have hlw:∀x∈L,x<=9223372036854775807:=fun x hx=>by
  obtain ⟨i,hi,rfl⟩:=List.getElem_of_mem hx
  have:=(hrg i hi).2.2.2
  omega
 have hl128:L.length<=128:=by have:=hri2.1.2;omega
 have hr:=Zgb c
 have hf:=fun W (h:Below w.heap.size w W)=>Zpe c p k L W (hL.below h) (by omega) hlw
 have hsz:=fun W (h:Below w.heap.size w W)=>Zql c p q k l L C W (hL.below h) (hC.below h) hok hri hcp (by omega)
 have hdn:=fun W=>Zz1.new c.di W
 have hbl:=Zf4 c L C
 have hbo:=(Z0n (C:=C) hok hri).1
 have hmk:=Zyk c s L (Zee c L C) 0
 have hnew:newE c s L C=⟨c.wd,c.di,mkE c s 0 L (Zee c L C),[]⟩:=rfl
 have hml:(mkE c s 0 L (Zee c L C)).length=L.length:=by
  have:=Zyj c s L (Zee c L C) 0 hbl
  have h2:=congrArg List.length this
  rwa [List.length_map] at h2
 rw [hnew]
 rw [hok] at hr
 simp only [hri] at hf
 obtain ⟨bkn,hbk⟩:=Int.eq_ofNat_of_zero_le (show 0<=c.bk by omega)
 obtain ⟨din,hdin⟩:=Int.eq_ofNat_of_zero_le q3
 generalize Zee c L C=BS at *
 generalize mkE c s 0 L BS=LV at *
 obtain ⟨wd,di,lv,st,hs,bt,le,bk,rt,hp⟩:=c
 simp only at hbk hdin
 subst hbk
 subst hdin
 unfold cfgA at hr hf hsz ⊢
 simp only [Int.toNat_natCast] at *
 have HR:=hid hr
 have HF:=hid hf
 have HSZ:=hid hsz
 have HDN:=hid hdn
 have HBO:=hid hbo
 have HMK:=hid hmk
 have HRG:=hid hrg
 have HL:=hid hL
 have HBA:Hid (Zgk ((din:Nat):Int)=din):=hid (by unfold Zgk;rw [if_neg (by omega),if_neg (by omega),Int.toNat_natCast])
 obtain ⟨W0,hW0⟩:∃W:World,W=w.alloc (.cells #[.int .i64 wd,.int .i64 (din:Int),.int .i64 lv,.int .i64 st,.int .i64 hs,.int .i64 bt,.int .i64 le,.int .i64 (bkn:Int),.int .i64 rt,.int .i64 hp] 23):=⟨_,rfl⟩
 have hw:Below w.heap.size w W0:=by rw [hW0];go_grown
 have hz:w.heap.size<W0.heap.size:=by rw [hW0];simp
 have k0:W0.cell? ⟨w.heap.size,0,none⟩=some (.int .i64 wd):=by rw [hW0];simp [go_sem]
 have k1:W0.cell? ⟨w.heap.size,1,none⟩=some (.int .i64 (din:Int)):=by rw [hW0];simp [go_sem]
 have k2:W0.cell? ⟨w.heap.size,2,none⟩=some (.int .i64 lv):=by rw [hW0];simp [go_sem]
 have k3:W0.cell? ⟨w.heap.size,3,none⟩=some (.int .i64 st):=by rw [hW0];simp [go_sem]
 have k4:W0.cell? ⟨w.heap.size,4,none⟩=some (.int .i64 hs):=by rw [hW0];simp [go_sem]
 have k5:W0.cell? ⟨w.heap.size,5,none⟩=some (.int .i64 bt):=by rw [hW0];simp [go_sem]
 have k6:W0.cell? ⟨w.heap.size,6,none⟩=some (.int .i64 le):=by rw [hW0];simp [go_sem]
 have k7:W0.cell? ⟨w.heap.size,7,none⟩=some (.int .i64 (bkn:Int)):=by rw [hW0];simp [go_sem]
 have k8:W0.cell? ⟨w.heap.size,8,none⟩=some (.int .i64 rt):=by rw [hW0];simp [go_sem]
 have k9:W0.cell? ⟨w.heap.size,9,none⟩=some (.int .i64 hp):=by rw [hW0];simp [go_sem]
 clear hr hf hsz hdn hbo hmk hrg hL hC hlw hok hok2 hri hri2 hnew
 go_enter Tryz.func8,Tryz.ntmps8
 go_upto_region 1 with fail
 rw [<-hW0]
 clear hW0
 go_wp2_with fail
 refine (HR.out _).mono ?_
 rintro e w1 ⟨rfl,hb1⟩
 obtain ⟨hc1,hf1⟩:=Zaf hb1
 have k0:=(hc1 _ _ hz).trans k0
 have k1:=(hc1 _ _ hz).trans k1
 have k2:=(hc1 _ _ hz).trans k2
 have k3:=(hc1 _ _ hz).trans k3
 have k4:=(hc1 _ _ hz).trans k4
 have k5:=(hc1 _ _ hz).trans k5
 have k6:=(hc1 _ _ hz).trans k6
 have k7:=(hc1 _ _ hz).trans k7
 have k8:=(hc1 _ _ hz).trans k8
 have k9:=(hc1 _ _ hz).trans k9
 have hw:=hw.trans (hb1.mono hw.size)
 have hz:=Nat.lt_of_lt_of_le hz hb1.size
 clear hc1 hf1 hb1
 go_wp2_with fail
 refine (HF.out _ hw).mono ?_
 rintro e w2 ⟨rfl,hb2⟩
 obtain ⟨hc2,hf2⟩:=Zaf hb2
 have k0:=(hc2 _ _ hz).trans k0
 have k1:=(hc2 _ _ hz).trans k1
 have k2:=(hc2 _ _ hz).trans k2
 have k3:=(hc2 _ _ hz).trans k3
 have k4:=(hc2 _ _ hz).trans k4
 have k5:=(hc2 _ _ hz).trans k5
 have k6:=(hc2 _ _ hz).trans k6
 have k7:=(hc2 _ _ hz).trans k7
 have k8:=(hc2 _ _ hz).trans k8
 have k9:=(hc2 _ _ hz).trans k9
 have hw:=hw.trans (hb2.mono hw.size)
 have hz:=Nat.lt_of_lt_of_le hz hb2.size
 clear hc2 hf2 hb2
 have HW:=hid hw
 clear HR HF
 go_wp2_with fail
 have kg:=Zaa
 refine wp_region_noPanic ?_
 generalize hNQ:NoPanic _=NQ
 refine Zcj [0,2,4] [1,3,5] [(6,30,[]),(7,31,[(6,30)]),(8,32,[(7,31)]),(9,10,[(8,32)])] [] (nwD w2.heap.size wd ((din:Nat):Int)) (Zve _ _ _) (by kernel_rfl) (by rw [<-hNQ];exact fun _ _ _ h=>h) (by kernel_rfl) (by kernel_rfl) (by kernel_rfl) ?_
 simp only [Zah,List.filterMap_cons,List.filterMap_nil,List.getElem?_toArray,List.getElem?_cons_succ,List.getElem?_cons_zero]
 repeat (any_goals (quiet_step (fail)))
 refine wpQuiet_nil ?_
 clear kg
 refine ⟨by rfl,⟨?_,?_,?_,?_,trivial⟩,?_⟩
 ·intro W hW K hK o ho
  injection ho with ho
  subst ho
  go_simp
  go_at_call 24
  refine (HDN.out W).mono ?_
  rintro e w3 ⟨d3,rfl,hb3,hd3⟩
  exact hK _ _ hb3 ⟨d3,rfl,hd3.mono fun j hj=>Nat.le_trans hW.size hj.1⟩
 ·intro W hW v6 h6 K
  obtain ⟨d6,rfl,hd6⟩:=h6
  go_simp
  intro hK o ho
  injection ho with ho
  subst ho
  go_simp
  exact hK _ _ (Below.refl _ _) ⟨d6,rfl,hd6⟩
 ·intro W hW v7 h7 K
  obtain ⟨d7,rfl,hd7⟩:=h7
  go_simp
  intro hK o ho
  injection ho with ho
  subst ho
  go_simp
  have hd8:=(hd7.old.below22 (by go_grown:Below W.heap.size W (W.alloc (.cells #[.int .i64 wd,.int .i64 ((din:Nat):Int),.slice none 0 0,.pointer (some ⟨d7,0,none⟩),.slice none 0 0] 65)))).mono (K':=fun j=>w2.heap.size<=j/\j≠W.heap.size) (fun j hj=>⟨hj.1,by have:=hj.2;omega⟩)
  exact hK _ _ (by go_grown) ⟨d7,W.heap.size,rfl,hW.size,by simp,hd8,by simp [go_sem],by simp [go_sem],by simp [go_sem],by simp [go_sem],by simp [go_sem],fun j=>by simp [go_sem]⟩
 ·intro W hW v8 h8 K
  obtain ⟨d8,t8,rfl,h8⟩:=h8
  go_simp
  intro hK o ho
  injection ho with ho
  subst ho
  go_simp
  exact hK _ _ (Below.refl _ _) ⟨d8,t8,rfl,h8⟩
 ·intro W3 hW3 v6 h6 v7 h7 v8 h8 v9 h9
  obtain ⟨d6,rfl,-⟩:=h6
  obtain ⟨d7,rfl,-⟩:=h7
  obtain ⟨d8,t8,rfl,-⟩:=h8
  obtain ⟨d,t,rfl,ht1,ht2,hd,c0,c1,c2,c3,c4,cf⟩:=h9
  have HB3:=hid (HW.out.trans (hW3.mono HW.out.size))
  have hz3:=hW3.size
  have hwz:=HW.out.size
  have k4:=(hW3.cell (p:=⟨w.heap.size,4,none⟩) hz).trans k4
  have k7:=(hW3.cell (p:=⟨w.heap.size,7,none⟩) hz).trans k7
  have k0:=(hW3.cell (p:=⟨w.heap.size,0,none⟩) hz).trans k0
  have k1:=(hW3.cell (p:=⟨w.heap.size,1,none⟩) hz).trans k1
  have k2:=(hW3.cell (p:=⟨w.heap.size,2,none⟩) hz).trans k2
  have k3:=(hW3.cell (p:=⟨w.heap.size,3,none⟩) hz).trans k3
  have k5:=(hW3.cell (p:=⟨w.heap.size,5,none⟩) hz).trans k5
  have k6:=(hW3.cell (p:=⟨w.heap.size,6,none⟩) hz).trans k6
  have k8:=(hW3.cell (p:=⟨w.heap.size,8,none⟩) hz).trans k8
  have k9:=(hW3.cell (p:=⟨w.heap.size,9,none⟩) hz).trans k9
  have hz:=Nat.lt_of_lt_of_le hz hW3.size
  have htw:t≠w.heap.size:=by omega
  rw [HBA.out] at hd
  have hE0:EngB W3 (fun j=>w2.heap.size<=j/\j<W3.heap.size) t ⟨wd,(din:Nat),LV.take 0,[]⟩ (fun j=>if j=t then 0 else 3) (.slice none 0 0) d [] [] none 0:=
   ⟨ht2,c0,c1,c2,c3,c4,cf,World.ownsRow_nil _ _ _ _,.inl rfl,rfl,fun i h=>absurd h (by simp),Nat.le_refl _,fun i h=>absurd h (by simp),hd.old.mono fun j hj=>⟨if_neg hj.1.2,hj.1.1,hj.2⟩,⟨if_pos rfl,ht1,ht2⟩,fun j hj=>(by simp [Value.ownBlock] at hj),fun a ha=>(by cases ha)⟩
  have HE0:=hid hE0
  clear hE0 hd c0 c1 c2 c3 c4 cf hW3
  show wpList _ _ _ _ _ _
  simp only [Zah,List.filterMap_nil]
  subst hNQ
  go_wp2_with fail
  refine NoPanic.normal ?_
  go_wp2_with fail
  refine (HSZ.out _ HB3.out).mono ?_
  rintro e w4 ⟨sp,sc,rfl,hso,hb4⟩
  have hz4:=hb4.size
  have k4:=(hb4.cell (p:=⟨w.heap.size,4,none⟩) hz).trans k4
  have k7:=(hb4.cell (p:=⟨w.heap.size,7,none⟩) hz).trans k7
  have hz:=Nat.lt_of_lt_of_le hz hb4.size
  have HB4:=hid (HB3.out.trans (hb4.mono HB3.out.size))
  have hSR:IRow w4 sp (toI BS):=by have:=hso;exact IRow.of_own (by rw [<-Zwu BS,hbl] at *;exact this)
  have HSR:=hid hSR
  have HSB:=hid (fun a (h:sp=some a)=>(hso.lt a.block (by subst h;rfl)).1)
  have HI:Hid (NewI W3 w4 w4 w2.heap.size wd (din:Nat) LV t d 0 none 0):=hid ⟨_,_,_,HE0.out.below hb4,World.ownsRow_nil _ _ _ _,Touch.refl _ _,fun g hg=>⟨hg.1,by have:=hg.2;omega,.inl hg.2⟩⟩
  clear hso hb4 hSR HSZ HE0 k0 k1 k2 k3 k5 k6 k8 k9
  go_wp2
  go_loopg [38] L.length (fun kx s38 wr=>∃(i:Nat) (pp:Option Addr) (cc:Nat),s38 = .int .i64 (i:Int)/\L.length-i<=kx/\i<=L.length/\Hid (NewI W3 w4 wr w2.heap.size wd (din:Nat) LV t d i pp cc))
  case atStart=>exact ⟨0,none,0,rfl,by omega,by omega,HI⟩
  case round=>
   clear HI
   obtain ⟨i,pp,cc,rfl,g1,g2,HI⟩:=hrel
   obtain ⟨K,col,X,HE,HO,HT,HK⟩:=HI.out
   by_cases hi:i<L.length
   ·obtain ⟨gl,ol,rfl,hgl,y0⟩:=HL.out.at hi
    have hiB:i<BS.length:=by omega
    have hiT:i<(toI BS).length:=by rw [Zwu];exact hiB
    obtain ⟨gs,os,rfl,hgs,x0⟩:=HSR.out.at hiT
    have htg:(toI BS)[i]=(BS[i]:Int):=by simp [toI]
    rw [htg] at x0
    have hgst:gs≠t:=by have:W3.heap.size<=gs:=HSB.out _ rfl;omega
    have hglt:gl≠t:=by omega
    have x0:=HT.cell x0 hgst
    have y0:=HT.cell ((HB4.out.cell (p:=⟨gl,ol+i,none⟩) hgl).trans y0) hglt
    have k4:=HT.cell k4 (fun e=>htw e.symm)
    have k7:=HT.cell k7 (fun e=>htw e.symm)
    have hzr:=HT.size
    have hb4z:=HB4.out.size
    have hgs1:=Nat.lt_of_lt_of_le hgs hzr
    have hgl1:gl<wr.heap.size:=by omega
    have hz1:=Nat.lt_of_lt_of_le hz hzr
    have hrg:=HRG.out i hi
    have hbo:=HBO.out BS[i] (List.getElem_mem hiB)
    have hmk:=HMK.out i hi hiB
    rw [Nat.zero_add] at hmk
    obtain ⟨sd,hsd⟩:∃sd,sd=(s+i)%18446744073709551616:=⟨_,rfl⟩
    rw [<-hsd] at hmk
    have hsw:W64 sd:=by rw [hsd];exact Nat.mod_lt _ (by decide)
    have hss:IntKind.u64.wrap ((s:Int)+(i:Int))=(sd:Int):=by rw [IntKind.wrap_u64,hsd];omega
    have hiw:IntKind.u64.wrap (i:Int)=(i:Int):=by rw [IntKind.wrap_u64];omega
    obtain ⟨b,hb⟩:∃b,b=BS[i]:=⟨_,rfl⟩
    obtain ⟨n,hn⟩:∃n,n=L[i]:=⟨_,rfl⟩
    rw [<-hb] at x0 hbo hmk
    rw [<-hn] at y0 hmk hrg
    obtain ⟨V,hV⟩:∃V,V=newV n (mixN sd) hs b bkn:=⟨_,rfl⟩
    rw [<-hV] at hmk
    have hVc:V.C.length=b:=by rw [hV];simp [newV]
    have HNW:=hid (fun W=>Zj1.new n hs (mixN sd) b bkn W (Zdl sd) (fun h=>h ⟨by omega,by omega,⟨y1,y2,by omega,by omega⟩,by omega,by omega⟩))
    rw [<-hV] at HNW
    have hmx:=Zmf sd hsw
    rw [<-hss] at hmx
    have HMX:=hid hmx
    clear hmx
    have htk:LV.take (i+1)=LV.take i++[V]:=by rw [List.take_add_one,hmk];rfl
    have hli:(LV.take i).length=i:=by rw [List.length_take];omega
    have i1:(0:Int)<=(i:Int):=by omega
    have i2:(i:Int)<(L.length:Int):=by omega
    have HEr:=hid HE
    have HOr:=hid HO
    have HTr:=hid HT
    have HKr:=hid HK
    have HTK:=hid htk
    have HLI:=hid hli
    have HVC:=hid hVc
    have HSW:=hid hss
    clear HE HO HT HK htk hli hVc hV hn hb hsd hsw hmk hbo hrg htg hiT HI hss
    go_wp2_with fail
    have kg:=Zaa
    refine wp_region_noPanic ?_
    generalize hNQ:NoPanic _=NQ
    refine Zcj [0,1,2,4,5,6,7,9,11,12] [3,10,13] [(8,52,[]),(14,58,[(8,52)]),(15,43,[(14,58)]),(16,59,[(15,43)]),(17,60,[(15,43)]),(18,13,[(16,59)]),(19,14,[(17,60)])] [] (nrD wr.heap.size (mixN sd) V) (Zvf _ _ _) (by kernel_rfl) (by rw [<-hNQ];exact fun _ _ _ h=>h) (by kernel_rfl) (by kernel_rfl) (by kernel_rfl) ?_
    simp only [Zah,List.filterMap_cons,List.filterMap_nil,List.getElem?_toArray,List.getElem?_cons_succ,List.getElem?_cons_zero]
    repeat (any_goals (quiet_step (fail)))
    refine wpQuiet_nil ?_
    clear kg
    refine ⟨by rfl,⟨?_,?_,?_,?_,?_,?_,?_,trivial⟩,?_⟩
    ·intro W hW K hK o ho
     injection ho with ho
     subst ho
     go_simp
     go_at_call 27
     refine (HMX.out W).mono ?_
     rintro e w3 ⟨rfl,hb3⟩
     exact hK _ _ hb3 rfl
    ·intro W hW v8 h8 K
     obtain rfl:v8=_:=h8
     go_simp
     intro hK o ho
     injection ho with ho
     subst ho
     go_simp
     go_at_call 26
     refine (HNW.out W).mono ?_
     rintro e w3 ⟨q3,rfl,hp3,hb3⟩
     exact hK _ _ hb3 ⟨q3,rfl,hp3.mono fun j hj=>Nat.le_trans hW.size hj.1⟩
    ·intro W hW v14 h14 K
     obtain ⟨q14,rfl,hp⟩:=h14
     go_simp
     intro hK o ho
     injection ho with ho
     subst ho
     go_simp
     exact hK _ _ (Below.refl _ _) ⟨q14,rfl,hp⟩
    ·intro W hW v15 h15 K
     obtain ⟨q15,rfl,hp⟩:=h15
     go_simp
     intro hK o ho
     injection ho with ho
     subst ho
     go_simp
     exact hK _ _ (Below.refl _ _) ⟨q15,rfl,hp⟩
    ·intro W hW v15 h15 K
     obtain ⟨q15,rfl,hp⟩:=h15
     go_simp
     intro hK o ho
     injection ho with ho
     subst ho
     go_simp
     exact hK _ _ (Below.refl _ _) trivial
    ·intro W hW v16 h16 K
     obtain ⟨q16,rfl,hp⟩:=h16
     go_simp
     intro hK o ho
     injection ho with ho
     subst ho
     go_simp
     exact hK _ _ (Below.refl _ _) ⟨q16,rfl,hp⟩
    ·intro W hW v17 h17 K
     clear h17
     go_simp
     intro hK o ho
     injection ho with ho
     subst ho
     go_simp
     exact hK _ _ (Below.refl _ _) trivial
    ·intro W hW v8 h8 v14 h14 v15 h15 v16 h16 v17 h17 v18 h18 v19 h19
     obtain rfl:v8=_:=h8
     obtain ⟨q14,rfl,-⟩:=h14
     obtain ⟨q15,rfl,-⟩:=h15
     obtain ⟨q16,rfl,-⟩:=h16
     obtain ⟨qv,rfl,hpv⟩:=h18
     clear h17 h19
     have HEW:=hid (HEr.out.below hW)
     have HOW:=hid (own_below HOr.out hW)
     have HPV:=hid hpv
     have HWW:=hid hW
     have c4:=HEW.out.c4
     have c4':W.cell? ⟨t,4,none⟩=some (.slice pp i cc):=by have:=c4;simp only [HLI.out] at this;exact this
     have cl:=HEW.out.lt
     have fr:=HEW.out.f 4
     have hzW:=hW.size
     obtain ⟨i0,hi0,iz0,iz1,iz2⟩:=info_parts Z2z
     clear c4 hpv hW x0 y0 k4 k7 HNW HMX
     show wpList _ _ _ _ _ _
     simp only [Zah,List.filterMap_nil]
     subst hNQ
     go_wp2_with fail
     refine NoPanic.normal ?_
     go_wp2_with (at_builtin;go_loud (refine wpList_append_own_at _ rfl (.tmp 65) (.tmp 69) 63 rfl w4.heap.size 72 i0 _ 2 16 Tryz.underlying63 hi0 iz0 iz1 iz2 rfl (by decide) _ _ _ rfl (HOW.out.alloc _) ⟨W.heap.size,0,none⟩ 1 1 [.pointer (some ⟨qv,0,none⟩),.int .i64 (b:Int)] rfl rfl (Zeq W #[_,_] _) (by simp [Value.oneCell']) (by unfold maxLen;omega) (by omega) (by simp;omega) ?_))
     intro v3 w6 hown3 hg3 _ hat3
     obtain ⟨p3,c3,rfl⟩:=Zag hown3
     have hTa:Touch (fun j=>(Value.slice pp i cc).ownBlock=some j) W w6:=(Touch.quiet (by go_grown:Below W.heap.size W (W.alloc (.cells #[.pointer (some ⟨qv,0,none⟩),.int .i64 (b:Int)] 72)))).trans (Touch.of_grown hg3 (fun k e=>e.symm))
     have hnt:¬(Value.slice pp i cc).ownBlock=some t:=fun e=>by have:=(HOW.out.lt t e).1;omega
     have c4:=hTa.cell c4' hnt
     have fr:=(World.frozen?_of_block (a:=⟨t,4,none⟩) (hTa.block t cl hnt)).trans fr
     have cl6:=Nat.lt_of_lt_of_le cl hTa.size
     have hown4:w6.ownsRow w4.heap.size 72 2 (.slice p3 (i+1) c3) (i+1) (tcs (X++[(qv,V.C.length)])):=by
      rw [Zky,Z5b,HVC.out]
      exact hown3
     have hpush:=fun h1 h2 h3=>HEW.out.push (w3:=w6) (B:=wr.heap.size) (q:=qv) (V:=V) (p3:=p3) (c3:=c3) (fun g hg=>(HKr.out g hg).2.1) HWW.out.size HPV.out h1 h2 h3
     simp only [HLI.out] at hpush
     obtain ⟨col',hE',hT'⟩:=hpush hTa (.inr (Za4 hown4 (Nat.zero_le _))) (hat3.imp id fun e=>⟨_,e,by simp⟩)
     rw [<-HTK.out] at hE'
     have hs7:(w6.setCell ⟨t,4,none⟩ (.slice p3 (i+1) c3)).heap.size=w6.heap.size:=World.size_setCell _ _ _
     have hz6:=hTa.size
     have HNI:Hid (NewI W3 w4 (w6.setCell ⟨t,4,none⟩ (.slice p3 (i+1) c3)) w2.heap.size wd (din:Nat) LV t d (i+1) p3 c3):=hid ⟨_,_,_,hE'.old,ownsRow_setCell_below hown4 (by show t<w4.heap.size;omega) _,Zas (HTr.out.trans (Touch.quiet HWW.out)) (fun j hj=>by
      rcases hj with hj | hj
      ·exact .inl hj
      ·exact .inr (HOW.out.lt j hj).1) hT',fun g hg=>by
      have h2:=hg.2
      rcases hg.1 with h | h
      ·have h3:=HKr.out g h
       exact ⟨h3.1,h2,h3.2.2⟩
      ·exact ⟨by omega,h2,.inr (by omega)⟩⟩
     clear hpush hE' hT' hTa hown3 hown4 hg3 hat3 HEW HOW HPV HEr HOr HTr HKr c4'
     go_wp2
     go_roundg (L.length-(i+1))
     case measure=>omega
     case rel=>exact ⟨i+1,p3,c3,by go_num,by omega,by omega,HNI⟩
   ·have HE2:=HE
    rw [List.take_of_length_le (by omega)] at HE2
    have hfin:EngP wr (In w.heap.size wr.heap.size) t ⟨wd,(din:Nat),LV,[]⟩:=⟨_,_,_,_,_,_,_,HE2.mono fun j hj=>⟨by have:=(HK j hj).1;omega,(HK j hj).2.1⟩,Ztp List.Pairwise.nil (by show (0:Int)<=(din:Int);omega)⟩
    have hbl2:Below w.heap.size w wr:=HB4.out.trans (HT.below (by have:=HB4.out.size;omega) (fun k hk=>by subst hk;omega))
    have HFI:=hid hfin
    have HBL:=hid hbl2
    clear HE HE2 HO HT HK hfin hbl2
    go_wp2
    go_ret2
    exact ⟨t,rfl,HFI.out,HBL.out⟩
set_option maxRecDepth 100000 in
theorem Zn1 (w:World) (K:Nat->Prop) (t:Nat) (E:Eg) (HP:EngP w K t E) (hl:E.R.length<=301) :
 Calls Tryz.prog 17 #[.pointer (some ⟨t,0,none⟩)] w fun e w'=>Zcf w w' e E.R:=by
 obtain ⟨col,v,d,L0,X,p,c,H,-⟩:=HP
 obtain ⟨rp,rc,rfl⟩:=Zag H.own
 have hu:=fun W (h:Below w.heap.size w W)=>Zcp t d W (Nat.lt_of_lt_of_le H.lt h.size) ((h.cell (p:=⟨t,3,none⟩) H.lt).trans H.c3)
 have hcl:=fun W (h:Below w.heap.size w W)=>Zkh rp rc E.R W ((Row.of_own H.own).below h) (Zcq H.own) (by omega)
 have HU:=hid hu
 have HCL:=hid hcl
 have c2:=H.c2
 have cl:=H.lt
 clear hu hcl H
 go_enter Tryz.func17,Tryz.ntmps17
 go_wp2_with fail
 refine (HU.out _ (Below.refl _ _)).mono ?_
 rintro e w1 ⟨rfl,hb1⟩
 have c2:=(hb1.cell (p:=⟨t,2,none⟩) cl).trans c2
 have cl:=Nat.lt_of_lt_of_le cl hb1.size
 go_wp2_with fail
 refine (HCL.out _ hb1).mono ?_
 rintro e w2 ⟨p2,c22,rfl,ho2,hb2⟩
 have HO:=hid (Za4 ho2 hb1.size)
 have HB:=hid (hb1.trans (hb2.mono hb1.size))
 clear ho2 hb2 HCL
 go_wp2
 go_ret
 exact ⟨p2,c22,rfl,HO.out,HB.out⟩
def Z2i (m:Nat) (N:List Rt):Nat->Value->World->Prop
 | 8,v,W | 17,v,W=>∃p c,v = .slice p N.length c/\Row W p (rcs N)
 | 18,v,_=>v = .int .i64 (m:Int)
 | _,_,_=>True
theorem Zou (m:Nat) (N:List Rt):∀i v W W',Below W.heap.size W W'->Z2i m N i v W->Z2i m N i v W':=by
 intro i v W W' hb h
 unfold Z2i at h ⊢
 split at h
 ·obtain ⟨p,c,h1,h2⟩:=h
  exact ⟨p,c,h1,h2.below hb⟩
 ·obtain ⟨p,c,h1,h2⟩:=h
  exact ⟨p,c,h1,h2.below hb⟩
 ·exact h
 ·trivial
set_option maxRecDepth 100000 in
theorem Zq6 (w:World) (K:Nat->Prop) (t:Nat) (E:Eg) (i:Nat) (V:Lv) (HP:EngP w K t E) (hok:E.ok) (hl:E.R.length<=301) (hV:E.L[i]? = some V) :
 Calls Tryz.prog 18 #[.pointer (some ⟨t,0,none⟩),.int .i64 (i:Int)] w fun e w'=>∃p c,e = .returned (.tuple #[.slice p (setS E.R (atE E i) V.n).length c,.int .i64 (V.C.length:Int)])/\Row w' p (rcs (setS E.R (atE E i) V.n))/\Below w.heap.size w w':=by
 obtain ⟨col,v,d,L0,X,p,c,H,-⟩:=HP
 have hi:i<E.L.length:=by
  by_cases h:i<E.L.length
  ·exact h
  ·rw [List.getElem?_eq_none (by omega)] at hV
   cases hV
 rw [List.getElem?_eq_getElem hi] at hV
 have hV:=Option.some.inj hV
 have hXi:i<X.length:=by rw [H.xl];exact hi
 obtain ⟨hlv,hlo⟩:=Zmq E.L E.di hok.lev i hi
 have hL1:=H.lev i hXi hi
 have hxc:=H.xc i hXi hi
 have hs1:=Zgx E.R (atL E.di E.L i) E.L[i].n hok.rts.good
 have hfew:E.L.length<=128:=by have:=Zmr E.L E.di (by have:=hok.dir.2;omega) hok.lev;have:=hok.dir.1;omega
 rw [hV] at hlv hlo hL1 hxc hs1
 have he:atE E i=atL E.di E.L i:=rfl
 rw [he]
 obtain ⟨N,hN⟩:∃N,N=setS E.R (atL E.di E.L i) V.n:=⟨_,rfl⟩
 rw [<-hN] at hlo hs1 ⊢
 obtain ⟨gt,ot,rfl,hgt,t0,t1⟩:=H.ts.tier hXi
 rw [hxc] at t1
 generalize X[i].1=q at *
 have hu:=fun W (h:Below w.heap.size w W)=>Zcp t d W (Nat.lt_of_lt_of_le H.lt h.size) ((h.cell (p:=⟨t,3,none⟩) H.lt).trans H.c3)
 have hke:=fun W (h:Below w.heap.size w W)=>Zj1.keys W _ q V N (hL1.below h) hlo (by omega)
 have HU:=hid hu
 have HKE:=hid hke
 have c4:=H.c4
 have cl:=H.lt
 have i1:(0:Int)<=(i:Int):=by omega
 have i2:(i:Int)<(E.L.length:Int):=by omega
 have i3:¬(i:Int)<0:=by omega
 have i4:¬(E.L.length:Int)<=(i:Int):=by omega
 have i5:¬E.L.length<=i:=by omega
 have hVC:=V.C.length
 clear hu hke H hlo hL1 hxc hs1 hlv hV he hN hfew hok
 go_enter Tryz.func18,Tryz.ntmps18
 go_wp2_with fail
 refine (HU.out _ (Below.refl _ _)).mono ?_
 rintro e w1 ⟨rfl,hb1⟩
 have c4:=(hb1.cell (p:=⟨t,4,none⟩) cl).trans c4
 have t0:=(hb1.cell (p:=⟨gt,ot+i*2,none⟩) hgt).trans t0
 have t1:=(hb1.cell (p:=⟨gt,ot+i*2+1,none⟩) hgt).trans t1
 have cl:=Nat.lt_of_lt_of_le cl hb1.size
 have hgt:=Nat.lt_of_lt_of_le hgt hb1.size
 have HB1:=hid hb1
 clear hb1 HU
 go_wp2_with fail
 have kg:=Zaa
 refine wp_region_noPanic ?_
 generalize hNQ:NoPanic _=NQ
 refine Zcj [0,1,2,4,9,10,11,13] [3,5,6,7,12,14,15,16] [(8,29,[]),(17,4,[(8,29)]),(18,5,[])] [] (Z2i V.C.length N) (Zou V.C.length N) (by kernel_rfl) (by rw [<-hNQ];exact fun _ _ _ h=>h) (by kernel_rfl) (by kernel_rfl) (by kernel_rfl) ?_
 simp only [Zah,List.filterMap_cons,List.filterMap_nil,List.getElem?_toArray,List.getElem?_cons_succ,List.getElem?_cons_zero]
 repeat (any_goals (quiet_step (fail)))
 refine wpQuiet_nil ?_
 clear kg
 refine ⟨by rfl,⟨?_,?_,?_,trivial⟩,?_⟩
 ·intro W hW K hK o ho
  injection ho with ho
  subst ho
  go_simp
  go_at_call 43
  refine (HKE.out W (HB1.out.trans (hW.mono HB1.out.size))).mono ?_
  rintro e w3 ⟨p3,c3,rfl,hr3,hb3⟩
  exact hK _ _ hb3 ⟨p3,c3,rfl,hr3⟩
 ·intro W hW v8 h8 K
  obtain ⟨p8,c8,rfl,hr8⟩:=h8
  go_simp
  intro hK o ho
  injection ho with ho
  subst ho
  go_simp
  exact hK _ _ (Below.refl _ _) ⟨p8,c8,rfl,hr8⟩
 ·intro W hW K
  go_simp
  intro hK o ho
  injection ho with ho
  subst ho
  go_simp
  exact hK _ _ (Below.refl _ _) rfl
 ·intro W hW v8 h8 v17 h17 v18 h18
  obtain rfl:v18=_:=h18
  obtain ⟨p8,c8,rfl,-⟩:=h8
  obtain ⟨p9,c9,rfl,hr⟩:=h17
  have HR:=hid hr
  have HB:=hid (HB1.out.trans (hW.mono HB1.out.size))
  clear hr hW
  show wpList _ _ _ _ _ _
  simp only [Zah,List.filterMap_nil]
  subst hNQ
  go_wp2_with fail
  refine NoPanic.normal ?_
  go_wp2
  go_ret2
  exact ⟨p9,c9,rfl,HR.out,HB.out⟩
attribute [local go_sem] Oper.semAt_some
set_option maxRecDepth 100000 in
theorem Z36 (p:Option Addr) (n c:Nat) (w:World) :
 Calls Tryz.prog 37 #[.slice p n c] w fun e w'=>e = .returned (.func (.func 66) #[] #[.pointer (some ⟨w.heap.size,0,none⟩)])/\w'=w.alloc (.cells #[.slice p n c] 63):=by
 go_enter Tryz.func37,Tryz.ntmps37
 go_wp2
 go_ret
 exact ⟨rfl,rfl⟩
def KpT (Bs:Nat) (p:Option Addr) (A B:World):Prop:=(B.heap[Bs]? = A.heap[Bs]? /\ ∀a,p=some a->B.heap[a.block]? = A.heap[a.block]?)/\A.heap.size<=B.heap.size
theorem Z8d {Bs:Nat} {p:Option Addr} {A B C:World} (h:KpT Bs p A B) (k:KpT Bs p B C):KpT Bs p A C:=⟨⟨k.1.1.trans h.1.1,fun a ha=>(k.1.2 a ha).trans (h.1.2 a ha)⟩,Nat.le_trans h.2 k.2⟩
def dnL (n:Nat):List (Fin n):=(List.finRange n).reverse
theorem Zz0 (n:Nat):(dnL n).length=n:=by simp [dnL]
theorem Z3k (n x:Nat) (h:x<n):(dnL n).take (n-x)=(dnL n).take (n-(x+1))++[⟨x,h⟩]:=by
 rw [show n-x=n-(x+1)+1 by omega,List.take_add_one]
 congr 1
 have:(dnL n)[n-(x+1)]? = some ⟨x,h⟩:=by
  unfold dnL
  rw [List.getElem?_reverse (by rw [List.length_finRange];omega),List.length_finRange,List.getElem?_eq_getElem (by rw [List.length_finRange];omega)]
  congr 1
  apply Fin.ext
  simp
  omega
 rw [this]
 rfl
def encT (X:List (Nat×Nat)) (x:Fin X.length):Array Value := #[.int .i64 ((x.val:Nat):Int),.agg #[.pointer (some ⟨X[x.val].1,0,none⟩),.int .i64 (X[x.val].2:Int)]]
set_option maxRecDepth 100000 in
theorem Zv9 (n:Nat) (hn:1<=n) (Bs:Nat) (p:Option Addr) (c:Nat) (X:List (Nat×Nat)) (hX:X.length<=1000) (w:World) (hB:Bs<w.heap.size) (hc:w.cell? ⟨Bs,0,none⟩=some (.slice p X.length c)) (hR:Row w p (tcs X)) :
 SeqStopsK Fence.wide n Tryz.prog 66 #[.pointer (some ⟨Bs,0,none⟩)] (encT X) (KpT Bs p) (fun ys=>ys=dnL X.length) (fun pre=>pre <+: dnL X.length) X.length w:=fun l J Jx W hW _ _ hY h0=>by
 have hc:=(hW.cell (p:=⟨Bs,0,none⟩) hB).trans hc
 have hB:=Nat.lt_of_lt_of_le hB hW.size
 have hR:=hR.below hW
 have HR:=hid hR
 have HY:=hid hY
 have HJ:Hid (J ((dnL X.length).take (X.length-X.length)) W):=hid (by rw [Nat.sub_self];exact h0)
 have HD:=hid (Z3k X.length)
 clear hR hY h0 hW
 refine callsIn_of_wp Tryz.func66 rfl trivial ?_ rfl
 simp only [Tryz.ntmps66,List.size_toArray,List.length_cons,List.length_nil,Nat.reduceAdd,Nat.reduceSub,Array.replicate_succ,Array.replicate_zero,List.push_toArray,List.append_toArray,List.nil_append,List.cons_append]
 gi_wp2
 gi_loopw [3] (fun s3 wr=>∃j:Nat,j<=X.length/\s3 = .int .i64 ((j:Int)-1)/\Hid (J ((dnL X.length).take (X.length-j)) wr)/\Hid (KpT Bs p W wr)) (fun s3 _=>(intOf s3+1).toNat)
 case atStart=>exact ⟨X.length,Nat.le_refl _,rfl,HJ,hid ⟨⟨rfl,fun _ _=>rfl⟩,Nat.le_refl _⟩⟩
 case round=>
  clear HJ
  obtain ⟨j,hj,rfl,HJ,HK⟩:=hrel
  cases j with
  | zero=>
   have HJ2:Hid (J (dnL X.length) wr):=hid (by
    have:=HJ.out
    rwa [Nat.sub_zero,List.take_of_length_le (by rw [Zz0];exact Nat.le_refl _)] at this)
   clear HJ
   gi_wp2
   go_end0
   exact ⟨⟨_,rfl⟩,.inl ⟨_,rfl,HJ2.out⟩⟩
  | succ x=>
   have hx:x<X.length:=by omega
   obtain ⟨g,o,rfl,hg,x0,x1⟩:=HR.out.tier hx
   have e1:(((x+1:Nat)):Int)-1=(x:Int):=by omega
   rw [e1]
   have hk:=HK.out
   have c0:=(World.cell?_of_block (a:=⟨Bs,0,none⟩) hk.1.1).trans hc
   have x0:=(World.cell?_of_block (a:=⟨g,o+x*2,none⟩) (hk.1.2 ⟨g,o,none⟩ rfl)).trans x0
   have x1:=(World.cell?_of_block (a:=⟨g,o+x*2+1,none⟩) (hk.1.2 ⟨g,o,none⟩ rfl)).trans x1
   have hlen:((dnL X.length).take (X.length-(x+1))).length<X.length:=by rw [List.length_take,Zz0];omega
   obtain ⟨fn,tmps,assign,body,hy,hR⟩:=HY.out _ ⟨x,hx⟩ wr HJ.out hlen
   unfold encT at hy
   dsimp only at hy
   have HRR:=hid hR
   have i1:(0:Int)<=(x:Int):=by omega
   have i2:(x:Int)<(X.length:Int):=by omega
   generalize X[x].1=qx at *
   generalize X[x].2=nx at *
   clear hR hk
   gi_wp2
   refine HRR.out.mono ?_
   rintro e W3 (⟨rfl,hJ3,hk3⟩ | ⟨rfl,hJx3⟩)
   ·have HN:Hid (J ((dnL X.length).take (X.length-x)) W3):=hid (by rw [HD.out x hx];exact hJ3)
    have HK3:=hid (Z8d HK.out hk3)
    clear hJ3 hk3 HRR HJ
    gi_wp2
    go_roundw
    case rel=>exact ⟨x,by omega,by go_num,HN,HK3⟩
    case measure=>simp [intOf]
   ·have HN:Hid (Jx ((dnL X.length).take (X.length-x)) W3):=hid (by rw [HD.out x hx];exact hJx3)
    clear hJx3 HRR HJ
    gi_wp2
    refine bodyPost_ret (results_none rfl _ _ _) rfl ?_
    exact ⟨⟨_,rfl⟩,.inr ⟨_,List.take_prefix _ _,HN.out⟩⟩
end
section
open M
theorem Zff (ah al:Nat) (V:Lv) (M:List Lv):Zam ah al (V::M)=if V.may ah al then (match V.hit ah al with
 | some v=>(some v,[V.n])
 | none=>((Zam ah al M).1,V.n::(Zam ah al M).2)) else Zam ah al M:=rfl
theorem Zyu {ah al:Nat} {V:Lv} (h:V.may ah al=false):V.hit ah al=none:=by
 unfold Lv.hit
 rw [h]
 rfl
theorem Zq5 {ah al:Nat}:∀{X:List Lv} (Y:List Lv),(Zam ah al X).1=none->(Zam ah al (X++Y)).2=(Zam ah al X).2++(Zam ah al Y).2
 | [],Y,_=>rfl
 | V::X,Y,h=>by
  rw [Zev,Option.or_eq_none_iff] at h
  have ih:=Zq5 (X:=X) Y h.2
  rw [List.cons_append,Zff,Zff,h.1]
  by_cases hm:V.may ah al=true
  ·rw [if_pos hm,if_pos hm]
   show V.n::_=(V.n::_)++_
   rw [ih]
   rfl
  ·rw [if_neg hm,if_neg hm,ih]
theorem Zjy {ah al:Nat}:∀{X:List Lv} (Y:List Lv) {v:Int},(Zam ah al X).1=some v->Zam ah al (X++Y)=Zam ah al X
 | [],Y,v,h=>by cases h
 | V::X,Y,v,h=>by
  rw [List.cons_append,Zff,Zff]
  rw [Zev] at h
  by_cases hm:V.may ah al=true
  ·rw [if_pos hm,if_pos hm]
   cases hh:V.hit ah al with
   | some u=>rfl
   | none=>
    rw [hh,Option.none_or] at h
    simp only [Zjy Y h]
  ·rw [if_neg hm,if_neg hm]
   have hf:V.may ah al=false:=by simpa using hm
   rw [Zyu hf,Option.none_or] at h
   exact Zjy Y h
theorem Zow {ah al:Nat} {X:List Lv} {V:Lv} (h:(Zam ah al X).1=none) (hm:V.may ah al=false):Zam ah al (X++[V])=Zam ah al X:=by
 have h1:=Zd6 ah al X [V]
 have h2:=Zq5 [V] h
 have h3:Zam ah al [V]=(none,[]):=by rw [Zff,hm];rfl
 rw [h3] at h1 h2
 rw [h] at h1
 exact Prod.ext (h1.trans h.symm) (by rw [h2,List.append_nil])
theorem Zmp {ah al:Nat} {X:List Lv} {V:Lv} (h:(Zam ah al X).1=none) (hm:V.may ah al=true):(Zam ah al (X++[V])).1=V.hit ah al/\(Zam ah al (X++[V])).2=(Zam ah al X).2++[V.n]:=by
 have h1:=Zd6 ah al X [V]
 have h2:=Zq5 [V] h
 have h3:Zam ah al [V]=(V.hit ah al,[V.n]):=by
  rw [Zff,if_pos hm]
  cases V.hit ah al<;>rfl
 rw [h3] at h1 h2
 rw [h,Option.none_or] at h1
 exact ⟨h1,h2⟩
theorem Z4s {R:List Rt}:∀(L:List Lv) (a:Int),EgLv R a L->∀(i:Nat) (h:i<L.length),L[i].n<=topE a L
 | V::L,a,⟨_,h2⟩,0,_=>by
  have:=Znm L V.n h2
  unfold topE
  simpa using this
 | V::L,a,⟨_,h2⟩,i+1,h=>by
  have:=Z4s L V.n h2 i (by simpa using h)
  unfold topE
  simpa using this
end
end Go.Proofs.YtgfjmgebecmbiaaGreat
