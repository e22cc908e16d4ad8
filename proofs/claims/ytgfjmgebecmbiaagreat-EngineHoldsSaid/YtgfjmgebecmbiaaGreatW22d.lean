import Derived.Test.YtgfjmgebecmbiaaGreatW22c
set_option linter.unusedSimpArgs false
set_option linter.unusedVariables false
set_option maxHeartbeats 4000000
namespace Go.Proofs.YtgfjmgebecmbiaaGreat
open Lib(hid)
open Go Go.RowKit Go.Sort M
def Z69 (w wr:World) (K:Nat->Prop) (t:Nat) (E:Eg) (R':List Rt) (v:Value) (d:Nat) (L0:List Rt) (X:List (Nat×Nat)) (p:Option Addr) (c:Nat) (i:Nat):Prop:=
 ∃K' col',EngB wr K' t { E with L:=midE E.R R' E.di E.L i } col' v d L0 X p c/\Touch K w wr/\∀g,K' g->K g\/In w.heap.size wr.heap.size g
def ldD (n:Int) (B:Nat) (Y:List Ch):Nat->Value->World->Prop
 | 11,v,_=>v = .int .i64 n
 | 12,v,W=>∃p c,v = .slice p Y.length c/\W.ownsRow B 143 5 (.slice p Y.length c) Y.length (ccs Y)
 | _,_,_=>True
theorem Zvr (n:Int) (B:Nat) (Y:List Ch):∀i v W W',Below W.heap.size W W'->ldD n B Y i v W->ldD n B Y i v W':=by
 intro i v W W' hb h
 unfold ldD at h ⊢
 split at h
 ·exact h
 ·obtain ⟨p,c,h1,h2⟩:=h
  exact ⟨p,c,h1,own_below h2 hb⟩
 ·trivial
set_option maxRecDepth 100000 in
theorem Zld (w:World) (K:Nat->Prop) (t:Nat) (E:Eg) (col:Nat->Nat) (v:Value) (d:Nat) (L0:List Rt) (X:List (Nat×Nat)) (p:Option Addr) (c:Nat) (k:Ky) (hop:Int) (H:EngB w K t E col v d L0 X p c) (hok:E.ok) (hk:k.good) (hl:E.R.length<=300)
 (h1:0<=hop\/hop = -1) :
 Calls Tryz.prog 30 #[.pointer (some ⟨t,0,none⟩),kyV k,.int .i64 hop] w fun e w'=>e = .returned (.tuple #[])/\∃K' col',EngB w' K' t { E with L:=Zd2 E.R (lvlM E.R k hop) E.di E.L } col' v d L0 X p c/\Touch K w w'/\∀g,K' g->K g\/In w.heap.size w'.heap.size g:=by
 obtain ⟨rp,rc,rfl⟩:=Zag H.own
 have hR':Zie (lvlM E.R k hop):=by
  rcases h1 with h1 | h1
  ·rw [Zyr hok.rts.sort k hop h1]
   exact Zrb hok.rts hk h1
  ·rw [h1,Zyt]
   exact Zx6 hok.rts k
 have hlev:=fun W (h:Row W rp (rcs E.R)) (low high:Int)=>Z2n rp rc E.R k hop low high W h hok.rts.good hk (Zcq H.own) (Zbl H.own) hl
 rw [Zej hok.rts.sort] at hlev
 have hfew:=fun (low high:Int) (q1:low<high) (q2:high-low<=8)=>Z6f hok.rts.sort (fun r hr=>hok.rts.good r hr) hk hop q1 q2
 obtain ⟨R',hR'e⟩:∃R',R'=lvlM E.R k hop:=⟨_,rfl⟩
 rw [<-hR'e] at hR' hlev hfew ⊢
 have hsl:=fun low high=>Zgx E.R low high hok.rts.good
 obtain ⟨W0,hW0⟩:∃W:World,W=w.alloc (.cells #[.int .u64 (k.h:Int),.int .u64 (k.l:Int),.int .i64 k.n] 39):=⟨_,rfl⟩
 have hb0:Below w.heap.size w W0:=by rw [hW0];go_grown
 have hz0:W0.heap.size=w.heap.size+1:=by rw [hW0];simp
 have u0:W0.cell? ⟨w.heap.size,0,none⟩=some (.int .u64 (k.h:Int)):=by rw [hW0];simp [go_sem]
 have u1:W0.cell? ⟨w.heap.size,1,none⟩=some (.int .u64 (k.l:Int)):=by rw [hW0];simp [go_sem]
 have u2:W0.cell? ⟨w.heap.size,2,none⟩=some (.int .i64 k.n):=by rw [hW0];simp [go_sem]
 have H0:=H.old.below hb0
 obtain ⟨K0,hK0⟩:∃K0:Nat->Prop,K0=fun j=>K j/\j<w.heap.size:=⟨_,rfl⟩
 rw [<-hK0] at H0
 have hnb:¬K0 w.heap.size:=by rw [hK0];intro h;have:=h.2;omega
 have hKK:∀g,K0 g->K g:=by rw [hK0];exact fun g h=>h.1
 have d1:=H0.c1
 have d4:=H0.c4
 have dl:=H0.lt
 have HI:Hid (Z69 W0 W0 K0 t E R' (.slice rp E.R.length rc) d L0 X p c 0):=hid ⟨K0,col,by rw [Zyn];exact H0,Touch.refl _ _,fun g h => .inl h⟩
 have HLEV:=hid hlev
 have HFEW:=hid hfew
 have HSL:=hid hsl
 have hfewL:E.L.length<=128:=by have:=Zmr E.L E.di (by have:=hok.dir.2;omega) hok.lev;have:=hok.dir.1;omega
 have HOK:=hid hok
 have HR':=hid hR'
 have HTS:=hid H0.ts
 have HXL:=hid H0.xl
 have HKK:=hid hKK
 have HB0:=hid hb0
 have HNB:=hid hnb
 have HZ0:=hid hz0
 have HKG:=hid hk
 have HPL:=hid (fun a ha=>(H0.kp a ha).2)
 have HKP:=hid (fun a ha=>(H0.kp a ha).1)
 have hfin:∀w',Z69 W0 w' K0 t E R' (.slice rp E.R.length rc) d L0 X p c E.L.length->∃K' col',EngB w' K' t { E with L:=Zd2 E.R R' E.di E.L } col' (.slice rp E.R.length rc) d L0 X p c/\Touch K w w'/\∀g,K' g->K g\/In w.heap.size w'.heap.size g:=by
  rintro w' ⟨K',col',q1,q2,q3⟩
  rw [Z2d] at q1
  refine ⟨K',col',q1,Touch.trans (Touch.quiet HB0.out) (q2.mono fun g _ h=>HKK.out g h),fun g hg => ?_⟩
  rcases q3 g hg with h | h
  ·exact .inl (HKK.out g h)
  ·exact .inr ⟨Nat.le_trans HB0.out.size h.1,h.2⟩
 have HFIN:=hid hfin
 have hz1:w.heap.size<W0.heap.size:=by omega
 clear hlev hfew hsl hok hR' hR'e H H0 hK0 hnb hKK hb0 hz0 hk hfin h1
 unfold kyV at HLEV ⊢
 go_enter Tryz.func30,Tryz.ntmps30
 go_upto_region 1 with fail
 rw [<-hW0]
 clear hW0
 go_wp2
 go_loopg [6,18] E.L.length (fun kx s6 s18 wr=>∃i:Nat,s18 = .int .i64 (i:Int)/\s6 = .int .i64 (atL E.di E.L i)/\E.L.length-i<=kx/\i<=E.L.length/\Hid (Z69 W0 wr K0 t E R' (.slice rp E.R.length rc) d L0 X p c i))
 case atStart=>exact ⟨0,rfl,rfl,by omega,by omega,HI⟩
 case round=>
  clear HI
  obtain ⟨i,rfl,rfl,k1,k2,HI⟩:=hrel
  by_cases hi:i<E.L.length
  ·obtain ⟨K1,col1,HE1,HT1,HG1⟩:=HI.out
   have hXi:i<X.length:=by rw [HXL.out];exact hi
   obtain ⟨gt,ot,rfl,hgt,t0,t1⟩:=HE1.ts.tier hXi
   obtain ⟨K2,hK2⟩:∃K2:Nat->Prop,K2=fun j=>K1 j/\j<wr.heap.size:=⟨_,rfl⟩
   have HE2:=HE1.old
   rw [<-hK2] at HE2
   have hn2:∀j,K2 j->j<wr.heap.size:=by rw [hK2];exact fun j h=>h.2
   have hG2:∀g,K2 g->K0 g\/In W0.heap.size wr.heap.size g:=by rw [hK2];exact fun g h=>HG1 g h.1
   have hmid:=Z52 E.R R' E.di E.L i hi
   have hmset:=Z2b E.R R' E.di E.L i hi
   have hml:=Z2c E.R R' E.di E.L i (by omega)
   obtain ⟨hlv,hlo⟩:=Zmq E.L E.di HOK.out.lev i hi
   have hatS:=Zna E.di E.L i hi
   have hmi:i<(midE E.R R' E.di E.L i).length:=by omega
   have hmid2:(midE E.R R' E.di E.L i)[i]=E.L[i]:=by rw [List.getElem?_eq_getElem hmi] at hmid;exact Option.some.inj hmid
   have hL1:=HE2.lev i hXi hmi
   simp only [hmid2] at hL1
   have hlevc:=HLEV.out
   have hf1:=HFEW.out (atL E.di E.L i) E.L[i].n hlv.2.1 hlv.2.2.1
   have hs1:=HSL.out (atL E.di E.L i) E.L[i].n
   have u0:=HT1.cell u0 HNB.out
   have u1:=HT1.cell u1 HNB.out
   have u2:=HT1.cell u2 HNB.out
   have c2:=HE2.c2
   have cl:=HE2.lt
   have hzb:=Nat.lt_of_lt_of_le hz1 HT1.size
   have hRow:=Row.of_own HE2.own
   have hgood:=Zla (A:=setS E.R (atL E.di E.L i) E.L[i].n) (B:=setS R' (atL E.di E.L i) E.L[i].n) (fun r hr=>(Zfb HOK.out.rts.good hr).1) (fun r hr=>(Zfb HR'.out.good hr).1)
   have hlevc:=fun W h=>HLEV.out W h (atL E.di E.L i) E.L[i].n
   obtain ⟨Y,hY⟩:∃Y,Y=ofS (setS E.R (atL E.di E.L i) E.L[i].n) (setS R' (atL E.di E.L i) E.L[i].n):=⟨_,rfl⟩
   rw [<-hY] at hmset hgood hlevc hf1
   obtain ⟨low,hlow⟩:∃low,low=atL E.di E.L i:=⟨_,rfl⟩
   rw [<-hlow] at hlv hlo hlevc hs1 ⊢
   have hcs:=(Zws E.L[i] Y).2.2
   have hns:=Zhq E.L[i] Y
   generalize E.L[i]=V at *
   obtain ⟨q,hq⟩:∃q,q=X[i].1:=⟨_,rfl⟩
   obtain ⟨nb,hnb2⟩:∃n,n=X[i].2:=⟨_,rfl⟩
   rw [<-hq] at t0 hL1
   rw [<-hnb2] at t1
   have HQ:=hid hq
   have i1:(0:Int)<=(i:Int):=by omega
   have i2:(i:Int)<(E.L.length:Int):=by omega
   have HL1:=hid hL1
   have HE2':=hid HE2
   have HLO:=hid hlo
   have HLC:=hid hlevc
   have HGD:=hid hgood
   have HG2:=hid hG2
   have HN2:=hid hn2
   have HT1':=hid HT1
   have HMS:=hid hmset
   have HCS:=hid hcs
   have HNS:=hid hns
   have HRW:=hid hRow
   have HAS:=hid hatS
   have HMI:=hid hmi
   have HM2:=hid hmid2
   have HXI:=hid hXi
   have HLB:Hid (Y.length<=256/\(setS E.R low V.n).length<=256*E.R.length/\0<=V.n):=hid ⟨hf1,hs1,by omega⟩
   clear hL1 HE1 HE2 hlo hlevc hgood hG2 hn2 HT1 hmset hcs hns hRow hatS hmid2 hf1 hs1 HI HG1 hK2 hmid hml hlv hlow hY hq hnb2
   go_wp2_with fail
   obtain ⟨W1,hW1⟩:∃W,W=wr.alloc (.cells #[.pointer (some ⟨q,0,none⟩),.int .i64 (nb:Int)] 72):=⟨_,rfl⟩
   try rw [<-hW1]
   have hbW1:Below wr.heap.size wr W1:=by rw [hW1];go_grown
   have zW1:W1.heap.size=wr.heap.size+1:=by rw [hW1];simp
   have b0:W1.cell? ⟨wr.heap.size,0,none⟩=some (.pointer (some ⟨q,0,none⟩)):=by rw [hW1];simp [go_sem]
   have c2:=(hbW1.cell (p:=⟨t,2,none⟩) cl).trans c2
   have u0:=(hbW1.cell (p:=⟨w.heap.size,0,none⟩) hzb).trans u0
   have u1:=(hbW1.cell (p:=⟨w.heap.size,1,none⟩) hzb).trans u1
   have u2:=(hbW1.cell (p:=⟨w.heap.size,2,none⟩) hzb).trans u2
   have cl1:=Nat.lt_of_lt_of_le cl hbW1.size
   have hzb1:=Nat.lt_of_lt_of_le hzb hbW1.size
   have hbb:wr.heap.size<W1.heap.size:=by omega
   have HBW:=hid hbW1
   have HBITS:=hid (fun W (h:LevP W (fun j=>col1 j=i+4/\K2 j) q V)=>Zj1.bits W _ q V h)
   have HZW:=hid zW1
   have HC2:=hid c2
   clear hbW1 hW1 zW1
   have kg:=Zaa
   refine wp_region_noPanic ?_
   generalize hNQ:NoPanic _=NQ
   refine Zhy [0,2,3,4,7,8,9] [1,5,6,10] [(11,33,[]),(12,34,[(11,33)])] [13] (ldD V.n W1.heap.size Y) (Zvr _ _ _) (by kernel_rfl) (by rw [<-hNQ];exact fun _ _ _ h=>h) (by kernel_rfl) (by kernel_rfl) (by kernel_rfl) ?_
   simp only [Zah,List.filterMap_cons,List.filterMap_nil,List.getElem?_toArray,List.getElem?_cons_succ,List.getElem?_cons_zero]
   repeat (any_goals (quiet_step (fail)))
   refine wpQuiet_nil ?_
   clear kg
   refine ⟨by rfl,⟨?_,?_,trivial⟩,?_⟩
   ·intro W hW K hK o ho
    injection ho with ho
    subst ho
    go_simp
    go_at_call 39
    refine (HBITS.out W (HL1.out.below (HBW.out.trans (hW.mono HBW.out.size)))).mono ?_
    rintro e w3 ⟨rfl,hb3⟩
    exact hK _ _ hb3 rfl
   ·intro W hW v11 h11 K
    obtain rfl:v11=_:=h11
    go_simp
    intro hK o ho
    injection ho with ho
    subst ho
    go_simp
    go_at_call 58
    refine (HLC.out W (HRW.out.below (HBW.out.trans (hW.mono HBW.out.size)))).mono ?_
    rintro e w3 ⟨p3,c3,rfl,ho3,hb3⟩
    exact hK _ _ hb3 ⟨p3,c3,rfl,Za4 ho3 hW.size⟩
   ·intro W hW v11 h11 v12 h12
    obtain rfl:v11=_:=h11
    obtain ⟨p3,c3,rfl,ho3⟩:=h12
    have hWr:Below wr.heap.size wr W:=HBW.out.trans (hW.mono HBW.out.size)
    have hpn:∀a,p3=some a->¬(col1 a.block=i+4/\K2 a.block):=fun a ha hc=>by
     subst ha
     have h1:=(ho3.lt a.block rfl).1
     have h2:=HN2.out _ hc.2
     have h3:=HZW.out
     omega
    have hlb:=HLB.out
    have hER:=HOK
    have HTU:=hid (Zj1.turn W (fun j=>col1 j=i+4/\K2 j) q V _ p3 c3 Y (HL1.out.below hWr) HLO.out HGD.out (by omega) (Zbl ho3) (Row.of_own ho3) hpn)
    have HWR:=hid hWr
    have b0:=(hW.cell (p:=⟨wr.heap.size,0,none⟩) hbb).trans b0
    have HW:=hid hW
    clear hpn hWr ho3 hW HLC HRW HBITS hlb hER u0 u1 u2 c2
    show wpList _ _ _ _ _ _
    simp only [Zah,List.filterMap_cons,List.filterMap_nil,List.getElem?_toArray,List.getElem?_cons_succ,List.getElem?_cons_zero]
    subst hNQ
    go_wp2_with fail
    refine HTU.out.mono ?_
    rintro e w6 ⟨rfl,K6,hP6,hT6,hG6⟩
    have b0:=hT6.cell b0 (fun h=>Nat.lt_irrefl _ (HN2.out _ h.2))
    have hbb6:=Nat.lt_of_lt_of_le (Nat.lt_of_lt_of_le hbb HW.out.size) hT6.size
    have HE6:=hid ((HE2'.out.below HWR.out).lev_step (i:=i) HXI.out (by rw [<-HQ.out];exact hP6) hG6 hT6 (fun h2=>by simp only [HM2.out];exact HCS.out))
    have HT6:=hid (Zas (HT1'.out.trans (Touch.quiet HWR.out)) (fun g (hg:col1 g=i+4/\K2 g)=>(HG2.out g hg.2).imp id fun h=>h.1) hT6)
    have HB6:=hid (fun W (h:LevP W K6 q (V.turns Y))=>Zj1.bits W _ q _ h)
    have HP6:=hid hP6
    have hsz6:=hT6.size
    have hszW:=HWR.out.size
    clear hP6 hT6 hG6 HTU
    go_wp2_with fail
    refine NoPanic.normal ?_
    go_wp2_with fail
    refine (HB6.out _ HP6.out).mono ?_
    rintro e w7 ⟨rfl,hb7⟩
    rw [HNS.out]
    go_wp2
    go_roundg (E.L.length-(i+1))
    case measure=>omega
    case rel=>
     refine ⟨i+1,by go_num,by rw [HAS.out],by omega,by omega,hid ⟨_,_,(by have:=HE6.out.below hb7;simp only [HMS.out] at this;exact this),HT6.out.trans (Touch.quiet hb7),fun g hg => ?_⟩⟩
     have hsz7:=hb7.size
     have hsz0:=HT1'.out.size
     rcases hg with hg | hg
     ·rcases HG2.out g hg with h | h
      ·exact .inl h
      ·exact .inr ⟨h.1,by have:=h.2;omega⟩
     ·exact .inr ⟨by have:=hg.1;omega,by have:=hg.2;omega⟩
  ·obtain rfl:i=E.L.length:=by omega
   go_wp2
   go_end0
   exact ⟨rfl,HFIN.out _ HI.out⟩
end Go.Proofs.YtgfjmgebecmbiaaGreat
