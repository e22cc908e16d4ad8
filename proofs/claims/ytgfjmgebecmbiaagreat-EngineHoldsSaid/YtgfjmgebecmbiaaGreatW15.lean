import Derived.Test.YtgfjmgebecmbiaaGreatW21b
import Derived.Test.YtgfjmgebecmbiaaGreatM22d
import Derived.Test.YtgfjmgebecmbiaaGreatStbR
set_option linter.unusedSimpArgs false
set_option linter.unusedVariables false
set_option maxHeartbeats 4000000
namespace Go.Proofs.YtgfjmgebecmbiaaGreat
open Lib(hid)
open Go Go.RowKit Go.Sort M
def Zec (w wr:World) (K:Nat->Prop) (t:Nat) (V:Lv) (N:List Rt):Prop:=LvOk V N/\∃K',LevP wr K' t V/\Touch K w wr/\∀g,K' g->K g\/In w.heap.size wr.heap.size g
theorem Zec.below {w wr w':World} {K:Nat->Prop} {t:Nat} {V:Lv} {N:List Rt} (h:Zec w wr K t V N) (hb:Below wr.heap.size wr w'):Zec w w' K t V N:=by
 obtain ⟨h1,K',h2,h3,h4⟩:=h
 refine ⟨h1,K',h2.below hb,h3.trans (.quiet hb),fun g hg => ?_⟩
 rcases h4 g hg with h | h
 ·exact .inl h
 ·exact .inr ⟨h.1,Nat.lt_of_lt_of_le h.2 hb.size⟩
theorem Zec.step {w wr w':World} {K K':Nat->Prop} {t:Nat} {V':Lv} {N':List Rt} (hV:LvOk V' N') (h3:Touch K w wr) (h4:∀g,K' g->K g\/In w.heap.size wr.heap.size g) (hS:Zdq wr w' K' t V'):Zec w w' K t V' N':=by
 obtain ⟨K'',h2,hT,hK⟩:=hS
 refine ⟨hV,K'',h2,Zas h3 (fun g hg=>(h4 g hg).imp id fun h=>h.1) hT,fun g hg => ?_⟩
 rcases hK g hg with h | h
 ·rcases h4 g h with h | h
  ·exact .inl h
  ·exact .inr ⟨h.1,Nat.lt_of_lt_of_le h.2 hT.size⟩
 ·exact .inr ⟨Nat.le_trans h3.size h.1,h.2⟩
set_option maxRecDepth 100000 in
theorem Zqs (w:World) (K:Nat->Prop) (t:Nat) (V:Lv) (N:List Rt) (p:Option Addr) (c:Nat) (L:List Ch) (H:LevP w K t V) (HV:LvOk V N) (hg:∀x∈L,x.k.good) (hl:N.length+L.length<=100000) (hR:Row w p (ccs L)) (hp:∀a,p=some a->¬K a.block) :
 Calls Tryz.prog 57 #[.pointer (some ⟨t,0,none⟩),.slice p L.length c] w fun e w'=>e = .returned (.tuple #[])/\∃K',LevP w' K' t (V.turns L)/\Touch K w w'/\∀g,K' g->K g\/In w.heap.size w'.heap.size g:=by
 have HR:=hid hR
 have HG:=hid hg
 have HP:=hid hp
 have HV0:=hid HV
 have HI:Hid (Zec w w K t (V.turns (L.take 0)) (Zek V.n N (L.take 0))):=hid ⟨HV,K,H,Touch.refl _ _,fun g h => .inl h⟩
 clear hR hg hp H HV
 go_enter Tryz.func57,Tryz.ntmps57
 go_wp2
 go_loopg [10] L.length (fun kx s10 wr=>∃i:Nat,s10 = .int .i64 (i:Int)/\L.length-i<=kx/\i<=L.length/\Hid (Zec w wr K t (V.turns (L.take i)) (Zek V.n N (L.take i))))
 case atStart=>exact ⟨0,rfl,by omega,by omega,HI⟩
 case round=>
  clear HI
  obtain ⟨i,rfl,k1,k2,HI⟩:=hrel
  by_cases hi:i<L.length
  ·obtain ⟨g0,o0,rfl,hg0,x0,x1,x2,x3,x4⟩:=HR.out.ch hi
   have hng:¬K g0:=HP.out _ rfl
   obtain ⟨hV,K1,⟨lo,hi1,f,u,hB0⟩,hT,hK⟩:=HI.out
   have hB:=hB0.old
   obtain ⟨K2,hK2⟩:∃K2:Nat->Prop,K2=fun j=>K1 j/\j<wr.heap.size:=⟨_,rfl⟩
   rw [<-hK2] at hB
   have hKs:∀g,K2 g->K g\/In w.heap.size wr.heap.size g:=fun g hg=>by rw [hK2] at hg;exact hK g hg.1
   have hnb:¬K2 wr.heap.size:=fun h=>by rw [hK2] at h;have:=h.2;omega
   have hsn:L.take (i+1)=L.take i++[L[i]]:=List.take_succ_eq_append_getElem hi
   have hgd:=HG.out _ (List.getElem_mem hi)
   have hlen:=(HV0.out.turns (L.take i) (fun x hx=>HG.out x (List.mem_of_mem_take hx))).2
   rw [List.length_take] at hlen
   have hnn:=Zhq V (L.take i)
   have z0:=hT.cell x0 hng
   have z1:=hT.cell x1 hng
   have z2:=hT.cell x2 hng
   have z3:=hT.cell x3 hng
   have z4:=hT.cell x4 hng
   have hgl:=Nat.lt_of_lt_of_le hg0 hT.size
   have i1:(0:Int)<=(i:Int):=by omega
   have i2:(i:Int)<(L.length:Int):=by omega
   have hlast:∀wx,Zec w wx K t ((V.turns (L.take i)).turn L[i]) (rowT V.n (Zek V.n N (L.take i)) L[i])->Zec w wx K t (V.turns (L.take (i+1))) (Zek V.n N (L.take (i+1))):=fun wx h=>by
    rw [hsn,Lv.turns_snoc,Zhx]
    exact h
   have hVn:=hV.turn L[i] hgd
   rw [hnn] at hVn
   have hM:(Zek V.n N (L.take i)).length<=100000:=by omega
   generalize L[i]=x at *
   obtain ⟨V1,hV1⟩:∃V1,V1=V.turns (L.take i):=⟨_,rfl⟩
   obtain ⟨N1,hN1⟩:∃N1,N1=Zek V.n N (L.take i):=⟨_,rfl⟩
   rw [<-hV1] at hV hB hlast hVn hnn
   rw [<-hN1] at hV hlast hM
   rw [<-hN1] at hVn
   obtain ⟨⟨kh,kl,kn⟩,xo,nw⟩:=x
   simp only at z0 z1 z2 z3 z4 hgd
   have HB:=hid hB
   have HVI:=hid hV
   have HVN:=hid hVn
   have HLA:=hid hlast
   have HTT:=hid hT
   have HKK:=hid hKs
   have HGD:=hid hgd
   clear HI hV hB hB0 hT hK hKs hK2 x0 x1 x2 x3 x4 hsn hlast hVn hV1 hN1 hlen hgd
   have d0:=HB.out.c0
   change _=some (Value.int .i64 V1.n) at d0
   have dl:=HB.out.lt
   have htb:t≠wr.heap.size:=by omega
   go_wp2_with fail
   obtain ⟨W1,hW1⟩:∃W,W=wr.alloc (.cells #[.int .u64 (kh:Int),.int .u64 (kl:Int),.int .i64 kn,.int .i64 xo,.int .i64 nw] 143):=⟨_,rfl⟩
   try rw [<-hW1]
   have hw:Below wr.heap.size wr W1:=by rw [hW1];go_grown
   have e0:W1.cell? ⟨wr.heap.size,0,none⟩=some (.int .u64 (kh:Int)):=by rw [hW1];simp [go_sem]
   have e1:W1.cell? ⟨wr.heap.size,1,none⟩=some (.int .u64 (kl:Int)):=by rw [hW1];simp [go_sem]
   have e2:W1.cell? ⟨wr.heap.size,2,none⟩=some (.int .i64 kn):=by rw [hW1];simp [go_sem]
   have e4:W1.cell? ⟨wr.heap.size,4,none⟩=some (.int .i64 nw):=by rw [hW1];simp [go_sem]
   have hbl:wr.heap.size<W1.heap.size:=by rw [hW1];simp
   have HB:=hid (HB.out.below hw)
   clear hW1 d0 dl z0 z1 z2 z3 z4
   have d0:=HB.out.c0
   change _=some (Value.int .i64 V1.n) at d0
   have dl:=HB.out.lt
   have hE:∀W2 wx,Below wr.heap.size wr W2->Zdq W2 wx K2 t (V1.turn ⟨⟨kh,kl,kn⟩,xo,nw⟩)->Zec w wx K t (V.turns (L.take (i+1))) (Zek V.n N (L.take (i+1))):=fun W2 wx h2 hS=>
    HLA.out _ (Zec.step HVN.out (HTT.out.trans (.quiet h2)) (fun g hg=>(HKK.out g hg).imp id fun h=>⟨h.1,Nat.lt_of_lt_of_le h.2 h2.size⟩) hS)
   have HE:=hid hE
   clear hE
   by_cases hkn:kn=V1.n
   ·have nq:(kn != V1.n)=false:=by simpa using hkn
    have HKN:=hid hkn
    clear hkn hnn
    have kg:=Zaa
    refine Zab (by kernel_rfl) (by kernel_rfl) ?_
    repeat (any_goals (first|go_big_quiet_step (fail)|quiet_step (fail)))
    refine wpQuiet_nil ?_
    clear kg
    intro w5 hb5
    obtain ⟨hc5,hf5⟩:=Zaf hb5
    have hw5:=hw.trans (hb5.mono hw.size)
    have HB:=hid (HB.out.below hb5)
    have e0:=(hc5 _ _ hbl).trans e0
    have e1:=(hc5 _ _ hbl).trans e1
    have e2:=(hc5 _ _ hbl).trans e2
    have e4:=(hc5 _ _ hbl).trans e4
    have hbl:=Nat.lt_of_lt_of_le hbl hb5.size
    clear hw hb5 hc5 hf5 d0 dl
    by_cases h0:0<=nw
    ·have HP:=hid (fun (w5:World) (h:LevP w5 K2 t V1)=>Zxz w5 K2 t V1 N1 kh kl kn xo nw h HVI.out HGD.out HKN.out h0 hM)
     have h1:¬nw<0:=by omega
     clear h0
     go_wp2_with fail
     refine (HP.out _ ⟨lo,hi1,f,u,HB.out⟩).mono ?_
     rintro e w7 ⟨rfl,hS⟩
     have HS:=hid hS
     clear hS
     go_wp2
     go_roundg (L.length-(i+1))
     case measure=>omega
     case rel=>exact ⟨i+1,by go_num,by omega,by omega,hid (HE.out _ _ hw5 HS.out)⟩
    ·have HP:=hid (fun (w5:World) (h:LevP w5 K2 t V1)=>Zn5 w5 K2 t V1 N1 kh kl kn xo nw h HVI.out HGD.out HKN.out h0 hM)
     have h1:nw<0:=by omega
     clear h0
     go_wp2_with fail
     refine (HP.out _ ⟨lo,hi1,f,u,HB.out⟩).mono ?_
     rintro e w7 ⟨rfl,hS⟩
     have HS:=hid hS
     clear hS
     go_wp2
     go_roundg (L.length-(i+1))
     case measure=>omega
     case rel=>exact ⟨i+1,by go_num,by omega,by omega,hid (HE.out _ _ hw5 HS.out)⟩
   ·have nq:(kn != V1.n)=true:=by simpa using hkn
    have HTE:Hid (V1.turn ⟨⟨kh,kl,kn⟩,xo,nw⟩=V1):=hid (if_neg hkn)
    clear hkn hnn
    have kg:=Zaa
    refine Zab (by kernel_rfl) (by kernel_rfl) ?_
    repeat (any_goals (first|go_big_quiet_step (fail)|quiet_step (fail)))
    refine wpQuiet_nil ?_
    clear kg
    intro w5 hb5
    obtain ⟨hc5,hf5⟩:=Zaf hb5
    have hw5:=hw.trans (hb5.mono hw.size)
    have HB:=hid (HB.out.below hb5)
    clear hw hb5 hc5 hf5 d0 dl e0 e1 e2 e4
    go_wp2
    go_roundg (L.length-(i+1))
    case measure=>omega
    case rel=>exact ⟨i+1,by go_num,by omega,by omega,hid (HE.out _ _ hw5 (by
     rw [HTE.out]
     exact ⟨K2,⟨lo,hi1,f,u,HB.out⟩,Touch.refl _ _,fun g h => .inl h⟩))⟩
  ·have HE:Hid (Zec w wr K t (V.turns L) (Zek V.n N L)):=by
    have:=HI.out
    rw [List.take_of_length_le (by omega)] at this
    exact hid this
   clear HI
   go_wp2
   go_end0
   obtain ⟨-,K',h2,h3,h4⟩:=HE.out
   exact ⟨rfl,K',h2,h3,h4⟩
set_option maxRecDepth 100000 in
theorem Zqu (w:World) (K:Nat->Prop) (t:Nat) (V:Lv) (N:List Rt) (ah al:Nat) (H:LevP w K t V) (HV:LvOk V N) (hl:N.length<=100000) (hn:0<=V.n) (ha:W64 ah) (hb:W64 al) :
 Calls Tryz.prog 38 #[.pointer (some ⟨t,0,none⟩),.agg #[.int .u64 (ah:Int),.int .u64 (al:Int)]] w fun e w'=>e = .returned (Z2m V ah al)/\Below w.heap.size w w':=by
 obtain ⟨lo,hi,f,u,H⟩:=H
 have hlt:=H.lt
 have c0:=H.c0
 have c1:=H.c1
 have c2:=H.c2
 have H1c:=c1
 have H2c:=c2
 have hcut:=Zrt ah al V.n ha hb
 obtain ⟨kk,hkk⟩:∃kk,kk=V.key ah al:=⟨_,rfl⟩
 have hkn:kk.n=V.n:=by rw [hkk];show ((V.n.toNat:Nat):Int)=V.n;omega
 have hkg:kk.good:=by rw [hkk];exact ⟨ha.cut _,hb.cut _⟩
 have hkh:cutW ah V.n.toNat=kk.h:=by rw [hkk];rfl
 have hkl:cutW al (V.n.toNat-64)=kk.l:=by rw [hkk];rfl
 rw [hkh,hkl] at hcut
 obtain ⟨kh,kl,kn⟩:=kk
 simp only at hkn hcut
 rw [<-hkn] at c0 hcut
 have HF:=hid H.fil
 have HT:=hid H.tab
 have HCUT:=hid hcut
 have hpos:=H.pos
 have hmay:=fun W (h:Fil W lo hi f V.s V.k V.C)=>Z3c lo hi f V.s V.k V.C kh kl kn W h hkg.1 hkg.2 hpos
 have hcl:=HV.kept.len
 have hget:=fun (Q:Nat->Prop) W (h:Seat Q W u V.T)=>Seat.get u V.T ⟨kh,kl,kn⟩ W h HV.kept.inv hkg (by omega)
 have hmv:mayL V.C (Go.Proofs.YtgfjmgebecmbiaaGreat.plc V.s kh kl kn V.k V.C.length)=V.may ah al:=by unfold Lv.may;rw [<-hkk];rfl
 have hgv:getT V.T ⟨kh,kl,kn⟩=getT V.T (V.key ah al):=by rw [<-hkk]
 rw [hgv] at hget
 unfold kyV at hget
 simp only at hget
 rw [hmv] at hmay
 unfold Z2m
 have hhit:(V.may ah al=true->V.hit ah al=getT V.T (V.key ah al))/\(V.may ah al=false->V.hit ah al=none):=⟨fun h=>by unfold Lv.hit;rw [h];rfl,fun h=>by unfold Lv.hit;rw [h];rfl⟩
 obtain ⟨mb,hmb⟩:∃mb,mb=V.may ah al:=⟨_,rfl⟩
 obtain ⟨hv,hhv⟩:∃hv,hv=V.hit ah al:=⟨_,rfl⟩
 rw [<-hmb] at hmay hhit ⊢
 rw [<-hhv] at hhit ⊢
 have HHIT:=hid hhit
 have HMAY:=hid hmay
 have HGET:=hid hget
 clear hhit hmb hhv H hcut hmay hget hkk hkn hkg hkh hkl HV hmv hgv ha hb hpos hcl hl
 go_enter Tryz.func38,Tryz.ntmps38
 go_wp2_with fail
 have kg:=Zaa
 refine wp_region_noPanic ?_
 generalize hNQ:NoPanic _=NQ
 refine Zhy [1,2,3,6,7,8] [0,4,9] [(5,18,[]),(10,23,[(5,18)]),(11,7,[])] [12] (lkD kh kl kn (w.heap.size+1)) (Zvo _ _ _ _) (by kernel_rfl) (by rw [<-hNQ];exact fun _ _ _ h=>h) (by kernel_rfl) (by kernel_rfl) (by kernel_rfl) ?_
 simp only [Zah,List.filterMap_cons,List.filterMap_nil,List.getElem?_toArray,List.getElem?_cons_succ,List.getElem?_cons_zero]
 repeat (any_goals (quiet_step (fail)))
 refine wpQuiet_nil ?_
 clear kg
 refine ⟨by rfl,⟨?_,?_,?_,trivial⟩,?_⟩
 ·intro W hW K hK o ho
  injection ho with ho
  subst ho
  go_simp
  go_at_call 60
  refine (HCUT.out _).mono ?_
  rintro e w3 ⟨rfl,hb3⟩
  exact hK _ _ hb3 rfl
 ·intro W hW v5 h5 K
  obtain rfl:v5=_:=h5
  go_simp
  intro hK o ho
  injection ho with ho
  subst ho
  go_simp
  exact hK _ _ (Below.refl _ _) rfl
 ·intro W hW K
  go_simp
  intro hK o ho
  injection ho with ho
  subst ho
  go_simp
  have hsz:=hW.size
  simp only [World.size_alloc] at hsz
  exact hK _ _ (by go_grown) ⟨W.heap.size,rfl,hsz,by simp,by simp [go_sem],by simp [go_sem],by simp [go_sem],fun j=>by simp [go_sem]⟩
 ·intro W hW v5 h5 v10 h10 v11 h11
  obtain rfl:v5=_:=h5
  obtain rfl:v10=_:=h10
  obtain ⟨bk,rfl,hbk,hbl,z0,z1,z2,zf⟩:=h11
  have hw1:Below w.heap.size w W:=Below.trans (by go_grown) (hW.mono (by simp))
  show wpList _ _ _ _ _ _
  simp only [Zah,List.filterMap_cons,List.filterMap_nil,List.getElem?_toArray,List.getElem?_cons_succ,List.getElem?_cons_zero]
  subst hNQ
  clear hW
  have c0:=(hw1.cell (p:=⟨t,0,none⟩) hlt).trans c0
  have c1:=(hw1.cell (p:=⟨t,1,none⟩) hlt).trans c1
  have c2:=(hw1.cell (p:=⟨t,2,none⟩) hlt).trans c2
  have hbw:w.heap.size<=bk:=by omega
  have htb:t≠bk:=by omega
  have hw2:Below w.heap.size w (((W.setCell ⟨bk,0,none⟩ (.int .u64 (kh:Int))).setCell ⟨bk,1,none⟩ (.int .u64 (kl:Int))).setCell ⟨bk,2,none⟩ (.int .i64 kn)):=((hw1.setCell hbw _).setCell hbw _).setCell hbw _
  have e0:(((W.setCell ⟨bk,0,none⟩ (.int .u64 (kh:Int))).setCell ⟨bk,1,none⟩ (.int .u64 (kl:Int))).setCell ⟨bk,2,none⟩ (.int .i64 kn)).cell? ⟨bk,0,none⟩=some (.int .u64 (kh:Int)):=by simp [go_sem,z0,z1,z2]
  have e1:(((W.setCell ⟨bk,0,none⟩ (.int .u64 (kh:Int))).setCell ⟨bk,1,none⟩ (.int .u64 (kl:Int))).setCell ⟨bk,2,none⟩ (.int .i64 kn)).cell? ⟨bk,1,none⟩=some (.int .u64 (kl:Int)):=by simp [go_sem,z0,z1,z2]
  have e2:(((W.setCell ⟨bk,0,none⟩ (.int .u64 (kh:Int))).setCell ⟨bk,1,none⟩ (.int .u64 (kl:Int))).setCell ⟨bk,2,none⟩ (.int .i64 kn)).cell? ⟨bk,2,none⟩=some (.int .i64 kn):=by simp [go_sem,z0,z1,z2]
  have d1:=(hw2.cell (p:=⟨t,1,none⟩) hlt).trans H1c
  have d2:=(hw2.cell (p:=⟨t,2,none⟩) hlt).trans H2c
  have hs2:bk<(((W.setCell ⟨bk,0,none⟩ (.int .u64 (kh:Int))).setCell ⟨bk,1,none⟩ (.int .u64 (kl:Int))).setCell ⟨bk,2,none⟩ (.int .i64 kn)).heap.size:=by simpa using hbl
  go_wp2_with fail
  refine NoPanic.normal ?_
  go_wp2_with fail
  generalize ((W.setCell ⟨bk,0,none⟩ (.int .u64 (kh:Int))).setCell ⟨bk,1,none⟩ (.int .u64 (kl:Int))).setCell ⟨bk,2,none⟩ (.int .i64 kn)=W2 at *
  clear c0 c1 c2 z0 z1 z2 zf hw1
  have ht2:t<W2.heap.size:=Nat.lt_of_lt_of_le hlt hw2.size
  have kg:=Zaa
  refine Zab (by kernel_rfl) (by kernel_rfl) ?_
  repeat (any_goals (first|go_big_quiet_step ((exact Calls.regrown_of (HMAY.out _ (HF.out.below (hw2.trans ((below_regrown _ _ _).mono hw2.size))))))|quiet_step ((exact Calls.regrown_of (HMAY.out _ (HF.out.below (hw2.trans ((below_regrown _ _ _).mono hw2.size))))))))
  refine wpQuiet_nil ?_
  clear kg
  intro w4 hb4
  obtain ⟨hc4,hf4⟩:=Zaf hb4
  have d2:=(hc4 _ _ ht2).trans d2
  have e0:=(hc4 _ _ hs2).trans e0
  have e1:=(hc4 _ _ hs2).trans e1
  have e2:=(hc4 _ _ hs2).trans e2
  have hw3:=hw2.trans (hb4.mono hw2.size)
  have ht3:=Nat.lt_of_lt_of_le ht2 hb4.size
  have hs3:=Nat.lt_of_lt_of_le hs2 hb4.size
  clear hc4 hf4 hb4 d1
  have hh:=HHIT.out
  cases mb with
  | false=>
   have hn:=hh.2 rfl
   subst hn
   clear hh
   go_wp2
   go_ret3
   exact ⟨rfl,hw3⟩
  | true=>
   have hn:=hh.1 rfl
   subst hn
   clear hh
   go_wp2_with fail
   have kg:=Zaa
   refine wp_region_noPanic ?_
   generalize hNQ:NoPanic _=NQ
   refine Zcj [0,1,2] [3,4] [(5,37,[]),(6,31,[(5,37)]),(7,38,[(6,31)]),(8,39,[(6,31)]),(9,40,[(6,31)]),(10,8,[(7,38)]),(11,9,[(8,39)]),(12,10,[(9,40)])] [] (lgD ((getT V.T (V.key ah al)).getD 0) (getT V.T (V.key ah al)).isSome (Zjs V.T ⟨kh,kl,kn⟩).length) (fun i v W W' _ h=>h) (by kernel_rfl) (by rw [<-hNQ];exact fun _ _ _ h=>h) (by kernel_rfl) (by kernel_rfl) (by kernel_rfl) ?_
   simp only [Zah,List.filterMap_cons,List.filterMap_nil,List.getElem?_toArray,List.getElem?_cons_succ,List.getElem?_cons_zero]
   repeat (any_goals (quiet_step (fail)))
   refine wpQuiet_nil ?_
   clear kg
   refine ⟨by rfl,⟨?_,?_,?_,?_,?_,?_,?_,?_,trivial⟩,?_⟩
   ·intro W4 hW4 K hK o ho
    injection ho with ho
    subst ho
    go_simp
    go_at_call 68
    refine (HGET.out _ _ (HT.out.below (hw3.trans (hW4.mono hw3.size)))).mono ?_
    rintro e w5 ⟨p5,c5,rfl,-,hb5⟩
    exact hK _ _ hb5 ⟨p5,c5,rfl⟩
   ·intro W4 hW4 v5 h5 K
    obtain ⟨p6,c6,rfl⟩:=h5
    go_simp
    intro hK o ho
    injection ho with ho
    subst ho
    go_simp
    exact hK _ _ (Below.refl _ _) ⟨p6,c6,rfl⟩
   ·intro W4 hW4 v6 h6 K
    obtain ⟨p6,c6,rfl⟩:=h6
    go_simp
    intro hK o ho
    injection ho with ho
    subst ho
    go_simp
    exact hK _ _ (Below.refl _ _) rfl
   ·intro W4 hW4 v6 h6 K
    obtain ⟨p6,c6,rfl⟩:=h6
    go_simp
    intro hK o ho
    injection ho with ho
    subst ho
    go_simp
    exact hK _ _ (Below.refl _ _) rfl
   ·intro W4 hW4 v6 h6 K
    obtain ⟨p6,c6,rfl⟩:=h6
    go_simp
    intro hK o ho
    injection ho with ho
    subst ho
    go_simp
    exact hK _ _ (Below.refl _ _) trivial
   ·intro W4 hW4 v7 h7 K
    obtain rfl:v7=_:=h7
    go_simp
    intro hK o ho
    injection ho with ho
    subst ho
    go_simp
    exact hK _ _ (Below.refl _ _) rfl
   ·intro W4 hW4 v8 h8 K
    obtain rfl:v8=_:=h8
    go_simp
    intro hK o ho
    injection ho with ho
    subst ho
    go_simp
    exact hK _ _ (Below.refl _ _) rfl
   ·intro W4 hW4 v9 h9 K
    clear h9
    go_simp
    intro hK o ho
    injection ho with ho
    subst ho
    go_simp
    exact hK _ _ (Below.refl _ _) trivial
   ·intro W4 hW4 v5 h5 v6 h6 v7 h7 v8 h8 v9 h9 v10 h10 v11 h11 v12 h12
    obtain ⟨p5,c5,rfl⟩:=h5
    obtain ⟨p6,c6,rfl⟩:=h6
    obtain rfl:v7=_:=h7
    obtain rfl:v8=_:=h8
    obtain rfl:v10=_:=h10
    obtain rfl:v11=_:=h11
    have hw5:=hw3.trans (hW4.mono hw3.size)
    show wpList _ _ _ _ _ _
    simp only [Zah,List.filterMap_nil]
    subst hNQ
    clear hW4 h9 h12
    go_wp2_with fail
    refine NoPanic.normal ?_
    go_wp2
    go_ret3
    exact ⟨rfl,hw5⟩
set_option maxRecDepth 100000 in
theorem Zqx (w:World) (K:Nat->Prop) (t:Nat) (V:Lv) (N:List Rt) (H:LevP w K t V) (HV:LvOk V N) (hl:N.length<=100000) :
 Calls Tryz.prog 43 #[.pointer (some ⟨t,0,none⟩)] w fun e w'=>∃p c,e = .returned (.slice p N.length c)/\Row w' p (rcs N)/\Below w.heap.size w w':=by
 obtain ⟨lo,hi,f,u,H⟩:=H
 have hcl:=HV.kept.len
 have hall:=fun (Q:Nat->Prop) W (h:Seat Q W u V.T)=>Seat.all u V.T W h HV.kept (by omega)
 have HALL:=hid hall
 have HB:=hid H
 have d2:=H.c2
 have dl:=H.lt
 clear H HV hl hcl hall
 go_enter Tryz.func43,Tryz.ntmps43
 go_wp2_with fail
 refine (HALL.out _ _ HB.out.tab).mono ?_
 rintro e w1 ⟨p,c,rfl,hr,hb⟩
 have HR:=hid hr
 clear hr
 go_wp2
 go_ret
 exact ⟨p,c,rfl,HR.out,hb⟩
set_option maxRecDepth 100000 in
theorem Zqy (w:World) (K:Nat->Prop) (t:Nat) (V:Lv) (H:LevP w K t V) :
 Calls Tryz.prog 39 #[.pointer (some ⟨t,0,none⟩)] w fun e w'=>e = .returned (.int .i64 V.n)/\Below w.heap.size w w':=by
 obtain ⟨lo,hi,f,u,H⟩:=H
 have d0:=H.c0
 have dl:=H.lt
 clear H
 go_enter Tryz.func39,Tryz.ntmps39
 go_wp2
 go_ret
 exact ⟨rfl,by go_grown⟩
theorem Zj1:LevC LevP where
 bad:=fun n k m b s w ws h=>Zu4 n k m b s w ws h
 new:=fun n k s m b w ws h=>Zu3 n k s m b w ws h
 turn:=fun w K t V N p c L H HV hg hl _ hR hp=>Zqs w K t V N p c L H HV hg hl hR hp
 look:=fun w K t V N ah al H HV hl hn ha hb=>Zqu w K t V N ah al H HV hl hn ha hb
 keys:=fun w K t V N H HV hl=>Zqx w K t V N H HV hl
 bits:=fun w K t V H=>Zqy w K t V H
 touched:=fun _ _ _ _ _ _ H ht hn=>H.touched ht hn
theorem Zry (kh kl:Nat) (kn v low high:Int) :
 Zak Tryz.prog 110 #[.agg #[.int .u64 (kh:Int),.int .u64 (kl:Int),.int .i64 kn,.int .i64 v],.int .i64 low,.int .i64 high] (.bool (decide (low<kn)&&decide (kn<=high))):=by
 intro w
 by_cases h1:low<kn
 ·by_cases h2:kn<=high
  ·rw [decide_eq_true h1,decide_eq_true h2]
   go_enter Tryz.func110,Tryz.ntmps110
   go_wp2
   go_ret
   exact ⟨rfl,by go_grown⟩
  ·rw [decide_eq_true h1,decide_eq_false h2]
   go_enter Tryz.func110,Tryz.ntmps110
   go_wp2
   go_ret
   exact ⟨rfl,by go_grown⟩
 ·rw [decide_eq_false h1,Bool.false_and]
  go_enter Tryz.func110,Tryz.ntmps110
  go_wp2
  go_ret
  exact ⟨rfl,by go_grown⟩
theorem Zbf {ops:Array Oper} {rest:List Oper} {o:Oper} {a:Act} {w:World} {Q:Exit->Act->World->Prop} (hgd:o.guard=none) (s x:Operand)
 (ho:o.op = .call { callee := .builtin .append,args := #[s,x],argTypes := #[35,35] }) (B:Nat) (v:Value) (L M N:List Rt) (hN:N=L++M) (hs:a.eval s=v) (ad:Addr) (c:Nat) (hx:a.eval x = .slice (some ad) M.length c)
 (hown:w.ownsRow B 41 4 v L.length (rcs L)) (hsrc:∀j u,(rcs M)[j]? = some u->w.cell? (ad.add j)=some u) (hlen:L.length+M.length<=1099511627776) (hB:B<=w.heap.size)
 (h:∀v' w',w'.ownsRow B 41 4 v' N.length (rcs N)->w.grownBy w' v.ownBlock->(v'.ownBlock=v.ownBlock\/v'.ownBlock=some w.heap.size)->wpList Tryz.prog ops Q rest (a.put o.dst v') w'):wpList Tryz.prog ops Q (o::rest) a w:=by
 subst hN
 obtain ⟨i0,hi0,iz0,iz1,iz2⟩:=info_parts Zd1
 refine wpList_append_own_at w hgd s x 35 ho B 41 i0 _ 4 32 Tryz.underlying35 hi0 iz0 iz1 iz2 rfl (by decide) v _ _ hs hown ad M.length c (rcs M) hx (Zaz M) hsrc (Zcb M) (by unfold maxLen;omega) (by omega) hB ?_
 intro v' w' h1 h2 _ h4
 refine h v' w' ?_ h2 h4
 rw [Zal,List.length_append]
 exact h1
theorem Z4c (g o i:Nat):(⟨g,o,none⟩:Addr).add i=⟨g,o+i,none⟩:=by unfold Addr.add;split<;>simp_all
theorem Z10 (w:World):(w.alloc (.cells #[] 41)).ownsRow w.heap.size 41 4 (.slice (some ⟨w.heap.size,0,none⟩) 0 0) 0 []:=
 Zcl (Nat.le_refl _) (heap_alloc_new w _) (Nat.le_refl _) (by unfold maxLen;omega) (by simp) (by simp)
set_option maxRecDepth 100000 in
theorem Zkh (p:Option Addr) (c:Nat) (L:List Rt) (w:World) (hR:Row w p (rcs L)) (hp:p=none->c=0) (hl:L.length<1099511627776) :
 Calls Tryz.prog 42 #[.slice p L.length c] w fun e w'=>Zcf w w' e L:=by
 have q:∀(w:World) (a:Option Addr) (n c:Nat),(binOp .eql 35 (.slice a n c) (.slice none 0 0)).run Tryz.prog w = .ok (.bool a.isNone) w:=fun w a n c=>Lib.run_eql_slice_nil w _ _ a n c 0 0 Tryz.underlying35
 cases p with
 | none=>
  obtain rfl:=hp rfl
  have q:=q w none 0 0
  have hL:L=[]:=by
   rcases hR with h | ⟨g,o,h,-⟩
   ·rw [<-List.length_eq_zero_iff]
    have:=congrArg List.length h
    rw [Zaz] at this
    simp at this
    omega
   ·cases h
  subst hL
  go_enter Tryz.func42,Tryz.ntmps42
  go_wp2
  go_ret
  exact ⟨none,0,rfl,World.ownsRow_nil _ _ _ _,by go_grown⟩
 | some a=>
  have q:=q w (some a) L.length c
  go_enter Tryz.func42,Tryz.ntmps42
  have hO:=hid (Z10 w)
  have hsrc:Hid (∀j u,(rcs L)[j]? = some u->(w.alloc (.cells #[] 41)).cell? (a.add j)=some u):=hid fun j u hu=>by
   rcases hR with h | ⟨g,o,h,hg,hc⟩
   ·rw [h] at hu
    cases hu
   ·injection h with h
    subst h
    rw [Z4c]
    have:=hc j u hu
    rw [<-this]
    exact ((show Below w.heap.size w (w.alloc (.cells #[] 41)) from by go_grown).cell (p:=⟨g,o+j,none⟩) hg)
  go_wp2_with (at_builtin;go_loud (refine Zbf rfl (.tmp 5) (.tmp 6) rfl w.heap.size _ [] L L rfl rfl a c rfl hO.out hsrc.out (by simp;omega) (by simp) ?_))
  intro v' w' h1 h2 _
  obtain ⟨p',c',rfl⟩:=Zag h1
  have hb:Below w.heap.size w (w.alloc (.cells #[] 41)):=by go_grown
  have hb2:Below w.heap.size w w':=hb.grown h2 hb.size (fun k e=>by simp [Value.ownBlock] at e;omega)
  clear hb h2 q
  have HF:=hid (And.intro h1 hb2)
  clear h1 hb2
  go_wp2
  go_ret
  exact ⟨p',c',rfl,HF.out.1,HF.out.2⟩
set_option maxRecDepth 100000 in
theorem Zng (bx blk c n:Nat) (hn:n<1000000000) (w0:World) (hc:w0.cell? ⟨bx,0,none⟩=some (.slice (some ⟨blk,0,none⟩) n c)) (hne:bx≠blk) :
 Zdh 141 #[.pointer (some ⟨bx,0,none⟩)] Zac 4 ltR w0 blk 0 n:=by
 intro W d S i j hi hj
 have hb0:bx<w0.heap.size:=World.block_lt_of_cell? w0 _ hc
 have b0:=S.touch.cell hc hne
 have hbl:bx<W.heap.size:=Nat.lt_of_lt_of_le hb0 S.touch.size
 have hl:=S.lt2
 have hs:=S.size
 have x0:=(S.holds.cell (i:=i) (c:=0) (by omega) (by decide)).1
 have x1:=(S.holds.cell (i:=i) (c:=1) (by omega) (by decide)).1
 have x2:=(S.holds.cell (i:=i) (c:=2) (by omega) (by decide)).1
 have y0:=(S.holds.cell (i:=j) (c:=0) (by omega) (by decide)).1
 have y1:=(S.holds.cell (i:=j) (c:=1) (by omega) (by decide)).1
 have y2:=(S.holds.cell (i:=j) (c:=2) (by omega) (by decide)).1
 have HL:=Zfg d[i]!.k.h d[i]!.k.l d[i]!.k.n d[j]!.k.h d[j]!.k.l d[j]!.k.n
 change Zak _ _ _ (.bool (ltR d[i]! d[j]!)) at HL
 generalize ltR d[i]! d[j]! = ls at *
 change W.cell? _=some (.int .u64 (d[i]!.k.h:Int)) at x0
 change W.cell? _=some (.int .u64 (d[i]!.k.l:Int)) at x1
 change W.cell? _=some (.int .i64 d[i]!.k.n) at x2
 change W.cell? _=some (.int .u64 (d[j]!.k.h:Int)) at y0
 change W.cell? _=some (.int .u64 (d[j]!.k.l:Int)) at y1
 change W.cell? _=some (.int .i64 d[j]!.k.n) at y2
 generalize d[i]!.k=q at *
 generalize d[j]!.k=r at *
 rw [Nat.zero_add] at x0 x1 x2 y0 y1 y2
 rw [Nat.add_zero] at x0 y0
 have HL:=hid HL
 have i1:(0:Int)<=(i:Int):=by omega
 have i2:(i:Int)<(n:Int):=by omega
 have j1:(0:Int)<=(j:Int):=by omega
 have j2:(j:Int)<(n:Int):=by omega
 clear S hc hb0
 show Calls _ _ #[.int .i64 (i:Int),.int .i64 (j:Int),.pointer (some ⟨bx,0,none⟩)] _ _
 obtain ⟨w,hw⟩:∃w,w=W:=⟨_,rfl⟩
 subst hw
 go_enter Tryz.func141,Tryz.ntmps141
 go_wp2_with fail
 have kg:=Zaa
 refine Zab (by kernel_rfl) (by kernel_rfl) ?_
 repeat (any_goals (first|go_big_quiet_step ((exact HL.out.at _ _ _))|quiet_step ((exact HL.out.at _ _ _))))
 refine wpQuiet_nil ?_
 clear kg
 intro w1 hb1
 obtain ⟨hc1,hf1⟩:=Zaf hb1
 have hw1:Below w.heap.size w w1:=by
  refine Below.trans ?_ (hb1.mono ?_)
  ·go_grown
  ·first|omega|go_size
 go_wp2
 go_ret
 exact ⟨rfl,hw1⟩
theorem Zoo (a b:Nat) (n:Int) (c d:Nat) (m:Int) (w:World):(binOp .neq 39 (.agg #[.int .u64 a,.int .u64 b,.int .i64 n]) (.agg #[.int .u64 c,.int .u64 d,.int .i64 m])).run Tryz.prog w =
 .ok (.bool (!decide (a=c/\b=d/\n=m))) w:=by
 have e1:decide (a=c/\b=d/\n=m)=(decide ((a:Int)=c)&&(decide ((b:Int)=d)&&decide (n=m))):=by
  rw [<-Bool.decide_and,<-Bool.decide_and,decide_eq_decide];omega
 rw [e1]
 by_cases h1:(a:Int)=c<;>by_cases h2:(b:Int)=d<;>by_cases h3:n=m<;>simp [go_sem,h1,h2,h3]
end Go.Proofs.YtgfjmgebecmbiaaGreat
