import Derived.Test.YtgfjmgebecmbiaaGreatW12g
import Derived.Test.YtgfjmgebecmbiaaGreatFil2
set_option linter.unusedSimpArgs false
set_option linter.unusedVariables false
set_option maxHeartbeats 4000000
namespace Go.Proofs.YtgfjmgebecmbiaaGreat
open Lib(hid)
section
open Go.RowKit Go.Sort M
theorem Zja {w1 W w14:World} {t g g2 n2 s2:Nat} {v:Value} {T:Tab} {m:Int} (HC1:CT w1 t g v T m) (hb:Below w1.heap.size w1 W) (hg2:w1.heap.size<=g2) (hgW:W.heap[g2]? = some (.cells (madeCells zB.cells (n2*20)) 154 (0,0)))
 (he:(((W.setCell ⟨t,0,none⟩ (.int .u64 (s2:Int))).setCell ⟨t,1,none⟩ (.slice (some ⟨g2,0,none⟩) n2 n2)).setCell ⟨t,2,none⟩ (.slice none 0 0)).setCell ⟨t,3,none⟩ (.int .i64 0)=w14) :
 CT w14 t g2 (.slice none 0 0) (Zbq s2 n2) 0/\Touch (Blk t g v) w1 w14/\∀k,Blk t g2 (.slice none 0 0) k->k<w1.heap.size->Blk t g v k:=by
 have ht:=HC1.tb.tlt
 have c0:=(hb.cell (p:=⟨t,0,none⟩) ht).trans HC1.tb.c0
 have c1:=(hb.cell (p:=⟨t,1,none⟩) ht).trans HC1.tb.c1
 have c2:=(hb.cell (p:=⟨t,2,none⟩) ht).trans HC1.tb.c2
 have c3:=(hb.cell (p:=⟨t,3,none⟩) ht).trans HC1.c3
 have hne:∀k,k≠t->w14.heap[k]? = W.heap[k]? := by
  intro k hk
  rw [<-he]
  rw [Below.heap_setCell _ ⟨t,3,none⟩ _ k (by simpa using hk),Below.heap_setCell _ ⟨t,2,none⟩ _ k (by simpa using hk),Below.heap_setCell _ ⟨t,1,none⟩ _ k (by simpa using hk),Below.heap_setCell _ ⟨t,0,none⟩ _ k (by simpa using hk)]
 have hsz:w14.heap.size=W.heap.size:=by rw [<-he];simp
 have hg14:w14.heap[g2]? = some (.cells (madeCells zB.cells (n2*20)) 154 (0,0)):=(hne g2 (by omega)).trans hgW
 have hgl:=(Array.getElem?_eq_some_iff.1 hg14).1
 refine ⟨⟨Tb.fresh (fun i hi=>Zs2 hg14 hi) hgl (by rw [hsz];exact Nat.lt_of_lt_of_le ht hb.size) ?_ ?_ ?_ (fun j => ?_) (by omega),?_⟩,⟨?_,?_,?_,by rw [hsz];exact hb.size,fun k hk hn=>(hne k (fun e=>hn (.inl e))).trans (hb.block k hk)⟩,fun k hk hkl => ?_⟩
 ·rw [<-he];simp [go_sem,c0]
 ·rw [<-he];simp [go_sem,c1]
 ·rw [<-he];simp [go_sem,c2]
 ·rw [<-he]
  simp only [World.frozen?_setCell]
  exact (hb.frozen (p:=⟨t,j,none⟩) ht).trans (HC1.tb.f j)
 ·rw [<-he];simp [go_sem,c3]
 ·rw [<-he];exact hb.os
 ·rw [<-he];exact hb.tape
 ·rw [<-he];exact hb.output
 ·rcases hk with e | e | e
  ·exact .inl e
  ·omega
  ·simp [Value.ownBlock] at e
set_option maxRecDepth 100000 in
theorem Zzg (f:Tab->Rt->Tab) (B0:Nat) (hf:∀T r,Inv T->r.k.good->Zp1 T r (f T r)) (t g:Nat) (v:Value) (T:Tab) (m:Int) (w:World) (H:CT w t g v T m) (HI:Inv T) (hfew:(Zae T).length<=262144) (hB0:B0<=(grown T).B.length)
 (HP:∀g1 v1 T1 r w1,CT w1 t g1 v1 T1 ((Zae T1).length:Int)->Inv T1->r.k.good->(Zae T1).length<262144->B0<=T1.B.length->Calls Tryz.prog 102 #[.pointer (some ⟨t,0,none⟩),kyV r.k,.int .i64 r.v] w1 fun e w'=>e = .returned (.tuple #[])/\Zar w1 w' t g1 v1 (f T1 r) ((Zae (f T1 r)).length:Int)) :
 Calls Tryz.prog 135 #[.pointer (some ⟨t,0,none⟩)] w fun e w'=>e = .returned (.tuple #[])/\Zar w w' t g v ((Zae T).foldl f (grown T)) ((Zae ((Zae T).foldl f (grown T))).length:Int):=by
 have hst:T.st.length<1048576:=by have:=Zw7 T;omega
 have hlo:=HI.lo
 have hhi:=HI.hi
 have HL:=hid (fun w H=>Zs5 t g v T m w H HI.num hst)
 have HMX:Zak Tryz.prog 27 #[.int .u64 (T.s:Int)] (.int .u64 (mixN T.s:Int)):=by
  have:=Zjx (T.s:Int)
  rwa [Zfd _ HI.word] at this
 have HM:=hid HMX
 have hlim:=H.tb.blk
 have HLM:=hid hlim
 have HH:=hid H
 have HPP:=hid HP
 have HFP:=hid (fun j hj=>Z3a HI hf j hj)
 have HII:=hid HI
 have HFEW:=hid hfew
 clear H HP hlim HMX hst
 unfold kyV at *
 go_enter Tryz.func135,Tryz.ntmps135
 go_wp2_with fail
 refine (HL.out _ HH.out).mono ?_
 rintro e w1 ⟨p,c,rfl,hown,hb1⟩
 have HC1:=hid (HH.out.below hb1)
 have c0:=HC1.out.tb.c0
 have c1:=HC1.out.tb.c1
 have c2:=HC1.out.tb.c2
 have c3:=HC1.out.c3
 have f0:=HC1.out.tb.f 0
 have f1:=HC1.out.tb.f 1
 have f2:=HC1.out.tb.f 2
 have f3:=HC1.out.tb.f 3
 have hl1:=HC1.out.tb.tlt
 have hO1:=hid hown
 have hb1':=hid hb1
 clear hown hb1
 obtain ⟨n2,hn2⟩:∃x,x=min (2*T.B.length) 65536:=⟨_,rfl⟩
 have hn2a:1<=n2/\n2<=65536:=by omega
 have PLA:=fun w=>Zcm Tryz.underlying139 Zza n2 (by omega) (by unfold maxLen;omega) w
 obtain ⟨MZ,hMZ⟩:∃x,x=madeCells zB.cells (n2*20):=⟨_,rfl⟩
 rw [<-hMZ] at PLA
 have HMZ:=hid hMZ
 clear hMZ
 have HN2:=hid hn2
 have hwr:IntKind.i64.wrap (2*(T.B.length:Int))=2*(T.B.length:Int):=by rw [IntKind.wrap_i64];omega
 by_cases hmin:65536<2*T.B.length
 ·have hmi:(65536:Int)<2*(T.B.length:Int):=by omega
  have hmj:¬2*(T.B.length:Int)<=65536:=by omega
  have HMIN:=hid hmin
  have hni:(n2:Int)=65536:=by omega
  have hnm:(n2:Int)=min (2*(T.B.length:Int)) 65536:=by omega
  have PLA2:=PLA
  rw [hnm] at PLA2
  rw [hni] at PLA
  clear hnm
  clear hmin hn2a hlo hhi hfew hni hn2
  go_wp2_with fail
  have kg:=Zaa
  refine wp_region_noPanic ?_
  generalize hNQ:NoPanic _=NQ
  refine Zb2 [0,1,2,3,6,7,8] [4,9,10,11,12] 5 13 [14,15,16] (by kernel_rfl) (by rw [<-hNQ];exact fun _ _ _ h=>h) (by kernel_rfl) (by kernel_rfl) ?_
  simp only [Zah,List.filterMap_cons,List.filterMap_nil,List.getElem?_toArray,List.getElem?_cons_succ,List.getElem?_cons_zero]
  repeat (any_goals (quiet_step (fail)))
  refine wpQuiet_nil ?_
  clear kg
  intro w11 hb11
  refine ⟨?_,?_⟩
  ·intro K hK o ho
   injection ho with ho
   subst ho
   go_simp
   refine (HM.out _).mono ?_
   rintro e w12 ⟨rfl,hb12⟩
   have hb12':=hb11.trans (hb12.mono hb11.size)
   refine hK _ _ hb12' ?_
   clear hK K
   intro K hK o ho
   injection ho with ho
   subst ho
   try (rw [if_neg (show ¬((65536:Int)<2*(T.B.length:Int)) by omega)])
   go_simp
   refine hK _ _ (hb12'.alloc hb12'.size _) ?_
   clear hK K
   simp only [Zah,List.filterMap_cons,List.filterMap_nil,List.getElem?_toArray,List.getElem?_cons_succ,List.getElem?_cons_zero]
   have hbW:=hb12'.alloc hb12'.size (.cells MZ 154)
   have hg2:=hb12'.size
   have hgW:=heap_alloc_new w12 (.cells MZ 154)
   generalize World.alloc w12 _=W13 at hbW hgW ⊢
   have c0:=(hbW.cell (p:=⟨t,0,none⟩) hl1).trans c0
   have c1:=(hbW.cell (p:=⟨t,1,none⟩) hl1).trans c1
   have c2:=(hbW.cell (p:=⟨t,2,none⟩) hl1).trans c2
   have c3:=(hbW.cell (p:=⟨t,3,none⟩) hl1).trans c3
   have f0:=(hbW.frozen (p:=⟨t,0,none⟩) hl1).trans f0
   have f1:=(hbW.frozen (p:=⟨t,1,none⟩) hl1).trans f1
   have f2:=(hbW.frozen (p:=⟨t,2,none⟩) hl1).trans f2
   have f3:=(hbW.frozen (p:=⟨t,3,none⟩) hl1).trans f3
   have hl12:=Nat.lt_of_lt_of_le hl1 hbW.size
   have hbW:=hid hbW
   have hgW:=hid hgW
   have hg2:=hid hg2
   clear hb12 hb12'
   go_wp2_with fail
   rw [<-hNQ]
   refine NoPanic.normal ?_
   clear hNQ c0 c1 c2 c3 f0 f1 f2 f3
   generalize he14:World.setCell _ _ _=w14
   have hF:=hid (Zja (s2:=mixN T.s) (n2:=n2) HC1.out hbW.out hg2.out (by rw [<-HMZ.out];exact hgW.out) he14)
   clear he14 hbW hg2 hgW
   have hG:Hid (grown T=Zbq (mixN T.s) n2):=by show _=_;unfold grown;rw [HN2.out]
   obtain ⟨L,hL⟩:∃L,L=Zae T:=⟨_,rfl⟩
   rw [<-hL] at hO1 ⊢
   have hl0:L.length<=262144:=by rw [hL];exact HFEW.out
   have HFL:Hid (∀j,j<=L.length->Inv ((L.take j).foldl f (grown T))/\(Zae ((L.take j).foldl f (grown T))).length=j/\(grown T).B.length<=((L.take j).foldl f (grown T)).B.length):=by rw [hL];exact HFP.out
   have HGD:Hid (∀(j:Nat) (hj:j<L.length),(L[j]).k.good):=by
    intro j hj
    exact HII.out.good _ (by rw [<-hL];exact List.getElem_mem hj)
   have hcs0:Zar w1 w14 t g v ((L.take 0).foldl f (grown T)) ((0:Nat):Int):=⟨_,_,by rw [List.take_zero,List.foldl_nil,hG.out];exact hF.out.1,hF.out.2.1,hF.out.2.2⟩
   have hown:Hid (∀(wr:World),Touch (Blk t g v) w1 wr->wr.ownsRow w.heap.size 41 4 (.slice p L.length c) L.length (rcs L)):=fun wr ht=>Touch.own hO1.out ht fun j hj hk=>by
    have h1:=(hO1.out.lt j hj).1
    have h2:=HLM.out j hk
    omega
   have HLL:=hid hL
   clear hL hF hG HFP HII hO1
   generalize hT0:grown T=T0 at *
   have HT0:=hid hT0
   clear hT0
   go_wp2
   go_loopw [4,25] (fun s4 i wr=>∃(j:Nat),j<=L.length/\i = .int .i64 (j:Int)/\Hid (Zar w1 wr t g v ((L.take j).foldl f T0) (j:Int))) (fun _ i _=>L.length-(intOf i).toNat)
   case atStart=>exact ⟨0,by omega,rfl,hcs0⟩
   case round=>
    clear hcs0
    obtain ⟨j,hj,rfl,HQ⟩:=hrel
    by_cases hlt:j<L.length
    ·obtain ⟨g1,v1,hC,hT,hS⟩:=HQ.out
     have HC:=hid hC
     have HT:=hid hT
     have HS:=hid hS
     obtain ⟨gr,o,rfl,hgr,r0,r1,r2,r3⟩:=(Row.of_own (hown.out wr hT)).rt hlt
     have i1:(0:Int)<=(j:Int):=by omega
     have i2:(j:Int)<(L.length:Int):=by omega
     have HGDj:=hid (HGD.out j hlt)
     have HFLj:=hid (HFL.out j (by omega))
     have HFLk:=hid (HFL.out (j+1) (by omega))
     have HSN:=hid (Zhd f L T0 j hlt)
     clear hC hT hS HGD HFL hown
     generalize L[j]=r at *
     go_wp2_with fail
     refine (HPP.out g1 v1 ((L.take j).foldl f T0) r _ (by rw [HFLj.out.2.1];exact HC.out.below (by go_grown)) HFLj.out.1 HGDj.out (by rw [HFLj.out.2.1];omega) (Nat.le_trans hB0 HFLj.out.2.2)).mono ?_
     rintro e w2 ⟨rfl,hcs⟩
     have HCS:Hid (Zar w1 w2 t g v ((L.take (j+1)).foldl f T0) ((j+1:Nat):Int)):=by
      have h:=Zar.trans (HT.out.trans (Touch.quiet (by go_grown))) HS.out hcs
      rw [<-HSN.out,HFLk.out.2.1] at h
      exact h
     clear hcs
     go_wp2
     go_roundw
     case rel=>exact ⟨j+1,by omega,by go_num,HCS⟩
     case measure=>simp [intOf];omega
    ·have hjl:j=L.length:=by omega
     have HE:Hid (Zar w1 wr t g v (L.foldl f T0) ((Zae (L.foldl f T0)).length:Int)):=by
      have h1:=(HFL.out j hj).2.1
      have h2:=HQ.out
      rw [hjl,List.take_length] at h1 h2
      rw [h1]
      exact h2
     go_wp2
     go_end0
     rw [HT0.out,<-HLL.out]
     exact ⟨rfl,Zar.trans (Touch.quiet hb1'.out) (fun _ h _=>h) HE.out⟩
  ·intro K hK o ho
   injection ho with ho
   subst ho
   try (rw [if_neg (show ¬((65536:Int)<2*(T.B.length:Int)) by omega)])
   go_simp
   refine hK _ _ (hb11.alloc hb11.size _) ?_
   clear hK K
   intro K hK o ho
   injection ho with ho
   subst ho
   go_simp
   refine (HM.out _).mono ?_
   rintro e w12 ⟨rfl,hb12⟩
   have hbA:=hb11.alloc hb11.size (.cells MZ 154)
   have hb12':=hbA.trans (hb12.mono hbA.size)
   refine hK _ _ hb12' ?_
   clear hK K
   simp only [Zah,List.filterMap_cons,List.filterMap_nil,List.getElem?_toArray,List.getElem?_cons_succ,List.getElem?_cons_zero]
   have hbW:=hid hb12'
   have hg2:=hid hb11.size
   have hgW:=hid ((hb12.block w11.heap.size (by simp)).trans (heap_alloc_new w11 (.cells MZ 154)))
   have c0:=(hb12'.cell (p:=⟨t,0,none⟩) hl1).trans c0
   have c1:=(hb12'.cell (p:=⟨t,1,none⟩) hl1).trans c1
   have c2:=(hb12'.cell (p:=⟨t,2,none⟩) hl1).trans c2
   have c3:=(hb12'.cell (p:=⟨t,3,none⟩) hl1).trans c3
   have f0:=(hb12'.frozen (p:=⟨t,0,none⟩) hl1).trans f0
   have f1:=(hb12'.frozen (p:=⟨t,1,none⟩) hl1).trans f1
   have f2:=(hb12'.frozen (p:=⟨t,2,none⟩) hl1).trans f2
   have f3:=(hb12'.frozen (p:=⟨t,3,none⟩) hl1).trans f3
   have hl12:=Nat.lt_of_lt_of_le hl1 hb12'.size
   clear hb12 hb12' hbA
   go_wp2_with fail
   rw [<-hNQ]
   refine NoPanic.normal ?_
   clear hNQ c0 c1 c2 c3 f0 f1 f2 f3
   generalize he14:World.setCell _ _ _=w14
   have hF:=hid (Zja (s2:=mixN T.s) (n2:=n2) HC1.out hbW.out hg2.out (by rw [<-HMZ.out];exact hgW.out) he14)
   clear he14 hbW hg2 hgW
   have hG:Hid (grown T=Zbq (mixN T.s) n2):=by show _=_;unfold grown;rw [HN2.out]
   obtain ⟨L,hL⟩:∃L,L=Zae T:=⟨_,rfl⟩
   rw [<-hL] at hO1 ⊢
   have hl0:L.length<=262144:=by rw [hL];exact HFEW.out
   have HFL:Hid (∀j,j<=L.length->Inv ((L.take j).foldl f (grown T))/\(Zae ((L.take j).foldl f (grown T))).length=j/\(grown T).B.length<=((L.take j).foldl f (grown T)).B.length):=by rw [hL];exact HFP.out
   have HGD:Hid (∀(j:Nat) (hj:j<L.length),(L[j]).k.good):=by
    intro j hj
    exact HII.out.good _ (by rw [<-hL];exact List.getElem_mem hj)
   have hcs0:Zar w1 w14 t g v ((L.take 0).foldl f (grown T)) ((0:Nat):Int):=⟨_,_,by rw [List.take_zero,List.foldl_nil,hG.out];exact hF.out.1,hF.out.2.1,hF.out.2.2⟩
   have hown:Hid (∀(wr:World),Touch (Blk t g v) w1 wr->wr.ownsRow w.heap.size 41 4 (.slice p L.length c) L.length (rcs L)):=fun wr ht=>Touch.own hO1.out ht fun j hj hk=>by
    have h1:=(hO1.out.lt j hj).1
    have h2:=HLM.out j hk
    omega
   have HLL:=hid hL
   clear hL hF hG HFP HII hO1
   generalize hT0:grown T=T0 at *
   have HT0:=hid hT0
   clear hT0
   go_wp2
   go_loopw [4,25] (fun s4 i wr=>∃(j:Nat),j<=L.length/\i = .int .i64 (j:Int)/\Hid (Zar w1 wr t g v ((L.take j).foldl f T0) (j:Int))) (fun _ i _=>L.length-(intOf i).toNat)
   case atStart=>exact ⟨0,by omega,rfl,hcs0⟩
   case round=>
    clear hcs0
    obtain ⟨j,hj,rfl,HQ⟩:=hrel
    by_cases hlt:j<L.length
    ·obtain ⟨g1,v1,hC,hT,hS⟩:=HQ.out
     have HC:=hid hC
     have HT:=hid hT
     have HS:=hid hS
     obtain ⟨gr,o,rfl,hgr,r0,r1,r2,r3⟩:=(Row.of_own (hown.out wr hT)).rt hlt
     have i1:(0:Int)<=(j:Int):=by omega
     have i2:(j:Int)<(L.length:Int):=by omega
     have HGDj:=hid (HGD.out j hlt)
     have HFLj:=hid (HFL.out j (by omega))
     have HFLk:=hid (HFL.out (j+1) (by omega))
     have HSN:=hid (Zhd f L T0 j hlt)
     clear hC hT hS HGD HFL hown
     generalize L[j]=r at *
     go_wp2_with fail
     refine (HPP.out g1 v1 ((L.take j).foldl f T0) r _ (by rw [HFLj.out.2.1];exact HC.out.below (by go_grown)) HFLj.out.1 HGDj.out (by rw [HFLj.out.2.1];omega) (Nat.le_trans hB0 HFLj.out.2.2)).mono ?_
     rintro e w2 ⟨rfl,hcs⟩
     have HCS:Hid (Zar w1 w2 t g v ((L.take (j+1)).foldl f T0) ((j+1:Nat):Int)):=by
      have h:=Zar.trans (HT.out.trans (Touch.quiet (by go_grown))) HS.out hcs
      rw [<-HSN.out,HFLk.out.2.1] at h
      exact h
     clear hcs
     go_wp2
     go_roundw
     case rel=>exact ⟨j+1,by omega,by go_num,HCS⟩
     case measure=>simp [intOf];omega
    ·have hjl:j=L.length:=by omega
     have HE:Hid (Zar w1 wr t g v (L.foldl f T0) ((Zae (L.foldl f T0)).length:Int)):=by
      have h1:=(HFL.out j hj).2.1
      have h2:=HQ.out
      rw [hjl,List.take_length] at h1 h2
      rw [h1]
      exact h2
     go_wp2
     go_end0
     rw [HT0.out,<-HLL.out]
     exact ⟨rfl,Zar.trans (Touch.quiet hb1'.out) (fun _ h _=>h) HE.out⟩
 ·have hmi:2*(T.B.length:Int)<=65536:=by omega
  have hmj:¬(65536:Int)<2*(T.B.length:Int):=by omega
  have HMIN:=hid hmin
  have hni:(n2:Int)=2*(T.B.length:Int):=by omega
  have hnm:(n2:Int)=min (2*(T.B.length:Int)) 65536:=by omega
  have PLA2:=PLA
  rw [hnm] at PLA2
  rw [hni] at PLA
  clear hnm
  clear hmin hn2a hlo hhi hfew hni hn2
  go_wp2_with fail
  have kg:=Zaa
  refine wp_region_noPanic ?_
  generalize hNQ:NoPanic _=NQ
  refine Zb2 [0,1,2,3,6,7,8] [4,9,10,11,12] 5 13 [14,15,16] (by kernel_rfl) (by rw [<-hNQ];exact fun _ _ _ h=>h) (by kernel_rfl) (by kernel_rfl) ?_
  simp only [Zah,List.filterMap_cons,List.filterMap_nil,List.getElem?_toArray,List.getElem?_cons_succ,List.getElem?_cons_zero]
  repeat (any_goals (quiet_step (fail)))
  refine wpQuiet_nil ?_
  clear kg
  intro w11 hb11
  refine ⟨?_,?_⟩
  ·intro K hK o ho
   injection ho with ho
   subst ho
   go_simp
   refine (HM.out _).mono ?_
   rintro e w12 ⟨rfl,hb12⟩
   have hb12':=hb11.trans (hb12.mono hb11.size)
   refine hK _ _ hb12' ?_
   clear hK K
   intro K hK o ho
   injection ho with ho
   subst ho
   try (rw [if_neg (show ¬((65536:Int)<2*(T.B.length:Int)) by omega)])
   go_simp
   refine hK _ _ (hb12'.alloc hb12'.size _) ?_
   clear hK K
   simp only [Zah,List.filterMap_cons,List.filterMap_nil,List.getElem?_toArray,List.getElem?_cons_succ,List.getElem?_cons_zero]
   have hbW:=hb12'.alloc hb12'.size (.cells MZ 154)
   have hg2:=hb12'.size
   have hgW:=heap_alloc_new w12 (.cells MZ 154)
   generalize World.alloc w12 _=W13 at hbW hgW ⊢
   have c0:=(hbW.cell (p:=⟨t,0,none⟩) hl1).trans c0
   have c1:=(hbW.cell (p:=⟨t,1,none⟩) hl1).trans c1
   have c2:=(hbW.cell (p:=⟨t,2,none⟩) hl1).trans c2
   have c3:=(hbW.cell (p:=⟨t,3,none⟩) hl1).trans c3
   have f0:=(hbW.frozen (p:=⟨t,0,none⟩) hl1).trans f0
   have f1:=(hbW.frozen (p:=⟨t,1,none⟩) hl1).trans f1
   have f2:=(hbW.frozen (p:=⟨t,2,none⟩) hl1).trans f2
   have f3:=(hbW.frozen (p:=⟨t,3,none⟩) hl1).trans f3
   have hl12:=Nat.lt_of_lt_of_le hl1 hbW.size
   have hbW:=hid hbW
   have hgW:=hid hgW
   have hg2:=hid hg2
   clear hb12 hb12'
   go_wp2_with fail
   rw [<-hNQ]
   refine NoPanic.normal ?_
   clear hNQ c0 c1 c2 c3 f0 f1 f2 f3
   generalize he14:World.setCell _ _ _=w14
   have hF:=hid (Zja (s2:=mixN T.s) (n2:=n2) HC1.out hbW.out hg2.out (by rw [<-HMZ.out];exact hgW.out) he14)
   clear he14 hbW hg2 hgW
   have hG:Hid (grown T=Zbq (mixN T.s) n2):=by show _=_;unfold grown;rw [HN2.out]
   obtain ⟨L,hL⟩:∃L,L=Zae T:=⟨_,rfl⟩
   rw [<-hL] at hO1 ⊢
   have hl0:L.length<=262144:=by rw [hL];exact HFEW.out
   have HFL:Hid (∀j,j<=L.length->Inv ((L.take j).foldl f (grown T))/\(Zae ((L.take j).foldl f (grown T))).length=j/\(grown T).B.length<=((L.take j).foldl f (grown T)).B.length):=by rw [hL];exact HFP.out
   have HGD:Hid (∀(j:Nat) (hj:j<L.length),(L[j]).k.good):=by
    intro j hj
    exact HII.out.good _ (by rw [<-hL];exact List.getElem_mem hj)
   have hcs0:Zar w1 w14 t g v ((L.take 0).foldl f (grown T)) ((0:Nat):Int):=⟨_,_,by rw [List.take_zero,List.foldl_nil,hG.out];exact hF.out.1,hF.out.2.1,hF.out.2.2⟩
   have hown:Hid (∀(wr:World),Touch (Blk t g v) w1 wr->wr.ownsRow w.heap.size 41 4 (.slice p L.length c) L.length (rcs L)):=fun wr ht=>Touch.own hO1.out ht fun j hj hk=>by
    have h1:=(hO1.out.lt j hj).1
    have h2:=HLM.out j hk
    omega
   have HLL:=hid hL
   clear hL hF hG HFP HII hO1
   generalize hT0:grown T=T0 at *
   have HT0:=hid hT0
   clear hT0
   go_wp2
   go_loopw [4,25] (fun s4 i wr=>∃(j:Nat),j<=L.length/\i = .int .i64 (j:Int)/\Hid (Zar w1 wr t g v ((L.take j).foldl f T0) (j:Int))) (fun _ i _=>L.length-(intOf i).toNat)
   case atStart=>exact ⟨0,by omega,rfl,hcs0⟩
   case round=>
    clear hcs0
    obtain ⟨j,hj,rfl,HQ⟩:=hrel
    by_cases hlt:j<L.length
    ·obtain ⟨g1,v1,hC,hT,hS⟩:=HQ.out
     have HC:=hid hC
     have HT:=hid hT
     have HS:=hid hS
     obtain ⟨gr,o,rfl,hgr,r0,r1,r2,r3⟩:=(Row.of_own (hown.out wr hT)).rt hlt
     have i1:(0:Int)<=(j:Int):=by omega
     have i2:(j:Int)<(L.length:Int):=by omega
     have HGDj:=hid (HGD.out j hlt)
     have HFLj:=hid (HFL.out j (by omega))
     have HFLk:=hid (HFL.out (j+1) (by omega))
     have HSN:=hid (Zhd f L T0 j hlt)
     clear hC hT hS HGD HFL hown
     generalize L[j]=r at *
     go_wp2_with fail
     refine (HPP.out g1 v1 ((L.take j).foldl f T0) r _ (by rw [HFLj.out.2.1];exact HC.out.below (by go_grown)) HFLj.out.1 HGDj.out (by rw [HFLj.out.2.1];omega) (Nat.le_trans hB0 HFLj.out.2.2)).mono ?_
     rintro e w2 ⟨rfl,hcs⟩
     have HCS:Hid (Zar w1 w2 t g v ((L.take (j+1)).foldl f T0) ((j+1:Nat):Int)):=by
      have h:=Zar.trans (HT.out.trans (Touch.quiet (by go_grown))) HS.out hcs
      rw [<-HSN.out,HFLk.out.2.1] at h
      exact h
     clear hcs
     go_wp2
     go_roundw
     case rel=>exact ⟨j+1,by omega,by go_num,HCS⟩
     case measure=>simp [intOf];omega
    ·have hjl:j=L.length:=by omega
     have HE:Hid (Zar w1 wr t g v (L.foldl f T0) ((Zae (L.foldl f T0)).length:Int)):=by
      have h1:=(HFL.out j hj).2.1
      have h2:=HQ.out
      rw [hjl,List.take_length] at h1 h2
      rw [h1]
      exact h2
     go_wp2
     go_end0
     rw [HT0.out,<-HLL.out]
     exact ⟨rfl,Zar.trans (Touch.quiet hb1'.out) (fun _ h _=>h) HE.out⟩
  ·intro K hK o ho
   injection ho with ho
   subst ho
   try (rw [if_neg (show ¬((65536:Int)<2*(T.B.length:Int)) by omega)])
   go_simp
   refine hK _ _ (hb11.alloc hb11.size _) ?_
   clear hK K
   intro K hK o ho
   injection ho with ho
   subst ho
   go_simp
   refine (HM.out _).mono ?_
   rintro e w12 ⟨rfl,hb12⟩
   have hbA:=hb11.alloc hb11.size (.cells MZ 154)
   have hb12':=hbA.trans (hb12.mono hbA.size)
   refine hK _ _ hb12' ?_
   clear hK K
   simp only [Zah,List.filterMap_cons,List.filterMap_nil,List.getElem?_toArray,List.getElem?_cons_succ,List.getElem?_cons_zero]
   have hbW:=hid hb12'
   have hg2:=hid hb11.size
   have hgW:=hid ((hb12.block w11.heap.size (by simp)).trans (heap_alloc_new w11 (.cells MZ 154)))
   have c0:=(hb12'.cell (p:=⟨t,0,none⟩) hl1).trans c0
   have c1:=(hb12'.cell (p:=⟨t,1,none⟩) hl1).trans c1
   have c2:=(hb12'.cell (p:=⟨t,2,none⟩) hl1).trans c2
   have c3:=(hb12'.cell (p:=⟨t,3,none⟩) hl1).trans c3
   have f0:=(hb12'.frozen (p:=⟨t,0,none⟩) hl1).trans f0
   have f1:=(hb12'.frozen (p:=⟨t,1,none⟩) hl1).trans f1
   have f2:=(hb12'.frozen (p:=⟨t,2,none⟩) hl1).trans f2
   have f3:=(hb12'.frozen (p:=⟨t,3,none⟩) hl1).trans f3
   have hl12:=Nat.lt_of_lt_of_le hl1 hb12'.size
   clear hb12 hb12' hbA
   go_wp2_with fail
   rw [<-hNQ]
   refine NoPanic.normal ?_
   clear hNQ c0 c1 c2 c3 f0 f1 f2 f3
   generalize he14:World.setCell _ _ _=w14
   have hF:=hid (Zja (s2:=mixN T.s) (n2:=n2) HC1.out hbW.out hg2.out (by rw [<-HMZ.out];exact hgW.out) he14)
   clear he14 hbW hg2 hgW
   have hG:Hid (grown T=Zbq (mixN T.s) n2):=by show _=_;unfold grown;rw [HN2.out]
   obtain ⟨L,hL⟩:∃L,L=Zae T:=⟨_,rfl⟩
   rw [<-hL] at hO1 ⊢
   have hl0:L.length<=262144:=by rw [hL];exact HFEW.out
   have HFL:Hid (∀j,j<=L.length->Inv ((L.take j).foldl f (grown T))/\(Zae ((L.take j).foldl f (grown T))).length=j/\(grown T).B.length<=((L.take j).foldl f (grown T)).B.length):=by rw [hL];exact HFP.out
   have HGD:Hid (∀(j:Nat) (hj:j<L.length),(L[j]).k.good):=by
    intro j hj
    exact HII.out.good _ (by rw [<-hL];exact List.getElem_mem hj)
   have hcs0:Zar w1 w14 t g v ((L.take 0).foldl f (grown T)) ((0:Nat):Int):=⟨_,_,by rw [List.take_zero,List.foldl_nil,hG.out];exact hF.out.1,hF.out.2.1,hF.out.2.2⟩
   have hown:Hid (∀(wr:World),Touch (Blk t g v) w1 wr->wr.ownsRow w.heap.size 41 4 (.slice p L.length c) L.length (rcs L)):=fun wr ht=>Touch.own hO1.out ht fun j hj hk=>by
    have h1:=(hO1.out.lt j hj).1
    have h2:=HLM.out j hk
    omega
   have HLL:=hid hL
   clear hL hF hG HFP HII hO1
   generalize hT0:grown T=T0 at *
   have HT0:=hid hT0
   clear hT0
   go_wp2
   go_loopw [4,25] (fun s4 i wr=>∃(j:Nat),j<=L.length/\i = .int .i64 (j:Int)/\Hid (Zar w1 wr t g v ((L.take j).foldl f T0) (j:Int))) (fun _ i _=>L.length-(intOf i).toNat)
   case atStart=>exact ⟨0,by omega,rfl,hcs0⟩
   case round=>
    clear hcs0
    obtain ⟨j,hj,rfl,HQ⟩:=hrel
    by_cases hlt:j<L.length
    ·obtain ⟨g1,v1,hC,hT,hS⟩:=HQ.out
     have HC:=hid hC
     have HT:=hid hT
     have HS:=hid hS
     obtain ⟨gr,o,rfl,hgr,r0,r1,r2,r3⟩:=(Row.of_own (hown.out wr hT)).rt hlt
     have i1:(0:Int)<=(j:Int):=by omega
     have i2:(j:Int)<(L.length:Int):=by omega
     have HGDj:=hid (HGD.out j hlt)
     have HFLj:=hid (HFL.out j (by omega))
     have HFLk:=hid (HFL.out (j+1) (by omega))
     have HSN:=hid (Zhd f L T0 j hlt)
     clear hC hT hS HGD HFL hown
     generalize L[j]=r at *
     go_wp2_with fail
     refine (HPP.out g1 v1 ((L.take j).foldl f T0) r _ (by rw [HFLj.out.2.1];exact HC.out.below (by go_grown)) HFLj.out.1 HGDj.out (by rw [HFLj.out.2.1];omega) (Nat.le_trans hB0 HFLj.out.2.2)).mono ?_
     rintro e w2 ⟨rfl,hcs⟩
     have HCS:Hid (Zar w1 w2 t g v ((L.take (j+1)).foldl f T0) ((j+1:Nat):Int)):=by
      have h:=Zar.trans (HT.out.trans (Touch.quiet (by go_grown))) HS.out hcs
      rw [<-HSN.out,HFLk.out.2.1] at h
      exact h
     clear hcs
     go_wp2
     go_roundw
     case rel=>exact ⟨j+1,by omega,by go_num,HCS⟩
     case measure=>simp [intOf];omega
    ·have hjl:j=L.length:=by omega
     have HE:Hid (Zar w1 wr t g v (L.foldl f T0) ((Zae (L.foldl f T0)).length:Int)):=by
      have h1:=(HFL.out j hj).2.1
      have h2:=HQ.out
      rw [hjl,List.take_length] at h1 h2
      rw [h1]
      exact h2
     go_wp2
     go_end0
     rw [HT0.out,<-HLL.out]
     exact ⟨rfl,Zar.trans (Touch.quiet hb1'.out) (fun _ h _=>h) HE.out⟩
theorem Zsk (d:Nat) (t g:Nat) (v:Value) (T:Tab) (r:Rt) (w:World) (H:CT w t g v T ((Zae T).length:Int)) (HI:Inv T) (hk:r.k.good) (hfew:(Zae T).length<262144)
 (HG:∀g1 v1 w1,grows (stay T r)=true->CT w1 t g1 v1 (stay T r).1 ((Zae (stay T r).1).length:Int)->Calls Tryz.prog 135 #[.pointer (some ⟨t,0,none⟩)] w1 fun e w'=>e = .returned (.tuple #[])/\Zar w1 w' t g1 v1 (putF d T r) ((Zae (putF d T r)).length:Int)) :
 Calls Tryz.prog 102 #[.pointer (some ⟨t,0,none⟩),kyV r.k,.int .i64 r.v] w fun e w'=>e = .returned (.tuple #[])/\Zar w w' t g v (putF d T r) ((Zae (putF d T r)).length:Int):=by
 have hst:=Zw7 T
 have hgr:∀{b},(stay T r).2=b->b=false->grows (stay T r)=false:=fun h hb=>by unfold grows;rw [h,hb];rfl
 cases hr:Zc9 T r with
 | some T'=>
  have hs:=Z1j hr
  have hp:=Zen d (hgr (by rw [hs]) rfl)
  have hc:=Zfy HI hk (by rw [hr];simp)
  rw [hs] at hp hc
  rw [hp,hc]
  exact Z5l t g v T T' _ r w H HI.num hk HI.sort (by omega) hr
 | none=>
  have hl:=Zvy HI hk hr
  have hc:=Zfz HI hk hr
  cases h1:putC (T.bk (T.x1 r.k)) r.k r.v with
  | some C=>
   have hF:fresh T r=(T.set (T.x1 r.k) C,none):=by unfold fresh;rw [h1]
   have hs:=Zqf hr (by rw [hF])
   have hp:=Zen d (hgr (by rw [hs]) rfl)
   rw [hs,hF] at hp hc
   rw [hp,hc]
   exact Zxt t g v T _ r C w H HI.num hk HI.sort (by omega) (by omega) (by omega) hr h1
  | none=>
   cases h2:putC (T.bk (T.x2 r.k)) r.k r.v with
   | some C=>
    have hF:fresh T r=(T.set (T.x2 r.k) C,none):=by unfold fresh;rw [h1];simp only [h2]
    have hs:=Zqf hr (by rw [hF])
    have hp:=Zen d (hgr (by rw [hs]) rfl)
    rw [hs,hF] at hp hc
    rw [hp,hc]
    exact Zu0 t g v T _ r C w H HI.num hk HI.sort (by omega) (by omega) (by omega) hr h1 h2
   | none=>
    have hF:fresh T r=Zdo 16 0 T (T.x2 r.k) r:=by unfold fresh;rw [h1];simp only [h2]
    obtain ⟨T1,o,hR⟩:∃T1 o,Zdo 16 0 T (T.x2 r.k) r=(T1,o):=⟨_,_,rfl⟩
    rw [hR] at hF
    cases o with
    | none=>
     have hs:=Zqf hr (by rw [hF])
     have hp:=Zen d (hgr (by rw [hs]) rfl)
     rw [hs,hF] at hp hc
     rw [hp,hc]
     exact Zu2 t g v T T1 _ r w H HI.num HI.goodT hk HI.sort (by omega) (by omega) (by omega) hr h1 h2 hR
    | some q=>
     rw [hF] at hl
     have hs:=Zw6 hr (by rw [hF]:(fresh T r).2=some q)
     rw [hF] at hs
     have hq:=Zro (hl.2.2.2 q rfl).2
     have hst1:T1.st.length=T.st.length:=hl.2.2.1
     have hgw:grows (stay T r)=(decide (8<(stay T r).1.st.length)&&decide ((stay T r).1.B.length<65536)):=by unfold grows;rw [hs];rfl
     have hT2:(stay T r).1={ T1 with st:=Zao T1.st q }:=by rw [hs]
     have hB2:(stay T r).1.B.length=T1.B.length:=by rw [hT2]
     refine (Z1x t g v T T1 (stay T r).1 (putF d T r) _ ((Zae (putF d T r)).length:Int) r q w H HI.num HI.goodT hk HI.sort (by omega) (by omega) (by omega) hr h1 h2 hR hl.1.sort (by omega) hq hT2 hl.1.hi ?_).mono ?_
     ·intro g1 v1 w1 H1 hn hb
      refine HG g1 v1 w1 (by rw [hgw,decide_eq_true hn,decide_eq_true hb];rfl) (by rw [hc];exact H1)
     ·rintro e w' ⟨rfl,hyes,hno⟩
      refine ⟨rfl,?_⟩
      by_cases hcase:8<(stay T r).1.st.length/\(stay T r).1.B.length<65536
      ·exact hyes hcase
      ·have hp:=Zen d (T:=T) (r:=r) (by
        rw [hgw]
        by_cases ha:8<(stay T r).1.st.length
        ·rw [decide_eq_false (fun hb=>hcase ⟨ha,hb⟩),Bool.and_false]
        ·rw [decide_eq_false ha,Bool.false_and])
       rw [hp,hc]
       exact hno hcase
theorem Zxu:∀(d:Nat) (t g:Nat) (v:Value) (T:Tab) (r:Rt) (w:World),CT w t g v T ((Zae T).length:Int)->Inv T->r.k.good->(Zae T).length<262144->65536<=T.B.length*2^d ->
 Calls Tryz.prog 102 #[.pointer (some ⟨t,0,none⟩),kyV r.k,.int .i64 r.v] w fun e w'=>e = .returned (.tuple #[])/\Zar w w' t g v (putF d T r) ((Zae (putF d T r)).length:Int)
 | 0,t,g,v,T,r,w,H,HI,hk,hfew,hd=>Zsk 0 t g v T r w H HI hk hfew fun g1 v1 w1 hg _=>by
  have hB:=(Zhu HI r hk).like.n
  unfold grows at hg
  simp only [Bool.and_eq_true,decide_eq_true_eq] at hg
  omega
 | d+1,t,g,v,T,r,w,H,HI,hk,hfew,hd=>Zsk (d+1) t g v T r w H HI hk hfew fun g1 v1 w1 hg H1=>by
  have hS:=Zhu HI r hk
  have hB:=hS.like.n
  have hG:=Zj9 hS.inv
  have hcn:(Zae (stay T r).1).length<=262144:=by
   by_cases hr:Zc9 T r=none
   ·rw [Zfz HI hk hr];omega
   ·rw [Zfy HI hk hr];omega
  have hp:65536<=(grown (stay T r).1).B.length*2^d:=by
   have h1:1<=2^d:=Nat.one_le_two_pow
   rw [hG.2]
   by_cases h2:2*(stay T r).1.B.length<=65536
   ·rw [Nat.min_eq_left h2,hB]
    rw [Nat.pow_succ] at hd
    have:2*T.B.length*2^d=T.B.length*(2^d*2):=by rw [Nat.mul_comm 2,Nat.mul_assoc,Nat.mul_comm 2]
    omega
   ·rw [Nat.min_eq_right (by omega)]
    omega
  rw [Zxv d hg]
  exact Zzg (putF d) _ (fun T r H hg=>Zqr d T r H hg) t g1 v1 (stay T r).1 _ w1 H1 hS.inv hcn (Nat.le_refl _) fun g2 v2 T2 r2 w2 H2 HI2 hk2 hf2 hB2=>Zxu d t g2 v2 T2 r2 w2 H2 HI2 hk2 hf2 (Nat.le_trans hp (Nat.mul_le_mul_right _ hB2))
def Seat (P:Nat->Prop) (w:World) (t:Nat) (T:Tab):Prop:=∃g v,CT w t g v T ((Zae T).length:Int)/\∀k,Blk t g v k->P k
theorem Seat.below {P:Nat->Prop} {w w':World} {t:Nat} {T:Tab} (H:Seat P w t T) (hb:Below w.heap.size w w'):Seat P w' t T:=by
 obtain ⟨g,v,h,hp⟩:=H
 exact ⟨g,v,h.below hb,hp⟩
theorem Seat.lt {P:Nat->Prop} {w:World} {t:Nat} {T:Tab} (H:Seat P w t T):t<w.heap.size:=by
 obtain ⟨g,v,h,hp⟩:=H
 exact h.tb.tlt
theorem Seat.touched {P S:Nat->Prop} {w w':World} {t:Nat} {T:Tab} (H:Seat P w t T) (ht:Touch S w w') (hn:∀k,P k->¬S k):Seat P w' t T:=by
 obtain ⟨g,v,h,hp⟩:=H
 exact ⟨g,v,h.touched ht (fun k hk=>hn k (hp k hk)),hp⟩
theorem Seat.mono {P Q:Nat->Prop} {w:World} {t:Nat} {T:Tab} (H:Seat P w t T) (h:∀k,k<w.heap.size->P k->Q k):Seat Q w t T:=by
 obtain ⟨g,v,hc,hp⟩:=H
 exact ⟨g,v,hc,fun k hk=>h k (hc.tb.blk k hk) (hp k hk)⟩
theorem Seat.new (s n:Nat) (w:World) (h1:1<=n) (h2:n<=65536) :
 Calls Tryz.prog 53 #[.int .u64 (s:Int),.int .i64 (n:Int)] w fun e w'=>∃t,e = .returned (.tuple #[.pointer (some ⟨t,0,none⟩),.int .i64 0])/\Seat (fun k=>w.heap.size<=k) w' t (Zbq s n)/\Below w.heap.size w w':=by
 refine (Z3v s n w h1 h2).mono ?_
 rintro e w' ⟨t,rfl,g,H,hb,ht,hg⟩
 refine ⟨t,rfl,⟨g,_,by rw [Zb8];exact H,fun k hk => ?_⟩,hb⟩
 rcases hk with e | e | e
 ·show _<=k;rw [e];exact ht
 ·show _<=k;rw [e];exact hg
 ·simp [Value.ownBlock] at e
theorem Seat.put {P:Nat->Prop} (t:Nat) (T:Tab) (r:Rt) (w:World) (H:Seat P w t T) (HI:Inv T) (hk:r.k.good) (hfew:(Zae T).length<262144) (hP:∀k,w.heap.size<=k->P k) :
 Calls Tryz.prog 102 #[.pointer (some ⟨t,0,none⟩),kyV r.k,.int .i64 r.v] w fun e w'=>e = .returned (.tuple #[])/\Seat P w' t (putF 16 T r)/\Touch P w w':=by
 obtain ⟨g,v,h,hp⟩:=H
 have hlo:=HI.lo
 refine (Zxu 16 t g v T r w h HI hk hfew (by omega)).mono ?_
 rintro e w' ⟨rfl,g',v',h',ht,hs⟩
 refine ⟨rfl,⟨g',v',h',fun k hk' => ?_⟩,ht.mono fun k _ hk=>hp k hk⟩
 by_cases e:k<w.heap.size
 ·exact hp k (hs k hk' e)
 ·exact hP k (by omega)
theorem Seat.get {P:Nat->Prop} (t:Nat) (T:Tab) (k:Ky) (w:World) (H:Seat P w t T) (HI:Inv T) (hk:k.good) (hfew:(Zae T).length<262144) :
 Calls Tryz.prog 68 #[.pointer (some ⟨t,0,none⟩),kyV k] w fun e w'=>∃p c,e = .returned (.tuple #[.int .i64 ((getT T k).getD 0),.bool (getT T k).isSome,.slice p (Zjs T k).length c])/\w'.ownsRow w.heap.size 3 1 (.slice p (Zjs T k).length c) (Zjs T k).length (ics (Zjs T k))/\Below w.heap.size w w':=by
 obtain ⟨g,v,h,hp⟩:=H
 have:=Zw7 T
 exact Zzk t g v T _ k w h HI.num hk HI.sort (by omega)
end
section
open Go.ChangeShapes Go.WideShapes Go.ChangeAt Go.RowKit Go.Joins Go.Deep M
section
variable {H:Type} {enc:TypeId×Value->H} {w:World} {base:Nat} {spare:Nat->Bool} {held:Bool} {r:Reach} {b0:Nat}
end
end
section
open Go.RowKit Go.Sort M
end
end Go.Proofs.YtgfjmgebecmbiaaGreat
