import Derived.Test.YtgfjmgebecmbiaaGreatRT1
set_option linter.unusedSimpArgs false
set_option linter.unusedVariables false
set_option maxHeartbeats 8000000
namespace Go.Proofs.YtgfjmgebecmbiaaGreat
open Lib(hid)
open Go.RowKit Go.Sort M
theorem Z71 (L:List Rt) (k:Ky) (j:Nat) (h:j<L.length):outS (L.take (j+1)) k=outS (L.take j) k++if L[j].k=k then [] else [L[j]]:=by
 unfold outS
 rw [List.take_succ_eq_append_getElem h,List.filter_append]
 by_cases e:L[j].k=k<;>simp [e]
set_option maxRecDepth 100000 in
theorem Z06 (p:Option Addr) (c:Nat) (L:List Rt) (k:Ky) (w:World) (hR:Row w p (rcs L)) (hl:L.length<1048576) :
 Calls Tryz.prog 11 #[.slice p L.length c,kyV k] w fun e w'=>Zcf w w' e (outS L k):=by
 obtain ⟨i0,hi0,iz0,iz1,iz2⟩:=info_parts Zd1
 have HR:=hid hR
 clear hR
 obtain ⟨F,hF⟩:∃F,F=outS L k:=⟨_,rfl⟩
 rw [<-hF]
 have HF:=hid hF
 clear hF
 unfold kyV at *
 go_enter Tryz.func11,Tryz.ntmps11
 go_wp2
 go_loopw [5,6] (fun s5 i wr=>∃(j:Nat) (q:Option Addr) (c2:Nat) (N:List Rt),j<=L.length/\i = .int .i64 (j:Int)/\s5 = .slice q N.length c2/\N.length<=j/\Hid (N=outS (L.take j) k)/\Hid (wr.ownsRow (w.heap.size+1) 41 4 (.slice q N.length c2) N.length (rcs N))/\wr.cell? ⟨w.heap.size,0,none⟩=some (.int .u64 (k.h:Int))/\wr.cell? ⟨w.heap.size,1,none⟩=some (.int .u64 (k.l:Int))/\wr.cell? ⟨w.heap.size,2,none⟩=some (.int .i64 k.n)/\w.heap.size<wr.heap.size/\Below w.heap.size w wr) (fun _ i _=>L.length-(intOf i).toNat)
 case atStart=>exact ⟨0,none,0,[],Nat.zero_le _,rfl,rfl,Nat.zero_le _,rfl,World.ownsRow_nil _ _ _ _,by simp [go_sem],by simp [go_sem],by simp [go_sem],by simp,by go_grown⟩
 case round=>
  obtain ⟨j,q,c2,N,hj,rfl,rfl,hNj,HN,HO,d0,d1,d2,hz,hb⟩:=hrel
  by_cases hlt:j<L.length
  ·obtain ⟨gr,o,rfl,hgr,r0,r1,r2,r3⟩:=HR.out.rt hlt
   have r0:=(hb.cell (p:=⟨gr,o+j*4,none⟩) hgr).trans r0
   have r1:=(hb.cell (p:=⟨gr,o+j*4+1,none⟩) hgr).trans r1
   have r2:=(hb.cell (p:=⟨gr,o+j*4+2,none⟩) hgr).trans r2
   have r3:=(hb.cell (p:=⟨gr,o+j*4+3,none⟩) hgr).trans r3
   have hgr2:=Nat.lt_of_lt_of_le hgr hb.size
   have i1:(0:Int)<=(j:Int):=by omega
   have i2:(j:Int)<(L.length:Int):=by omega
   have hE:=neqK L[j].k.h L[j].k.l L[j].k.n k.h k.l k.n
   have hs:=Z71 L k j hlt
   rw [<-HN.out] at hs
   by_cases hq:L[j].k=k
   ·rw [decide_eq_true ((Zyz _ _).2 hq)] at hE
    rw [if_pos hq,List.append_nil] at hs
    have HN2:Hid (N=outS (L.take (j+1)) k):=hs.symm
    clear hq hs r3
    generalize L[j].k=q1 at *
    go_wp2_with fail
    have kg:=Zaa
    refine Zab (by kernel_rfl) (by kernel_rfl) ?_
    repeat (any_goals (first|go_big_quiet_step (fail)|quiet_step (fail)))
    refine wpQuiet_nil ?_
    clear kg
    intro w2 hb2
    obtain ⟨hc2,hf2⟩:=Zaf hb2
    have hw2:Below w.heap.size w w2:=by
     refine Below.trans ?_ (hb2.mono ?_)
     ·go_grown
     ·first|omega|go_size
    have hw2:=hb.trans (hb2.mono hb.size)
    have d0:=(hc2 _ _ hz).trans d0
    have d1:=(hc2 _ _ hz).trans d1
    have d2:=(hc2 _ _ hz).trans d2
    have hz2:=Nat.lt_of_lt_of_le hz hb2.size
    have HO2:=hid (own_below HO.out hb2)
    clear hc2 hf2 hb2
    go_wp2
    go_roundw
    all_goals first
     | exact ⟨j+1,q,c2,N,by omega,by go_num,rfl,by omega,HN2,HO2,d0,d1,d2,hz2,hw2⟩
     | (simp [intOf];omega)
   ·rw [decide_eq_false (fun h=>hq ((Zyz _ _).1 h))] at hE
    rw [if_neg hq] at hs
    have HN2:=hid hs.symm
    clear hq hs
    generalize L[j]=r at *
    go_wp2_with fail
    have kg:=Zaa
    refine Zab (by kernel_rfl) (by kernel_rfl) ?_
    repeat (any_goals (first|go_big_quiet_step (fail)|quiet_step (fail)))
    refine wpQuiet_nil ?_
    clear kg
    intro w2 hb2
    obtain ⟨hc2,hf2⟩:=Zaf hb2
    have hw2:Below w.heap.size w w2:=by
     refine Below.trans ?_ (hb2.mono ?_)
     ·go_grown
     ·first|omega|go_size
    have hw2:=hb.trans (hb2.mono hb.size)
    have d0:=(hc2 _ _ hz).trans d0
    have d1:=(hc2 _ _ hz).trans d1
    have d2:=(hc2 _ _ hz).trans d2
    have r0:=(hc2 _ _ hgr2).trans r0
    have r1:=(hc2 _ _ hgr2).trans r1
    have r2:=(hc2 _ _ hgr2).trans r2
    have r3:=(hc2 _ _ hgr2).trans r3
    have hz2:=Nat.lt_of_lt_of_le hz hb2.size
    have hgr3:=Nat.lt_of_lt_of_le hgr2 hb2.size
    have HO2:=hid (own_below HO.out hb2)
    clear hc2 hf2 hb2
    go_wp2_with (at_builtin;go_loud (refine wpList_append_own_at _ rfl (.tmp 20) (.tmp 25) 35 rfl (w.heap.size+1) 41 i0 _ 4 32 Tryz.underlying35 hi0 iz0 iz1 iz2 rfl (by decide) _ _ _ rfl (HO2.out.alloc _) ⟨w2.heap.size,0,none⟩ 1 1 (Zac r) rfl rfl (Zb9 (by simp [go_sem]) (by simp [go_sem]) (by simp [go_sem]) (by simp [go_sem])) (by simp [Zac,Value.oneCell']) (by unfold maxLen;omega) (by omega) (by simp;omega) ?_))
    intro v3 w3 hown3 hg3 _ hat
    have hown4:=Zb7 hown3 rfl
    obtain ⟨p3,c3,rfl⟩:=Zag hown4
    have hw3:Below w.heap.size w w3:=(hw2.alloc hw2.size _).grown hg3 (by simp;omega) (fun j hj=>by have:=(HO2.out.lt j hj).1;omega)
    have hbx:w3.heap[w.heap.size]? = w2.heap[w.heap.size]? := (hg3.block _ (by simp;omega) (fun e=>by have:=(HO2.out.lt _ e.symm).1;omega)).trans (heap_alloc_old w2 _ hz2)
    have d0:=(World.cell?_of_block (a:=⟨w.heap.size,0,none⟩) hbx).trans d0
    have d1:=(World.cell?_of_block (a:=⟨w.heap.size,1,none⟩) hbx).trans d1
    have d2:=(World.cell?_of_block (a:=⟨w.heap.size,2,none⟩) hbx).trans d2
    have hz3:w.heap.size<w3.heap.size:=by have:=hg3.size;simp at this;omega
    have HO3:=hid hown4
    have hnl:(N++[r]).length<=j+1:=by simp;omega
    clear hown3 hg3 hown4 hbx HO2 HO hb hw2 hat
    go_wp2
    go_roundw
    all_goals first
     | exact ⟨j+1,p3,c3,N++[r],by omega,by go_num,rfl,hnl,HN2,HO3,d0,d1,d2,hz3,hw3⟩
     | (simp [intOf];omega)
  ·have HJ:Hid (N=F):=by
    show _=F
    rw [HF.out,HN.out,List.take_of_length_le (by omega)]
   go_wp2
   go_ret
   have h:=HO.out
   rw [HJ.out] at h ⊢
   exact ⟨_,_,rfl,Za4 h (by omega),hb⟩
def oI:Option Nat->Int
 | none => -1
 | some b=>b
theorem Zj0 {L:List Rt} {c:Rt->Bool} {j:Nat} (hj:j<L.length) (h:c L[j]=false):lngI L c (j+1)=lngI L c j:=by
 rw [lngI,getD_at hj]
 cases lngI L c j with
 | none=>simp only [h];rfl
 | some b=>simp only [h];rw [if_neg (fun x=>Bool.noConfusion x.1)]
theorem Zis {L:List Rt} {c:Rt->Bool} {j:Nat} (hj:j<L.length) (h:c L[j]=true) (e:lngI L c j=none):lngI L c (j+1)=some j:=by
 rw [lngI,getD_at hj,e]
 simp only [h,if_true]
theorem Zs4 {L:List Rt} {c:Rt->Bool} {j b:Nat} (hj:j<L.length) (hb:b<L.length) (h:c L[j]=true) (e:lngI L c j=some b):lngI L c (j+1)=if L[b].k.n<L[j].k.n then some j else some b:=by
 rw [lngI,getD_at hj,e]
 simp only [h,getD_at hb,true_and]
theorem Zwe {L:List Rt} {c:Rt->Bool}:∀{j b:Nat},lngI L c j=some b->b<j
 | 0,b,h=>by (cases h)
 | j+1,b,h=>by
  rw [lngI] at h
  cases e:lngI L c j with
  | none=>
   rw [e] at h
   simp only at h
   split at h
   ·injection h with h;omega
   ·cases h
  | some b'=>
   rw [e] at h
   simp only at h
   have:=Zwe e
   split at h
   ·injection h with h;omega
   ·injection h with h;omega
set_option maxRecDepth 100000 in
theorem Zn2 (p:Option Addr) (c:Nat) (L:List Rt) (ah al:Nat) (low high:Int) (wa:W64 ah) (wb:W64 al) (w:World) (hR:Row w p (rcs L)) (hg:∀x∈L,x.k.good) (hl:L.length<1048576) :
 Calls Tryz.prog 41 #[.slice p L.length c,.agg #[.int .u64 (ah:Int),.int .u64 (al:Int)],.int .i64 low,.int .i64 high] w fun e w'=>e = .returned (.int .i64 (oI (lngI L (Za8 ah al low high) L.length)))/\Below w.heap.size w w':=by
 have HR:=hid hR
 have HG:=hid hg
 obtain ⟨V,hV⟩:∃V,V=oI (lngI L (Za8 ah al low high) L.length):=⟨_,rfl⟩
 rw [<-hV]
 have HV:=hid hV
 clear hR hg hV
 go_enter Tryz.func41,Tryz.ntmps41
 go_wp2
 go_loopg [9,10,11] L.length (fun gk s9 s10 s11 wr=>∃(j:Nat) (v:Int),gk+j=L.length/\s10 = .int .i64 (j:Int)/\s9 = .int .i64 v/\Hid (v=oI (lngI L (Za8 ah al low high) j))/\wr.cell? ⟨w.heap.size,0,none⟩=some (.int .u64 (ah:Int))/\wr.cell? ⟨w.heap.size,1,none⟩=some (.int .u64 (al:Int))/\w.heap.size<wr.heap.size/\Below w.heap.size w wr)
 case atStart=>exact ⟨0,-1,by omega,rfl,rfl,rfl,by simp [go_sem],by simp [go_sem],by simp,by go_grown⟩
 case round=>
  obtain ⟨j,v,hj,rfl,rfl,HW,q0,q1,hzq,hb⟩:=hrel
  by_cases hlt:j<L.length
  ·obtain ⟨gr,o,rfl,hgr,r0,r1,r2,r3⟩:=HR.out.rt hlt
   have r0:=(hb.cell (p:=⟨gr,o+j*4,none⟩) hgr).trans r0
   have r1:=(hb.cell (p:=⟨gr,o+j*4+1,none⟩) hgr).trans r1
   have r2:=(hb.cell (p:=⟨gr,o+j*4+2,none⟩) hgr).trans r2
   have hgr2:=Nat.lt_of_lt_of_le hgr hb.size
   have i1:(j:Int)<(L.length:Int):=by omega
   have hgk:=HG.out _ (List.getElem_mem hlt)
   have hno:=fun h=>Zj0 (L:=L) (c:=Za8 ah al low high) hlt h
   have hyes:=fun h e=>Zis (L:=L) (c:=Za8 ah al low high) hlt h e
   have hsome:=fun b hb h e=>Zs4 (L:=L) (c:=Za8 ah al low high) (b:=b) hlt hb h e
   have hhas:=Z1p L[j].k.h L[j].k.l L[j].k.n ah al hgk.1 hgk.2 wa wb
   have hcd:Za8 ah al low high L[j]=(decide (low<L[j].k.n)&&(decide (L[j].k.n<=high)&&hasB L[j].k.h L[j].k.l L[j].k.n ah al)):=rfl
   clear r3
   by_cases c1:low<L[j].k.n
   ·by_cases c2:L[j].k.n<=high
    ·cases c3:hasB L[j].k.h L[j].k.l L[j].k.n ah al with
     | false=>
      have HN:Hid (v=oI (lngI L (Za8 ah al low high) (j+1))):=by
       show _=_
       rw [hno (by rw [hcd,c3];simp),<-HW.out]
      rw [c3] at hhas
      have HHA:=hid hhas
      have d1:decide (low<L[j].k.n)=true:=decide_eq_true c1
      have d2:decide (L[j].k.n<=high)=true:=decide_eq_true c2
      clear hno hyes hsome hhas hcd c3 hgk HW
      generalize L[j]=x at *
      go_wp2_with fail
      have kg:=Zaa
      refine Zab (by kernel_rfl) (by kernel_rfl) ?_
      repeat (any_goals (first|go_big_quiet_step ((exact HHA.out.at _ _ _))|quiet_step ((exact HHA.out.at _ _ _))))
      refine wpQuiet_nil ?_
      clear kg
      intro w2 hb2
      obtain ⟨hc2,hf2⟩:=Zaf hb2
      have hw2:Below w.heap.size w w2:=by
       refine Below.trans ?_ (hb2.mono ?_)
       ·go_grown
       ·first|omega|go_size
      have hbx:Below wr.heap.size wr w2:=Below.trans (by go_grown) (hb2.mono (by simp))
      have hw2:=hb.trans (hbx.mono hb.size)
      have q0:=(hbx.cell (p:=⟨w.heap.size,0,none⟩) hzq).trans q0
      have q1:=(hbx.cell (p:=⟨w.heap.size,1,none⟩) hzq).trans q1
      have hzq2:=Nat.lt_of_lt_of_le hzq hbx.size
      clear hbx
      clear hc2 hf2 hb2
      go_wp2_with fail
      go_roundg (gk-1)
      case measure=>omega
      case rel=>exact ⟨j+1,_,by omega,by go_num,rfl,HN,q0,q1,hzq2,hw2⟩
     | true=>
      have hct:Za8 ah al low high L[j]=true:=by rw [hcd,c3];simp [c1,c2]
      rw [c3] at hhas
      have HHA:=hid hhas
      have d1:decide (low<L[j].k.n)=true:=decide_eq_true c1
      have d2:decide (L[j].k.n<=high)=true:=decide_eq_true c2
      cases e:lngI L (Za8 ah al low high) j with
      | none=>
       have hv:v = -1:=by rw [HW.out,e];rfl
       subst hv
       have HN:Hid ((j:Int)=oI (lngI L (Za8 ah al low high) (j+1))):=by
        show _=_
        rw [hyes hct e]
        rfl
       clear hno hyes hsome hhas hcd c3 hgk HW hct e
       generalize L[j]=x at *
       go_wp2_with fail
       have kg:=Zaa
       refine Zab (by kernel_rfl) (by kernel_rfl) ?_
       repeat (any_goals (first|go_big_quiet_step ((exact HHA.out.at _ _ _))|quiet_step ((exact HHA.out.at _ _ _))))
       refine wpQuiet_nil ?_
       clear kg
       intro w2 hb2
       obtain ⟨hc2,hf2⟩:=Zaf hb2
       have hw2:Below w.heap.size w w2:=by
        refine Below.trans ?_ (hb2.mono ?_)
        ·go_grown
        ·first|omega|go_size
       have hbx:Below wr.heap.size wr w2:=Below.trans (by go_grown) (hb2.mono (by simp))
       have hw2:=hb.trans (hbx.mono hb.size)
       have q0:=(hbx.cell (p:=⟨w.heap.size,0,none⟩) hzq).trans q0
       have q1:=(hbx.cell (p:=⟨w.heap.size,1,none⟩) hzq).trans q1
       have hzq2:=Nat.lt_of_lt_of_le hzq hbx.size
       clear hbx
       clear hc2 hf2 hb2
       go_wp2_with fail
       go_roundg (gk-1)
       case measure=>omega
       case rel=>exact ⟨j+1,_,by omega,by go_num,rfl,HN,q0,q1,hzq2,hw2⟩
      | some b=>
       have hbj:=Zwe e
       have hbl:b<L.length:=by omega
       have hv:v=(b:Int):=by rw [HW.out,e];rfl
       subst hv
       have hs2:=hsome b hbl hct e
       obtain ⟨gr',o',e',-,-,-,s2,-⟩:=HR.out.rt hbl
       injection e' with e'
       injection e' with e1 e2
       subst e1 e2
       have s2:=(hb.cell (p:=⟨gr,o+b*4+2,none⟩) hgr).trans s2
       have b1:¬(b:Int)<0:=by omega
       have b2:((b:Nat):Int)<(L.length:Int):=by omega
       have b3:(0:Int)<=(b:Int):=by omega
       by_cases c4:L[b].k.n<L[j].k.n
       ·have HN:Hid ((j:Int)=oI (lngI L (Za8 ah al low high) (j+1))):=by
         show _=_
         rw [hs2,if_pos c4]
         rfl
        have d4:decide (L[b].k.n<L[j].k.n)=true:=decide_eq_true c4
        clear hno hyes hsome hhas hcd c3 hgk HW hct e hs2
        generalize L[j]=x at *
        generalize L[b]=z at *
        go_wp2_with fail
        have kg:=Zaa
        refine Zab (by kernel_rfl) (by kernel_rfl) ?_
        repeat (any_goals (first|go_big_quiet_step ((exact HHA.out.at _ _ _))|quiet_step ((exact HHA.out.at _ _ _))))
        refine wpQuiet_nil ?_
        clear kg
        intro w2 hb2
        obtain ⟨hc2,hf2⟩:=Zaf hb2
        have hw2:Below w.heap.size w w2:=by
         refine Below.trans ?_ (hb2.mono ?_)
         ·go_grown
         ·first|omega|go_size
        have hbx:Below wr.heap.size wr w2:=Below.trans (by go_grown) (hb2.mono (by simp))
        have hw2:=hb.trans (hbx.mono hb.size)
        have q0:=(hbx.cell (p:=⟨w.heap.size,0,none⟩) hzq).trans q0
        have q1:=(hbx.cell (p:=⟨w.heap.size,1,none⟩) hzq).trans q1
        have hzq2:=Nat.lt_of_lt_of_le hzq hbx.size
        clear hbx
        clear hc2 hf2 hb2
        go_wp2_with fail
        go_roundg (gk-1)
        case measure=>omega
        case rel=>exact ⟨j+1,_,by omega,by go_num,rfl,HN,q0,q1,hzq2,hw2⟩
       ·have HN:Hid ((b:Int)=oI (lngI L (Za8 ah al low high) (j+1))):=by
         show _=_
         rw [hs2,if_neg c4]
         rfl
        have d4:decide (L[b].k.n<L[j].k.n)=false:=decide_eq_false c4
        clear hno hyes hsome hhas hcd c3 hgk HW hct e hs2
        generalize L[j]=x at *
        generalize L[b]=z at *
        go_wp2_with fail
        have kg:=Zaa
        refine Zab (by kernel_rfl) (by kernel_rfl) ?_
        repeat (any_goals (first|go_big_quiet_step ((exact HHA.out.at _ _ _))|quiet_step ((exact HHA.out.at _ _ _))))
        refine wpQuiet_nil ?_
        clear kg
        intro w2 hb2
        obtain ⟨hc2,hf2⟩:=Zaf hb2
        have hw2:Below w.heap.size w w2:=by
         refine Below.trans ?_ (hb2.mono ?_)
         ·go_grown
         ·first|omega|go_size
        have hbx:Below wr.heap.size wr w2:=Below.trans (by go_grown) (hb2.mono (by simp))
        have hw2:=hb.trans (hbx.mono hb.size)
        have q0:=(hbx.cell (p:=⟨w.heap.size,0,none⟩) hzq).trans q0
        have q1:=(hbx.cell (p:=⟨w.heap.size,1,none⟩) hzq).trans q1
        have hzq2:=Nat.lt_of_lt_of_le hzq hbx.size
        clear hbx
        clear hc2 hf2 hb2
        go_wp2_with fail
        go_roundg (gk-1)
        case measure=>omega
        case rel=>exact ⟨j+1,_,by omega,by go_num,rfl,HN,q0,q1,hzq2,hw2⟩
    ·have HN:Hid (v=oI (lngI L (Za8 ah al low high) (j+1))):=by
      show _=_
      rw [hno (by rw [hcd];simp [c2]),<-HW.out]
     have d1:decide (low<L[j].k.n)=true:=decide_eq_true c1
     have d2:decide (L[j].k.n<=high)=false:=decide_eq_false c2
     clear hno hyes hsome hhas hcd hgk HW
     generalize L[j]=x at *
     go_wp2_with fail
     have kg:=Zaa
     refine Zab (by kernel_rfl) (by kernel_rfl) ?_
     repeat (any_goals (first|go_big_quiet_step (fail)|quiet_step (fail)))
     refine wpQuiet_nil ?_
     clear kg
     intro w2 hb2
     obtain ⟨hc2,hf2⟩:=Zaf hb2
     have hw2:Below w.heap.size w w2:=by
      refine Below.trans ?_ (hb2.mono ?_)
      ·go_grown
      ·first|omega|go_size
     have hbx:Below wr.heap.size wr w2:=Below.trans (by go_grown) (hb2.mono (by simp))
     have hw2:=hb.trans (hbx.mono hb.size)
     have q0:=(hbx.cell (p:=⟨w.heap.size,0,none⟩) hzq).trans q0
     have q1:=(hbx.cell (p:=⟨w.heap.size,1,none⟩) hzq).trans q1
     have hzq2:=Nat.lt_of_lt_of_le hzq hbx.size
     clear hbx
     clear hc2 hf2 hb2
     go_wp2_with fail
     go_roundg (gk-1)
     case measure=>omega
     case rel=>exact ⟨j+1,_,by omega,by go_num,rfl,HN,q0,q1,hzq2,hw2⟩
   ·have HN:Hid (v=oI (lngI L (Za8 ah al low high) (j+1))):=by
     show _=_
     rw [hno (by rw [hcd];simp [c1]),<-HW.out]
    have d1:decide (low<L[j].k.n)=false:=decide_eq_false c1
    clear hno hyes hsome hhas hcd hgk HW
    generalize L[j]=x at *
    go_wp2_with fail
    have kg:=Zaa
    refine Zab (by kernel_rfl) (by kernel_rfl) ?_
    repeat (any_goals (first|go_big_quiet_step (fail)|quiet_step (fail)))
    refine wpQuiet_nil ?_
    clear kg
    intro w2 hb2
    obtain ⟨hc2,hf2⟩:=Zaf hb2
    have hw2:Below w.heap.size w w2:=by
     refine Below.trans ?_ (hb2.mono ?_)
     ·go_grown
     ·first|omega|go_size
    have hbx:Below wr.heap.size wr w2:=Below.trans (by go_grown) (hb2.mono (by simp))
    have hw2:=hb.trans (hbx.mono hb.size)
    have q0:=(hbx.cell (p:=⟨w.heap.size,0,none⟩) hzq).trans q0
    have q1:=(hbx.cell (p:=⟨w.heap.size,1,none⟩) hzq).trans q1
    have hzq2:=Nat.lt_of_lt_of_le hzq hbx.size
    clear hbx
    clear hc2 hf2 hb2
    go_wp2_with fail
    go_roundg (gk-1)
    case measure=>omega
    case rel=>exact ⟨j+1,_,by omega,by go_num,rfl,HN,q0,q1,hzq2,hw2⟩
  ·have i1:¬(j:Int)<(L.length:Int):=by omega
   obtain rfl:j=L.length:=by omega
   go_wp2
   go_ret
   exact ⟨by rw [HV.out,<-HW.out];rfl,hb⟩
end Go.Proofs.YtgfjmgebecmbiaaGreat
