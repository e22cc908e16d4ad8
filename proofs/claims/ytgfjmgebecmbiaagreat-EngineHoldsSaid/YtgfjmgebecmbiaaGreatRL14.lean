import Derived.Test.YtgfjmgebecmbiaaGreatRT1
set_option linter.unusedSimpArgs false
set_option linter.unusedVariables false
set_option maxHeartbeats 8000000
namespace Go.Proofs.YtgfjmgebecmbiaaGreat
open Lib(hid)
open Go.RowKit Go.Sort M
theorem neqR (a b:Nat) (n x:Int) (c d:Nat) (m y:Int) (w:World):(binOp .neq 41 (.agg #[.int .u64 a,.int .u64 b,.int .i64 n,.int .i64 x]) (.agg #[.int .u64 c,.int .u64 d,.int .i64 m,.int .i64 y])).run Tryz.prog w =
 .ok (.bool (!decide (a=c/\b=d/\n=m/\x=y))) w:=by
 have e1:decide (a=c/\b=d/\n=m/\x=y)=(decide ((a:Int)=c)&&(decide ((b:Int)=d)&&(decide (n=m)&&decide (x=y)))):=by
  rw [<-Bool.decide_and,<-Bool.decide_and,<-Bool.decide_and,decide_eq_decide];omega
 rw [e1]
 by_cases h1:(a:Int)=c<;>by_cases h2:(b:Int)=d<;>by_cases h3:n=m<;>by_cases h4:x=y<;>simp [go_sem,h1,h2,h3,h4]
theorem Z9n (a b:Rt):(a.k.h=b.k.h/\a.k.l=b.k.l/\a.k.n=b.k.n/\a.v=b.v)↔a=b:=by
 obtain ⟨⟨h,l,n⟩,v⟩:=a
 obtain ⟨⟨h',l',n'⟩,v'⟩:=b
 constructor
 ·rintro ⟨e1,e2,e3,e4⟩
  simp only at e1 e2 e3 e4
  subst e1 e2 e3 e4
  rfl
 ·intro e
  injection e with e1 e2
  injection e1 with e3 e4 e5
  exact ⟨e3,e4,e5,e2⟩
set_option maxRecDepth 100000 in
theorem Z7u (p q:Option Addr) (c d:Nat) (X Y:List Rt) (w:World) (hX:Row w p (rcs X)) (hY:Row w q (rcs Y)) (hl:X.length<1048576) (hm:Y.length<1048576) :
 Calls Tryz.prog 19 #[.slice p X.length c,.slice q Y.length d] w fun e w'=>e = .returned (.bool (decide (X=Y)))/\Below w.heap.size w w':=by
 by_cases hlen:X.length=Y.length
 ·have HX:=hid hX
  have HY:=hid hY
  have HL:=hid hlen
  clear hX hY hlen
  have hn:¬((X.length:Int)≠(Y.length:Int)):=by rw [HL.out];simp
  obtain ⟨F,hF⟩:∃F,F=decide (X=Y):=⟨_,rfl⟩
  rw [<-hF]
  have HF:=hid hF
  clear hF
  rw [<-HL.out]
  clear hn
  go_enter Tryz.func19,Tryz.ntmps19
  go_wp2
  go_loopw [5] (fun i wr=>∃(j:Nat),j<=X.length/\i = .int .i64 (j:Int)/\Hid (∀i,∀(h:i<X.length) (h2:i<Y.length),i<j->X[i]=Y[i])/\Below w.heap.size w wr) (fun i _=>X.length-(intOf i).toNat)
  case atStart=>exact ⟨0,Nat.zero_le _,rfl,fun i _ _ h=>absurd h (by omega),by go_grown⟩
  case round=>
   obtain ⟨j,hj,rfl,HE,hb⟩:=hrel
   by_cases hlt:j<X.length
   ·have hlt2:j<Y.length:=by rw [<-HL.out];exact hlt
    obtain ⟨ga,oa,rfl,hga,a0,a1,a2,a3⟩:=HX.out.rt hlt
    obtain ⟨gb,ob,rfl,hgb,b0,b1,b2,b3⟩:=HY.out.rt hlt2
    have a0:=(hb.cell (p:=⟨ga,oa+j*4,none⟩) hga).trans a0
    have a1:=(hb.cell (p:=⟨ga,oa+j*4+1,none⟩) hga).trans a1
    have a2:=(hb.cell (p:=⟨ga,oa+j*4+2,none⟩) hga).trans a2
    have a3:=(hb.cell (p:=⟨ga,oa+j*4+3,none⟩) hga).trans a3
    have b0:=(hb.cell (p:=⟨gb,ob+j*4,none⟩) hgb).trans b0
    have b1:=(hb.cell (p:=⟨gb,ob+j*4+1,none⟩) hgb).trans b1
    have b2:=(hb.cell (p:=⟨gb,ob+j*4+2,none⟩) hgb).trans b2
    have b3:=(hb.cell (p:=⟨gb,ob+j*4+3,none⟩) hgb).trans b3
    have hga2:=Nat.lt_of_lt_of_le hga hb.size
    have hgb2:=Nat.lt_of_lt_of_le hgb hb.size
    have hz0:=hb.size
    have i1:(0:Int)<=(j:Int):=by omega
    have i2:(j:Int)<(X.length:Int):=by omega
    have hE:=neqR X[j].k.h X[j].k.l X[j].k.n X[j].v Y[j].k.h Y[j].k.l Y[j].k.n Y[j].v
    by_cases hq:X[j]=Y[j]
    ·rw [decide_eq_true ((Z9n _ _).2 hq)] at hE
     have HE2:Hid (∀i,∀(h:i<X.length) (h2:i<Y.length),i<j+1->X[i]=Y[i]):=by
      intro i h h2 hij
      by_cases e:i=j
      ·subst e;exact hq
      ·exact HE.out i h h2 (by omega)
     clear hq
     generalize X[j]=x at hE a0 a1 a2 a3
     generalize Y[j]=y at hE b0 b1 b2 b3
     go_wp2_with fail
     have kg:=Zaa
     refine Zab (by kernel_rfl) (by kernel_rfl) ?_
     repeat (any_goals (first|go_big_quiet_step (fail)|quiet_step (fail)))
     refine wpQuiet_nil ?_
     clear kg
     intro w2 hb2
     obtain ⟨hc2,hf2⟩:=Zaf hb2
     have hw2:Below w.heap.size w w2:=by
      refine Below.trans ?_ (hb2.mono ?_)
      ·go_grown
      ·first|omega|go_size
     have hw2:=hb.trans (hb2.mono hb.size)
     clear hc2 hf2 hb2
     go_wp2
     go_roundw
     all_goals first
      | exact ⟨j+1,by omega,by go_num,HE2,hw2⟩
      | (simp [intOf];omega)
    ·rw [decide_eq_false (fun h=>hq ((Z9n _ _).1 h))] at hE
     have HJ:Hid (F=false):=by
      show F=_
      rw [HF.out]
      exact decide_eq_false fun e=>hq (by subst e;rfl)
     clear hq
     generalize X[j]=x at hE a0 a1 a2 a3
     generalize Y[j]=y at hE b0 b1 b2 b3
     go_wp2_with fail
     have kg:=Zaa
     refine Zab (by kernel_rfl) (by kernel_rfl) ?_
     repeat (any_goals (first|go_big_quiet_step (fail)|quiet_step (fail)))
     refine wpQuiet_nil ?_
     clear kg
     intro w2 hb2
     obtain ⟨hc2,hf2⟩:=Zaf hb2
     have hw2:Below w.heap.size w w2:=by
      refine Below.trans ?_ (hb2.mono ?_)
      ·go_grown
      ·first|omega|go_size
     go_wp2
     go_ret
     exact ⟨by rw [HJ.out];rfl,hb.trans (hb2.mono hb.size)⟩
   ·have HJ:Hid (F=true):=by
     show F=_
     rw [HF.out]
     exact decide_eq_true (List.ext_getElem HL.out fun i h1 h2=>HE.out i h1 h2 (by omega))
    go_wp2
    go_ret
    exact ⟨by rw [HJ.out];rfl,hb⟩
 ·rw [decide_eq_false (fun e=>hlen (by rw [e]))]
  have hn:¬((X.length:Int)=(Y.length:Int)):=by omega
  clear hlen
  go_enter Tryz.func19,Tryz.ntmps19
  go_wp2
  go_ret
  exact ⟨rfl,by go_grown⟩
def oI:Option Nat->Int
 | none => -1
 | some b=>b
theorem Zj0 {L:List Rt} {c:Rt->Bool} {j:Nat} (hj:j<L.length) (h:c L[j]=false):lngI L c (j+1)=lngI L c j:=by
 rw [lngI,getD_at hj]
 cases lngI L c j with
 | none=>simp only [h];rfl
 | some b=>simp only [h];rw [if_neg (fun x=>Bool.noConfusion x.1)]
theorem Zis {L:List Rt} {c:Rt->Bool} {j:Nat} (hj:j<L.length) (h:c L[j]=true) (e:lngI L c j=none):lngI L c (j+1)=some j:=by
 rw [lngI,getD_at hj,e]
 simp only [h,if_true]
theorem Zs4 {L:List Rt} {c:Rt->Bool} {j b:Nat} (hj:j<L.length) (hb:b<L.length) (h:c L[j]=true) (e:lngI L c j=some b):lngI L c (j+1)=if L[b].k.n<L[j].k.n then some j else some b:=by
 rw [lngI,getD_at hj,e]
 simp only [h,getD_at hb,true_and]
theorem Zwe {L:List Rt} {c:Rt->Bool}:∀{j b:Nat},lngI L c j=some b->b<j
 | 0,b,h=>by (cases h)
 | j+1,b,h=>by
  rw [lngI] at h
  cases e:lngI L c j with
  | none=>
   rw [e] at h
   simp only at h
   split at h
   ·injection h with h;omega
   ·cases h
  | some b'=>
   rw [e] at h
   simp only at h
   have:=Zwe e
   split at h
   ·injection h with h;omega
   ·injection h with h;omega
set_option maxRecDepth 100000 in
theorem Zn2 (p:Option Addr) (c:Nat) (L:List Rt) (ah al:Nat) (low high:Int) (wa:W64 ah) (wb:W64 al) (w:World) (hR:Row w p (rcs L)) (hg:∀x∈L,x.k.good) (hl:L.length<1048576) :
 Calls Tryz.prog 41 #[.slice p L.length c,.agg #[.int .u64 (ah:Int),.int .u64 (al:Int)],.int .i64 low,.int .i64 high] w fun e w'=>e = .returned (.int .i64 (oI (lngI L (Za8 ah al low high) L.length)))/\Below w.heap.size w w':=by
 have HR:=hid hR
 have HG:=hid hg
 obtain ⟨V,hV⟩:∃V,V=oI (lngI L (Za8 ah al low high) L.length):=⟨_,rfl⟩
 rw [<-hV]
 have HV:=hid hV
 clear hR hg hV
 go_enter Tryz.func41,Tryz.ntmps41
 go_wp2
 go_loopg [9,10,11] L.length (fun gk s9 s10 s11 wr=>∃(j:Nat) (v:Int),gk+j=L.length/\s10 = .int .i64 (j:Int)/\s9 = .int .i64 v/\Hid (v=oI (lngI L (Za8 ah al low high) j))/\wr.cell? ⟨w.heap.size,0,none⟩=some (.int .u64 (ah:Int))/\wr.cell? ⟨w.heap.size,1,none⟩=some (.int .u64 (al:Int))/\w.heap.size<wr.heap.size/\Below w.heap.size w wr)
 case atStart=>exact ⟨0,-1,by omega,rfl,rfl,rfl,by simp [go_sem],by simp [go_sem],by simp,by go_grown⟩
 case round=>
  obtain ⟨j,v,hj,rfl,rfl,HW,q0,q1,hzq,hb⟩:=hrel
  by_cases hlt:j<L.length
  ·obtain ⟨gr,o,rfl,hgr,r0,r1,r2,r3⟩:=HR.out.rt hlt
   have r0:=(hb.cell (p:=⟨gr,o+j*4,none⟩) hgr).trans r0
   have r1:=(hb.cell (p:=⟨gr,o+j*4+1,none⟩) hgr).trans r1
   have r2:=(hb.cell (p:=⟨gr,o+j*4+2,none⟩) hgr).trans r2
   have hgr2:=Nat.lt_of_lt_of_le hgr hb.size
   have i1:(j:Int)<(L.length:Int):=by omega
   have hgk:=HG.out _ (List.getElem_mem hlt)
   have hno:=fun h=>Zj0 (L:=L) (c:=Za8 ah al low high) hlt h
   have hyes:=fun h e=>Zis (L:=L) (c:=Za8 ah al low high) hlt h e
   have hsome:=fun b hb h e=>Zs4 (L:=L) (c:=Za8 ah al low high) (b:=b) hlt hb h e
   have hhas:=Z1p L[j].k.h L[j].k.l L[j].k.n ah al hgk.1 hgk.2 wa wb
   have hcd:Za8 ah al low high L[j]=(decide (low<L[j].k.n)&&(decide (L[j].k.n<=high)&&hasB L[j].k.h L[j].k.l L[j].k.n ah al)):=rfl
   clear r3
   by_cases c1:low<L[j].k.n
   ·by_cases c2:L[j].k.n<=high
    ·cases c3:hasB L[j].k.h L[j].k.l L[j].k.n ah al with
     | false=>
      have HN:Hid (v=oI (lngI L (Za8 ah al low high) (j+1))):=by
       show _=_
       rw [hno (by rw [hcd,c3];simp),<-HW.out]
      rw [c3] at hhas
      have HHA:=hid hhas
      have d1:decide (low<L[j].k.n)=true:=decide_eq_true c1
      have d2:decide (L[j].k.n<=high)=true:=decide_eq_true c2
      clear hno hyes hsome hhas hcd c3 hgk HW
      generalize L[j]=x at *
      go_wp2_with fail
      have kg:=Zaa
      refine Zab (by kernel_rfl) (by kernel_rfl) ?_
      repeat (any_goals (first|go_big_quiet_step ((exact HHA.out.at _ _ _))|quiet_step ((exact HHA.out.at _ _ _))))
      refine wpQuiet_nil ?_
      clear kg
      intro w2 hb2
      obtain ⟨hc2,hf2⟩:=Zaf hb2
      have hw2:Below w.heap.size w w2:=by
       refine Below.trans ?_ (hb2.mono ?_)
       ·go_grown
       ·first|omega|go_size
      have hbx:Below wr.heap.size wr w2:=Below.trans (by go_grown) (hb2.mono (by simp))
      have hw2:=hb.trans (hbx.mono hb.size)
      have q0:=(hbx.cell (p:=⟨w.heap.size,0,none⟩) hzq).trans q0
      have q1:=(hbx.cell (p:=⟨w.heap.size,1,none⟩) hzq).trans q1
      have hzq2:=Nat.lt_of_lt_of_le hzq hbx.size
      clear hbx
      clear hc2 hf2 hb2
      go_wp2_with fail
      go_roundg (gk-1)
      case measure=>omega
      case rel=>exact ⟨j+1,_,by omega,by go_num,rfl,HN,q0,q1,hzq2,hw2⟩
     | true=>
      have hct:Za8 ah al low high L[j]=true:=by rw [hcd,c3];simp [c1,c2]
      rw [c3] at hhas
      have HHA:=hid hhas
      have d1:decide (low<L[j].k.n)=true:=decide_eq_true c1
      have d2:decide (L[j].k.n<=high)=true:=decide_eq_true c2
      cases e:lngI L (Za8 ah al low high) j with
      | none=>
       have hv:v = -1:=by rw [HW.out,e];rfl
       subst hv
       have HN:Hid ((j:Int)=oI (lngI L (Za8 ah al low high) (j+1))):=by
        show _=_
        rw [hyes hct e]
        rfl
       clear hno hyes hsome hhas hcd c3 hgk HW hct e
       generalize L[j]=x at *
       go_wp2_with fail
       have kg:=Zaa
       refine Zab (by kernel_rfl) (by kernel_rfl) ?_
       repeat (any_goals (first|go_big_quiet_step ((exact HHA.out.at _ _ _))|quiet_step ((exact HHA.out.at _ _ _))))
       refine wpQuiet_nil ?_
       clear kg
       intro w2 hb2
       obtain ⟨hc2,hf2⟩:=Zaf hb2
       have hw2:Below w.heap.size w w2:=by
        refine Below.trans ?_ (hb2.mono ?_)
        ·go_grown
        ·first|omega|go_size
       have hbx:Below wr.heap.size wr w2:=Below.trans (by go_grown) (hb2.mono (by simp))
       have hw2:=hb.trans (hbx.mono hb.size)
       have q0:=(hbx.cell (p:=⟨w.heap.size,0,none⟩) hzq).trans q0
       have q1:=(hbx.cell (p:=⟨w.heap.size,1,none⟩) hzq).trans q1
       have hzq2:=Nat.lt_of_lt_of_le hzq hbx.size
       clear hbx
       clear hc2 hf2 hb2
       go_wp2_with fail
       go_roundg (gk-1)
       case measure=>omega
       case rel=>exact ⟨j+1,_,by omega,by go_num,rfl,HN,q0,q1,hzq2,hw2⟩
      | some b=>
       have hbj:=Zwe e
       have hbl:b<L.length:=by omega
       have hv:v=(b:Int):=by rw [HW.out,e];rfl
       subst hv
       have hs2:=hsome b hbl hct e
       obtain ⟨gr',o',e',-,-,-,s2,-⟩:=HR.out.rt hbl
       injection e' with e'
       injection e' with e1 e2
       subst e1 e2
       have s2:=(hb.cell (p:=⟨gr,o+b*4+2,none⟩) hgr).trans s2
       have b1:¬(b:Int)<0:=by omega
       have b2:((b:Nat):Int)<(L.length:Int):=by omega
       have b3:(0:Int)<=(b:Int):=by omega
       by_cases c4:L[b].k.n<L[j].k.n
       ·have HN:Hid ((j:Int)=oI (lngI L (Za8 ah al low high) (j+1))):=by
         show _=_
         rw [hs2,if_pos c4]
         rfl
        have d4:decide (L[b].k.n<L[j].k.n)=true:=decide_eq_true c4
        clear hno hyes hsome hhas hcd c3 hgk HW hct e hs2
        generalize L[j]=x at *
        generalize L[b]=z at *
        go_wp2_with fail
        have kg:=Zaa
        refine Zab (by kernel_rfl) (by kernel_rfl) ?_
        repeat (any_goals (first|go_big_quiet_step ((exact HHA.out.at _ _ _))|quiet_step ((exact HHA.out.at _ _ _))))
        refine wpQuiet_nil ?_
        clear kg
        intro w2 hb2
        obtain ⟨hc2,hf2⟩:=Zaf hb2
        have hw2:Below w.heap.size w w2:=by
         refine Below.trans ?_ (hb2.mono ?_)
         ·go_grown
         ·first|omega|go_size
        have hbx:Below wr.heap.size wr w2:=Below.trans (by go_grown) (hb2.mono (by simp))
        have hw2:=hb.trans (hbx.mono hb.size)
        have q0:=(hbx.cell (p:=⟨w.heap.size,0,none⟩) hzq).trans q0
        have q1:=(hbx.cell (p:=⟨w.heap.size,1,none⟩) hzq).trans q1
        have hzq2:=Nat.lt_of_lt_of_le hzq hbx.size
        clear hbx
        clear hc2 hf2 hb2
        go_wp2_with fail
        go_roundg (gk-1)
        case measure=>omega
        case rel=>exact ⟨j+1,_,by omega,by go_num,rfl,HN,q0,q1,hzq2,hw2⟩
       ·have HN:Hid ((b:Int)=oI (lngI L (Za8 ah al low high) (j+1))):=by
         show _=_
         rw [hs2,if_neg c4]
         rfl
        have d4:decide (L[b].k.n<L[j].k.n)=false:=decide_eq_false c4
        clear hno hyes hsome hhas hcd c3 hgk HW hct e hs2
        generalize L[j]=x at *
        generalize L[b]=z at *
        go_wp2_with fail
        have kg:=Zaa
        refine Zab (by kernel_rfl) (by kernel_rfl) ?_
        repeat (any_goals (first|go_big_quiet_step ((exact HHA.out.at _ _ _))|quiet_step ((exact HHA.out.at _ _ _))))
        refine wpQuiet_nil ?_
        clear kg
        intro w2 hb2
        obtain ⟨hc2,hf2⟩:=Zaf hb2
        have hw2:Below w.heap.size w w2:=by
         refine Below.trans ?_ (hb2.mono ?_)
         ·go_grown
         ·first|omega|go_size
        have hbx:Below wr.heap.size wr w2:=Below.trans (by go_grown) (hb2.mono (by simp))
        have hw2:=hb.trans (hbx.mono hb.size)
        have q0:=(hbx.cell (p:=⟨w.heap.size,0,none⟩) hzq).trans q0
        have q1:=(hbx.cell (p:=⟨w.heap.size,1,none⟩) hzq).trans q1
        have hzq2:=Nat.lt_of_lt_of_le hzq hbx.size
        clear hbx
        clear hc2 hf2 hb2
        go_wp2_with fail
        go_roundg (gk-1)
        case measure=>omega
        case rel=>exact ⟨j+1,_,by omega,by go_num,rfl,HN,q0,q1,hzq2,hw2⟩
    ·have HN:Hid (v=oI (lngI L (Za8 ah al low high) (j+1))):=by
      show _=_
      rw [hno (by rw [hcd];simp [c2]),<-HW.out]
     have d1:decide (low<L[j].k.n)=true:=decide_eq_true c1
     have d2:decide (L[j].k.n<=high)=false:=decide_eq_false c2
     clear hno hyes hsome hhas hcd hgk HW
     generalize L[j]=x at *
     go_wp2_with fail
     have kg:=Zaa
     refine Zab (by kernel_rfl) (by kernel_rfl) ?_
     repeat (any_goals (first|go_big_quiet_step (fail)|quiet_step (fail)))
     refine wpQuiet_nil ?_
     clear kg
     intro w2 hb2
     obtain ⟨hc2,hf2⟩:=Zaf hb2
     have hw2:Below w.heap.size w w2:=by
      refine Below.trans ?_ (hb2.mono ?_)
      ·go_grown
      ·first|omega|go_size
     have hbx:Below wr.heap.size wr w2:=Below.trans (by go_grown) (hb2.mono (by simp))
     have hw2:=hb.trans (hbx.mono hb.size)
     have q0:=(hbx.cell (p:=⟨w.heap.size,0,none⟩) hzq).trans q0
     have q1:=(hbx.cell (p:=⟨w.heap.size,1,none⟩) hzq).trans q1
     have hzq2:=Nat.lt_of_lt_of_le hzq hbx.size
     clear hbx
     clear hc2 hf2 hb2
     go_wp2_with fail
     go_roundg (gk-1)
     case measure=>omega
     case rel=>exact ⟨j+1,_,by omega,by go_num,rfl,HN,q0,q1,hzq2,hw2⟩
   ·have HN:Hid (v=oI (lngI L (Za8 ah al low high) (j+1))):=by
     show _=_
     rw [hno (by rw [hcd];simp [c1]),<-HW.out]
    have d1:decide (low<L[j].k.n)=false:=decide_eq_false c1
    clear hno hyes hsome hhas hcd hgk HW
    generalize L[j]=x at *
    go_wp2_with fail
    have kg:=Zaa
    refine Zab (by kernel_rfl) (by kernel_rfl) ?_
    repeat (any_goals (first|go_big_quiet_step (fail)|quiet_step (fail)))
    refine wpQuiet_nil ?_
    clear kg
    intro w2 hb2
    obtain ⟨hc2,hf2⟩:=Zaf hb2
    have hw2:Below w.heap.size w w2:=by
     refine Below.trans ?_ (hb2.mono ?_)
     ·go_grown
     ·first|omega|go_size
    have hbx:Below wr.heap.size wr w2:=Below.trans (by go_grown) (hb2.mono (by simp))
    have hw2:=hb.trans (hbx.mono hb.size)
    have q0:=(hbx.cell (p:=⟨w.heap.size,0,none⟩) hzq).trans q0
    have q1:=(hbx.cell (p:=⟨w.heap.size,1,none⟩) hzq).trans q1
    have hzq2:=Nat.lt_of_lt_of_le hzq hbx.size
    clear hbx
    clear hc2 hf2 hb2
    go_wp2_with fail
    go_roundg (gk-1)
    case measure=>omega
    case rel=>exact ⟨j+1,_,by omega,by go_num,rfl,HN,q0,q1,hzq2,hw2⟩
  ·have i1:¬(j:Int)<(L.length:Int):=by omega
   obtain rfl:j=L.length:=by omega
   go_wp2
   go_ret
   exact ⟨by rw [HV.out,<-HW.out];rfl,hb⟩
end Go.Proofs.YtgfjmgebecmbiaaGreat
