import Derived.Test.YtgfjmgebecmbiaaGreatRL14
set_option linter.unusedSimpArgs false
set_option linter.unusedVariables false
set_option maxHeartbeats 4000000
namespace Go.Proofs.YtgfjmgebecmbiaaGreat
open Lib(hid)
open Go.RowKit Go.Sort M
theorem Zli:∀(L:List Rt) (r:Rt),∃J,J<=L.length/\(∀i,∀h:i<L.length,i<J->Zau L[i].k r.k=true)/\(∀h:J<L.length,Zau L[J].k r.k=false) /\
 ((∃h:J<L.length,L[J].k=r.k/\Zao L r=L.set J r)\/((∀h:J<L.length,L[J].k≠r.k)/\Zao L r=L.take J++r::L.drop J))
 | [],r=>⟨0,by simp,fun i h=>absurd h (by simp),fun h=>absurd h (by simp),.inr ⟨fun h=>absurd h (by simp),by simp [Zao]⟩⟩
 | a::l,r=>by
  by_cases h:Zau a.k r.k=true
  ·obtain ⟨J,h1,h2,h3,h4⟩:=Zli l r
   refine ⟨J+1,by simp;omega,fun i hi hij => ?_,fun hJ=>h3 (by simpa using hJ),?_⟩
   ·cases i with
    | zero=>exact h
    | succ i=>exact h2 i (by simpa using hi) (by omega)
   ·have e:Zao (a::l) r=a::Zao l r:=by rw [Zao,if_pos h]
    rcases h4 with ⟨hJ,hk,hi⟩ | ⟨hk,hi⟩
    ·exact .inl ⟨by simp;omega,hk,by rw [e,hi];rfl⟩
    ·exact .inr ⟨fun hJ=>hk (by simpa using hJ),by rw [e,hi];rfl⟩
  ·have hf:Zau a.k r.k=false:=by simpa using h
   refine ⟨0,by simp,fun i _ hi=>absurd hi (by omega),fun _=>hf,?_⟩
   by_cases hk:a.k=r.k
   ·exact .inl ⟨by simp,hk,by rw [Zao,if_neg h,if_pos hk];rfl⟩
   ·exact .inr ⟨fun _=>hk,by rw [Zao,if_neg h,if_neg hk];rfl⟩
def rtA (r:Rt):Value := .agg #[.int .u64 (r.k.h:Int),.int .u64 (r.k.l:Int),.int .i64 r.k.n,.int .i64 r.v]
theorem Zjt:∀(L:List Rt) (j:Nat) (r:Rt),j<L.length->((((rcs L).set (j*4) (.int .u64 (r.k.h:Int))).set (j*4+1) (.int .u64 (r.k.l:Int))).set (j*4+2) (.int .i64 r.k.n)).set (j*4+3) (.int .i64 r.v)=rcs (L.set j r)
 | [],_,_,h=>absurd h (by simp)
 | x::L,0,r,_=>by simp [Zdj,Zac]
 | x::L,j+1,r,h=>by
  have ih:=Zjt L j r (by simpa using h)
  rw [List.set_cons_succ,Zdj,Zdj,<-ih]
  have e:∀(X:List Value) (m:Nat) (u:Value),(Zac x++X).set (m+4) u=Zac x++X.set m u:=fun X m u=>by
   rw [List.set_append_right _ _ (by simp [Zac])]
   simp [Zac]
  rw [show (j+1)*4=j*4+4 by omega,show j*4+4+1=j*4+1+4 by omega,show j*4+4+2=j*4+2+4 by omega,show j*4+4+3=j*4+3+4 by omega,e,e,e,e]
set_option maxRecDepth 100000 in
theorem Z58 (B:Nat) (p:Option Addr) (c:Nat) (L:List Rt) (r:Rt) (J:Nat) (w:World) (hR:w.ownsRow B 41 4 (.slice p L.length c) L.length (rcs L)) (hl:L.length<1048576) (hJ:J<L.length) (hls:∀i,∀h:i<L.length,i<J->Zau L[i].k r.k=true) (hnl:Zau L[J].k r.k=false) (hk:L[J].k=r.k) :
 Calls Tryz.prog 14 #[.slice p L.length c,rtA r] w fun e w'=>Zcf w w' e (L.set J r):=by
 obtain ⟨i0,hi0,iz0,iz1,iz2⟩:=info_parts Zd1
 have HR:=hid (Row.of_own hR)
 have HOWN:=hid hR
 have HLS:=hid hls
 have HNL:=hid hnl
 clear hR hls hnl
 unfold rtA at *
 go_enter Tryz.func14,Tryz.ntmps14
 go_wp2
 go_loopw [5] (fun i wr=>∃(j:Nat),j<=J/\i = .int .i64 (j:Int)/\wr.cell? ⟨w.heap.size,0,none⟩=some (.int .u64 (r.k.h:Int))/\wr.cell? ⟨w.heap.size,1,none⟩=some (.int .u64 (r.k.l:Int))/\wr.cell? ⟨w.heap.size,2,none⟩=some (.int .i64 r.k.n)/\wr.cell? ⟨w.heap.size,3,none⟩=some (.int .i64 r.v)/\w.heap.size<wr.heap.size/\Below w.heap.size w wr) (fun i _=>J-(intOf i).toNat)
 case atStart=>exact ⟨0,Nat.zero_le _,rfl,by simp [go_sem],by simp [go_sem],by simp [go_sem],by simp [go_sem],by simp,by go_grown⟩
 case round=>
  obtain ⟨j,hj,rfl,d0,d1,d2,d3,hz,hb⟩:=hrel
  by_cases hlt:j<J
  ·have hlL:j<L.length:=by omega
   obtain ⟨gr,o,rfl,hgr,r0,r1,r2,r3⟩:=HR.out.rt hlL
   have r0:=(hb.cell (p:=⟨gr,o+j*4,none⟩) hgr).trans r0
   have r1:=(hb.cell (p:=⟨gr,o+j*4+1,none⟩) hgr).trans r1
   have r2:=(hb.cell (p:=⟨gr,o+j*4+2,none⟩) hgr).trans r2
   have hgr2:=Nat.lt_of_lt_of_le hgr hb.size
   have i1:(0:Int)<=(j:Int):=by omega
   have i2:(j:Int)<(L.length:Int):=by omega
   have HLE:=Zel L[j].k.h L[j].k.l L[j].k.n r.k.h r.k.l r.k.n
   change Zak _ _ _ (.bool (Zau L[j].k r.k)) at HLE
   rw [HLS.out j hlL hlt] at HLE
   have HLE:=hid HLE
   clear r3
   generalize L[j].k=q at *
   go_wp2_with fail
   have kg:=Zaa
   refine Zab (by kernel_rfl) (by kernel_rfl) ?_
   repeat (any_goals (first|go_big_quiet_step ((exact HLE.out.at _ _ _))|quiet_step ((exact HLE.out.at _ _ _))))
   refine wpQuiet_nil ?_
   clear kg
   intro w2 hb2
   obtain ⟨hc2,hf2⟩:=Zaf hb2
   have hw2:Below w.heap.size w w2:=by
    refine Below.trans ?_ (hb2.mono ?_)
    ·go_grown
    ·first|omega|go_size
   have hw2:=hb.trans (hb2.mono hb.size)
   have d0:=(hc2 _ _ hz).trans d0
   have d1:=(hc2 _ _ hz).trans d1
   have d2:=(hc2 _ _ hz).trans d2
   have d3:=(hc2 _ _ hz).trans d3
   have hz2:=Nat.lt_of_lt_of_le hz hb2.size
   clear hc2 hf2 hb2
   go_wp2
   go_roundw
   all_goals first
    | exact ⟨j+1,by omega,by go_num,d0,d1,d2,d3,hz2,hw2⟩
    | (simp [intOf];omega)
  ·obtain rfl:j=J:=by omega
   obtain ⟨gr,o,hp,hgr,r0,r1,r2,r3⟩:=HR.out.rt hJ
   have r0:=(hb.cell (p:=⟨gr,o+j*4,none⟩) hgr).trans r0
   have r1:=(hb.cell (p:=⟨gr,o+j*4+1,none⟩) hgr).trans r1
   have r2:=(hb.cell (p:=⟨gr,o+j*4+2,none⟩) hgr).trans r2
   subst hp
   have hgr2:=Nat.lt_of_lt_of_le hgr hb.size
   have i1:(0:Int)<=(j:Int):=by omega
   have i2:(j:Int)<(L.length:Int):=by omega
   have HLE:=Zel L[j].k.h L[j].k.l L[j].k.n r.k.h r.k.l r.k.n
   change Zak _ _ _ (.bool (Zau L[j].k r.k)) at HLE
   rw [HNL.out] at HLE
   have HLE:=hid HLE
   have hE:=eqlK L[j].k.h L[j].k.l L[j].k.n r.k.h r.k.l r.k.n
   rw [decide_eq_true ((Zyz _ _).2 hk)] at hE
   clear r3 hk
   generalize L[j].k=q at *
   go_wp2_with fail
   have kg:=Zaa
   refine Zab (by kernel_rfl) (by kernel_rfl) ?_
   repeat (any_goals (first|go_big_quiet_step ((exact HLE.out.at _ _ _))|quiet_step ((exact HLE.out.at _ _ _))))
   refine wpQuiet_nil ?_
   clear kg
   intro w2 hb2
   obtain ⟨hc2,hf2⟩:=Zaf hb2
   have hw2:Below w.heap.size w w2:=by
    refine Below.trans ?_ (hb2.mono ?_)
    ·go_grown
    ·first|omega|go_size
   have hw2:=hb.trans (hb2.mono hb.size)
   have d0:=(hc2 _ _ hz).trans d0
   have d1:=(hc2 _ _ hz).trans d1
   have d2:=(hc2 _ _ hz).trans d2
   have d3:=(hc2 _ _ hz).trans d3
   have r0:=(hc2 _ _ hgr2).trans r0
   have r1:=(hc2 _ _ hgr2).trans r1
   have r2:=(hc2 _ _ hgr2).trans r2
   have hz2:=Nat.lt_of_lt_of_le hz hb2.size
   have hgr3:=Nat.lt_of_lt_of_le hgr2 hb2.size
   have hz0:=hw2.size
   clear hc2 hf2 hb2
   go_wp2_with fail
   have kg:=Zaa
   refine Zab (by kernel_rfl) (by kernel_rfl) ?_
   repeat (any_goals (first|go_big_quiet_step (fail)|quiet_step (fail)))
   refine wpQuiet_nil ?_
   clear kg
   intro w4 hb4
   obtain ⟨hc4,hf4⟩:=Zaf hb4
   have hw4:Below w.heap.size w w4:=by
    refine Below.trans ?_ (hb4.mono ?_)
    ·go_grown
    ·first|omega|go_size
   have hw4:=hw2.trans (hb4.mono hw2.size)
   have d0:=(hc4 _ _ hz2).trans d0
   have d1:=(hc4 _ _ hz2).trans d1
   have d2:=(hc4 _ _ hz2).trans d2
   have d3:=(hc4 _ _ hz2).trans d3
   have hz4:=Nat.lt_of_lt_of_le hz2 hb4.size
   have HO4:=hid (own_below HOWN.out hw4)
   clear hc4 hf4 hb4
   clear r0 r1 r2 hE
   go_wp2_with (at_builtin;go_loud (refine Zcg rfl (.const (.slice none 0 0)) (.tmp 37) rfl (w.heap.size+1) B _ _ [] L L rfl rfl rfl (World.ownsRow_nil _ _ _ _) HO4.out (by simp;omega) (by omega) ?_))
   intro v5 w5 hown5 hg5 hat
   have hw5:Below w.heap.size w w5:=hw4.grown hg5 hw4.size (fun j hj=>by simp [Value.ownBlock] at hj)
   have hbx:w5.heap[w.heap.size]? = w4.heap[w.heap.size]? := hg5.block _ hz4 (by simp [Value.ownBlock])
   have d0:=(World.cell?_of_block (a:=⟨w.heap.size,0,none⟩) hbx).trans d0
   have d1:=(World.cell?_of_block (a:=⟨w.heap.size,1,none⟩) hbx).trans d1
   have d2:=(World.cell?_of_block (a:=⟨w.heap.size,2,none⟩) hbx).trans d2
   have d3:=(World.cell?_of_block (a:=⟨w.heap.size,3,none⟩) hbx).trans d3
   have hz5:=Nat.lt_of_lt_of_le hz4 hg5.size
   obtain ⟨g5,c5,cur5,rfl,hB5,hg5l,-,-,-,-,-⟩:=Zbk hown5 (by omega)
   obtain ⟨gq,oq,eq5,-,q0,q1,q2,q3⟩:=(Row.of_own hown5).rt hJ
   injection eq5 with eq5
   injection eq5 with eg eo
   subst eg eo
   simp only [Nat.zero_add] at q0 q1 q2 q3
   have f0:=hown5.frozenAt (j*4)
   have f1:=hown5.frozenAt (j*4+1)
   have f2:=hown5.frozenAt (j*4+2)
   have f3:=hown5.frozenAt (j*4+3)
   have hs1:=hown5.stored (j*4) (.int .u64 (r.k.h:Int))
   have hs2:=hs1.1.stored (j*4+1) (.int .u64 (r.k.l:Int))
   have hs3:=hs2.1.stored (j*4+2) (.int .i64 r.k.n)
   have hs4:=hs3.1.stored (j*4+3) (.int .i64 r.v)
   have hown6:=hs4.1
   rw [Zjt L j r hJ] at hown6
   have HO6:=hid hown6
   have HB6:=hid (((hw5.grown hs1.2 hw5.size (fun k e=>by injection e with e;omega)).grown hs2.2 (by simp;exact hw5.size) (fun k e=>by injection e with e;omega)).grown hs3.2 (by simp;exact hw5.size) (fun k e=>by injection e with e;omega) |>.grown hs4.2 (by simp;exact hw5.size) (fun k e=>by injection e with e;omega))
   generalize L[j]=lj at *
   clear hs1 hs2 hs3 hs4 hown6 hown5 hg5 hbx hat HO4 hw4
   go_wp2
   go_ret
   exact ⟨_,_,by rw [List.length_set];rfl,by rw [List.length_set];exact Za4 HO6.out (by omega),HB6.out⟩
theorem Zb5 {o:Oper} {a:Act} {w:World} {K:Act->World->Prop} {Q:Exit->Act->World->Prop} (s x:Operand)
 (ho:o.op = .call { callee := .builtin .append,args := #[s,x],argTypes := #[35,35] }) (B:Nat) (v:Value) (L M:List Rt) (hs:a.eval s=v)
 (hown:w.ownsRow B 41 4 v L.length (rcs L)) (ad:Addr) (n c:Nat) (hn:n=M.length) (hx:a.eval x = .slice (some ad) n c) (hsrc:∀j u,(rcs M)[j]? = some u->w.cell? (ad.add j)=some u) (hlen:L.length+M.length<=1099511627776) (hB:B<=w.heap.size)
 (h:∀v' w',w'.ownsRow B 41 4 v' (L++M).length (rcs (L++M))->w.grownBy w' v.ownBlock->(v'.ownBlock=v.ownBlock\/v'.ownBlock=some w.heap.size)->K (a.put o.dst v') w'):o.wp Tryz.prog a w K Q:=by
 subst hn
 obtain ⟨i0,hi0,iz0,iz1,iz2⟩:=info_parts Zd1
 obtain ⟨v',w',hr,h2,h3,h4,h5⟩:=run_append_own_at (P:=Tryz.prog) w B 35 o.type 41 i0 _ 4 32 Tryz.underlying35 hi0 iz0 iz1 iz2 rfl (by decide) v _ _ hown ad M.length c (rcs M) (Zaz M) hsrc (Zcb M) (by unfold maxLen;omega) (by omega) hB
 unfold Oper.wp execOp
 simp only [ho,resolve,invoke,builtin,Sem.run_bind,Sem.run_pure,Result.andThen_ok,List.map_toArray,List.map_cons,List.map_nil,hs,hx,hr]
 exact h _ _ (by rw [Zal,List.length_append];exact h2) h3 h5
theorem Zse {w:World} {B gr c j:Nat} {L:List Rt} (h:w.ownsRow B 41 4 (.slice (some ⟨gr,0,none⟩) L.length c) L.length (rcs L)) (hj:j<=L.length):∀i u,(rcs (L.drop j))[i]? = some u->w.cell? ((⟨gr,j*4,none⟩:Addr).add i)=some u:=by
 intro i u hu
 have ea:∀(o i:Nat),(⟨gr,o,none⟩:Addr).add i=⟨gr,o+i,none⟩:=fun o i=>by unfold Addr.add;split<;>simp_all
 have h2:=h.cells rfl (j*4+i) u
 rw [ea,Nat.zero_add] at h2
 rw [ea]
 refine h2 ?_
 have e:rcs L=rcs (L.take j)++rcs (L.drop j):=by rw [<-Zal,List.take_append_drop]
 have hl:(rcs (L.take j)).length=j*4:=by rw [Zaz,List.length_take,Nat.min_eq_left hj]
 rw [e,List.getElem?_append_right (by omega),hl,Nat.add_sub_cancel_left]
 exact hu
set_option maxRecDepth 100000 in
theorem Z2x (B g c:Nat) (L:List Rt) (r:Rt) (J:Nat) (w:World) (hR:w.ownsRow B 41 4 (.slice (some ⟨g,0,none⟩) L.length c) L.length (rcs L)) (hl:L.length<1048576) (hJ:J<L.length) (hls:∀i,∀h:i<L.length,i<J->Zau L[i].k r.k=true) (hnl:Zau L[J].k r.k=false) (hk:L[J].k≠r.k) :
 Calls Tryz.prog 14 #[.slice (some ⟨g,0,none⟩) L.length c,rtA r] w fun e w'=>Zcf w w' e (L.take J++r::L.drop J):=by
 obtain ⟨p,hp⟩:∃p:Option Addr,p=some ⟨g,0,none⟩:=⟨_,rfl⟩
 have hlc:L.length<=c:=by
  obtain ⟨_,_,_,e,_,_,_,h1,_⟩:=Zbk hR (by omega)
  injection e with _ _ e3
  omega
 rw [<-hp] at hR ⊢
 have HP:=hid hp
 clear hp
 have HR:=hid (Row.of_own hR)
 have HOWN:=hid hR
 have HLS:=hid hls
 have HNL:=hid hnl
 clear hR hls hnl
 unfold rtA at *
 go_enter Tryz.func14,Tryz.ntmps14
 go_wp2
 go_loopw [5] (fun i wr=>∃(j:Nat),j<=J/\i = .int .i64 (j:Int)/\wr.cell? ⟨w.heap.size,0,none⟩=some (.int .u64 (r.k.h:Int))/\wr.cell? ⟨w.heap.size,1,none⟩=some (.int .u64 (r.k.l:Int))/\wr.cell? ⟨w.heap.size,2,none⟩=some (.int .i64 r.k.n)/\wr.cell? ⟨w.heap.size,3,none⟩=some (.int .i64 r.v)/\w.heap.size<wr.heap.size/\Below w.heap.size w wr) (fun i _=>J-(intOf i).toNat)
 case atStart=>exact ⟨0,Nat.zero_le _,rfl,by simp [go_sem],by simp [go_sem],by simp [go_sem],by simp [go_sem],by simp,by go_grown⟩
 case round=>
  obtain ⟨j,hj,rfl,d0,d1,d2,d3,hz,hb⟩:=hrel
  by_cases hlt:j<J
  ·have hlL:j<L.length:=by omega
   obtain ⟨gr,o,rfl,hgr,r0,r1,r2,r3⟩:=HR.out.rt hlL
   have r0:=(hb.cell (p:=⟨gr,o+j*4,none⟩) hgr).trans r0
   have r1:=(hb.cell (p:=⟨gr,o+j*4+1,none⟩) hgr).trans r1
   have r2:=(hb.cell (p:=⟨gr,o+j*4+2,none⟩) hgr).trans r2
   have hgr2:=Nat.lt_of_lt_of_le hgr hb.size
   have i1:(0:Int)<=(j:Int):=by omega
   have i2:(j:Int)<(L.length:Int):=by omega
   have HLE:=Zel L[j].k.h L[j].k.l L[j].k.n r.k.h r.k.l r.k.n
   change Zak _ _ _ (.bool (Zau L[j].k r.k)) at HLE
   rw [HLS.out j hlL hlt] at HLE
   have HLE:=hid HLE
   clear r3
   generalize L[j].k=q at *
   go_wp2_with fail
   have kg:=Zaa
   refine Zab (by kernel_rfl) (by kernel_rfl) ?_
   repeat (any_goals (first|go_big_quiet_step ((exact HLE.out.at _ _ _))|quiet_step ((exact HLE.out.at _ _ _))))
   refine wpQuiet_nil ?_
   clear kg
   intro w2 hb2
   obtain ⟨hc2,hf2⟩:=Zaf hb2
   have hw2:Below w.heap.size w w2:=by
    refine Below.trans ?_ (hb2.mono ?_)
    ·go_grown
    ·first|omega|go_size
   have hw2:=hb.trans (hb2.mono hb.size)
   have d0:=(hc2 _ _ hz).trans d0
   have d1:=(hc2 _ _ hz).trans d1
   have d2:=(hc2 _ _ hz).trans d2
   have d3:=(hc2 _ _ hz).trans d3
   have hz2:=Nat.lt_of_lt_of_le hz hb2.size
   clear hc2 hf2 hb2
   go_wp2
   go_roundw
   all_goals first
    | exact ⟨j+1,by omega,by go_num,d0,d1,d2,d3,hz2,hw2⟩
    | (simp [intOf];omega)
  ·obtain rfl:j=J:=by omega
   obtain ⟨gr,o,hp,hgr,r0,r1,r2,r3⟩:=HR.out.rt hJ
   have e:=HP.out
   rw [hp] at e
   injection e with e
   injection e with e1 e2
   subst e1 e2 hp
   have r0:=(hb.cell (p:=⟨gr,0+j*4,none⟩) hgr).trans r0
   have r1:=(hb.cell (p:=⟨gr,0+j*4+1,none⟩) hgr).trans r1
   have r2:=(hb.cell (p:=⟨gr,0+j*4+2,none⟩) hgr).trans r2
   simp only [Nat.zero_add] at r0 r1 r2
   have hgr2:=Nat.lt_of_lt_of_le hgr hb.size
   have i1:(0:Int)<=(j:Int):=by omega
   have i2:(j:Int)<(L.length:Int):=by omega
   have i3:(j:Int)<=(c:Int):=by omega
   have i4:(j:Int)<=(L.length:Int):=by omega
   have hjc:¬(c=j):=by omega
   have HLE:=Zel L[j].k.h L[j].k.l L[j].k.n r.k.h r.k.l r.k.n
   change Zak _ _ _ (.bool (Zau L[j].k r.k)) at HLE
   rw [HNL.out] at HLE
   have HLE:=hid HLE
   have hE:=eqlK L[j].k.h L[j].k.l L[j].k.n r.k.h r.k.l r.k.n
   rw [decide_eq_false (fun h=>hk ((Zyz _ _).1 h))] at hE
   clear r3 hk
   generalize L[j].k=q at *
   go_wp2_with fail
   have kg:=Zaa
   refine Zab (by kernel_rfl) (by kernel_rfl) ?_
   repeat (any_goals (first|go_big_quiet_step ((exact HLE.out.at _ _ _))|quiet_step ((exact HLE.out.at _ _ _))))
   refine wpQuiet_nil ?_
   clear kg
   intro w2 hb2
   obtain ⟨hc2,hf2⟩:=Zaf hb2
   have hw2:Below w.heap.size w w2:=by
    refine Below.trans ?_ (hb2.mono ?_)
    ·go_grown
    ·first|omega|go_size
   have hw2:=hb.trans (hb2.mono hb.size)
   have d0:=(hc2 _ _ hz).trans d0
   have d1:=(hc2 _ _ hz).trans d1
   have d2:=(hc2 _ _ hz).trans d2
   have d3:=(hc2 _ _ hz).trans d3
   have r0:=(hc2 _ _ hgr2).trans r0
   have r1:=(hc2 _ _ hgr2).trans r1
   have r2:=(hc2 _ _ hgr2).trans r2
   have hz2:=Nat.lt_of_lt_of_le hz hb2.size
   have hgr3:=Nat.lt_of_lt_of_le hgr2 hb2.size
   have hz0:=hw2.size
   clear hc2 hf2 hb2
   go_wp2_with fail
   have kg:=Zaa
   refine Zab (by kernel_rfl) (by kernel_rfl) ?_
   repeat (any_goals (first|go_big_quiet_step (fail)|quiet_step (fail)))
   refine wpQuiet_nil ?_
   clear kg
   intro w4 hb4
   obtain ⟨hc4,hf4⟩:=Zaf hb4
   have hw4:Below w.heap.size w w4:=by
    refine Below.trans ?_ (hb4.mono ?_)
    ·go_grown
    ·first|omega|go_size
   have hw4:=hw2.trans (hb4.mono hw2.size)
   have d0:=(hc4 _ _ hz2).trans d0
   have d1:=(hc4 _ _ hz2).trans d1
   have d2:=(hc4 _ _ hz2).trans d2
   have d3:=(hc4 _ _ hz2).trans d3
   have hz4:=Nat.lt_of_lt_of_le hz2 hb4.size
   have HO4:=hid (own_below HOWN.out hw4)
   clear hc4 hf4 hb4 r0 r1 r2 hE
   go_wp2_with fail
   have kg:=Zaa
   refine wp_region_noPanic ?_
   generalize hNQ:NoPanic _=NQ
   refine Zb2 [0,1,2,7,8,9] [4] 3 5 [6,10,11] (by kernel_rfl) (by rw [<-hNQ];exact fun _ _ _ h=>h) (by kernel_rfl) (by kernel_rfl) ?_
   simp only [Zah,List.filterMap_cons,List.filterMap_nil,List.getElem?_toArray,List.getElem?_cons_succ,List.getElem?_cons_zero]
   repeat (any_goals (quiet_step (fail)))
   refine wpQuiet_nil ?_
   clear kg
   intro w5 hb5
   have hw5:=hw4.trans (hb5.mono hw4.size)
   have hlt4:(L.take j).length=j:=by rw [List.length_take];omega
   have hsrcT:∀W,Below w.heap.size w W->∀i u,(rcs (L.take j))[i]? = some u->W.cell? ((⟨gr,0,none⟩:Addr).add i)=some u:=by
    intro W hW i u hu
    refine (own_below HOWN.out hW).cells rfl i u ?_
    rw [<-List.take_append_drop j L,Zal]
    exact (List.getElem?_append_left (List.getElem?_eq_some_iff.1 hu).1).trans hu
   have hsrcD:Hid (∀W,Below w.heap.size w W->∀i u,(rcs (L.drop j))[i]? = some u->W.cell? ((⟨gr,(j*4),none⟩:Addr).add i)=some u):=by
    intro W hW i u hu
    exact Zse (own_below HOWN.out hW) (by omega) i u hu
   have HST:=hid hsrcT
   have HL4:=hid hlt4
   clear hsrcT hlt4
   refine ⟨?_,?_⟩
   ·intro K hK o ho
    injection ho with ho
    subst ho
    refine Zb5 (.const (.slice none 0 0)) (.tmp 46) rfl (w.heap.size+1) (.slice none 0 0) [] (L.take j) rfl (World.ownsRow_nil _ _ _ _) ⟨gr,0,none⟩ j _ HL4.out.symm rfl (HST.out w5 hw5) (by rw [HL4.out];simp;omega) (by have:=hw5.size;have:=hb5.size;omega) ?_
    intro v6 w6 hown6 hg6 hat6
    have hb6:Below w4.heap.size w4 w6:=hb5.grown hg6 hb5.size (fun k e=>by simp [Value.ownBlock] at e)
    refine hK _ _ hb6 ?_
    clear hK K
    intro K hK o ho
    injection ho with ho
    subst ho
    go_simp
    refine hK _ _ (hb6.alloc hb6.size _) ?_
    clear hK K
    simp only [Zah,List.filterMap_cons,List.filterMap_nil,List.getElem?_toArray,List.getElem?_cons_succ,List.getElem?_cons_zero]
    have hb7:=hb6.alloc hb6.size (.cells (Zac r).toArray 41)
    have hX:=Zb9 (w:=w6.alloc (.cells (Zac r).toArray 41)) (g:=w6.heap.size) (a := .int .u64 (r.k.h:Int)) (b := .int .u64 (r.k.l:Int)) (c := .int .i64 r.k.n) (d := .int .i64 r.v) (by simp [go_sem,Zac]) (by simp [go_sem,Zac]) (by simp [go_sem,Zac]) (by simp [go_sem,Zac])
    have hO7:=hown6.alloc (.cells (Zac r).toArray 41)
    have hs7:w6.heap.size<(w6.alloc (.cells (Zac r).toArray 41)).heap.size:=by simp
    change wpList _ _ _ _ _ (w6.alloc (.cells (Zac r).toArray 41))
    generalize World.alloc w6 _=w7 at *
    have hw7:=hw4.trans (hb7.mono hw4.size)
    have HO7:=hid hO7
    have HX7:=hid hX
    have HW7:=hid hw7
    have HB7:=hid hb7
    have hz7:w.heap.size+1<=w7.heap.size:=by have:=hb7.size;omega
    obtain ⟨i0,hi0,iz0,iz1,iz2⟩:=info_parts Zd1
    refine wpList_append_own_at _ rfl (.tmp 47) (.tmp 49) 35 rfl (w.heap.size+1) 41 i0 _ 4 32 Tryz.underlying35 hi0 iz0 iz1 iz2 rfl (by decide) _ _ _ rfl HO7.out ⟨w6.heap.size,0,none⟩ 1 1 (Zac r) rfl rfl HX7.out (by simp [Zac,Value.oneCell']) (by rw [List.nil_append,HL4.out];unfold maxLen;omega) (by rw [List.nil_append,HL4.out];omega) hz7 ?_
    intro v8 w8 hown8 hg8 _ hat8
    have hown8':w8.ownsRow (w.heap.size+1) 41 4 v8 (L.take j++[r]).length (rcs (L.take j++[r])):=Zb7 (L:=L.take j) hown8 rfl
    have hw8:Below w.heap.size w w8:=HW7.out.grown hg8 HW7.out.size (fun k e=>by have:=(HO7.out.lt k e).1;omega)
    have hD:=hsrcD.out w8 hw8
    have hz8:w.heap.size+1<=w8.heap.size:=Nat.le_trans hz7 hg8.size
    have hlr:(L.take j++[r]).length=j+1:=by rw [List.length_append,HL4.out];rfl
    have hdd:(rcs (L.drop j)).length=((L.length-j))*4:=by rw [Zaz,List.length_drop];try omega
    refine wpList_append_own_at _ rfl (.tmp 50) (.tmp 53) 35 rfl (w.heap.size+1) 41 i0 _ 4 32 Tryz.underlying35 hi0 iz0 iz1 iz2 rfl (by decide) v8 _ _ rfl hown8' ⟨gr,(j*4),none⟩ ((L.length-j)) _ (rcs (L.drop j)) rfl hdd hD (Zcb _) (by rw [hlr];unfold maxLen;omega) (by rw [hlr];omega) hz8 ?_
    intro v9 w9 hown9 hg9 _ hat9
    have hw9:Below w.heap.size w w9:=hw8.grown hg9 hw8.size (fun k e=>by have:=(hown8'.lt k e).1;omega)
    have hn9:(L.take j++[r]).length+((L.length-j))=(L.take j++r::L.drop j).length:=by rw [hlr,List.length_append,HL4.out,List.length_cons,List.length_drop];omega
    rw [hn9,<-Zal,List.append_assoc] at hown9
    change w9.ownsRow _ _ _ _ _ (rcs (L.take j++r::L.drop j)) at hown9
    obtain ⟨N9,hN9⟩:∃x,x=L.take j++r::L.drop j:=⟨_,rfl⟩
    rw [<-hN9] at hown9
    have HN9:=hid hN9
    obtain ⟨p9,c9,rfl⟩:=Zag hown9
    have HO9:=hid hown9
    have HW9:=hid hw9
    clear hn9 hN9 hown8 hown8' hg8 hat8 hown9 hg9 hat9 hw9 hD hdd hsrcD HO7 HX7 hw8
    go_wp2_with fail
    rw [<-hNQ]
    refine NoPanic.normal ?_
    clear hNQ
    go_wp2
    go_ret
    rw [<-HN9.out]
    exact ⟨p9,c9,rfl,Za4 HO9.out (by omega),HW9.out⟩
   ·intro K hK o ho
    injection ho with ho
    subst ho
    go_simp
    refine hK _ _ (hb5.alloc hb5.size _) ?_
    clear hK K
    have hb6:=hb5.alloc hb5.size (.cells (Zac r).toArray 41)
    have hX6:=Zb9 (w:=w5.alloc (.cells (Zac r).toArray 41)) (g:=w5.heap.size) (a := .int .u64 (r.k.h:Int)) (b := .int .u64 (r.k.l:Int)) (c := .int .i64 r.k.n) (d := .int .i64 r.v) (by simp [go_sem,Zac]) (by simp [go_sem,Zac]) (by simp [go_sem,Zac]) (by simp [go_sem,Zac])
    have hs6:w5.heap.size<(w5.alloc (.cells (Zac r).toArray 41)).heap.size:=by simp
    have hg6:(w5.alloc (.cells (Zac r).toArray 41)).heap[w5.heap.size]? = some (.cells (Zac r).toArray 41 (0,0)):=heap_alloc_new w5 _
    intro K hK o ho
    injection ho with ho
    subst ho
    refine Zb5 (.const (.slice none 0 0)) (.tmp 46) rfl (w.heap.size+1) (.slice none 0 0) [] (L.take j) rfl (World.ownsRow_nil _ _ _ _) ⟨gr,0,none⟩ j _ HL4.out.symm rfl (HST.out _ (hw4.trans (hb6.mono hw4.size))) (by rw [HL4.out];simp;omega) (by have:=hw5.size;have:=hb5.size;simp;omega) ?_
    intro v6 w7 hO7 hg7 hat6
    have hb7:Below w4.heap.size w4 w7:=hb6.grown hg7 hb6.size (fun k e=>by simp [Value.ownBlock] at e)
    have hX:=Zbw ((hg7.block w5.heap.size (by simp) (by simp [Value.ownBlock])).trans hg6) 0 (Zac r) (by simp [Zac])
    have hs7:=Nat.lt_of_lt_of_le hs6 hg7.size
    refine hK _ _ hb7 ?_
    clear hK K hg6 hX6 hs6
    simp only [Zah,List.filterMap_cons,List.filterMap_nil,List.getElem?_toArray,List.getElem?_cons_succ,List.getElem?_cons_zero]
    have hw7:=hw4.trans (hb7.mono hw4.size)
    have HO7:=hid hO7
    have HX7:=hid hX
    have HW7:=hid hw7
    have HB7:=hid hb7
    have hz7:w.heap.size+1<=w7.heap.size:=by have:=hb7.size;omega
    obtain ⟨i0,hi0,iz0,iz1,iz2⟩:=info_parts Zd1
    refine wpList_append_own_at _ rfl (.tmp 47) (.tmp 49) 35 rfl (w.heap.size+1) 41 i0 _ 4 32 Tryz.underlying35 hi0 iz0 iz1 iz2 rfl (by decide) _ _ _ rfl HO7.out ⟨w5.heap.size,0,none⟩ 1 1 (Zac r) rfl rfl HX7.out (by simp [Zac,Value.oneCell']) (by rw [List.nil_append,HL4.out];unfold maxLen;omega) (by rw [List.nil_append,HL4.out];omega) hz7 ?_
    intro v8 w8 hown8 hg8 _ hat8
    have hown8':w8.ownsRow (w.heap.size+1) 41 4 v8 (L.take j++[r]).length (rcs (L.take j++[r])):=Zb7 (L:=L.take j) hown8 rfl
    have hw8:Below w.heap.size w w8:=HW7.out.grown hg8 HW7.out.size (fun k e=>by have:=(HO7.out.lt k e).1;omega)
    have hD:=hsrcD.out w8 hw8
    have hz8:w.heap.size+1<=w8.heap.size:=Nat.le_trans hz7 hg8.size
    have hlr:(L.take j++[r]).length=j+1:=by rw [List.length_append,HL4.out];rfl
    have hdd:(rcs (L.drop j)).length=((L.length-j))*4:=by rw [Zaz,List.length_drop];try omega
    refine wpList_append_own_at _ rfl (.tmp 50) (.tmp 53) 35 rfl (w.heap.size+1) 41 i0 _ 4 32 Tryz.underlying35 hi0 iz0 iz1 iz2 rfl (by decide) v8 _ _ rfl hown8' ⟨gr,(j*4),none⟩ ((L.length-j)) _ (rcs (L.drop j)) rfl hdd hD (Zcb _) (by rw [hlr];unfold maxLen;omega) (by rw [hlr];omega) hz8 ?_
    intro v9 w9 hown9 hg9 _ hat9
    have hw9:Below w.heap.size w w9:=hw8.grown hg9 hw8.size (fun k e=>by have:=(hown8'.lt k e).1;omega)
    have hn9:(L.take j++[r]).length+((L.length-j))=(L.take j++r::L.drop j).length:=by rw [hlr,List.length_append,HL4.out,List.length_cons,List.length_drop];omega
    rw [hn9,<-Zal,List.append_assoc] at hown9
    change w9.ownsRow _ _ _ _ _ (rcs (L.take j++r::L.drop j)) at hown9
    obtain ⟨N9,hN9⟩:∃x,x=L.take j++r::L.drop j:=⟨_,rfl⟩
    rw [<-hN9] at hown9
    have HN9:=hid hN9
    obtain ⟨p9,c9,rfl⟩:=Zag hown9
    have HO9:=hid hown9
    have HW9:=hid hw9
    clear hn9 hN9 hown8 hown8' hg8 hat8 hown9 hg9 hat9 hw9 hD hdd hsrcD HO7 HX7 hw8
    go_wp2_with fail
    rw [<-hNQ]
    refine NoPanic.normal ?_
    clear hNQ
    go_wp2
    go_ret
    rw [<-HN9.out]
    exact ⟨p9,c9,rfl,Za4 HO9.out (by omega),HW9.out⟩
theorem Zoc {L:List Rt} {j:Nat} (h:j=L.length) {i:Nat} {u:Value} (hu:(rcs (L.drop j))[i]? = some u):False:=by
 rw [h,List.drop_length] at hu
 simp [rcs] at hu
set_option maxRecDepth 100000 in
theorem Zy7 (B gr c:Nat) (L:List Rt) (r:Rt) (J:Nat) (w:World) (hR:w.ownsRow B 41 4 (.slice (some ⟨gr,0,none⟩) L.length c) L.length (rcs L)) (hl:L.length<1048576) (hgr:gr<w.heap.size) (hlc:L.length<=c) (hJ:J=L.length) (hls:∀i,∀h:i<L.length,i<J->Zau L[i].k r.k=true) :
 Calls Tryz.prog 14 #[.slice (some ⟨gr,0,none⟩) L.length c,rtA r] w fun e w'=>Zcf w w' e (L.take J++r::L.drop J):=by
 have hJL:J<=L.length:=by omega
 have hnl:=hJ
 obtain ⟨p,hp⟩:∃p:Option Addr,p=some ⟨gr,0,none⟩:=⟨_,rfl⟩
 rw [<-hp] at hR ⊢
 have HP:=hid hp
 clear hp
 have HR:=hid (Row.of_own hR)
 have HOWN:=hid hR
 have HLS:=hid hls
 have HNL:=hid hnl
 clear hR hls hnl
 unfold rtA at *
 go_enter Tryz.func14,Tryz.ntmps14
 go_wp2
 go_loopw [5] (fun i wr=>∃(j:Nat),j<=J/\i = .int .i64 (j:Int)/\wr.cell? ⟨w.heap.size,0,none⟩=some (.int .u64 (r.k.h:Int))/\wr.cell? ⟨w.heap.size,1,none⟩=some (.int .u64 (r.k.l:Int))/\wr.cell? ⟨w.heap.size,2,none⟩=some (.int .i64 r.k.n)/\wr.cell? ⟨w.heap.size,3,none⟩=some (.int .i64 r.v)/\w.heap.size<wr.heap.size/\Below w.heap.size w wr) (fun i _=>J-(intOf i).toNat)
 case atStart=>exact ⟨0,Nat.zero_le _,rfl,by simp [go_sem],by simp [go_sem],by simp [go_sem],by simp [go_sem],by simp,by go_grown⟩
 case round=>
  obtain ⟨j,hj,rfl,d0,d1,d2,d3,hz,hb⟩:=hrel
  by_cases hlt:j<J
  ·have hlL:j<L.length:=by omega
   obtain ⟨gr,o,rfl,hgr,r0,r1,r2,r3⟩:=HR.out.rt hlL
   have r0:=(hb.cell (p:=⟨gr,o+j*4,none⟩) hgr).trans r0
   have r1:=(hb.cell (p:=⟨gr,o+j*4+1,none⟩) hgr).trans r1
   have r2:=(hb.cell (p:=⟨gr,o+j*4+2,none⟩) hgr).trans r2
   have hgr2:=Nat.lt_of_lt_of_le hgr hb.size
   have i1:(0:Int)<=(j:Int):=by omega
   have i2:(j:Int)<(L.length:Int):=by omega
   have HLE:=Zel L[j].k.h L[j].k.l L[j].k.n r.k.h r.k.l r.k.n
   change Zak _ _ _ (.bool (Zau L[j].k r.k)) at HLE
   rw [HLS.out j hlL hlt] at HLE
   have HLE:=hid HLE
   clear r3
   generalize L[j].k=q at *
   go_wp2_with fail
   have kg:=Zaa
   refine Zab (by kernel_rfl) (by kernel_rfl) ?_
   repeat (any_goals (first|go_big_quiet_step ((exact HLE.out.at _ _ _))|quiet_step ((exact HLE.out.at _ _ _))))
   refine wpQuiet_nil ?_
   clear kg
   intro w2 hb2
   obtain ⟨hc2,hf2⟩:=Zaf hb2
   have hw2:Below w.heap.size w w2:=by
    refine Below.trans ?_ (hb2.mono ?_)
    ·go_grown
    ·first|omega|go_size
   have hw2:=hb.trans (hb2.mono hb.size)
   have d0:=(hc2 _ _ hz).trans d0
   have d1:=(hc2 _ _ hz).trans d1
   have d2:=(hc2 _ _ hz).trans d2
   have d3:=(hc2 _ _ hz).trans d3
   have hz2:=Nat.lt_of_lt_of_le hz hb2.size
   clear hc2 hf2 hb2
   go_wp2
   go_roundw
   all_goals first
    | exact ⟨j+1,by omega,by go_num,d0,d1,d2,d3,hz2,hw2⟩
    | (simp [intOf];omega)
  ·obtain rfl:j=J:=by omega
   have hp:=HP.out
   subst hp
   have hn:¬(j:Int)<(L.length:Int):=by omega
   have hnd:decide ((j:Int)<(L.length:Int))=false:=decide_eq_false hn
   have hnd2:decide (j<L.length)=false:=decide_eq_false (by omega)
   have hn3:¬j<L.length:=by omega
   have i1:(0:Int)<=(j:Int):=by omega
   have i3:(j:Int)<=(c:Int):=by omega
   have i4:(j:Int)<=(L.length:Int):=by omega
   have hz0':=hb.size
   clear hJ
   go_wp2_with fail
   have kg:=Zaa
   refine Zab (by kernel_rfl) (by kernel_rfl) ?_
   repeat (any_goals (first|go_big_quiet_step (fail)|quiet_step (fail)))
   refine wpQuiet_nil ?_
   clear kg
   intro w2 hb2
   obtain ⟨hc2,hf2⟩:=Zaf hb2
   have hw2:Below w.heap.size w w2:=by
    refine Below.trans ?_ (hb2.mono ?_)
    ·go_grown
    ·first|omega|go_size
   have hw2:=hb.trans (hb2.mono hb.size)
   have d0:=(hc2 _ _ hz).trans d0
   have d1:=(hc2 _ _ hz).trans d1
   have d2:=(hc2 _ _ hz).trans d2
   have d3:=(hc2 _ _ hz).trans d3
   have hz2:=Nat.lt_of_lt_of_le hz hb2.size
   have hz0:=hw2.size
   clear hc2 hf2 hb2
   go_wp2_with fail
   have kg:=Zaa
   refine Zab (by kernel_rfl) (by kernel_rfl) ?_
   repeat (any_goals (first|go_big_quiet_step (fail)|quiet_step (fail)))
   refine wpQuiet_nil ?_
   clear kg
   intro w4 hb4
   obtain ⟨hc4,hf4⟩:=Zaf hb4
   have hw4:Below w.heap.size w w4:=by
    refine Below.trans ?_ (hb4.mono ?_)
    ·go_grown
    ·first|omega|go_size
   have hw4:=hw2.trans (hb4.mono hw2.size)
   have d0:=(hc4 _ _ hz2).trans d0
   have d1:=(hc4 _ _ hz2).trans d1
   have d2:=(hc4 _ _ hz2).trans d2
   have d3:=(hc4 _ _ hz2).trans d3
   have hz4:=Nat.lt_of_lt_of_le hz2 hb4.size
   clear hc4 hf4 hb4
   by_cases hjc:c=j
   ·have hcj:=hjc.symm
    subst hcj
    go_wp2_with fail
    have kg:=Zaa
    refine wp_region_noPanic ?_
    generalize hNQ:NoPanic _=NQ
    refine Zb2 [0,1,2,7,8,9] [4] 3 5 [6,10,11] (by kernel_rfl) (by rw [<-hNQ];exact fun _ _ _ h=>h) (by kernel_rfl) (by kernel_rfl) ?_
    simp only [Zah,List.filterMap_cons,List.filterMap_nil,List.getElem?_toArray,List.getElem?_cons_succ,List.getElem?_cons_zero]
    repeat (any_goals (quiet_step (fail)))
    refine wpQuiet_nil ?_
    clear kg
    intro w5 hb5
    have hw5:=hw4.trans (hb5.mono hw4.size)
    have hlt4:(L.take j).length=j:=by rw [List.length_take];omega
    have hsrcT:∀W,Below w.heap.size w W->∀i u,(rcs (L.take j))[i]? = some u->W.cell? ((⟨gr,0,none⟩:Addr).add i)=some u:=by
     intro W hW i u hu
     refine (own_below HOWN.out hW).cells rfl i u ?_
     rw [<-List.take_append_drop j L,Zal]
     exact (List.getElem?_append_left (List.getElem?_eq_some_iff.1 hu).1).trans hu
    have hsrcD:Hid (∀W,Below w.heap.size w W->∀i u,(rcs (L.drop j))[i]? = some u->W.cell? ((⟨gr,0,none⟩:Addr).add i)=some u):=by
     intro W hW i u hu
     exact (Zoc HNL.out hu).elim
    have HST:=hid hsrcT
    have HL4:=hid hlt4
    clear hsrcT hlt4
    refine ⟨?_,?_⟩
    ·intro K hK o ho
     injection ho with ho
     subst ho
     refine Zb5 (.const (.slice none 0 0)) (.tmp 46) rfl (w.heap.size+1) (.slice none 0 0) [] (L.take j) rfl (World.ownsRow_nil _ _ _ _) ⟨gr,0,none⟩ j _ HL4.out.symm rfl (HST.out w5 hw5) (by rw [HL4.out];simp;omega) (by have:=hw5.size;have:=hb5.size;omega) ?_
     intro v6 w6 hown6 hg6 hat6
     have hb6:Below w4.heap.size w4 w6:=hb5.grown hg6 hb5.size (fun k e=>by simp [Value.ownBlock] at e)
     refine hK _ _ hb6 ?_
     clear hK K
     intro K hK o ho
     injection ho with ho
     subst ho
     go_simp
     refine hK _ _ (hb6.alloc hb6.size _) ?_
     clear hK K
     simp only [Zah,List.filterMap_cons,List.filterMap_nil,List.getElem?_toArray,List.getElem?_cons_succ,List.getElem?_cons_zero]
     have hb7:=hb6.alloc hb6.size (.cells (Zac r).toArray 41)
     have hX:=Zb9 (w:=w6.alloc (.cells (Zac r).toArray 41)) (g:=w6.heap.size) (a := .int .u64 (r.k.h:Int)) (b := .int .u64 (r.k.l:Int)) (c := .int .i64 r.k.n) (d := .int .i64 r.v) (by simp [go_sem,Zac]) (by simp [go_sem,Zac]) (by simp [go_sem,Zac]) (by simp [go_sem,Zac])
     have hO7:=hown6.alloc (.cells (Zac r).toArray 41)
     have hs7:w6.heap.size<(w6.alloc (.cells (Zac r).toArray 41)).heap.size:=by simp
     change wpList _ _ _ _ _ (w6.alloc (.cells (Zac r).toArray 41))
     generalize World.alloc w6 _=w7 at *
     have hw7:=hw4.trans (hb7.mono hw4.size)
     have HO7:=hid hO7
     have HX7:=hid hX
     have HW7:=hid hw7
     have HB7:=hid hb7
     have hz7:w.heap.size+1<=w7.heap.size:=by have:=hb7.size;omega
     obtain ⟨i0,hi0,iz0,iz1,iz2⟩:=info_parts Zd1
     refine wpList_append_own_at _ rfl (.tmp 47) (.tmp 49) 35 rfl (w.heap.size+1) 41 i0 _ 4 32 Tryz.underlying35 hi0 iz0 iz1 iz2 rfl (by decide) _ _ _ rfl HO7.out ⟨w6.heap.size,0,none⟩ 1 1 (Zac r) rfl rfl HX7.out (by simp [Zac,Value.oneCell']) (by rw [List.nil_append,HL4.out];unfold maxLen;omega) (by rw [List.nil_append,HL4.out];omega) hz7 ?_
     intro v8 w8 hown8 hg8 _ hat8
     have hown8':w8.ownsRow (w.heap.size+1) 41 4 v8 (L.take j++[r]).length (rcs (L.take j++[r])):=Zb7 (L:=L.take j) hown8 rfl
     have hw8:Below w.heap.size w w8:=HW7.out.grown hg8 HW7.out.size (fun k e=>by have:=(HO7.out.lt k e).1;omega)
     have hD:=hsrcD.out w8 hw8
     have hz8:w.heap.size+1<=w8.heap.size:=Nat.le_trans hz7 hg8.size
     have hlr:(L.take j++[r]).length=j+1:=by rw [List.length_append,HL4.out];rfl
     have hdd:(rcs (L.drop j)).length=(0)*4:=by rw [Zaz,List.length_drop];try omega
     refine wpList_append_own_at _ rfl (.tmp 50) (.tmp 53) 35 rfl (w.heap.size+1) 41 i0 _ 4 32 Tryz.underlying35 hi0 iz0 iz1 iz2 rfl (by decide) v8 _ _ rfl hown8' ⟨gr,0,none⟩ (0) _ (rcs (L.drop j)) rfl hdd hD (Zcb _) (by rw [hlr];unfold maxLen;omega) (by rw [hlr];omega) hz8 ?_
     intro v9 w9 hown9 hg9 _ hat9
     have hw9:Below w.heap.size w w9:=hw8.grown hg9 hw8.size (fun k e=>by have:=(hown8'.lt k e).1;omega)
     have hn9:(L.take j++[r]).length+(0)=(L.take j++r::L.drop j).length:=by rw [hlr,List.length_append,HL4.out,List.length_cons,List.length_drop];omega
     rw [hn9,<-Zal,List.append_assoc] at hown9
     change w9.ownsRow _ _ _ _ _ (rcs (L.take j++r::L.drop j)) at hown9
     obtain ⟨N9,hN9⟩:∃x,x=L.take j++r::L.drop j:=⟨_,rfl⟩
     rw [<-hN9] at hown9
     have HN9:=hid hN9
     obtain ⟨p9,c9,rfl⟩:=Zag hown9
     have HO9:=hid hown9
     have HW9:=hid hw9
     clear hn9 hN9 hown8 hown8' hg8 hat8 hown9 hg9 hat9 hw9 hD hdd hsrcD HO7 HX7 hw8
     go_wp2_with fail
     rw [<-hNQ]
     refine NoPanic.normal ?_
     clear hNQ
     go_wp2
     go_ret
     rw [<-HN9.out]
     exact ⟨p9,c9,rfl,Za4 HO9.out (by omega),HW9.out⟩
    ·intro K hK o ho
     injection ho with ho
     subst ho
     go_simp
     refine hK _ _ (hb5.alloc hb5.size _) ?_
     clear hK K
     have hb6:=hb5.alloc hb5.size (.cells (Zac r).toArray 41)
     have hX6:=Zb9 (w:=w5.alloc (.cells (Zac r).toArray 41)) (g:=w5.heap.size) (a := .int .u64 (r.k.h:Int)) (b := .int .u64 (r.k.l:Int)) (c := .int .i64 r.k.n) (d := .int .i64 r.v) (by simp [go_sem,Zac]) (by simp [go_sem,Zac]) (by simp [go_sem,Zac]) (by simp [go_sem,Zac])
     have hs6:w5.heap.size<(w5.alloc (.cells (Zac r).toArray 41)).heap.size:=by simp
     have hg6:(w5.alloc (.cells (Zac r).toArray 41)).heap[w5.heap.size]? = some (.cells (Zac r).toArray 41 (0,0)):=heap_alloc_new w5 _
     intro K hK o ho
     injection ho with ho
     subst ho
     refine Zb5 (.const (.slice none 0 0)) (.tmp 46) rfl (w.heap.size+1) (.slice none 0 0) [] (L.take j) rfl (World.ownsRow_nil _ _ _ _) ⟨gr,0,none⟩ j _ HL4.out.symm rfl (HST.out _ (hw4.trans (hb6.mono hw4.size))) (by rw [HL4.out];simp;omega) (by have:=hw5.size;have:=hb5.size;simp;omega) ?_
     intro v6 w7 hO7 hg7 hat6
     have hb7:Below w4.heap.size w4 w7:=hb6.grown hg7 hb6.size (fun k e=>by simp [Value.ownBlock] at e)
     have hX:=Zbw ((hg7.block w5.heap.size (by simp) (by simp [Value.ownBlock])).trans hg6) 0 (Zac r) (by simp [Zac])
     have hs7:=Nat.lt_of_lt_of_le hs6 hg7.size
     refine hK _ _ hb7 ?_
     clear hK K hg6 hX6 hs6
     simp only [Zah,List.filterMap_cons,List.filterMap_nil,List.getElem?_toArray,List.getElem?_cons_succ,List.getElem?_cons_zero]
     have hw7:=hw4.trans (hb7.mono hw4.size)
     have HO7:=hid hO7
     have HX7:=hid hX
     have HW7:=hid hw7
     have HB7:=hid hb7
     have hz7:w.heap.size+1<=w7.heap.size:=by have:=hb7.size;omega
     obtain ⟨i0,hi0,iz0,iz1,iz2⟩:=info_parts Zd1
     refine wpList_append_own_at _ rfl (.tmp 47) (.tmp 49) 35 rfl (w.heap.size+1) 41 i0 _ 4 32 Tryz.underlying35 hi0 iz0 iz1 iz2 rfl (by decide) _ _ _ rfl HO7.out ⟨w5.heap.size,0,none⟩ 1 1 (Zac r) rfl rfl HX7.out (by simp [Zac,Value.oneCell']) (by rw [List.nil_append,HL4.out];unfold maxLen;omega) (by rw [List.nil_append,HL4.out];omega) hz7 ?_
     intro v8 w8 hown8 hg8 _ hat8
     have hown8':w8.ownsRow (w.heap.size+1) 41 4 v8 (L.take j++[r]).length (rcs (L.take j++[r])):=Zb7 (L:=L.take j) hown8 rfl
     have hw8:Below w.heap.size w w8:=HW7.out.grown hg8 HW7.out.size (fun k e=>by have:=(HO7.out.lt k e).1;omega)
     have hD:=hsrcD.out w8 hw8
     have hz8:w.heap.size+1<=w8.heap.size:=Nat.le_trans hz7 hg8.size
     have hlr:(L.take j++[r]).length=j+1:=by rw [List.length_append,HL4.out];rfl
     have hdd:(rcs (L.drop j)).length=(0)*4:=by rw [Zaz,List.length_drop];try omega
     refine wpList_append_own_at _ rfl (.tmp 50) (.tmp 53) 35 rfl (w.heap.size+1) 41 i0 _ 4 32 Tryz.underlying35 hi0 iz0 iz1 iz2 rfl (by decide) v8 _ _ rfl hown8' ⟨gr,0,none⟩ (0) _ (rcs (L.drop j)) rfl hdd hD (Zcb _) (by rw [hlr];unfold maxLen;omega) (by rw [hlr];omega) hz8 ?_
     intro v9 w9 hown9 hg9 _ hat9
     have hw9:Below w.heap.size w w9:=hw8.grown hg9 hw8.size (fun k e=>by have:=(hown8'.lt k e).1;omega)
     have hn9:(L.take j++[r]).length+(0)=(L.take j++r::L.drop j).length:=by rw [hlr,List.length_append,HL4.out,List.length_cons,List.length_drop];omega
     rw [hn9,<-Zal,List.append_assoc] at hown9
     change w9.ownsRow _ _ _ _ _ (rcs (L.take j++r::L.drop j)) at hown9
     obtain ⟨N9,hN9⟩:∃x,x=L.take j++r::L.drop j:=⟨_,rfl⟩
     rw [<-hN9] at hown9
     have HN9:=hid hN9
     obtain ⟨p9,c9,rfl⟩:=Zag hown9
     have HO9:=hid hown9
     have HW9:=hid hw9
     clear hn9 hN9 hown8 hown8' hg8 hat8 hown9 hg9 hat9 hw9 hD hdd hsrcD HO7 HX7 hw8
     go_wp2_with fail
     rw [<-hNQ]
     refine NoPanic.normal ?_
     clear hNQ
     go_wp2
     go_ret
     rw [<-HN9.out]
     exact ⟨p9,c9,rfl,Za4 HO9.out (by omega),HW9.out⟩
   ·skip
    go_wp2_with fail
    have kg:=Zaa
    refine wp_region_noPanic ?_
    generalize hNQ:NoPanic _=NQ
    refine Zb2 [0,1,2,7,8,9] [4] 3 5 [6,10,11] (by kernel_rfl) (by rw [<-hNQ];exact fun _ _ _ h=>h) (by kernel_rfl) (by kernel_rfl) ?_
    simp only [Zah,List.filterMap_cons,List.filterMap_nil,List.getElem?_toArray,List.getElem?_cons_succ,List.getElem?_cons_zero]
    repeat (any_goals (quiet_step (fail)))
    refine wpQuiet_nil ?_
    clear kg
    intro w5 hb5
    have hw5:=hw4.trans (hb5.mono hw4.size)
    have hlt4:(L.take j).length=j:=by rw [List.length_take];omega
    have hsrcT:∀W,Below w.heap.size w W->∀i u,(rcs (L.take j))[i]? = some u->W.cell? ((⟨gr,0,none⟩:Addr).add i)=some u:=by
     intro W hW i u hu
     refine (own_below HOWN.out hW).cells rfl i u ?_
     rw [<-List.take_append_drop j L,Zal]
     exact (List.getElem?_append_left (List.getElem?_eq_some_iff.1 hu).1).trans hu
    have hsrcD:Hid (∀W,Below w.heap.size w W->∀i u,(rcs (L.drop j))[i]? = some u->W.cell? ((⟨gr,(j*4),none⟩:Addr).add i)=some u):=by
     intro W hW i u hu
     exact Zse (own_below HOWN.out hW) (by omega) i u hu
    have HST:=hid hsrcT
    have HL4:=hid hlt4
    clear hsrcT hlt4
    refine ⟨?_,?_⟩
    ·intro K hK o ho
     injection ho with ho
     subst ho
     refine Zb5 (.const (.slice none 0 0)) (.tmp 46) rfl (w.heap.size+1) (.slice none 0 0) [] (L.take j) rfl (World.ownsRow_nil _ _ _ _) ⟨gr,0,none⟩ j _ HL4.out.symm rfl (HST.out w5 hw5) (by rw [HL4.out];simp;omega) (by have:=hw5.size;have:=hb5.size;omega) ?_
     intro v6 w6 hown6 hg6 hat6
     have hb6:Below w4.heap.size w4 w6:=hb5.grown hg6 hb5.size (fun k e=>by simp [Value.ownBlock] at e)
     refine hK _ _ hb6 ?_
     clear hK K
     intro K hK o ho
     injection ho with ho
     subst ho
     go_simp
     refine hK _ _ (hb6.alloc hb6.size _) ?_
     clear hK K
     simp only [Zah,List.filterMap_cons,List.filterMap_nil,List.getElem?_toArray,List.getElem?_cons_succ,List.getElem?_cons_zero]
     have hb7:=hb6.alloc hb6.size (.cells (Zac r).toArray 41)
     have hX:=Zb9 (w:=w6.alloc (.cells (Zac r).toArray 41)) (g:=w6.heap.size) (a := .int .u64 (r.k.h:Int)) (b := .int .u64 (r.k.l:Int)) (c := .int .i64 r.k.n) (d := .int .i64 r.v) (by simp [go_sem,Zac]) (by simp [go_sem,Zac]) (by simp [go_sem,Zac]) (by simp [go_sem,Zac])
     have hO7:=hown6.alloc (.cells (Zac r).toArray 41)
     have hs7:w6.heap.size<(w6.alloc (.cells (Zac r).toArray 41)).heap.size:=by simp
     change wpList _ _ _ _ _ (w6.alloc (.cells (Zac r).toArray 41))
     generalize World.alloc w6 _=w7 at *
     have hw7:=hw4.trans (hb7.mono hw4.size)
     have HO7:=hid hO7
     have HX7:=hid hX
     have HW7:=hid hw7
     have HB7:=hid hb7
     have hz7:w.heap.size+1<=w7.heap.size:=by have:=hb7.size;omega
     obtain ⟨i0,hi0,iz0,iz1,iz2⟩:=info_parts Zd1
     refine wpList_append_own_at _ rfl (.tmp 47) (.tmp 49) 35 rfl (w.heap.size+1) 41 i0 _ 4 32 Tryz.underlying35 hi0 iz0 iz1 iz2 rfl (by decide) _ _ _ rfl HO7.out ⟨w6.heap.size,0,none⟩ 1 1 (Zac r) rfl rfl HX7.out (by simp [Zac,Value.oneCell']) (by rw [List.nil_append,HL4.out];unfold maxLen;omega) (by rw [List.nil_append,HL4.out];omega) hz7 ?_
     intro v8 w8 hown8 hg8 _ hat8
     have hown8':w8.ownsRow (w.heap.size+1) 41 4 v8 (L.take j++[r]).length (rcs (L.take j++[r])):=Zb7 (L:=L.take j) hown8 rfl
     have hw8:Below w.heap.size w w8:=HW7.out.grown hg8 HW7.out.size (fun k e=>by have:=(HO7.out.lt k e).1;omega)
     have hD:=hsrcD.out w8 hw8
     have hz8:w.heap.size+1<=w8.heap.size:=Nat.le_trans hz7 hg8.size
     have hlr:(L.take j++[r]).length=j+1:=by rw [List.length_append,HL4.out];rfl
     have hdd:(rcs (L.drop j)).length=((L.length-j))*4:=by rw [Zaz,List.length_drop];try omega
     refine wpList_append_own_at _ rfl (.tmp 50) (.tmp 53) 35 rfl (w.heap.size+1) 41 i0 _ 4 32 Tryz.underlying35 hi0 iz0 iz1 iz2 rfl (by decide) v8 _ _ rfl hown8' ⟨gr,(j*4),none⟩ ((L.length-j)) _ (rcs (L.drop j)) rfl hdd hD (Zcb _) (by rw [hlr];unfold maxLen;omega) (by rw [hlr];omega) hz8 ?_
     intro v9 w9 hown9 hg9 _ hat9
     have hw9:Below w.heap.size w w9:=hw8.grown hg9 hw8.size (fun k e=>by have:=(hown8'.lt k e).1;omega)
     have hn9:(L.take j++[r]).length+((L.length-j))=(L.take j++r::L.drop j).length:=by rw [hlr,List.length_append,HL4.out,List.length_cons,List.length_drop];omega
     rw [hn9,<-Zal,List.append_assoc] at hown9
     change w9.ownsRow _ _ _ _ _ (rcs (L.take j++r::L.drop j)) at hown9
     obtain ⟨N9,hN9⟩:∃x,x=L.take j++r::L.drop j:=⟨_,rfl⟩
     rw [<-hN9] at hown9
     have HN9:=hid hN9
     obtain ⟨p9,c9,rfl⟩:=Zag hown9
     have HO9:=hid hown9
     have HW9:=hid hw9
     clear hn9 hN9 hown8 hown8' hg8 hat8 hown9 hg9 hat9 hw9 hD hdd hsrcD HO7 HX7 hw8
     go_wp2_with fail
     rw [<-hNQ]
     refine NoPanic.normal ?_
     clear hNQ
     go_wp2
     go_ret
     rw [<-HN9.out]
     exact ⟨p9,c9,rfl,Za4 HO9.out (by omega),HW9.out⟩
    ·intro K hK o ho
     injection ho with ho
     subst ho
     go_simp
     refine hK _ _ (hb5.alloc hb5.size _) ?_
     clear hK K
     have hb6:=hb5.alloc hb5.size (.cells (Zac r).toArray 41)
     have hX6:=Zb9 (w:=w5.alloc (.cells (Zac r).toArray 41)) (g:=w5.heap.size) (a := .int .u64 (r.k.h:Int)) (b := .int .u64 (r.k.l:Int)) (c := .int .i64 r.k.n) (d := .int .i64 r.v) (by simp [go_sem,Zac]) (by simp [go_sem,Zac]) (by simp [go_sem,Zac]) (by simp [go_sem,Zac])
     have hs6:w5.heap.size<(w5.alloc (.cells (Zac r).toArray 41)).heap.size:=by simp
     have hg6:(w5.alloc (.cells (Zac r).toArray 41)).heap[w5.heap.size]? = some (.cells (Zac r).toArray 41 (0,0)):=heap_alloc_new w5 _
     intro K hK o ho
     injection ho with ho
     subst ho
     refine Zb5 (.const (.slice none 0 0)) (.tmp 46) rfl (w.heap.size+1) (.slice none 0 0) [] (L.take j) rfl (World.ownsRow_nil _ _ _ _) ⟨gr,0,none⟩ j _ HL4.out.symm rfl (HST.out _ (hw4.trans (hb6.mono hw4.size))) (by rw [HL4.out];simp;omega) (by have:=hw5.size;have:=hb5.size;simp;omega) ?_
     intro v6 w7 hO7 hg7 hat6
     have hb7:Below w4.heap.size w4 w7:=hb6.grown hg7 hb6.size (fun k e=>by simp [Value.ownBlock] at e)
     have hX:=Zbw ((hg7.block w5.heap.size (by simp) (by simp [Value.ownBlock])).trans hg6) 0 (Zac r) (by simp [Zac])
     have hs7:=Nat.lt_of_lt_of_le hs6 hg7.size
     refine hK _ _ hb7 ?_
     clear hK K hg6 hX6 hs6
     simp only [Zah,List.filterMap_cons,List.filterMap_nil,List.getElem?_toArray,List.getElem?_cons_succ,List.getElem?_cons_zero]
     have hw7:=hw4.trans (hb7.mono hw4.size)
     have HO7:=hid hO7
     have HX7:=hid hX
     have HW7:=hid hw7
     have HB7:=hid hb7
     have hz7:w.heap.size+1<=w7.heap.size:=by have:=hb7.size;omega
     obtain ⟨i0,hi0,iz0,iz1,iz2⟩:=info_parts Zd1
     refine wpList_append_own_at _ rfl (.tmp 47) (.tmp 49) 35 rfl (w.heap.size+1) 41 i0 _ 4 32 Tryz.underlying35 hi0 iz0 iz1 iz2 rfl (by decide) _ _ _ rfl HO7.out ⟨w5.heap.size,0,none⟩ 1 1 (Zac r) rfl rfl HX7.out (by simp [Zac,Value.oneCell']) (by rw [List.nil_append,HL4.out];unfold maxLen;omega) (by rw [List.nil_append,HL4.out];omega) hz7 ?_
     intro v8 w8 hown8 hg8 _ hat8
     have hown8':w8.ownsRow (w.heap.size+1) 41 4 v8 (L.take j++[r]).length (rcs (L.take j++[r])):=Zb7 (L:=L.take j) hown8 rfl
     have hw8:Below w.heap.size w w8:=HW7.out.grown hg8 HW7.out.size (fun k e=>by have:=(HO7.out.lt k e).1;omega)
     have hD:=hsrcD.out w8 hw8
     have hz8:w.heap.size+1<=w8.heap.size:=Nat.le_trans hz7 hg8.size
     have hlr:(L.take j++[r]).length=j+1:=by rw [List.length_append,HL4.out];rfl
     have hdd:(rcs (L.drop j)).length=((L.length-j))*4:=by rw [Zaz,List.length_drop];try omega
     refine wpList_append_own_at _ rfl (.tmp 50) (.tmp 53) 35 rfl (w.heap.size+1) 41 i0 _ 4 32 Tryz.underlying35 hi0 iz0 iz1 iz2 rfl (by decide) v8 _ _ rfl hown8' ⟨gr,(j*4),none⟩ ((L.length-j)) _ (rcs (L.drop j)) rfl hdd hD (Zcb _) (by rw [hlr];unfold maxLen;omega) (by rw [hlr];omega) hz8 ?_
     intro v9 w9 hown9 hg9 _ hat9
     have hw9:Below w.heap.size w w9:=hw8.grown hg9 hw8.size (fun k e=>by have:=(hown8'.lt k e).1;omega)
     have hn9:(L.take j++[r]).length+((L.length-j))=(L.take j++r::L.drop j).length:=by rw [hlr,List.length_append,HL4.out,List.length_cons,List.length_drop];omega
     rw [hn9,<-Zal,List.append_assoc] at hown9
     change w9.ownsRow _ _ _ _ _ (rcs (L.take j++r::L.drop j)) at hown9
     obtain ⟨N9,hN9⟩:∃x,x=L.take j++r::L.drop j:=⟨_,rfl⟩
     rw [<-hN9] at hown9
     have HN9:=hid hN9
     obtain ⟨p9,c9,rfl⟩:=Zag hown9
     have HO9:=hid hown9
     have HW9:=hid hw9
     clear hn9 hN9 hown8 hown8' hg8 hat8 hown9 hg9 hat9 hw9 hD hdd hsrcD HO7 HX7 hw8
     go_wp2_with fail
     rw [<-hNQ]
     refine NoPanic.normal ?_
     clear hNQ
     go_wp2
     go_ret
     rw [<-HN9.out]
     exact ⟨p9,c9,rfl,Za4 HO9.out (by omega),HW9.out⟩
end Go.Proofs.YtgfjmgebecmbiaaGreat
