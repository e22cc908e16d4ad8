/-
  What the small calls of the reference's table hand back: NewTable, other, Size. No condition but that its cells lie in memory, that it has from one to 65536 buckets, and that words are words of 64 bits.
-/
import Derived.Test.YtgfjmgebecmbiaaGreatW12b
import Derived.Test.YtgfjmgebecmbiaaGreatReg2
import Derived.Test.YtgfjmgebecmbiaaGreatW6b
import Derived.Test.YtgfjmgebecmbiaaGreatM12d
import Derived.Deep.LoopGhost
import Derived.Test.YtgfjmgebecmbiaaGreatReg6
import Derived.Laws.AppendOwnNone
set_option linter.unusedSimpArgs false
set_option linter.unusedVariables false
namespace Go.Proofs.YtgfjmgebecmbiaaGreat
open Go.RowKit Go.Sort M
theorem find_at {L:List Rt} {k:Ky} {j:Nat} (hj:j<L.length) (h1:∀i,∀h:i<L.length,i<j->L[i].k≠k) (h2:L[j].k=k):findS L k=some j:=by
 unfold findS
 rw [List.findIdx?_eq_some_iff_getElem]
 exact ⟨hj,decide_eq_true h2,fun i hi=>by simp [h1 i (by omega) hi]⟩
theorem find_no {L:List Rt} {k:Ky} (h:∀i,∀h:i<L.length,L[i].k≠k):findS L k=none:=by
 unfold findS
 rw [List.findIdx?_eq_none_iff]
 intro x hx
 obtain ⟨i,hi,rfl⟩:=List.getElem_of_mem hx
 exact decide_eq_false (h i hi)
set_option maxRecDepth 100000 in
set_option maxHeartbeats 2000000 in
theorem find12_any (p:Option Addr) (c:Nat) (L:List Rt) (k:Ky) (w:World) (hR:Row w p (rcs L)) (hl:L.length<1048576) :
 Calls Tryz.prog 21 #[.slice p L.length c,kyV k] w fun e w'=>e = .returned (.int .i64 (stI L k))/\Below w.heap.size w w':=by
 have HR:=Lib.hid hR
 clear hR
 obtain ⟨F,hF⟩:∃F,F=stI L k:=⟨_,rfl⟩
 rw [<-hF]
 have HF:=Lib.hid hF
 clear hF
 unfold kyV at *
 go_enter Tryz.func21,Tryz.ntmps21
 go_wp2
 go_loopw [5] (fun i wr=>∃(j:Nat),j<=L.length/\i = .int .i64 (j:Int)/\Hid (∀i,∀h:i<L.length,i<j->L[i].k≠k)/\wr.cell? ⟨w.heap.size,0,none⟩=some (.int .u64 (k.h:Int))/\wr.cell? ⟨w.heap.size,1,none⟩=some (.int .u64 (k.l:Int))/\wr.cell? ⟨w.heap.size,2,none⟩=some (.int .i64 k.n)/\w.heap.size<wr.heap.size/\Below w.heap.size w wr) (fun i _=>L.length-(intOf i).toNat)
 case atStart=>exact ⟨0,Nat.zero_le _,rfl,fun i _ h=>absurd h (by omega),by simp [go_sem],by simp [go_sem],by simp [go_sem],by simp,by go_grown⟩
 case round=>
  obtain ⟨j,hj,rfl,HN,d0,d1,d2,hz,hb⟩:=hrel
  by_cases hlt:j<L.length
  ·obtain ⟨gr,o,rfl,hgr,r0,r1,r2,r3⟩:=HR.out.rt hlt
   have r0:=(hb.cell (p:=⟨gr,o+j*4,none⟩) hgr).trans r0
   have r1:=(hb.cell (p:=⟨gr,o+j*4+1,none⟩) hgr).trans r1
   have r2:=(hb.cell (p:=⟨gr,o+j*4+2,none⟩) hgr).trans r2
   have hgr2:=Nat.lt_of_lt_of_le hgr hb.size
   have i1:(0:Int)<=(j:Int):=by omega
   have i2:(j:Int)<(L.length:Int):=by omega
   have hE:=eqlK L[j].k.h L[j].k.l L[j].k.n k.h k.l k.n
   clear r3
   by_cases hq:L[j].k=k
   ·rw [decide_eq_true ((ky_eq _ _).2 hq)] at hE
    have HJ:Hid (F=(j:Int)):=by
     show F=_
     rw [HF.out,stI_some (find_at hlt HN.out hq)]
    clear hq
    generalize L[j].k=q at *
    go_wp2_with fail
    have kg:=cell_grow
    refine region_whole (by kernel_rfl) (by kernel_rfl) ?_
    repeat (any_goals (first|go_big_quiet_step (fail)|quiet_step (fail)))
    refine wpQuiet_nil ?_
    clear kg
    intro w2 hb2
    obtain ⟨hc2,hf2⟩:=bcell hb2
    have hw2:Below w.heap.size w w2:=by
     refine Below.trans ?_ (hb2.mono ?_)
     ·go_grown
     ·first|omega|go_size
    go_wp2
    go_ret
    exact ⟨by rw [HJ.out];rfl,hb.trans (hb2.mono hb.size)⟩
   ·rw [decide_eq_false (fun h=>hq ((ky_eq _ _).1 h))] at hE
    have HN2:Hid (∀i,∀h:i<L.length,i<j+1->L[i].k≠k):=by
     intro i h hij
     by_cases e:i=j
     ·subst e;exact hq
     ·exact HN.out i h (by omega)
    clear hq
    generalize L[j].k=q at hE r0 r1 r2
    go_wp2_with fail
    have kg:=cell_grow
    refine region_whole (by kernel_rfl) (by kernel_rfl) ?_
    repeat (any_goals (first|go_big_quiet_step (fail)|quiet_step (fail)))
    refine wpQuiet_nil ?_
    clear kg
    intro w2 hb2
    obtain ⟨hc2,hf2⟩:=bcell hb2
    have hw2:Below w.heap.size w w2:=by
     refine Below.trans ?_ (hb2.mono ?_)
     ·go_grown
     ·first|omega|go_size
    have hw2:=hb.trans (hb2.mono hb.size)
    have d0:=(hc2 _ _ hz).trans d0
    have d1:=(hc2 _ _ hz).trans d1
    have d2:=(hc2 _ _ hz).trans d2
    have hz2:=Nat.lt_of_lt_of_le hz hb2.size
    clear hc2 hf2 hb2
    go_wp2
    go_roundw
    all_goals first
     | exact ⟨j+1,by omega,by go_num,HN2,d0,d1,d2,hz2,hw2⟩
     | (simp [intOf];omega)
  ·have HJ:Hid (F = -1):=by
    show F=_
    rw [HF.out,stI_none (find_no fun i h=>HN.out i h (by omega))]
   go_wp2
   go_ret
   exact ⟨by rw [HJ.out];rfl,hb⟩
theorem neqR (a b:Nat) (n x:Int) (c d:Nat) (m y:Int) (w:World):(binOp .neq 41 (.agg #[.int .u64 a,.int .u64 b,.int .i64 n,.int .i64 x]) (.agg #[.int .u64 c,.int .u64 d,.int .i64 m,.int .i64 y])).run Tryz.prog w =
 .ok (.bool (!decide (a=c/\b=d/\n=m/\x=y))) w:=by
 have e1:decide (a=c/\b=d/\n=m/\x=y)=(decide ((a:Int)=c)&&(decide ((b:Int)=d)&&(decide (n=m)&&decide (x=y)))):=by
  rw [<-Bool.decide_and,<-Bool.decide_and,<-Bool.decide_and,decide_eq_decide];omega
 rw [e1]
 by_cases h1:(a:Int)=c<;>by_cases h2:(b:Int)=d<;>by_cases h3:n=m<;>by_cases h4:x=y<;>simp [go_sem,h1,h2,h3,h4]
theorem rt_eq (a b:Rt):(a.k.h=b.k.h/\a.k.l=b.k.l/\a.k.n=b.k.n/\a.v=b.v)↔a=b:=by
 obtain ⟨⟨h,l,n⟩,v⟩:=a
 obtain ⟨⟨h',l',n'⟩,v'⟩:=b
 constructor
 ·rintro ⟨e1,e2,e3,e4⟩
  simp only at e1 e2 e3 e4
  subst e1 e2 e3 e4
  rfl
 ·intro e
  injection e with e1 e2
  injection e1 with e3 e4 e5
  exact ⟨e3,e4,e5,e2⟩
set_option maxRecDepth 100000 in
set_option maxHeartbeats 2000000 in
theorem sameR_any (p q:Option Addr) (c d:Nat) (X Y:List Rt) (w:World) (hX:Row w p (rcs X)) (hY:Row w q (rcs Y)) (hl:X.length<1048576) (hm:Y.length<1048576) :
 Calls Tryz.prog 19 #[.slice p X.length c,.slice q Y.length d] w fun e w'=>e = .returned (.bool (decide (X=Y)))/\Below w.heap.size w w':=by
 by_cases hlen:X.length=Y.length
 ·have HX:=Lib.hid hX
  have HY:=Lib.hid hY
  have HL:=Lib.hid hlen
  clear hX hY hlen
  have hn:¬((X.length:Int)≠(Y.length:Int)):=by rw [HL.out];simp
  obtain ⟨F,hF⟩:∃F,F=decide (X=Y):=⟨_,rfl⟩
  rw [<-hF]
  have HF:=Lib.hid hF
  clear hF
  rw [<-HL.out]
  clear hn
  go_enter Tryz.func19,Tryz.ntmps19
  go_wp2
  go_loopw [5] (fun i wr=>∃(j:Nat),j<=X.length/\i = .int .i64 (j:Int)/\Hid (∀i,∀(h:i<X.length) (h2:i<Y.length),i<j->X[i]=Y[i])/\Below w.heap.size w wr) (fun i _=>X.length-(intOf i).toNat)
  case atStart=>exact ⟨0,Nat.zero_le _,rfl,fun i _ _ h=>absurd h (by omega),by go_grown⟩
  case round=>
   obtain ⟨j,hj,rfl,HE,hb⟩:=hrel
   by_cases hlt:j<X.length
   ·have hlt2:j<Y.length:=by rw [<-HL.out];exact hlt
    obtain ⟨ga,oa,rfl,hga,a0,a1,a2,a3⟩:=HX.out.rt hlt
    obtain ⟨gb,ob,rfl,hgb,b0,b1,b2,b3⟩:=HY.out.rt hlt2
    have a0:=(hb.cell (p:=⟨ga,oa+j*4,none⟩) hga).trans a0
    have a1:=(hb.cell (p:=⟨ga,oa+j*4+1,none⟩) hga).trans a1
    have a2:=(hb.cell (p:=⟨ga,oa+j*4+2,none⟩) hga).trans a2
    have a3:=(hb.cell (p:=⟨ga,oa+j*4+3,none⟩) hga).trans a3
    have b0:=(hb.cell (p:=⟨gb,ob+j*4,none⟩) hgb).trans b0
    have b1:=(hb.cell (p:=⟨gb,ob+j*4+1,none⟩) hgb).trans b1
    have b2:=(hb.cell (p:=⟨gb,ob+j*4+2,none⟩) hgb).trans b2
    have b3:=(hb.cell (p:=⟨gb,ob+j*4+3,none⟩) hgb).trans b3
    have hga2:=Nat.lt_of_lt_of_le hga hb.size
    have hgb2:=Nat.lt_of_lt_of_le hgb hb.size
    have hz0:=hb.size
    have i1:(0:Int)<=(j:Int):=by omega
    have i2:(j:Int)<(X.length:Int):=by omega
    have hE:=neqR X[j].k.h X[j].k.l X[j].k.n X[j].v Y[j].k.h Y[j].k.l Y[j].k.n Y[j].v
    by_cases hq:X[j]=Y[j]
    ·rw [decide_eq_true ((rt_eq _ _).2 hq)] at hE
     have HE2:Hid (∀i,∀(h:i<X.length) (h2:i<Y.length),i<j+1->X[i]=Y[i]):=by
      intro i h h2 hij
      by_cases e:i=j
      ·subst e;exact hq
      ·exact HE.out i h h2 (by omega)
     clear hq
     generalize X[j]=x at hE a0 a1 a2 a3
     generalize Y[j]=y at hE b0 b1 b2 b3
     go_wp2_with fail
     have kg:=cell_grow
     refine region_whole (by kernel_rfl) (by kernel_rfl) ?_
     repeat (any_goals (first|go_big_quiet_step (fail)|quiet_step (fail)))
     refine wpQuiet_nil ?_
     clear kg
     intro w2 hb2
     obtain ⟨hc2,hf2⟩:=bcell hb2
     have hw2:Below w.heap.size w w2:=by
      refine Below.trans ?_ (hb2.mono ?_)
      ·go_grown
      ·first|omega|go_size
     have hw2:=hb.trans (hb2.mono hb.size)
     clear hc2 hf2 hb2
     go_wp2
     go_roundw
     all_goals first
      | exact ⟨j+1,by omega,by go_num,HE2,hw2⟩
      | (simp [intOf];omega)
    ·rw [decide_eq_false (fun h=>hq ((rt_eq _ _).1 h))] at hE
     have HJ:Hid (F=false):=by
      show F=_
      rw [HF.out]
      exact decide_eq_false fun e=>hq (by subst e;rfl)
     clear hq
     generalize X[j]=x at hE a0 a1 a2 a3
     generalize Y[j]=y at hE b0 b1 b2 b3
     go_wp2_with fail
     have kg:=cell_grow
     refine region_whole (by kernel_rfl) (by kernel_rfl) ?_
     repeat (any_goals (first|go_big_quiet_step (fail)|quiet_step (fail)))
     refine wpQuiet_nil ?_
     clear kg
     intro w2 hb2
     obtain ⟨hc2,hf2⟩:=bcell hb2
     have hw2:Below w.heap.size w w2:=by
      refine Below.trans ?_ (hb2.mono ?_)
      ·go_grown
      ·first|omega|go_size
     go_wp2
     go_ret
     exact ⟨by rw [HJ.out];rfl,hb.trans (hb2.mono hb.size)⟩
   ·have HJ:Hid (F=true):=by
     show F=_
     rw [HF.out]
     exact decide_eq_true (List.ext_getElem HL.out fun i h1 h2=>HE.out i h1 h2 (by omega))
    go_wp2
    go_ret
    exact ⟨by rw [HJ.out];rfl,hb⟩
 ·rw [decide_eq_false (fun e=>hlen (by rw [e]))]
  have hn:¬((X.length:Int)=(Y.length:Int)):=by omega
  clear hlen
  go_enter Tryz.func19,Tryz.ntmps19
  go_wp2
  go_ret
  exact ⟨rfl,by go_grown⟩
theorem lng_none_no {L:List Rt} {c:Rt->Bool} {j:Nat} (hj:j<L.length) (h:c L[j]=false):lngI L c (j+1)=lngI L c j:=by
 rw [lngI,getD_at hj]
 cases lngI L c j with
 | none=>simp only [h];rfl
 | some b=>simp only [h];rw [if_neg (fun x=>Bool.noConfusion x.1)]
theorem lng_none_yes {L:List Rt} {c:Rt->Bool} {j:Nat} (hj:j<L.length) (h:c L[j]=true) (e:lngI L c j=none):lngI L c (j+1)=some j:=by
 rw [lngI,getD_at hj,e]
 simp only [h,if_true]
theorem lng_some {L:List Rt} {c:Rt->Bool} {j b:Nat} (hj:j<L.length) (hb:b<L.length) (h:c L[j]=true) (e:lngI L c j=some b):lngI L c (j+1)=if L[b].k.n<L[j].k.n then some j else some b:=by
 rw [lngI,getD_at hj,e]
 simp only [h,getD_at hb,true_and]
theorem lng_lt {L:List Rt} {c:Rt->Bool}:∀{j b:Nat},lngI L c j=some b->b<j
 | 0,b,h=>by (cases h)
 | j+1,b,h=>by
  rw [lngI] at h
  cases e:lngI L c j with
  | none=>
   rw [e] at h
   simp only at h
   split at h
   ·injection h with h;omega
   ·cases h
  | some b'=>
   rw [e] at h
   simp only at h
   have:=lng_lt e
   split at h
   ·injection h with h;omega
   ·injection h with h;omega
def rtA (r:Rt):Value := .agg #[.int .u64 (r.k.h:Int),.int .u64 (r.k.l:Int),.int .i64 r.k.n,.int .i64 r.v]
theorem rcs_set:∀(L:List Rt) (j:Nat) (r:Rt),j<L.length->((((rcs L).set (j*4) (.int .u64 (r.k.h:Int))).set (j*4+1) (.int .u64 (r.k.l:Int))).set (j*4+2) (.int .i64 r.k.n)).set (j*4+3) (.int .i64 r.v)=rcs (L.set j r)
 | [],_,_,h=>absurd h (by simp)
 | x::L,0,r,_=>by simp [rcs_cons,rcell]
 | x::L,j+1,r,h=>by
  have ih:=rcs_set L j r (by simpa using h)
  rw [List.set_cons_succ,rcs_cons,rcs_cons,<-ih]
  have e:∀(X:List Value) (m:Nat) (u:Value),(rcell x++X).set (m+4) u=rcell x++X.set m u:=fun X m u=>by
   rw [List.set_append_right _ _ (by simp [rcell])]
   simp [rcell]
  rw [show (j+1)*4=j*4+4 by omega,show j*4+4+1=j*4+1+4 by omega,show j*4+4+2=j*4+2+4 by omega,show j*4+4+3=j*4+3+4 by omega,e,e,e,e]
structure RFil (w:World) (lo hi f g s:Nat) (k:Int) (C:List Nat):Prop where
 c0:w.cell? ⟨f,0,none⟩=some (.int .u64 (s:Int))
 c1:w.cell? ⟨f,1,none⟩=some (.int .i64 k)
 c2:w.cell? ⟨f,2,none⟩=some (.slice (some ⟨g,0,none⟩) C.length C.length)
 own:w.ownsRow lo 3 1 (.slice (some ⟨g,0,none⟩) C.length C.length) C.length (iC C)
 small:∀c∈C,c<=15
 len:C.length<=65536
 top:hi<=w.heap.size
 fin:lo<=f/\f<hi
 gin:g<hi
 ne:f≠g
 ws:W64 s
section
variable {w w':World} {lo hi f g s:Nat} {k:Int} {C:List Nat} {S:Nat->Prop}
theorem RFil.low (H:RFil w lo hi f g s k C):lo<=g:=(H.own.lt g rfl).1
theorem RFil.touched (H:RFil w lo hi f g s k C) (ht:Touch S w w') (hn:∀j,lo<=j->j<hi->¬S j):RFil w' lo hi f g s k C:=
 ⟨ht.cell H.c0 (hn _ H.fin.1 H.fin.2),ht.cell H.c1 (hn _ H.fin.1 H.fin.2),ht.cell H.c2 (hn _ H.fin.1 H.fin.2),Touch.own H.own ht (fun j e=>by cases e;exact hn _ H.low H.gin),H.small,H.len,Nat.le_trans H.top ht.size,H.fin,H.gin,H.ne,H.ws⟩
theorem RFil.below (H:RFil w lo hi f g s k C) (hb:Below w.heap.size w w'):RFil w' lo hi f g s k C:=H.touched (S:=fun _=>False) (Touch.quiet hb) (fun _ _ _ h=>h)
theorem RFil.lt (H:RFil w lo hi f g s k C):f<w.heap.size:=Nat.lt_of_lt_of_le H.fin.2 H.top
theorem RFil.lt2 (H:RFil w lo hi f g s k C):g<w.heap.size:=Nat.lt_of_lt_of_le H.gin H.top
end
def zB:Value := .agg #[.int .u64 0,.int .u64 0,.int .i64 0,.int .i64 0,.bool false,.int .u64 0,.int .u64 0,.int .i64 0,.int .i64 0,.bool false,.int .u64 0,.int .u64 0,.int .i64 0,.int .i64 0,.bool false,.int .u64 0,.int .u64 0,.int .i64 0,.int .i64 0,.bool false]
theorem infoB12:(Tryz.prog.info? 154).map (fun i=>(i.zero,i.size,i.bytes))=some (some zB,20,160):=by kernel_rfl
theorem made_cell {w:World} {g n i x:Nat} {z:Array Value} {t:TypeId} (hz:z.size=20) (hg:w.heap[g]? = some (.cells (madeCells z (n*20)) t (0,0))) (hi:i<n) (hx:x<20):w.cell? ⟨g,i*20+x,none⟩=some z[x]! := by
 rw [cell_of_row w g _ _ t (0,0) hg]
 unfold madeCells
 rw [Array.getElem?_map,Array.getElem?_range,if_pos (by omega)]
 simp only [Option.map_some,hz]
 rw [show (i*20+x)%20=x by omega]
theorem made_free {w:World} {g n:Nat} {z:Array Value} {t:TypeId} (hg:w.heap[g]? = some (.cells (madeCells z (n*20)) t (0,0))) (j:Nat):w.frozen? ⟨g,j,none⟩=false:=frozen_of_row w g j _ t hg
theorem made_bkt {w:World} {g n i:Nat} {t:TypeId} (hg:w.heap[g]? = some (.cells (madeCells zB.cells (n*20)) t (0,0))) (hi:i<n):Bkt w g (i*20) [none,none,none,none]:=by
 refine ⟨rfl,(Array.getElem?_eq_some_iff.1 hg).1,fun k hk j u hu => ?_,fun j _=>made_free hg _⟩
 have hj:j<5:=(List.getElem?_eq_some_iff.1 hu).1
 simp only [List.length_cons,List.length_nil] at hk
 rw [Nat.add_assoc,made_cell (by rfl) hg hi (by omega)]
 rcases (show k=0\/k=1\/k=2\/k=3 by omega) with rfl | rfl | rfl | rfl<;>rcases (show j=0\/j=1\/j=2\/j=3\/j=4 by omega) with rfl | rfl | rfl | rfl | rfl<;>(simp only [x5,List.getElem_cons_zero,List.getElem_cons_succ,List.getElem?_cons_zero,List.getElem?_cons_succ,Option.some.injEq] at hu;subst hu;rfl)
theorem empty_len (s n:Nat):(emptyT s n).B.length=n:=by simp [emptyT]
theorem Tb.fresh {K:World->Nat->Nat->List Pl->Prop} {w:World} {t g s n:Nat} (hK:∀i,i<n->K w g (i*20) [none,none,none,none]) (hg:g<w.heap.size) (ht:t<w.heap.size) (c0:w.cell? ⟨t,0,none⟩=some (.int .u64 (s:Int))) (c1:w.cell? ⟨t,1,none⟩=some (.slice (some ⟨g,0,none⟩) n n))
 (c2:w.cell? ⟨t,2,none⟩=some (.slice none 0 0)) (f:∀j,w.frozen? ⟨t,j,none⟩=false) (tg:t≠g):Tb K w t g (.slice none 0 0) (emptyT s n):=
 ⟨fun i hi=>by rw [empty_len] at hi;rw [empty_bk s n i hi];exact hK i hi,hg,ht,c0,by rw [empty_len];exact c1,c2,f,World.ownsRow_nil _ _ _ _,tg,by simp [Value.ownBlock],by simp [Value.ownBlock]⟩
set_option maxRecDepth 100000 in
set_option maxHeartbeats 1000000 in
theorem new_bad (s:Nat) (n:Int) (w:World) (h:n<1\/65536<n) :
 Calls Tryz.prog 53 #[.int .u64 (s:Int),.int .i64 n] w fun e w'=>e = .returned (.tuple #[.pointer none,.int .i64 1])/\Below w.heap.size w w':=by
 rcases h with h | h
 ·go_enter Tryz.func53,Tryz.ntmps53
  go_wp2
  go_ret2
  exact ⟨rfl,by go_grown⟩
 ·have h2:¬n<1:=by omega
  go_enter Tryz.func53,Tryz.ntmps53
  go_wp2
  go_ret2
  exact ⟨rfl,by go_grown⟩
set_option maxRecDepth 100000 in
set_option maxHeartbeats 1000000 in
theorem cnew_any (s n:Nat) (w:World) (h1:1<=n) (h2:n<=65536) :
 Calls Tryz.prog 53 #[.int .u64 (s:Int),.int .i64 (n:Int)] w fun e w'=>∃t,e = .returned (.tuple #[.pointer (some ⟨t,0,none⟩),.int .i64 0])/\∃g,CT w' t g (.slice none 0 0) (emptyT s n) 0/\Below w.heap.size w w'/\w.heap.size<=t/\w.heap.size<=g:=by
 have PLA:=fun w=>make_row Tryz.underlying139 infoB12 n (by omega) (by unfold maxLen;omega) w
 have h3:¬((n:Int)<1):=by omega
 have h4:¬((65536:Int)<n):=by omega
 generalize hM:madeCells zB.cells (n*20)=M at PLA
 go_enter Tryz.func53,Tryz.ntmps53
 go_wp2
 go_ret2
 refine ⟨w.heap.size+1,rfl,w.heap.size,⟨Tb.fresh (fun i hi=>made_bkt (t:=154) (n:=n) ?_ hi) (by simp;omega) (by simp) (by simp [go_sem]) (by simp [go_sem]) (by simp [go_sem]) (fun j=>by simp [go_sem]) (by omega),by simp [go_sem]⟩,by go_grown,by omega,Nat.le_refl _⟩
 rw [hM]
 rw [heap_alloc_old _ _ (by simp)]
 exact heap_alloc_new w _
end Go.Proofs.YtgfjmgebecmbiaaGreat
