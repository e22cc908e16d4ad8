/-
  EngineHolds' walk. No condition but those that stand in it.
-/
import Derived.Test.YtgfjmgebecmbiaaGreatRef18
set_option linter.unusedSimpArgs false
set_option linter.unusedVariables false
namespace Go.Proofs.YtgfjmgebecmbiaaGreat
open Go Go.RowKit Go.Sort M
def fS (N:List Rt) (low:Int) (K:List Ky):List Rt:=sortR (K.map fun k=>⟨k,hopV N low k⟩)
theorem fS_len (N:List Rt) (low:Int) (K:List Ky):(fS N low K).length<=K.length:=by
 have:=sortR_len (K.map fun k=>(⟨k,hopV N low k⟩:Rt))
 rwa [List.length_map] at this
theorem spr_len (k:Ky) (g:W64 k.l) (m:Int):(sprK k m).length<=256:=by
 unfold sprK
 rw [List.length_map,keysV_len _ _ _ _ g]
 exact cnt_le _ _ _ _
theorem keysS_in (N:List Rt) (low high:Int) (i:Nat) (h:i<N.length) (hc:insB low high N[i]=true):keysS (N.take (i+1)) low high=keysS (N.take i) low high++sprK N[i].k high:=by
 unfold keysS
 rw [List.take_succ_eq_append_getElem h,List.filter_append,List.flatMap_append]
 congr 1
 simp [hc]
theorem keysS_out (N:List Rt) (low high:Int) (i:Nat) (h:i<N.length) (hc:insB low high N[i]=false):keysS (N.take (i+1)) low high=keysS (N.take i) low high:=by
 unfold keysS
 rw [List.take_succ_eq_append_getElem h,List.filter_append,List.flatMap_append]
 simp [hc]
theorem keysS_len (N:List Rt) (low high:Int) (hg:∀r∈N,r.k.good):∀i,i<=N.length->(keysS (N.take i) low high).length<=256*i
 | 0,_=>by simp [keysS]
 | i+1,h=>by
  have ih:=keysS_len N low high hg i (by omega)
  have hi:i<N.length:=by omega
  cases hc:insB low high N[i] with
  | true=>
   rw [keysS_in N low high i hi hc,List.length_append]
   have:=spr_len N[i].k (hg _ (List.getElem_mem hi)).2 high
   omega
  | false=>
   rw [keysS_out N low high i hi hc]
   omega
theorem spr_at (k:Ky) (m:Int) (j:Nat) (h:j<(keysV k.h k.l k.n m).length):(sprK k m)[j]'(by unfold sprK;rw [List.length_map];exact h)=kyP (keysV k.h k.l k.n m)[j]:=by simp [sprK]
theorem spr_good {k:Ky} (g:k.good) (m:Int) {q:Ky} (h:q∈sprK k m):q.good:=by
 have:=(mem_spr g.1 g.2 q m).1 h
 exact ⟨this.2.2.2.2.1,this.2.2.2.2.2.1⟩
theorem put_len (E:Eg) (h:Sorted E.R) (r:Rt):(E.put r).R.length<=E.R.length+1:=by
 rw [put_R]
 split
 ·exact into_len22 h r
 ·omega
structure EngH (P:World->(Nat->Prop)->Nat->Eg->Prop) (w0 wr:World) (t:Nat) (E:Eg) (di:Int) (LV:List Int) (BS:List Nat) (K:Nat->Prop):Prop where
 lev:P wr K t E
 ok:E.ok
 dir:E.di=di
 ns:E.L.map Lv.n=LV
 cs:E.L.map (fun V=>V.C.length)=BS
 top:∀g,K g->w0.heap.size<=g/\g<wr.heap.size
 below:Below w0.heap.size w0 wr
section
variable {P:World->(Nat->Prop)->Nat->Eg->Prop}
theorem EngH.grow (D:EngC P) {w0 wr w':World} {t:Nat} {E:Eg} {di:Int} {LV:List Int} {BS:List Nat} {K:Nat->Prop} (h:EngH P w0 wr t E di LV BS K) (hb:Below wr.heap.size wr w'):EngH P w0 w' t E di LV BS K:=
 ⟨D.below h.lev hb,h.ok,h.dir,h.ns,h.cs,fun g hg=>⟨(h.top g hg).1,Nat.lt_of_lt_of_le (h.top g hg).2 hb.size⟩,h.below.trans (hb.mono h.below.size)⟩
theorem EngH.turned {w0 wr w':World} {t:Nat} {E E':Eg} {di:Int} {LV:List Int} {BS:List Nat} {K K':Nat->Prop} (h:EngH P w0 wr t E di LV BS K) (hp:P w' K' t E') (ho:E'.ok) (hd:E'.di=E.di) (hn:E'.L.map Lv.n=E.L.map Lv.n) (hc:E'.L.map (fun V=>V.C.length)=E.L.map (fun V=>V.C.length))
 (hT:Touch K wr w') (hK:∀g,K' g->K g\/In wr.heap.size w'.heap.size g):EngH P w0 w' t E' di LV BS K':=by
 refine ⟨hp,ho,hd.trans h.dir,hn.trans h.ns,hc.trans h.cs,fun g hg => ?_,h.below.trans (hT.below h.below.size (fun j hj=>(h.top j hj).1))⟩
 rcases hK g hg with hk | hk
 ·exact ⟨(h.top g hk).1,Nat.lt_of_lt_of_le (h.top g hk).2 hT.size⟩
 ·exact ⟨Nat.le_trans h.below.size hk.1,hk.2⟩
end
end Go.Proofs.YtgfjmgebecmbiaaGreat
