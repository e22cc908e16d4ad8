import Derived.Test.YtgfjmgebecmbiaaGreatL22b
set_option linter.unusedSimpArgs false
set_option linter.unusedVariables false
set_option maxHeartbeats 8000000
namespace Go.Proofs.YtgfjmgebecmbiaaGreat
open Lib(hid)
open Go Go.RowKit Go.Sort M
structure EngI (P:World->(Nat->Prop)->Nat->Eg->Prop) (w0 wr:World) (t:Nat) (E:Eg) (q:Option Addr) (c:Nat) (K:Nat->Prop):Prop where
 lev:P wr K t E
 ok:E.ok
 top:∀g,K g->w0.heap.size<=g/\g<wr.heap.size
 own:wr.ownsRow w0.heap.size 41 4 (.slice q E.R.length c) E.R.length (rcs E.R)
 far:∀j,(Value.slice q E.R.length c).ownBlock=some j->¬K j
 below:Below w0.heap.size w0 wr
section
variable {P:World->(Nat->Prop)->Nat->Eg->Prop}
theorem EngI.grow (D:EngC P) {w0 wr w':World} {t:Nat} {E:Eg} {q:Option Addr} {c:Nat} {K:Nat->Prop} (h:EngI P w0 wr t E q c K) (hb:Below wr.heap.size wr w'):EngI P w0 w' t E q c K:=
 ⟨D.below h.lev hb,h.ok,fun g hg=>⟨(h.top g hg).1,Nat.lt_of_lt_of_le (h.top g hg).2 hb.size⟩,own_below h.own hb,h.far,h.below.trans (hb.mono h.below.size)⟩
theorem EngI.turned {w0 wr w':World} {t:Nat} {E:Eg} {q:Option Addr} {c:Nat} {K K':Nat->Prop} (h:EngI P w0 wr t E q c K) (hT:Touch K wr w') (hK:∀g,K' g->K g\/In wr.heap.size w'.heap.size g) :
 w'.ownsRow w0.heap.size 41 4 (.slice q E.R.length c) E.R.length (rcs E.R)/\(∀j,(Value.slice q E.R.length c).ownBlock=some j->¬K' j)/\(∀g,K' g->w0.heap.size<=g/\g<w'.heap.size)/\Below w0.heap.size w0 w':=by
 refine ⟨Zf3 h.own fun j hj=>hT.block j (h.own.lt j hj).2 (h.far j hj),fun j hj hk => ?_,fun g hg => ?_,h.below.trans (hT.below h.below.size (fun j hj=>(h.top j hj).1))⟩
 ·rcases hK j hk with hk | hk
  ·exact h.far j hj hk
  ·have:=(h.own.lt j hj).2
   have:=hk.1
   omega
 ·rcases hK g hg with hk | hk
  ·exact ⟨(h.top g hk).1,Nat.lt_of_lt_of_le (h.top g hk).2 hT.size⟩
  ·exact ⟨Nat.le_trans h.below.size hk.1,hk.2⟩
theorem Zvs {N:List Rt} (h:Sorted N) (r:Rt):(Zao N r).length<=N.length+1:=by
 have h1:=(Za7 r h).length_eq
 have h2:(outS N r.k).length<=N.length:=List.length_filter_le _ _
 simp only [List.length_cons] at h1
 omega
set_option maxRecDepth 100000 in
theorem Z7h (D:EngC P) (c:Cf) (s:Nat) (p0 q q2:Option Addr) (k0 c1 c2:Nat) (LV:List Int) (L:List (Bool×Rt)) (T:List (Nat×Nat)) (w:World) (ws:W64 s) (hV:IRow w p0 LV) (hR:RowA 5 act14 w q L) (hg:∀a∈L,a.2.k.good) (hA:RowA 2 adrA w q2 T) (hgA:∀a∈T,W64 a.1/\W64 a.2)
 (hcap:LV.length<=k0) (hl0:LV.length<=maxLen) (hl1:L.length<=maxLen) (hl2:T.length<=maxLen) (hlw:∀x∈LV,x<=9223372036854775807) :
 Calls Tryz.prog 3 #[cfgA c,.int .u64 (s:Int),.slice p0 LV.length k0,.slice q L.length c1,.slice q2 T.length c2] w fun e w'=>e = .returned (.bool true)/\Below w.heap.size w w':=by
 have HA:=hid (fun w=>Zr1 D w)
 have hsm:=Zxa c
 unfold maxLen at hl0 hl1 hl2
 have hbad:=fun W h1 h2 h3=>D.bad c s LV [] p0 none k0 0 W ws h1 (.inl rfl) h2 (by decide) hcap (by decide) hlw h3
 have hnew:=fun W h1 h2 h3=>D.new c s LV [] p0 none k0 0 W ws h1 (.inl rfl) h2 (by decide) hcap (by decide) h3
 have hE0ok:okE c LV=true->(newE c s LV []).ok:=fun h=>by
  unfold okE at h
  rw [Bool.and_eq_true] at h
  exact Zye h.1 h.2
 have hE0:(newE c s LV []).R=[]/\(newE c s LV []).wd=c.wd/\(newE c s LV []).L.map Lv.n=LV:=⟨rfl,rfl,Z51 _ _ _ _⟩
 obtain ⟨E0,hE0e⟩:∃E0,E0=newE c s LV []:=⟨_,rfl⟩
 rw [<-hE0e] at hnew hE0ok hE0
 obtain ⟨oe,hoe⟩:∃oe,oe=okE c LV:=⟨_,rfl⟩
 obtain ⟨sb,hsb⟩:∃sb,sb=Zxb c:=⟨_,rfl⟩
 rw [<-hoe] at hbad hnew hE0ok
 rw [<-hsb] at hsm
 obtain ⟨wd,di,lv,st,hs,bt,le,bk,rt,hp⟩:=c
 unfold cfgA at *
 simp only at *
 have HSM:=hid hsm
 clear hsm hsb hoe hE0e
 cases sb with
 | false=>
  clear hbad hnew hE0ok hE0
  clear hV hR hA hg hgA
  go_enter Tryz.func3,Tryz.ntmps3
  go_wp2_with fail
  refine (HA.out _).mono ?_
  rintro e w1 ⟨rfl,hb1⟩
  have hw1:Below w.heap.size w w1:=Below.trans (by go_grown) (hb1.mono (by simp))
  have y0:w1.cell? ⟨w.heap.size,0,none⟩=some (.int .i64 wd):=by
   rw [hb1.cell (by simp<;>omega)]
   first|assumption|(simp [go_sem];done)|(simp [go_sem, *];done)
  have y1:w1.cell? ⟨w.heap.size,1,none⟩=some (.int .i64 di):=by
   rw [hb1.cell (by simp<;>omega)]
   first|assumption|(simp [go_sem];done)|(simp [go_sem, *];done)
  have y2:w1.cell? ⟨w.heap.size,2,none⟩=some (.int .i64 lv):=by
   rw [hb1.cell (by simp<;>omega)]
   first|assumption|(simp [go_sem];done)|(simp [go_sem, *];done)
  have y3:w1.cell? ⟨w.heap.size,3,none⟩=some (.int .i64 st):=by
   rw [hb1.cell (by simp<;>omega)]
   first|assumption|(simp [go_sem];done)|(simp [go_sem, *];done)
  have y4:w1.cell? ⟨w.heap.size,4,none⟩=some (.int .i64 hs):=by
   rw [hb1.cell (by simp<;>omega)]
   first|assumption|(simp [go_sem];done)|(simp [go_sem, *];done)
  have y5:w1.cell? ⟨w.heap.size,5,none⟩=some (.int .i64 bt):=by
   rw [hb1.cell (by simp<;>omega)]
   first|assumption|(simp [go_sem];done)|(simp [go_sem, *];done)
  have y6:w1.cell? ⟨w.heap.size,6,none⟩=some (.int .i64 le):=by
   rw [hb1.cell (by simp<;>omega)]
   first|assumption|(simp [go_sem];done)|(simp [go_sem, *];done)
  have y7:w1.cell? ⟨w.heap.size,7,none⟩=some (.int .i64 bk):=by
   rw [hb1.cell (by simp<;>omega)]
   first|assumption|(simp [go_sem];done)|(simp [go_sem, *];done)
  have y8:w1.cell? ⟨w.heap.size,8,none⟩=some (.int .i64 rt):=by
   rw [hb1.cell (by simp<;>omega)]
   first|assumption|(simp [go_sem];done)|(simp [go_sem, *];done)
  have y9:w1.cell? ⟨w.heap.size,9,none⟩=some (.int .i64 hp):=by
   rw [hb1.cell (by simp<;>omega)]
   first|assumption|(simp [go_sem];done)|(simp [go_sem, *];done)
  clear hb1
  go_wp2_with fail
  refine (HSM.out _).mono ?_
  rintro e w2 ⟨rfl,hb2⟩
  have hw2:=hw1.trans (hb2.mono hw1.size)
  clear hb2 y0 y1 y2 y3 y4 y5 y6 y7 y8 y9
  go_wp2
  go_ret
  exact ⟨rfl,hw2⟩
 | true=>
  by_cases g1:40<(LV.length:Int)
  ·clear hbad hnew hE0ok hE0
   clear hV hR hA hg hgA
   go_enter Tryz.func3,Tryz.ntmps3
   go_wp2_with fail
   refine (HA.out _).mono ?_
   rintro e w1 ⟨rfl,hb1⟩
   have hw1:Below w.heap.size w w1:=Below.trans (by go_grown) (hb1.mono (by simp))
   have y0:w1.cell? ⟨w.heap.size,0,none⟩=some (.int .i64 wd):=by
    rw [hb1.cell (by simp<;>omega)]
    first|assumption|(simp [go_sem];done)|(simp [go_sem, *];done)
   have y1:w1.cell? ⟨w.heap.size,1,none⟩=some (.int .i64 di):=by
    rw [hb1.cell (by simp<;>omega)]
    first|assumption|(simp [go_sem];done)|(simp [go_sem, *];done)
   have y2:w1.cell? ⟨w.heap.size,2,none⟩=some (.int .i64 lv):=by
    rw [hb1.cell (by simp<;>omega)]
    first|assumption|(simp [go_sem];done)|(simp [go_sem, *];done)
   have y3:w1.cell? ⟨w.heap.size,3,none⟩=some (.int .i64 st):=by
    rw [hb1.cell (by simp<;>omega)]
    first|assumption|(simp [go_sem];done)|(simp [go_sem, *];done)
   have y4:w1.cell? ⟨w.heap.size,4,none⟩=some (.int .i64 hs):=by
    rw [hb1.cell (by simp<;>omega)]
    first|assumption|(simp [go_sem];done)|(simp [go_sem, *];done)
   have y5:w1.cell? ⟨w.heap.size,5,none⟩=some (.int .i64 bt):=by
    rw [hb1.cell (by simp<;>omega)]
    first|assumption|(simp [go_sem];done)|(simp [go_sem, *];done)
   have y6:w1.cell? ⟨w.heap.size,6,none⟩=some (.int .i64 le):=by
    rw [hb1.cell (by simp<;>omega)]
    first|assumption|(simp [go_sem];done)|(simp [go_sem, *];done)
   have y7:w1.cell? ⟨w.heap.size,7,none⟩=some (.int .i64 bk):=by
    rw [hb1.cell (by simp<;>omega)]
    first|assumption|(simp [go_sem];done)|(simp [go_sem, *];done)
   have y8:w1.cell? ⟨w.heap.size,8,none⟩=some (.int .i64 rt):=by
    rw [hb1.cell (by simp<;>omega)]
    first|assumption|(simp [go_sem];done)|(simp [go_sem, *];done)
   have y9:w1.cell? ⟨w.heap.size,9,none⟩=some (.int .i64 hp):=by
    rw [hb1.cell (by simp<;>omega)]
    first|assumption|(simp [go_sem];done)|(simp [go_sem, *];done)
   clear hb1
   go_wp2_with fail
   refine (HSM.out _).mono ?_
   rintro e w2 ⟨rfl,hb2⟩
   have hw2:=hw1.trans (hb2.mono hw1.size)
   clear hb2 y0 y1 y2 y3 y4 y5 y6 y7 y8 y9
   go_wp2
   go_ret
   exact ⟨rfl,hw2⟩
  by_cases g2:40<(L.length:Int)
  ·clear hbad hnew hE0ok hE0
   clear hV hR hA hg hgA
   go_enter Tryz.func3,Tryz.ntmps3
   go_wp2_with fail
   refine (HA.out _).mono ?_
   rintro e w1 ⟨rfl,hb1⟩
   have hw1:Below w.heap.size w w1:=Below.trans (by go_grown) (hb1.mono (by simp))
   have y0:w1.cell? ⟨w.heap.size,0,none⟩=some (.int .i64 wd):=by
    rw [hb1.cell (by simp<;>omega)]
    first|assumption|(simp [go_sem];done)|(simp [go_sem, *];done)
   have y1:w1.cell? ⟨w.heap.size,1,none⟩=some (.int .i64 di):=by
    rw [hb1.cell (by simp<;>omega)]
    first|assumption|(simp [go_sem];done)|(simp [go_sem, *];done)
   have y2:w1.cell? ⟨w.heap.size,2,none⟩=some (.int .i64 lv):=by
    rw [hb1.cell (by simp<;>omega)]
    first|assumption|(simp [go_sem];done)|(simp [go_sem, *];done)
   have y3:w1.cell? ⟨w.heap.size,3,none⟩=some (.int .i64 st):=by
    rw [hb1.cell (by simp<;>omega)]
    first|assumption|(simp [go_sem];done)|(simp [go_sem, *];done)
   have y4:w1.cell? ⟨w.heap.size,4,none⟩=some (.int .i64 hs):=by
    rw [hb1.cell (by simp<;>omega)]
    first|assumption|(simp [go_sem];done)|(simp [go_sem, *];done)
   have y5:w1.cell? ⟨w.heap.size,5,none⟩=some (.int .i64 bt):=by
    rw [hb1.cell (by simp<;>omega)]
    first|assumption|(simp [go_sem];done)|(simp [go_sem, *];done)
   have y6:w1.cell? ⟨w.heap.size,6,none⟩=some (.int .i64 le):=by
    rw [hb1.cell (by simp<;>omega)]
    first|assumption|(simp [go_sem];done)|(simp [go_sem, *];done)
   have y7:w1.cell? ⟨w.heap.size,7,none⟩=some (.int .i64 bk):=by
    rw [hb1.cell (by simp<;>omega)]
    first|assumption|(simp [go_sem];done)|(simp [go_sem, *];done)
   have y8:w1.cell? ⟨w.heap.size,8,none⟩=some (.int .i64 rt):=by
    rw [hb1.cell (by simp<;>omega)]
    first|assumption|(simp [go_sem];done)|(simp [go_sem, *];done)
   have y9:w1.cell? ⟨w.heap.size,9,none⟩=some (.int .i64 hp):=by
    rw [hb1.cell (by simp<;>omega)]
    first|assumption|(simp [go_sem];done)|(simp [go_sem, *];done)
   clear hb1
   go_wp2_with fail
   refine (HSM.out _).mono ?_
   rintro e w2 ⟨rfl,hb2⟩
   have hw2:=hw1.trans (hb2.mono hw1.size)
   clear hb2 y0 y1 y2 y3 y4 y5 y6 y7 y8 y9
   go_wp2
   go_ret
   exact ⟨rfl,hw2⟩
  by_cases g3:30<(T.length:Int)
  ·clear hbad hnew hE0ok hE0
   clear hV hR hA hg hgA
   go_enter Tryz.func3,Tryz.ntmps3
   go_wp2_with fail
   refine (HA.out _).mono ?_
   rintro e w1 ⟨rfl,hb1⟩
   have hw1:Below w.heap.size w w1:=Below.trans (by go_grown) (hb1.mono (by simp))
   have y0:w1.cell? ⟨w.heap.size,0,none⟩=some (.int .i64 wd):=by
    rw [hb1.cell (by simp<;>omega)]
    first|assumption|(simp [go_sem];done)|(simp [go_sem, *];done)
   have y1:w1.cell? ⟨w.heap.size,1,none⟩=some (.int .i64 di):=by
    rw [hb1.cell (by simp<;>omega)]
    first|assumption|(simp [go_sem];done)|(simp [go_sem, *];done)
   have y2:w1.cell? ⟨w.heap.size,2,none⟩=some (.int .i64 lv):=by
    rw [hb1.cell (by simp<;>omega)]
    first|assumption|(simp [go_sem];done)|(simp [go_sem, *];done)
   have y3:w1.cell? ⟨w.heap.size,3,none⟩=some (.int .i64 st):=by
    rw [hb1.cell (by simp<;>omega)]
    first|assumption|(simp [go_sem];done)|(simp [go_sem, *];done)
   have y4:w1.cell? ⟨w.heap.size,4,none⟩=some (.int .i64 hs):=by
    rw [hb1.cell (by simp<;>omega)]
    first|assumption|(simp [go_sem];done)|(simp [go_sem, *];done)
   have y5:w1.cell? ⟨w.heap.size,5,none⟩=some (.int .i64 bt):=by
    rw [hb1.cell (by simp<;>omega)]
    first|assumption|(simp [go_sem];done)|(simp [go_sem, *];done)
   have y6:w1.cell? ⟨w.heap.size,6,none⟩=some (.int .i64 le):=by
    rw [hb1.cell (by simp<;>omega)]
    first|assumption|(simp [go_sem];done)|(simp [go_sem, *];done)
   have y7:w1.cell? ⟨w.heap.size,7,none⟩=some (.int .i64 bk):=by
    rw [hb1.cell (by simp<;>omega)]
    first|assumption|(simp [go_sem];done)|(simp [go_sem, *];done)
   have y8:w1.cell? ⟨w.heap.size,8,none⟩=some (.int .i64 rt):=by
    rw [hb1.cell (by simp<;>omega)]
    first|assumption|(simp [go_sem];done)|(simp [go_sem, *];done)
   have y9:w1.cell? ⟨w.heap.size,9,none⟩=some (.int .i64 hp):=by
    rw [hb1.cell (by simp<;>omega)]
    first|assumption|(simp [go_sem];done)|(simp [go_sem, *];done)
   clear hb1
   go_wp2_with fail
   refine (HSM.out _).mono ?_
   rintro e w2 ⟨rfl,hb2⟩
   have hw2:=hw1.trans (hb2.mono hw1.size)
   clear hb2 y0 y1 y2 y3 y4 y5 y6 y7 y8 y9
   go_wp2
   go_ret
   exact ⟨rfl,hw2⟩
  have hl40:L.length<=40:=by omega
  have HV:=hid hV
  have HR:=hid hR
  have HG:=hid hg
  have HAA:=hid hA
  have HGA:=hid hgA
  have HD:=hid D
  cases oe with
  | false=>
   have HBAD:=hid (fun W h=>hbad W h (by omega) rfl)
   clear hV hR hA hg hgA hbad hnew hE0ok hE0
   go_enter Tryz.func3,Tryz.ntmps3
   go_wp2_with fail
   refine (HA.out _).mono ?_
   rintro e w1 ⟨rfl,hb1⟩
   have hw1:Below w.heap.size w w1:=Below.trans (by go_grown) (hb1.mono (by simp))
   have y0:w1.cell? ⟨w.heap.size,0,none⟩=some (.int .i64 wd):=by
    rw [hb1.cell (by simp<;>omega)]
    first|assumption|(simp [go_sem];done)|(simp [go_sem, *];done)
   have y1:w1.cell? ⟨w.heap.size,1,none⟩=some (.int .i64 di):=by
    rw [hb1.cell (by simp<;>omega)]
    first|assumption|(simp [go_sem];done)|(simp [go_sem, *];done)
   have y2:w1.cell? ⟨w.heap.size,2,none⟩=some (.int .i64 lv):=by
    rw [hb1.cell (by simp<;>omega)]
    first|assumption|(simp [go_sem];done)|(simp [go_sem, *];done)
   have y3:w1.cell? ⟨w.heap.size,3,none⟩=some (.int .i64 st):=by
    rw [hb1.cell (by simp<;>omega)]
    first|assumption|(simp [go_sem];done)|(simp [go_sem, *];done)
   have y4:w1.cell? ⟨w.heap.size,4,none⟩=some (.int .i64 hs):=by
    rw [hb1.cell (by simp<;>omega)]
    first|assumption|(simp [go_sem];done)|(simp [go_sem, *];done)
   have y5:w1.cell? ⟨w.heap.size,5,none⟩=some (.int .i64 bt):=by
    rw [hb1.cell (by simp<;>omega)]
    first|assumption|(simp [go_sem];done)|(simp [go_sem, *];done)
   have y6:w1.cell? ⟨w.heap.size,6,none⟩=some (.int .i64 le):=by
    rw [hb1.cell (by simp<;>omega)]
    first|assumption|(simp [go_sem];done)|(simp [go_sem, *];done)
   have y7:w1.cell? ⟨w.heap.size,7,none⟩=some (.int .i64 bk):=by
    rw [hb1.cell (by simp<;>omega)]
    first|assumption|(simp [go_sem];done)|(simp [go_sem, *];done)
   have y8:w1.cell? ⟨w.heap.size,8,none⟩=some (.int .i64 rt):=by
    rw [hb1.cell (by simp<;>omega)]
    first|assumption|(simp [go_sem];done)|(simp [go_sem, *];done)
   have y9:w1.cell? ⟨w.heap.size,9,none⟩=some (.int .i64 hp):=by
    rw [hb1.cell (by simp<;>omega)]
    first|assumption|(simp [go_sem];done)|(simp [go_sem, *];done)
   have hz1:w.heap.size<w1.heap.size:=by have:=hb1.size;simp at this;omega
   clear hb1
   go_wp2_with fail
   refine (HSM.out _).mono ?_
   rintro e w2 ⟨rfl,hb2⟩
   have hw2:=hw1.trans (hb2.mono hw1.size)
   obtain ⟨hc2,-⟩:=Zaf hb2
   have y0:=(hc2 _ 0 hz1).trans y0
   have y1:=(hc2 _ 1 hz1).trans y1
   have y2:=(hc2 _ 2 hz1).trans y2
   have y3:=(hc2 _ 3 hz1).trans y3
   have y4:=(hc2 _ 4 hz1).trans y4
   have y5:=(hc2 _ 5 hz1).trans y5
   have y6:=(hc2 _ 6 hz1).trans y6
   have y7:=(hc2 _ 7 hz1).trans y7
   have y8:=(hc2 _ 8 hz1).trans y8
   have y9:=(hc2 _ 9 hz1).trans y9
   have hz2:=Nat.lt_of_lt_of_le hz1 hb2.size
   clear hb2 hc2
   go_wp2_with fail
   refine (HBAD.out _ (HV.out.below hw2)).mono ?_
   rintro e w3 ⟨rfl,hb3⟩
   have hw3:=hw2.trans (hb3.mono hw2.size)
   clear hb3 y0 y1 y2 y3 y4 y5 y6 y7 y8 y9
   go_wp2_with fail
   refine (Zg3 1 _).mono ?_
   rintro e w4 ⟨rfl,hb4⟩
   have hw4:=hw3.trans (hb4.mono hw3.size)
   go_wp2_with fail
   refine (Zg3 1 _).mono ?_
   rintro e w5 ⟨rfl,hb5⟩
   have hw5:=hw4.trans (hb5.mono hw4.size)
   go_wp2
   go_ret
   exact ⟨rfl,hw5⟩
  | true=>
   have HNEW:=hid (fun W h=>hnew W h (by omega) rfl)
   have HE0:=hid (And.intro (hE0ok rfl) hE0)
   clear hV hR hA hg hgA hbad hnew hE0ok hE0
   go_enter Tryz.func3,Tryz.ntmps3
   go_wp2_with fail
   refine (HA.out _).mono ?_
   rintro e w1 ⟨rfl,hb1⟩
   have hw1:Below w.heap.size w w1:=Below.trans (by go_grown) (hb1.mono (by simp))
   have y0:w1.cell? ⟨w.heap.size,0,none⟩=some (.int .i64 wd):=by
    rw [hb1.cell (by simp<;>omega)]
    first|assumption|(simp [go_sem];done)|(simp [go_sem, *];done)
   have y1:w1.cell? ⟨w.heap.size,1,none⟩=some (.int .i64 di):=by
    rw [hb1.cell (by simp<;>omega)]
    first|assumption|(simp [go_sem];done)|(simp [go_sem, *];done)
   have y2:w1.cell? ⟨w.heap.size,2,none⟩=some (.int .i64 lv):=by
    rw [hb1.cell (by simp<;>omega)]
    first|assumption|(simp [go_sem];done)|(simp [go_sem, *];done)
   have y3:w1.cell? ⟨w.heap.size,3,none⟩=some (.int .i64 st):=by
    rw [hb1.cell (by simp<;>omega)]
    first|assumption|(simp [go_sem];done)|(simp [go_sem, *];done)
   have y4:w1.cell? ⟨w.heap.size,4,none⟩=some (.int .i64 hs):=by
    rw [hb1.cell (by simp<;>omega)]
    first|assumption|(simp [go_sem];done)|(simp [go_sem, *];done)
   have y5:w1.cell? ⟨w.heap.size,5,none⟩=some (.int .i64 bt):=by
    rw [hb1.cell (by simp<;>omega)]
    first|assumption|(simp [go_sem];done)|(simp [go_sem, *];done)
   have y6:w1.cell? ⟨w.heap.size,6,none⟩=some (.int .i64 le):=by
    rw [hb1.cell (by simp<;>omega)]
    first|assumption|(simp [go_sem];done)|(simp [go_sem, *];done)
   have y7:w1.cell? ⟨w.heap.size,7,none⟩=some (.int .i64 bk):=by
    rw [hb1.cell (by simp<;>omega)]
    first|assumption|(simp [go_sem];done)|(simp [go_sem, *];done)
   have y8:w1.cell? ⟨w.heap.size,8,none⟩=some (.int .i64 rt):=by
    rw [hb1.cell (by simp<;>omega)]
    first|assumption|(simp [go_sem];done)|(simp [go_sem, *];done)
   have y9:w1.cell? ⟨w.heap.size,9,none⟩=some (.int .i64 hp):=by
    rw [hb1.cell (by simp<;>omega)]
    first|assumption|(simp [go_sem];done)|(simp [go_sem, *];done)
   have hz1:w.heap.size<w1.heap.size:=by have:=hb1.size;simp at this;omega
   clear hb1
   go_wp2_with fail
   refine (HSM.out _).mono ?_
   rintro e w2 ⟨rfl,hb2⟩
   have hw2:=hw1.trans (hb2.mono hw1.size)
   obtain ⟨hc2,-⟩:=Zaf hb2
   have y0:=(hc2 _ 0 hz1).trans y0
   have y1:=(hc2 _ 1 hz1).trans y1
   have y2:=(hc2 _ 2 hz1).trans y2
   have y3:=(hc2 _ 3 hz1).trans y3
   have y4:=(hc2 _ 4 hz1).trans y4
   have y5:=(hc2 _ 5 hz1).trans y5
   have y6:=(hc2 _ 6 hz1).trans y6
   have y7:=(hc2 _ 7 hz1).trans y7
   have y8:=(hc2 _ 8 hz1).trans y8
   have y9:=(hc2 _ 9 hz1).trans y9
   have hz2:=Nat.lt_of_lt_of_le hz1 hb2.size
   have HCF:Hid (∀wx,Below w2.heap.size w2 wx->wx.cell? ⟨w.heap.size,0,none⟩=some (.int .i64 wd)/\w.heap.size<wx.heap.size):=hid fun wx h=>⟨(h.cell (p:=⟨w.heap.size,0,none⟩) hz2).trans y0,Nat.lt_of_lt_of_le hz2 h.size⟩
   clear hb2 hc2
   go_wp2_with fail
   refine (HNEW.out _ (HV.out.below hw2)).mono ?_
   rintro e w3 ⟨t,rfl,hP,hb3⟩
   have hz3:=hb3.size
   have HI3:Hid (EngI P w2 w3 t E0 none 0 (In w2.heap.size w3.heap.size)):=hid ⟨hP,HE0.out.1,fun g hg=>⟨hg.1,hg.2⟩,by rw [HE0.out.2.1];exact World.ownsRow_nil _ _ _ _,fun j hj=>(by simp [Value.ownBlock] at hj),hb3⟩
   clear hb3 hP HNEW y0 y1 y2 y3 y4 y5 y6 y7 y8 y9
   go_wp2_with fail
   refine (Zg3 0 _).mono ?_
   rintro e w4 ⟨rfl,hb4⟩
   have HI4:=hid (HI3.out.grow HD.out hb4)
   clear hb4 HI3
   go_wp2
   go_loopg [14,15] L.length (fun kx s14 s15 wr=>∃(i nl:Nat) (p:Option Addr) (cp:Nat),s15 = .int .i64 (i:Int)/\L.length-i<=kx/\i<=L.length/\s14 = .slice p nl cp/\nl<=i/\Hid (∃E K,EngI P w2 wr t E p cp K/\nl=E.R.length/\E.wd=wd/\E.L.map Lv.n=LV))
   case atStart=>exact ⟨0,0,none,0,rfl,by omega,by omega,rfl,by omega,hid ⟨E0,_,HI4.out,by rw [HE0.out.2.1];rfl,HE0.out.2.2⟩⟩
   case round=>
    clear HI4 HE0
    obtain ⟨i,nl,p,cp,rfl,k1,k2,rfl,k3,HI⟩:=hrel
    by_cases hi:i<L.length
    ·obtain ⟨E,K,hI,hnl,hwd,hns⟩:=HI.out
     have hwr:=hw2.trans (hI.below.mono hw2.size)
     obtain ⟨g0,o0,rfl,hg0,x0,x1,x2,x3,x4⟩:=HR.out.act14 hi
     have hgd:=HG.out _ (List.getElem_mem hi)
     have j1:(0:Int)<=(i:Int):=by omega
     have j2:(i:Int)<(L.length:Int):=by omega
     generalize L[i]=x at *
     obtain ⟨dl,⟨⟨kh,kl,kn⟩,v⟩⟩:=x
     simp only at x0 x1 x2 x3 x4 hgd
     have HXS:Hid (∀wx,Below w.heap.size w wx->wx.cell? ⟨g0,o0+i*5,none⟩=some (.bool dl)/\wx.cell? ⟨g0,o0+i*5+1,none⟩=some (.int .u64 (kh:Int))/\wx.cell? ⟨g0,o0+i*5+2,none⟩=some (.int .u64 (kl:Int))/\wx.cell? ⟨g0,o0+i*5+3,none⟩=some (.int .i64 kn)/\wx.cell? ⟨g0,o0+i*5+4,none⟩=some (.int .i64 v)/\g0<wx.heap.size):=hid fun wx h=>
      ⟨(h.cell (p:=⟨g0,o0+i*5,none⟩) hg0).trans x0,(h.cell (p:=⟨g0,o0+i*5+1,none⟩) hg0).trans x1,(h.cell (p:=⟨g0,o0+i*5+2,none⟩) hg0).trans x2,(h.cell (p:=⟨g0,o0+i*5+3,none⟩) hg0).trans x3,(h.cell (p:=⟨g0,o0+i*5+4,none⟩) hg0).trans x4,Nat.lt_of_lt_of_le hg0 h.size⟩
     have hba:Below wr.heap.size wr (wr.alloc (.cells #[.int .u64 (kh:Int),.int .u64 (kl:Int),.int .i64 kn] 39)):=by go_grown
     have HIA:=hid (hI.grow D hba)
     have hng:¬K wr.heap.size:=fun h=>by have:=(hI.top _ h).2;omega
     have hrl:E.R.length<=300:=by omega
     have hsort:=hI.ok.rts.sort
     have hba2:Below w.heap.size w (wr.alloc (.cells #[.int .u64 (kh:Int),.int .u64 (kl:Int),.int .i64 kn] 39)):=hwr.trans (hba.mono hwr.size)
     subst hnl
     obtain ⟨z0,z1,z2,z3,z4,zl⟩:=HXS.out wr hwr
     cases dl with
     | true=>
      have hde:=D.del _ K t E ⟨kh,kl,kn⟩ HIA.out.lev HIA.out.ok hgd (by omega)
      unfold kyV at hde
      simp only at hde
      have HDE:=hid hde
      have HRR:=hid (And.intro (Z9h E ⟨kh,kl,kn⟩) (And.intro (And.intro (Z83 E ⟨kh,kl,kn⟩) (Z8o E ⟨kh,kl,kn⟩)) (HIA.out.ok.del ⟨kh,kl,kn⟩)))
      obtain ⟨E2,hE2⟩:∃E2,E2=E.del ⟨kh,kl,kn⟩:=⟨_,rfl⟩
      rw [<-hE2] at HDE HRR
      clear hde HI hI x0 x1 x2 x3 x4 hE2
      go_wp2_with fail
      refine HDE.out.mono ?_
      rintro e w5 ⟨rfl,K',hP5,hT5,hK5⟩
      obtain ⟨o5,f5,t5,b5⟩:=HIA.out.turned hT5 hK5
      have y0:=hT5.cell (show (wr.alloc _).cell? ⟨wr.heap.size,0,none⟩=some (Value.int .u64 (kh:Int)) by simp [go_sem]) hng
      have y1:=hT5.cell (show (wr.alloc _).cell? ⟨wr.heap.size,1,none⟩=some (Value.int .u64 (kl:Int)) by simp [go_sem]) hng
      have y2:=hT5.cell (show (wr.alloc _).cell? ⟨wr.heap.size,2,none⟩=some (Value.int .i64 kn) by simp [go_sem]) hng
      have hyl:wr.heap.size<w5.heap.size:=by have:=hT5.size;simp at this;omega
      have hwo:=Z06 p cp E.R ⟨kh,kl,kn⟩ w5 (Row.of_own o5) (by omega)
      unfold kyV at hwo
      simp only at hwo
      rw [<-HRR.out.1] at hwo
      have HWO:=hid hwo
      have HP5:=hid hP5
      have HT5:=hid t5
      have HB5:=hid b5
      have hlen:E2.R.length<=E.R.length:=by rw [HRR.out.1];exact List.length_filter_le _ _
      clear hwo hP5 hT5 hK5 o5 f5 t5 b5 z0 z1 z2 z3 z4 zl HDE HIA hba hba2 hwr
      go_wp2_with fail
      refine HWO.out.mono ?_
      rintro e w6 ⟨p6,c6,rfl,ho6,hb6⟩
      have hI6:EngI P w2 w6 t E2 p6 c6 K':=⟨D.below HP5.out hb6,HRR.out.2.2,fun g hg=>⟨(HT5.out g hg).1,Nat.lt_of_lt_of_le (HT5.out g hg).2 hb6.size⟩,Za4 ho6 HB5.out.size,Z0y ho6 HT5.out,HB5.out.trans (hb6.mono HB5.out.size)⟩
      have HI6:Hid (∃E K,EngI P w2 w6 t E p6 c6 K/\E2.R.length=E.R.length/\E.wd=wd/\E.L.map Lv.n=LV):=hid ⟨E2,K',hI6,rfl,HRR.out.2.1.1.trans hwd,HRR.out.2.1.2.trans hns⟩
      clear hI6 ho6 hb6 HWO HP5 HT5 HB5 HRR y0 y1 y2
      go_wp2
      go_roundg (L.length-(i+1))
      case measure=>omega
      case rel=>exact ⟨i+1,E2.R.length,p6,c6,by go_num,by omega,by omega,rfl,by omega,HI6⟩
     | false=>
      have hpu:=D.put _ K t E ⟨⟨kh,kl,kn⟩,v⟩ HIA.out.lev HIA.out.ok hgd hrl
      unfold rtA at hpu
      simp only at hpu
      have HPU:=hid hpu
      have htk:Zij E ⟨⟨kh,kl,kn⟩,v⟩=(Zan kh kl kn&&decide (kn<=wd)&&decide (0<=v)):=by unfold Zij;rw [hwd]
      have hpR:=Z7w E ⟨⟨kh,kl,kn⟩,v⟩
      rw [htk] at hpR
      have HRR:=hid (And.intro hpR (And.intro (And.intro (Z0x E ⟨⟨kh,kl,kn⟩,v⟩) (Z7v E ⟨⟨kh,kl,kn⟩,v⟩)) (HIA.out.ok.put ⟨⟨kh,kl,kn⟩,v⟩ hgd)))
      have hrt:=Zjf kh kl kn hgd.1 hgd.2
      have HRT:=hid hrt
      have HSO:=hid hsort
      obtain ⟨E2,hE2⟩:∃E2,E2=E.put ⟨⟨kh,kl,kn⟩,v⟩:=⟨_,rfl⟩
      rw [<-hE2] at HPU HRR
      clear hpu htk hpR HI hI x0 x1 x2 x3 x4 hE2 hrt hsort
      go_wp2_with fail
      refine HPU.out.mono ?_
      rintro e w5 ⟨rfl,K',hP5,hT5,hK5⟩
      obtain ⟨o5,f5,t5,b5⟩:=HIA.out.turned hT5 hK5
      have y0:=hT5.cell (show (wr.alloc _).cell? ⟨wr.heap.size,0,none⟩=some (Value.int .u64 (kh:Int)) by simp [go_sem]) hng
      have y1:=hT5.cell (show (wr.alloc _).cell? ⟨wr.heap.size,1,none⟩=some (Value.int .u64 (kl:Int)) by simp [go_sem]) hng
      have y2:=hT5.cell (show (wr.alloc _).cell? ⟨wr.heap.size,2,none⟩=some (Value.int .i64 kn) by simp [go_sem]) hng
      have hyl:wr.heap.size<w5.heap.size:=by have:=hT5.size;simp at this;omega
      have HP5:=hid hP5
      have HT5:=hid t5
      have HB5:=hid b5
      have HO5:=hid o5
      have HF5:=hid f5
      have hb5s:=b5.size
      clear hP5 hT5 hK5 o5 f5 t5 b5 z0 z1 z2 z3 z4 zl HPU HIA hba hba2 hwr
      go_wp2_with fail
      refine (HRT.out _).mono ?_
      rintro e w6 ⟨rfl,hb6⟩
      have hw26:=HB5.out.trans (hb6.mono hb5s)
      have hw6:=hw2.trans (hw26.mono hw2.size)
      have y2:=(hb6.cell (p:=⟨wr.heap.size,2,none⟩) hyl).trans y2
      have hyl:=Nat.lt_of_lt_of_le hyl hb6.size
      obtain ⟨cw,cl⟩:=HCF.out _ hw26
      obtain ⟨-,z1,z2,z3,z4,zl⟩:=HXS.out w6 hw6
      have HO6:=hid (own_below HO5.out hb6)
      have hnot:Hid (E2.R=E.R->∃E' K,EngI P w2 w6 t E' p cp K/\E.R.length=E'.R.length/\E'.wd=wd/\E'.L.map Lv.n=LV):=hid fun e=>by
       refine ⟨E2,K',⟨D.below HP5.out hb6,HRR.out.2.2,fun g hg=>⟨(HT5.out g hg).1,Nat.lt_of_lt_of_le (HT5.out g hg).2 hb6.size⟩,?_,?_,hw26⟩,by rw [e],HRR.out.2.1.1.trans hwd,HRR.out.2.1.2.trans hns⟩
       ·rw [e];exact HO6.out
       ·rw [e];exact HF5.out
      have HP6:=hid (D.below HP5.out hb6)
      have HT6:Hid (∀g,K' g->w2.heap.size<=g/\g<w6.heap.size):=hid fun g hg=>⟨(HT5.out g hg).1,Nat.lt_of_lt_of_le (HT5.out g hg).2 hb6.size⟩
      clear HRT y0 y1 hb6 HO5
      by_cases ht:Zan kh kl kn=true/\kn<=wd/\0<=v
      ·obtain ⟨t1,t2,t3⟩:=ht
       have hR2:E2.R=Zao E.R ⟨⟨kh,kl,kn⟩,v⟩:=by
        rw [HRR.out.1,if_pos (by rw [t1,decide_eq_true t2,decide_eq_true t3];rfl)]
       have hin:=Zwg w2.heap.size p cp E.R ⟨⟨kh,kl,kn⟩,v⟩ w6 HO6.out (by omega)
       rw [<-hR2] at hin
       unfold rtA at hin
       simp only at hin
       have HIN:=hid hin
       have hlen:E2.R.length<=E.R.length+1:=by rw [hR2];exact Zvs HSO.out _
       rw [t1]
       clear hin hR2 hnot
       go_wp2_with fail
       refine HIN.out.mono ?_
       rintro e w8 ⟨p8,c8,rfl,ho8,hb8⟩
       have hI8:EngI P w2 w8 t E2 p8 c8 K':=⟨D.below HP6.out hb8,HRR.out.2.2,fun g hg=>⟨(HT6.out g hg).1,Nat.lt_of_lt_of_le (HT6.out g hg).2 hb8.size⟩,Za4 ho8 hw26.size,Z0y ho8 HT6.out,hw26.trans (hb8.mono hw26.size)⟩
       have HI8:Hid (∃E K,EngI P w2 w8 t E p8 c8 K/\E2.R.length=E.R.length/\E.wd=wd/\E.L.map Lv.n=LV):=hid ⟨E2,K',hI8,rfl,HRR.out.2.1.1.trans hwd,HRR.out.2.1.2.trans hns⟩
       clear hI8 ho8 hb8 HIN HP6 HT6 HRR z1 z2 z3 z4 y2 cw
       go_wp2
       go_roundg (L.length-(i+1))
       case measure=>omega
       case rel=>exact ⟨i+1,E2.R.length,p8,c8,by go_num,by omega,by omega,rfl,by omega,HI8⟩
      ·have hR2:E2.R=E.R:=by
        rw [HRR.out.1,if_neg (fun h=>ht (by simpa [Bool.and_eq_true,decide_eq_true_eq,and_assoc] using h))]
       have HI8:=hid (hnot.out hR2)
       clear hnot HP6 HT6 HRR HO6 hR2 z1 z2 z3
       cases hrb:Zan kh kl kn with
       | false=>
        go_wp2
        go_roundg (L.length-(i+1))
        case measure=>omega
        case rel=>exact ⟨i+1,E.R.length,p,cp,by go_num,by omega,by omega,rfl,by omega,HI8⟩
       | true=>
        rw [hrb] at ht
        by_cases hw9:kn<=wd
        ·have hv0:¬0<=v:=fun h=>ht ⟨rfl,hw9,h⟩
         clear ht
         go_wp2
         go_roundg (L.length-(i+1))
         case measure=>omega
         case rel=>exact ⟨i+1,E.R.length,p,cp,by go_num,by omega,by omega,rfl,by omega,HI8⟩
        ·clear ht
         go_wp2
         go_roundg (L.length-(i+1))
         case measure=>omega
         case rel=>exact ⟨i+1,E.R.length,p,cp,by go_num,by omega,by omega,rfl,by omega,HI8⟩
    ·obtain ⟨E,K,hI,hnl,hwd,hns⟩:=HI.out
     subst hnl
     have hlook:=fun W (h:P W K t E) ah al (a:W64 ah) (b:W64 al)=>D.look W K t E ah al h hI.ok (by omega) a b
     have hhop:∀ah al,W64 ah->W64 al->E.hop ah al=Z8b E.R ah al wd:=fun ah al a b=>by
      rw [hI.ok.longest a b,hwd]
      unfold Z8b Eg.cutA
      rw [hwd]
     have hlong:=fun W (h:Row W p (rcs E.R)) ah al (a:W64 ah) (b:W64 al)=>Z0v p cp E.R ah al wd W hI.ok.rts.sort h hI.ok.rts.good a b (by omega)
     have hdown:∀ah al,(E.probes ah al).Pairwise (· > ·)/\(E.probes ah al).length<=40:=fun ah al=>⟨hI.ok.down ah al,by
      have h1:=(Zeu (E.cutA ah al).h (E.cutA ah al).l E.L.reverse).length_le
      rw [List.map_reverse,List.length_reverse,hns] at h1
      unfold Eg.probes
      omega⟩
     have HLOOK:=hid hlook
     have HHOP:=hid hhop
     have HLONG:=hid hlong
     have HDOWN:=hid hdown
     have HI5:=hid hI
     have hwr:=hw2.trans (hI.below.mono hw2.size)
     clear HI hI hlook hhop hlong hdown HG HR
     go_wp2
     go_loopg [17] T.length (fun kx s17 wx=>∃i:Nat,s17 = .int .i64 (i:Int)/\T.length-i<=kx/\i<=T.length/\Hid (EngI P w2 wx t E p cp K)/\Below w.heap.size w wx)
     case atStart=>exact ⟨0,rfl,by omega,by omega,HI5,hwr⟩
     case round=>
      clear HI5 hwr
      obtain ⟨i,rfl,m1,m2,HI5,hbx⟩:=hrel
      by_cases hi2:i<T.length
      ·obtain ⟨ga,oa,rfl,hga,a0,a1⟩:=(HAA.out.below hbx).adr hi2
       have hgd:=HGA.out T[i] (List.getElem_mem hi2)
       have j1:(0:Int)<=(i:Int):=by omega
       have j2:(i:Int)<(T.length:Int):=by omega
       generalize T[i]=aa at *
       obtain ⟨ah,al⟩:=aa
       simp only at a0 a1 hgd
       have hl1:=HLOOK.out _ HI5.out.lev ah al hgd.1 hgd.2
       rw [HHOP.out ah al hgd.1 hgd.2] at hl1
       have hl2:=fun W h=>HLONG.out W h ah al hgd.1 hgd.2
       obtain ⟨hd1,hd2⟩:=HDOWN.out ah al
       obtain ⟨hv,hhv⟩:∃hv,hv=Z8b E.R ah al wd:=⟨_,rfl⟩
       obtain ⟨PR,hPR⟩:∃PR,PR=E.probes ah al:=⟨_,rfl⟩
       rw [<-hhv,<-hPR] at hl1
       rw [<-hhv] at hl2
       rw [<-hPR] at hd1 hd2
       have HL1:=hid hl1
       have HL2:=hid hl2
       have HD1:=hid hd1
       clear hl1 hl2 hd1 hhv hPR hgd
       go_wp2_with fail
       refine HL1.out.mono ?_
       rintro e w8 ⟨p8,c8,rfl,hr8,hb8⟩
       have HI8:=hid (HI5.out.grow HD.out hb8)
       have hw8:=hbx.trans (hb8.mono hbx.size)
       have a0:=(hb8.cell (p:=⟨ga,oa+i*2,none⟩) hga).trans a0
       have a1:=(hb8.cell (p:=⟨ga,oa+i*2+1,none⟩) hga).trans a1
       have hga:=Nat.lt_of_lt_of_le hga hb8.size
       have HR8:=hid hr8
       obtain ⟨cw,cl⟩:=HCF.out _ HI8.out.below
       clear hb8 HI5 HL1 hr8
       go_wp2_with fail
       have kg:=Zaa
       refine Zab (by kernel_rfl) (by kernel_rfl) ?_
       repeat (any_goals (first|go_big_quiet_step ((exact Calls.regrown_of (HL2.out _ ((Row.of_own HI8.out.own).below (below_regrown _ _ _)))))|quiet_step ((exact Calls.regrown_of (HL2.out _ ((Row.of_own HI8.out.own).below (below_regrown _ _ _)))))))
       refine wpQuiet_nil ?_
       clear kg
       intro w22 hb22
       obtain ⟨hc22,hf22⟩:=Zaf hb22
       have HI9:=hid (HI8.out.grow HD.out hb22)
       have hw9:=hw8.trans (hb22.mono hw8.size)
       have HR9:=hid (HR8.out.below hb22)
       clear hb22 hc22 hf22 HI8 HR8 HL2 a0 a1 cw
       have nv:(hv != hv)=false:=by simp
       go_wp2
       rename World=>wo
       go_loopg [20] PR.length (fun kx s20 wy=>∃j:Nat,s20 = .int .i64 ((j:Int)+1)/\PR.length-j<=kx/\j<=40/\Hid (EngI P w2 wy t E p cp K)/\Hid (IRow wy p8 PR)/\Below w.heap.size w wy)
       case atStart=>exact ⟨0,rfl,by omega,by omega,HI9,HR9,hw9⟩
       case round=>
        clear HI9 HR9 hw9
        obtain ⟨j,rfl,n1,n2,HI9,HR9,hby⟩:=hrel
        by_cases hj:j+1<PR.length
        ·obtain ⟨gp,op,rfl,hgp,q0⟩:=HR9.out.at hj
         obtain ⟨gp',op',e9,-,q1⟩:=HR9.out.at (show j<PR.length by omega)
         injection e9 with e9
         injection e9 with e91 e92
         subst e91 e92
         have hlt:PR[j+1]<PR[j]:=List.pairwise_iff_getElem.1 HD1.out j (j+1) (by omega) hj (by omega)
         have o1:(0:Int)<=(j:Int):=by omega
         have o2:(j:Int)<(PR.length:Int):=by omega
         have o3:(0:Int)<=(j:Int)+1:=by omega
         have o4:(j:Int)+1<(PR.length:Int):=by omega
         have ng:¬PR[j]<=PR[j+1]:=by omega
         generalize PR[j+1]=u1 at *
         generalize PR[j]=u2 at *
         clear hlt
         go_wp2_with fail
         have kg:=Zaa
         refine Zab (by kernel_rfl) (by kernel_rfl) ?_
         repeat (any_goals (first|go_big_quiet_step (fail)|quiet_step (fail)))
         refine wpQuiet_nil ?_
         clear kg
         intro w27 hb27
         obtain ⟨hc27,hf27⟩:=Zaf hb27
         have HI10:=hid (HI9.out.grow HD.out hb27)
         have HR10:=hid (HR9.out.below hb27)
         have hw10:=hby.trans (hb27.mono hby.size)
         clear hb27 hc27 hf27 HI9 HR9 q0 q1
         go_wp2
         go_roundg (PR.length-(j+1))
         case measure=>omega
         case rel=>exact ⟨j+1,by go_num,by omega,by omega,HI10,HR10,hw10⟩
        ·go_wp2
         go_roundg (T.length-(i+1))
         case measure=>omega
         case rel=>exact ⟨i+1,by go_num,by omega,by omega,HI9,hby⟩
      ·go_wp2
       go_ret
       exact ⟨rfl,hbx⟩
end
theorem Zdi:∀(l:List Rt),(Zap l).length<=l.length:=by
 intro l
 suffices H:∀(n:Nat) (l:List Rt),l.length=n->(Zap l).length<=l.length from H l.length l rfl
 intro n
 induction n with
 | zero=>
  intro l hl
  obtain rfl:=List.eq_nil_of_length_eq_zero hl
  simp [Zap]
 | succ n ih=>
  intro l hl
  obtain ⟨l,r,rfl⟩:∃l' r,l=l'++[r]:=⟨l.dropLast,l.getLast (by intro e;simp [e] at hl),(List.dropLast_concat_getLast _).symm⟩
  have:=ih l (by simpa using hl)
  rw [Ze9]
  have h1:=(Za7 r (Za9 l).1).length_eq
  have h2:(outS (Zap l) r.k).length<=(Zap l).length:=List.length_filter_le _ _
  simp only [List.length_cons] at h1
  simp
  omega
def kyA (k:Ky):Value := .agg #[.int .u64 (k.h:Int),.int .u64 (k.l:Int),.int .i64 k.n]
theorem Zc5 {l:List Rt} {q:Rt} (h:q∈Zap l):q∈l:=by
 have h:=((Za9 l).2 q).1 h
 unfold lst at h
 exact (List.mem_filter.1 (List.mem_of_getLast? h)).1
end Go.Proofs.YtgfjmgebecmbiaaGreat
