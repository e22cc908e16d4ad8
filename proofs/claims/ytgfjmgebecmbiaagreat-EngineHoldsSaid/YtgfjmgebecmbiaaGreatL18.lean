import Derived.Test.YtgfjmgebecmbiaaGreatRef18b
set_option linter.unusedSimpArgs false
set_option linter.unusedVariables false
set_option maxHeartbeats 8000000
namespace Go.Proofs.YtgfjmgebecmbiaaGreat
open Lib(hid)
open Go Go.RowKit Go.Sort M
theorem Z7d (N:List Rt) (low high:Int) (hg:∀r∈N,r.k.good):(setS N low high).length<=256*N.length:=by
 unfold setS
 split
 ·have e1:=Zzs N low (Zbd N low high)
  have e2:=Zew N low high hg N.length (Nat.le_refl _)
  rw [List.take_length] at e2
  unfold fS at e1
  omega
 ·simp
theorem Z89 (E:Eg) (h:Sorted E.R) (r:Rt):(E.put r).R.length<=E.R.length+1:=by
 rw [Z7w]
 split
 ·exact Zvs h r
 ·omega
theorem del_len (E:Eg) (k:Ky):(E.del k).R.length<=E.R.length:=by
 rw [Z9h]
 exact List.length_filter_le _ _
structure EngH (P:World->(Nat->Prop)->Nat->Eg->Prop) (w0 wr:World) (t:Nat) (E:Eg) (di:Int) (LV:List Int) (BS:List Nat) (K:Nat->Prop):Prop where
 lev:P wr K t E
 ok:E.ok
 dir:E.di=di
 ns:E.L.map Lv.n=LV
 cs:E.L.map (fun V=>V.C.length)=BS
 top:∀g,K g->w0.heap.size<=g/\g<wr.heap.size
 below:Below w0.heap.size w0 wr
section
variable {P:World->(Nat->Prop)->Nat->Eg->Prop}
theorem EngH.grow (D:EngC P) {w0 wr w':World} {t:Nat} {E:Eg} {di:Int} {LV:List Int} {BS:List Nat} {K:Nat->Prop} (h:EngH P w0 wr t E di LV BS K) (hb:Below wr.heap.size wr w'):EngH P w0 w' t E di LV BS K:=
 ⟨D.below h.lev hb,h.ok,h.dir,h.ns,h.cs,fun g hg=>⟨(h.top g hg).1,Nat.lt_of_lt_of_le (h.top g hg).2 hb.size⟩,h.below.trans (hb.mono h.below.size)⟩
theorem EngH.turned {w0 wr w':World} {t:Nat} {E E':Eg} {di:Int} {LV:List Int} {BS:List Nat} {K K':Nat->Prop} (h:EngH P w0 wr t E di LV BS K) (hp:P w' K' t E') (ho:E'.ok) (hd:E'.di=E.di) (hn:E'.L.map Lv.n=E.L.map Lv.n) (hc:E'.L.map (fun V=>V.C.length)=E.L.map (fun V=>V.C.length))
 (hT:Touch K wr w') (hK:∀g,K' g->K g\/In wr.heap.size w'.heap.size g):EngH P w0 w' t E' di LV BS K':=by
 refine ⟨hp,ho,hd.trans h.dir,hn.trans h.ns,hc.trans h.cs,fun g hg => ?_,h.below.trans (hT.below h.below.size (fun j hj=>(h.top j hj).1))⟩
 rcases hK g hg with hk | hk
 ·exact ⟨(h.top g hk).1,Nat.lt_of_lt_of_le (h.top g hk).2 hT.size⟩
 ·exact ⟨Nat.le_trans h.below.size hk.1,hk.2⟩
set_option maxRecDepth 100000 in
theorem Z6m (D:EngC P) (c:Cf) (s:Nat) (p0 p1 q:Option Addr) (k0 k1 c1:Nat) (LV CT:List Int) (L:List (Bool×Rt)) (w:World) (ws:W64 s) (hV:IRow w p0 LV) (hC:IRow w p1 CT) (hR:RowA 5 act14 w q L) (hg:∀a∈L,a.2.k.good)
 (hcap:LV.length<=k0) (hcap1:CT.length<=k1) (hl0:LV.length<=maxLen) (hl1:CT.length<=maxLen) (hl2:L.length<=maxLen) (hlw:∀x∈LV,x<=9223372036854775807) :
 Calls Tryz.prog 4 #[cfgA c,.int .u64 (s:Int),.slice p0 LV.length k0,.slice p1 CT.length k1,.slice q L.length c1] w fun e w'=>e = .returned (.bool true)/\Below w.heap.size w w':=by
 have HA:=hid (fun w=>Zr1 D w)
 have hsm:=Zxa c
 unfold maxLen at hl0 hl1 hl2
 have hbad:=fun W h1 h2 h3 h4 h5=>D.bad c s LV CT p0 p1 k0 k1 W ws h1 h2 h3 h4 hcap hcap1 hlw h5
 have hnew:=fun W h1 h2 h3 h4 h5=>D.new c s LV CT p0 p1 k0 k1 W ws h1 h2 h3 h4 hcap hcap1 h5
 have hE0ok:okE c LV=true->(newE c s LV CT).ok/\(∀b∈Zee c LV CT,c.le<=(b:Int)/\b<=65536)/\((Zee c LV CT).sum:Int)<=c.bt/\c.bt<=1073741824:=fun h=>by
  unfold okE at h
  rw [Bool.and_eq_true] at h
  refine ⟨Zye h.1 h.2,(Z0n h.1 h.2).1,(Z0n h.1 h.2).2,?_⟩
  have h9:=h.1
  unfold okCf at h9
  exact (of_decide_eq_true h9).2.2.2.2.2.2.1.2
 have hE0:(newE c s LV CT).R=[]/\(newE c s LV CT).di=c.di/\(newE c s LV CT).L.map Lv.n=LV/\(newE c s LV CT).L.map (fun V=>V.C.length)=Zee c LV CT:=⟨rfl,rfl,Z51 _ _ _ _,Z78 _ _ _ _⟩
 have hbl:=Zf4 c LV CT
 obtain ⟨E0,hE0e⟩:∃E0,E0=newE c s LV CT:=⟨_,rfl⟩
 obtain ⟨BS,hBS⟩:∃BS,BS=Zee c LV CT:=⟨_,rfl⟩
 rw [<-hE0e] at hnew hE0ok hE0
 rw [<-hBS] at hE0ok hE0 hbl
 obtain ⟨oe,hoe⟩:∃oe,oe=okE c LV:=⟨_,rfl⟩
 obtain ⟨sb,hsb⟩:∃sb,sb=Zxb c:=⟨_,rfl⟩
 rw [<-hoe] at hbad hnew hE0ok
 rw [<-hsb] at hsm
 obtain ⟨wd,di,lv,st,hs,bt,le,bk,rt,hp⟩:=c
 unfold cfgA at *
 simp only at *
 have HSM:=hid hsm
 clear hsm hsb hoe hE0e hBS
 cases sb with
 | false=>
  clear hbad hnew hE0ok hE0
  clear hV hC hR hg
  go_enter Tryz.func4,Tryz.ntmps4
  go_wp2_with fail
  refine (HA.out _).mono ?_
  rintro e w1 ⟨rfl,hb1⟩
  have hw1:Below w.heap.size w w1:=Below.trans (by go_grown) (hb1.mono (by simp))
  have y0:w1.cell? ⟨w.heap.size,0,none⟩=some (.int .i64 wd):=by
   rw [hb1.cell (by simp<;>omega)]
   first|assumption|(simp [go_sem];done)|(simp [go_sem, *];done)
  have y1:w1.cell? ⟨w.heap.size,1,none⟩=some (.int .i64 di):=by
   rw [hb1.cell (by simp<;>omega)]
   first|assumption|(simp [go_sem];done)|(simp [go_sem, *];done)
  have y2:w1.cell? ⟨w.heap.size,2,none⟩=some (.int .i64 lv):=by
   rw [hb1.cell (by simp<;>omega)]
   first|assumption|(simp [go_sem];done)|(simp [go_sem, *];done)
  have y3:w1.cell? ⟨w.heap.size,3,none⟩=some (.int .i64 st):=by
   rw [hb1.cell (by simp<;>omega)]
   first|assumption|(simp [go_sem];done)|(simp [go_sem, *];done)
  have y4:w1.cell? ⟨w.heap.size,4,none⟩=some (.int .i64 hs):=by
   rw [hb1.cell (by simp<;>omega)]
   first|assumption|(simp [go_sem];done)|(simp [go_sem, *];done)
  have y5:w1.cell? ⟨w.heap.size,5,none⟩=some (.int .i64 bt):=by
   rw [hb1.cell (by simp<;>omega)]
   first|assumption|(simp [go_sem];done)|(simp [go_sem, *];done)
  have y6:w1.cell? ⟨w.heap.size,6,none⟩=some (.int .i64 le):=by
   rw [hb1.cell (by simp<;>omega)]
   first|assumption|(simp [go_sem];done)|(simp [go_sem, *];done)
  have y7:w1.cell? ⟨w.heap.size,7,none⟩=some (.int .i64 bk):=by
   rw [hb1.cell (by simp<;>omega)]
   first|assumption|(simp [go_sem];done)|(simp [go_sem, *];done)
  have y8:w1.cell? ⟨w.heap.size,8,none⟩=some (.int .i64 rt):=by
   rw [hb1.cell (by simp<;>omega)]
   first|assumption|(simp [go_sem];done)|(simp [go_sem, *];done)
  have y9:w1.cell? ⟨w.heap.size,9,none⟩=some (.int .i64 hp):=by
   rw [hb1.cell (by simp<;>omega)]
   first|assumption|(simp [go_sem];done)|(simp [go_sem, *];done)
  clear hb1
  go_wp2_with fail
  refine (HSM.out _).mono ?_
  rintro e w2 ⟨rfl,hb2⟩
  have hw2:=hw1.trans (hb2.mono hw1.size)
  clear hb2 y0 y1 y2 y3 y4 y5 y6 y7 y8 y9
  go_wp2
  go_ret
  exact ⟨rfl,hw2⟩
 | true=>
  by_cases g1:40<(LV.length:Int)
  ·clear hbad hnew hE0ok hE0
   clear hV hC hR hg
   go_enter Tryz.func4,Tryz.ntmps4
   go_wp2_with fail
   refine (HA.out _).mono ?_
   rintro e w1 ⟨rfl,hb1⟩
   have hw1:Below w.heap.size w w1:=Below.trans (by go_grown) (hb1.mono (by simp))
   have y0:w1.cell? ⟨w.heap.size,0,none⟩=some (.int .i64 wd):=by
    rw [hb1.cell (by simp<;>omega)]
    first|assumption|(simp [go_sem];done)|(simp [go_sem, *];done)
   have y1:w1.cell? ⟨w.heap.size,1,none⟩=some (.int .i64 di):=by
    rw [hb1.cell (by simp<;>omega)]
    first|assumption|(simp [go_sem];done)|(simp [go_sem, *];done)
   have y2:w1.cell? ⟨w.heap.size,2,none⟩=some (.int .i64 lv):=by
    rw [hb1.cell (by simp<;>omega)]
    first|assumption|(simp [go_sem];done)|(simp [go_sem, *];done)
   have y3:w1.cell? ⟨w.heap.size,3,none⟩=some (.int .i64 st):=by
    rw [hb1.cell (by simp<;>omega)]
    first|assumption|(simp [go_sem];done)|(simp [go_sem, *];done)
   have y4:w1.cell? ⟨w.heap.size,4,none⟩=some (.int .i64 hs):=by
    rw [hb1.cell (by simp<;>omega)]
    first|assumption|(simp [go_sem];done)|(simp [go_sem, *];done)
   have y5:w1.cell? ⟨w.heap.size,5,none⟩=some (.int .i64 bt):=by
    rw [hb1.cell (by simp<;>omega)]
    first|assumption|(simp [go_sem];done)|(simp [go_sem, *];done)
   have y6:w1.cell? ⟨w.heap.size,6,none⟩=some (.int .i64 le):=by
    rw [hb1.cell (by simp<;>omega)]
    first|assumption|(simp [go_sem];done)|(simp [go_sem, *];done)
   have y7:w1.cell? ⟨w.heap.size,7,none⟩=some (.int .i64 bk):=by
    rw [hb1.cell (by simp<;>omega)]
    first|assumption|(simp [go_sem];done)|(simp [go_sem, *];done)
   have y8:w1.cell? ⟨w.heap.size,8,none⟩=some (.int .i64 rt):=by
    rw [hb1.cell (by simp<;>omega)]
    first|assumption|(simp [go_sem];done)|(simp [go_sem, *];done)
   have y9:w1.cell? ⟨w.heap.size,9,none⟩=some (.int .i64 hp):=by
    rw [hb1.cell (by simp<;>omega)]
    first|assumption|(simp [go_sem];done)|(simp [go_sem, *];done)
   clear hb1
   go_wp2_with fail
   refine (HSM.out _).mono ?_
   rintro e w2 ⟨rfl,hb2⟩
   have hw2:=hw1.trans (hb2.mono hw1.size)
   clear hb2 y0 y1 y2 y3 y4 y5 y6 y7 y8 y9
   go_wp2
   go_ret
   exact ⟨rfl,hw2⟩
  by_cases g2:140<(CT.length:Int)
  ·clear hbad hnew hE0ok hE0
   clear hV hC hR hg
   go_enter Tryz.func4,Tryz.ntmps4
   go_wp2_with fail
   refine (HA.out _).mono ?_
   rintro e w1 ⟨rfl,hb1⟩
   have hw1:Below w.heap.size w w1:=Below.trans (by go_grown) (hb1.mono (by simp))
   have y0:w1.cell? ⟨w.heap.size,0,none⟩=some (.int .i64 wd):=by
    rw [hb1.cell (by simp<;>omega)]
    first|assumption|(simp [go_sem];done)|(simp [go_sem, *];done)
   have y1:w1.cell? ⟨w.heap.size,1,none⟩=some (.int .i64 di):=by
    rw [hb1.cell (by simp<;>omega)]
    first|assumption|(simp [go_sem];done)|(simp [go_sem, *];done)
   have y2:w1.cell? ⟨w.heap.size,2,none⟩=some (.int .i64 lv):=by
    rw [hb1.cell (by simp<;>omega)]
    first|assumption|(simp [go_sem];done)|(simp [go_sem, *];done)
   have y3:w1.cell? ⟨w.heap.size,3,none⟩=some (.int .i64 st):=by
    rw [hb1.cell (by simp<;>omega)]
    first|assumption|(simp [go_sem];done)|(simp [go_sem, *];done)
   have y4:w1.cell? ⟨w.heap.size,4,none⟩=some (.int .i64 hs):=by
    rw [hb1.cell (by simp<;>omega)]
    first|assumption|(simp [go_sem];done)|(simp [go_sem, *];done)
   have y5:w1.cell? ⟨w.heap.size,5,none⟩=some (.int .i64 bt):=by
    rw [hb1.cell (by simp<;>omega)]
    first|assumption|(simp [go_sem];done)|(simp [go_sem, *];done)
   have y6:w1.cell? ⟨w.heap.size,6,none⟩=some (.int .i64 le):=by
    rw [hb1.cell (by simp<;>omega)]
    first|assumption|(simp [go_sem];done)|(simp [go_sem, *];done)
   have y7:w1.cell? ⟨w.heap.size,7,none⟩=some (.int .i64 bk):=by
    rw [hb1.cell (by simp<;>omega)]
    first|assumption|(simp [go_sem];done)|(simp [go_sem, *];done)
   have y8:w1.cell? ⟨w.heap.size,8,none⟩=some (.int .i64 rt):=by
    rw [hb1.cell (by simp<;>omega)]
    first|assumption|(simp [go_sem];done)|(simp [go_sem, *];done)
   have y9:w1.cell? ⟨w.heap.size,9,none⟩=some (.int .i64 hp):=by
    rw [hb1.cell (by simp<;>omega)]
    first|assumption|(simp [go_sem];done)|(simp [go_sem, *];done)
   clear hb1
   go_wp2_with fail
   refine (HSM.out _).mono ?_
   rintro e w2 ⟨rfl,hb2⟩
   have hw2:=hw1.trans (hb2.mono hw1.size)
   clear hb2 y0 y1 y2 y3 y4 y5 y6 y7 y8 y9
   go_wp2
   go_ret
   exact ⟨rfl,hw2⟩
  by_cases g3:40<(L.length:Int)
  ·clear hbad hnew hE0ok hE0
   clear hV hC hR hg
   go_enter Tryz.func4,Tryz.ntmps4
   go_wp2_with fail
   refine (HA.out _).mono ?_
   rintro e w1 ⟨rfl,hb1⟩
   have hw1:Below w.heap.size w w1:=Below.trans (by go_grown) (hb1.mono (by simp))
   have y0:w1.cell? ⟨w.heap.size,0,none⟩=some (.int .i64 wd):=by
    rw [hb1.cell (by simp<;>omega)]
    first|assumption|(simp [go_sem];done)|(simp [go_sem, *];done)
   have y1:w1.cell? ⟨w.heap.size,1,none⟩=some (.int .i64 di):=by
    rw [hb1.cell (by simp<;>omega)]
    first|assumption|(simp [go_sem];done)|(simp [go_sem, *];done)
   have y2:w1.cell? ⟨w.heap.size,2,none⟩=some (.int .i64 lv):=by
    rw [hb1.cell (by simp<;>omega)]
    first|assumption|(simp [go_sem];done)|(simp [go_sem, *];done)
   have y3:w1.cell? ⟨w.heap.size,3,none⟩=some (.int .i64 st):=by
    rw [hb1.cell (by simp<;>omega)]
    first|assumption|(simp [go_sem];done)|(simp [go_sem, *];done)
   have y4:w1.cell? ⟨w.heap.size,4,none⟩=some (.int .i64 hs):=by
    rw [hb1.cell (by simp<;>omega)]
    first|assumption|(simp [go_sem];done)|(simp [go_sem, *];done)
   have y5:w1.cell? ⟨w.heap.size,5,none⟩=some (.int .i64 bt):=by
    rw [hb1.cell (by simp<;>omega)]
    first|assumption|(simp [go_sem];done)|(simp [go_sem, *];done)
   have y6:w1.cell? ⟨w.heap.size,6,none⟩=some (.int .i64 le):=by
    rw [hb1.cell (by simp<;>omega)]
    first|assumption|(simp [go_sem];done)|(simp [go_sem, *];done)
   have y7:w1.cell? ⟨w.heap.size,7,none⟩=some (.int .i64 bk):=by
    rw [hb1.cell (by simp<;>omega)]
    first|assumption|(simp [go_sem];done)|(simp [go_sem, *];done)
   have y8:w1.cell? ⟨w.heap.size,8,none⟩=some (.int .i64 rt):=by
    rw [hb1.cell (by simp<;>omega)]
    first|assumption|(simp [go_sem];done)|(simp [go_sem, *];done)
   have y9:w1.cell? ⟨w.heap.size,9,none⟩=some (.int .i64 hp):=by
    rw [hb1.cell (by simp<;>omega)]
    first|assumption|(simp [go_sem];done)|(simp [go_sem, *];done)
   clear hb1
   go_wp2_with fail
   refine (HSM.out _).mono ?_
   rintro e w2 ⟨rfl,hb2⟩
   have hw2:=hw1.trans (hb2.mono hw1.size)
   clear hb2 y0 y1 y2 y3 y4 y5 y6 y7 y8 y9
   go_wp2
   go_ret
   exact ⟨rfl,hw2⟩
  have hl40:L.length<=40:=by omega
  have HV:=hid hV
  have HC:=hid hC
  have HR:=hid hR
  have HG:=hid hg
  have HD:=hid D
  cases oe with
  | false=>
   have HBAD:=hid (fun W h h2=>hbad W h h2 (by omega) (by omega) rfl)
   clear hV hC hR hg hbad hnew hE0ok hE0
   go_enter Tryz.func4,Tryz.ntmps4
   go_wp2_with fail
   refine (HA.out _).mono ?_
   rintro e w1 ⟨rfl,hb1⟩
   have hw1:Below w.heap.size w w1:=Below.trans (by go_grown) (hb1.mono (by simp))
   have y0:w1.cell? ⟨w.heap.size,0,none⟩=some (.int .i64 wd):=by
    rw [hb1.cell (by simp<;>omega)]
    first|assumption|(simp [go_sem];done)|(simp [go_sem, *];done)
   have y1:w1.cell? ⟨w.heap.size,1,none⟩=some (.int .i64 di):=by
    rw [hb1.cell (by simp<;>omega)]
    first|assumption|(simp [go_sem];done)|(simp [go_sem, *];done)
   have y2:w1.cell? ⟨w.heap.size,2,none⟩=some (.int .i64 lv):=by
    rw [hb1.cell (by simp<;>omega)]
    first|assumption|(simp [go_sem];done)|(simp [go_sem, *];done)
   have y3:w1.cell? ⟨w.heap.size,3,none⟩=some (.int .i64 st):=by
    rw [hb1.cell (by simp<;>omega)]
    first|assumption|(simp [go_sem];done)|(simp [go_sem, *];done)
   have y4:w1.cell? ⟨w.heap.size,4,none⟩=some (.int .i64 hs):=by
    rw [hb1.cell (by simp<;>omega)]
    first|assumption|(simp [go_sem];done)|(simp [go_sem, *];done)
   have y5:w1.cell? ⟨w.heap.size,5,none⟩=some (.int .i64 bt):=by
    rw [hb1.cell (by simp<;>omega)]
    first|assumption|(simp [go_sem];done)|(simp [go_sem, *];done)
   have y6:w1.cell? ⟨w.heap.size,6,none⟩=some (.int .i64 le):=by
    rw [hb1.cell (by simp<;>omega)]
    first|assumption|(simp [go_sem];done)|(simp [go_sem, *];done)
   have y7:w1.cell? ⟨w.heap.size,7,none⟩=some (.int .i64 bk):=by
    rw [hb1.cell (by simp<;>omega)]
    first|assumption|(simp [go_sem];done)|(simp [go_sem, *];done)
   have y8:w1.cell? ⟨w.heap.size,8,none⟩=some (.int .i64 rt):=by
    rw [hb1.cell (by simp<;>omega)]
    first|assumption|(simp [go_sem];done)|(simp [go_sem, *];done)
   have y9:w1.cell? ⟨w.heap.size,9,none⟩=some (.int .i64 hp):=by
    rw [hb1.cell (by simp<;>omega)]
    first|assumption|(simp [go_sem];done)|(simp [go_sem, *];done)
   have hz1:w.heap.size<w1.heap.size:=by have:=hb1.size;simp at this;omega
   clear hb1
   go_wp2_with fail
   refine (HSM.out _).mono ?_
   rintro e w2 ⟨rfl,hb2⟩
   have hw2:=hw1.trans (hb2.mono hw1.size)
   obtain ⟨hc2,-⟩:=Zaf hb2
   have y0:=(hc2 _ 0 hz1).trans y0
   have y1:=(hc2 _ 1 hz1).trans y1
   have y2:=(hc2 _ 2 hz1).trans y2
   have y3:=(hc2 _ 3 hz1).trans y3
   have y4:=(hc2 _ 4 hz1).trans y4
   have y5:=(hc2 _ 5 hz1).trans y5
   have y6:=(hc2 _ 6 hz1).trans y6
   have y7:=(hc2 _ 7 hz1).trans y7
   have y8:=(hc2 _ 8 hz1).trans y8
   have y9:=(hc2 _ 9 hz1).trans y9
   have hz2:=Nat.lt_of_lt_of_le hz1 hb2.size
   clear hc2
   go_wp2_with fail
   refine (HBAD.out _ (HV.out.below hw2) (HC.out.below hw2)).mono ?_
   rintro e w3 ⟨rfl,hb3⟩
   have hw3:=hw2.trans (hb3.mono hw2.size)
   clear hb3 hb2 y0 y1 y2 y3 y4 y5 y6 y7 y8 y9
   go_wp2_with fail
   refine (Zg3 1 _).mono ?_
   rintro e w4 ⟨rfl,hb4⟩
   have hw4:=hw3.trans (hb4.mono hw3.size)
   go_wp2_with fail
   refine (Zg3 1 _).mono ?_
   rintro e w5 ⟨rfl,hb5⟩
   have hw5:=hw4.trans (hb5.mono hw4.size)
   go_wp2
   go_ret
   exact ⟨rfl,hw5⟩
  | true=>
   have HNEW:=hid (fun W h h2=>hnew W h h2 (by omega) (by omega) rfl)
   have HE0:=hid (And.intro (hE0ok rfl) hE0)
   clear hV hC hR hg hbad hnew hE0ok hE0
   go_enter Tryz.func4,Tryz.ntmps4
   go_wp2_with fail
   refine (HA.out _).mono ?_
   rintro e w1 ⟨rfl,hb1⟩
   have hw1:Below w.heap.size w w1:=Below.trans (by go_grown) (hb1.mono (by simp))
   have y0:w1.cell? ⟨w.heap.size,0,none⟩=some (.int .i64 wd):=by
    rw [hb1.cell (by simp<;>omega)]
    first|assumption|(simp [go_sem];done)|(simp [go_sem, *];done)
   have y1:w1.cell? ⟨w.heap.size,1,none⟩=some (.int .i64 di):=by
    rw [hb1.cell (by simp<;>omega)]
    first|assumption|(simp [go_sem];done)|(simp [go_sem, *];done)
   have y2:w1.cell? ⟨w.heap.size,2,none⟩=some (.int .i64 lv):=by
    rw [hb1.cell (by simp<;>omega)]
    first|assumption|(simp [go_sem];done)|(simp [go_sem, *];done)
   have y3:w1.cell? ⟨w.heap.size,3,none⟩=some (.int .i64 st):=by
    rw [hb1.cell (by simp<;>omega)]
    first|assumption|(simp [go_sem];done)|(simp [go_sem, *];done)
   have y4:w1.cell? ⟨w.heap.size,4,none⟩=some (.int .i64 hs):=by
    rw [hb1.cell (by simp<;>omega)]
    first|assumption|(simp [go_sem];done)|(simp [go_sem, *];done)
   have y5:w1.cell? ⟨w.heap.size,5,none⟩=some (.int .i64 bt):=by
    rw [hb1.cell (by simp<;>omega)]
    first|assumption|(simp [go_sem];done)|(simp [go_sem, *];done)
   have y6:w1.cell? ⟨w.heap.size,6,none⟩=some (.int .i64 le):=by
    rw [hb1.cell (by simp<;>omega)]
    first|assumption|(simp [go_sem];done)|(simp [go_sem, *];done)
   have y7:w1.cell? ⟨w.heap.size,7,none⟩=some (.int .i64 bk):=by
    rw [hb1.cell (by simp<;>omega)]
    first|assumption|(simp [go_sem];done)|(simp [go_sem, *];done)
   have y8:w1.cell? ⟨w.heap.size,8,none⟩=some (.int .i64 rt):=by
    rw [hb1.cell (by simp<;>omega)]
    first|assumption|(simp [go_sem];done)|(simp [go_sem, *];done)
   have y9:w1.cell? ⟨w.heap.size,9,none⟩=some (.int .i64 hp):=by
    rw [hb1.cell (by simp<;>omega)]
    first|assumption|(simp [go_sem];done)|(simp [go_sem, *];done)
   have hz1:w.heap.size<w1.heap.size:=by have:=hb1.size;simp at this;omega
   clear hb1
   go_wp2_with fail
   refine (HSM.out _).mono ?_
   rintro e w2 ⟨rfl,hb2⟩
   have hw2:=hw1.trans (hb2.mono hw1.size)
   obtain ⟨hc2,-⟩:=Zaf hb2
   have y0:=(hc2 _ 0 hz1).trans y0
   have y1:=(hc2 _ 1 hz1).trans y1
   have y2:=(hc2 _ 2 hz1).trans y2
   have y3:=(hc2 _ 3 hz1).trans y3
   have y4:=(hc2 _ 4 hz1).trans y4
   have y5:=(hc2 _ 5 hz1).trans y5
   have y6:=(hc2 _ 6 hz1).trans y6
   have y7:=(hc2 _ 7 hz1).trans y7
   have y8:=(hc2 _ 8 hz1).trans y8
   have y9:=(hc2 _ 9 hz1).trans y9
   have hz2:=Nat.lt_of_lt_of_le hz1 hb2.size
   clear hc2
   have HCF:Hid (∀wx,Below w2.heap.size w2 wx->wx.cell? ⟨w.heap.size,1,none⟩=some (.int .i64 di)/\wx.cell? ⟨w.heap.size,5,none⟩=some (.int .i64 bt)/\wx.cell? ⟨w.heap.size,6,none⟩=some (.int .i64 le)/\w.heap.size<wx.heap.size):=hid fun wx h=>
    ⟨(h.cell (p:=⟨w.heap.size,1,none⟩) hz2).trans y1,(h.cell (p:=⟨w.heap.size,5,none⟩) hz2).trans y5,(h.cell (p:=⟨w.heap.size,6,none⟩) hz2).trans y6,Nat.lt_of_lt_of_le hz2 h.size⟩
   go_wp2_with fail
   refine (HNEW.out _ (HV.out.below hw2) (HC.out.below hw2)).mono ?_
   rintro e w3 ⟨t,rfl,hP,hb3⟩
   have HI3:Hid (EngH P w2 w3 t E0 di LV BS (In w2.heap.size w3.heap.size)):=hid ⟨hP,HE0.out.1.1,HE0.out.2.2.1,HE0.out.2.2.2.1,HE0.out.2.2.2.2,fun g hg=>⟨hg.1,hg.2⟩,hb3⟩
   clear hb2 hb3 hP HNEW y0 y1 y2 y3 y4 y5 y6 y7 y8 y9
   go_wp2_with fail
   refine (Zg3 0 _).mono ?_
   rintro e w4 ⟨rfl,hb4⟩
   have HI4:=hid (HI3.out.grow HD.out hb4)
   clear hb4 HI3
   go_wp2
   go_loopg [14] L.length (fun kx s14 wr=>∃i:Nat,s14 = .int .i64 (i:Int)/\L.length-i<=kx/\i<=L.length/\Hid (∃E K,EngH P w2 wr t E di LV BS K/\E.R.length<=i))
   case atStart=>exact ⟨0,rfl,by omega,by omega,hid ⟨E0,_,HI4.out,by rw [HE0.out.2.1];exact Nat.le_refl _⟩⟩
   case round=>
    clear HI4
    obtain ⟨i,rfl,m1,m2,HI⟩:=hrel
    by_cases hi:i<L.length
    ·obtain ⟨E,K,hI,hnl⟩:=HI.out
     have hwr:=hw2.trans (hI.below.mono hw2.size)
     obtain ⟨g0,o0,rfl,hg0,x0,x1,x2,x3,x4⟩:=(HR.out.below hwr).act14 hi
     have hgd:=HG.out _ (List.getElem_mem hi)
     have j1:(0:Int)<=(i:Int):=by omega
     have j2:(i:Int)<(L.length:Int):=by omega
     generalize L[i]=x at *
     obtain ⟨dl,⟨⟨kh,kl,kn⟩,v⟩⟩:=x
     simp only at x0 x1 x2 x3 x4 hgd
     cases dl with
     | true=>
      have hde:=D.del _ K t E ⟨kh,kl,kn⟩ hI.lev hI.ok hgd (by omega)
      unfold kyV at hde
      simp only at hde
      have HDE:=hid hde
      have hnx:Hid (∀w' K',P w' K' t (E.del ⟨kh,kl,kn⟩)->Touch K wr w'->(∀g,K' g->K g\/In wr.heap.size w'.heap.size g)->∃E K,EngH P w2 w' t E di LV BS K/\E.R.length<=i+1):=hid fun w' K' h1 h2 h3=>
       ⟨_,K',hI.turned h1 (hI.ok.del _) (Z84 _ _) (Z8o _ _) (Z85 _ _) h2 h3,Nat.le_trans (del_len E _) (by omega)⟩
      clear hde hI HI
      go_wp2_with fail
      refine HDE.out.mono ?_
      rintro e w5 ⟨rfl,K',hP5,hT5,hK5⟩
      have HI5:=hid (hnx.out w5 K' hP5 hT5 hK5)
      clear hP5 hT5 hK5 hnx HDE x0 x1 x2 x3 x4
      go_wp2
      go_roundg (L.length-(i+1))
      case measure=>omega
      case rel=>exact ⟨i+1,by go_num,by omega,by omega,HI5⟩
     | false=>
      have hpu:=D.put _ K t E ⟨⟨kh,kl,kn⟩,v⟩ hI.lev hI.ok hgd (by omega)
      unfold rtA at hpu
      simp only at hpu
      have HPU:=hid hpu
      have hnx:Hid (∀w' K',P w' K' t (E.put ⟨⟨kh,kl,kn⟩,v⟩)->Touch K wr w'->(∀g,K' g->K g\/In wr.heap.size w'.heap.size g)->∃E K,EngH P w2 w' t E di LV BS K/\E.R.length<=i+1):=hid fun w' K' h1 h2 h3=>
       ⟨_,K',hI.turned h1 (hI.ok.put _ hgd) (Z7b _ _) (Z7v _ _) (Z82 _ _) h2 h3,Nat.le_trans (Z89 E hI.ok.rts.sort _) (by omega)⟩
      clear hpu hI HI
      go_wp2_with fail
      refine HPU.out.mono ?_
      rintro e w5 ⟨rfl,K',hP5,hT5,hK5⟩
      have HI5:=hid (hnx.out w5 K' hP5 hT5 hK5)
      clear hP5 hT5 hK5 hnx HPU x0 x1 x2 x3 x4
      go_wp2
      go_roundg (L.length-(i+1))
      case measure=>omega
      case rel=>exact ⟨i+1,by go_num,by omega,by omega,HI5⟩
    ·obtain ⟨E,K,hI,hnl⟩:=HI.out
     have hwr:=hw2.trans (hI.below.mono hw2.size)
     have hrl:E.R.length<=40:=by omega
     have HRO:=hid (fun W h=>D.routes W K t E h hI.ok (by omega))
     have hgR:=hI.ok.rts.good
     have hso:=Zej hI.ok.rts.sort
     have HLEV:=hid (fun W (h:P W K t E) i V e=>D.level W K t E i V h hI.ok (by omega) e)
     have hset:=fun (p:Option Addr) c low high W h=>Z7e p c E.R low high W h hgR (by omega)
     rw [hso] at hset
     have HSET:=hid hset
     have HSL:=hid (fun low high=>Z7d E.R low high hgR)
     have hELl:E.L.length=LV.length:=by rw [<-hI.ns,List.length_map]
     have hat:Hid (∀i (h:i<LV.length),∃V,E.L[i]? = some V/\V.n=LV[i]/\V.C.length=BS.getD i 0/\atE E (i+1)=LV[i]):=hid fun i h=>by
      have h1:i<E.L.length:=by omega
      refine ⟨E.L[i],List.getElem?_eq_getElem h1,?_,?_,?_⟩
      ·have:=hI.ns
       subst this
       rw [List.getElem_map]
      ·rw [<-hI.cs,List.getD_eq_getElem?_getD,List.getElem?_map,List.getElem?_eq_getElem h1]
       rfl
      ·unfold atE
       rw [if_neg (by omega),hI.ns,Nat.add_sub_cancel,List.getD_eq_getElem?_getD,List.getElem?_eq_getElem h]
       rfl
     have hat0:atE E 0=di:=hI.dir
     have HI5:=hid hI
     have HAT0:=hid hat0
     obtain ⟨⟨-,hb1,hb2,hb3⟩,-⟩:=HE0.out
     have hBSl:BS.length=LV.length:=hbl
     have HB1:Hid (∀i,i<LV.length->le<=((BS.getD i 0:Nat):Int)/\BS.getD i 0<=65536):=hid fun i h=>by
      have h2:i<BS.length:=by omega
      rw [List.getD_eq_getElem?_getD,List.getElem?_eq_getElem h2]
      exact hb1 _ (List.getElem_mem h2)
     have HSUM:Hid (∀i,i<LV.length->(BS.take (i+1)).sum=(BS.take i).sum+BS.getD i 0):=hid fun i h=>by
      have h2:i<BS.length:=by omega
      rw [List.take_succ_eq_append_getElem h2,List.sum_append,List.getD_eq_getElem?_getD,List.getElem?_eq_getElem h2]
      simp
     have HTOT:Hid ((((BS.take LV.length).sum:Nat):Int)<=bt):=hid (by rw [<-hBSl,List.take_length];exact hb2)
     clear HI hI hset hat0 hb1 hb2 hb3 HE0 hgR hso hELl HG HR
     obtain ⟨cw,-,-,cl⟩:=HCF.out _ HI5.out.below
     go_wp2_with fail
     refine (HRO.out _ HI5.out.lev).mono ?_
     rintro e w6 ⟨p6,c6,rfl,ho6,hb6⟩
     have HI6:=hid (HI5.out.grow HD.out hb6)
     have HR6:=hid (Row.of_own ho6)
     have hw6:=hwr.trans (hb6.mono hwr.size)
     clear ho6 hb6 HRO HI5 cw cl hwr
     go_wp2
     go_loopg [15,16,18] LV.length (fun kx s15 s16 s18 wx=>∃(i S:Nat) (a:Int),s18 = .int .i64 (i:Int)/\LV.length-i<=kx/\i<=LV.length/\s16 = .int .i64 (S:Int)/\s15 = .int .i64 a/\Hid (S=(BS.take i).sum)/\S<=65536*i/\Hid (a=atE E i)/\Hid (EngH P w2 wx t E di LV BS K)/\Hid (Row wx p6 (rcs E.R))/\Below w.heap.size w wx)
     case atStart=>exact ⟨0,0,di,rfl,by omega,by omega,rfl,rfl,hid rfl,by omega,hid HAT0.out.symm,HI6,HR6,hw6⟩
     case round=>
      clear HI6 HR6 hw6
      obtain ⟨i,S,a,rfl,n1,n2,rfl,rfl,HS,n3,HAE,HI6,HR6,hbx⟩:=hrel
      by_cases hi2:i<LV.length
      ·obtain ⟨V,hV1,hV2,hV3,hV4⟩:=hat.out i hi2
       have hle:=HB1.out i hi2
       have hsum:=HSUM.out i hi2
       have hlv:=fun W h=>HLEV.out W h i V hV1
       rw [<-HAE.out,hV3] at hlv
       have hset:=fun W (h:Row W p6 (rcs E.R))=>HSET.out p6 c6 a LV[i] W h
       rw [<-hV2] at hset
       have hsl:=HSL.out a V.n
       obtain ⟨gl,ol,rfl,hgl,l0⟩:=(HV.out.below hbx).at hi2
       rw [<-hV2] at l0
       have HNX:Hid (V.n=atE E (i+1)):=hid (hV2.trans hV4.symm)
       rw [<-HS.out] at hsum
       generalize BS.getD i 0=b at *
       obtain ⟨X,hX⟩:∃X,X=setS E.R a V.n:=⟨_,rfl⟩
       rw [<-hX] at hlv hset hsl
       have hsame:=fun (p q:Option Addr) c d W h1 h2=>Z7u p q c d X X W h1 h2 (by omega) (by omega)
       simp only [decide_true] at hsame
       have HLV:=hid hlv
       have HST:=hid hset
       have HSA:=hid hsame
       have HSM2:=hid hsum
       generalize V.n=vn at *
       have j1:(0:Int)<=(i:Int):=by omega
       have j2:(i:Int)<(LV.length:Int):=by omega
       have nl:¬((b:Int)<le):=by omega
       clear hlv hset hsame hV1 hV2 hV3 hV4 hX hsum
       go_wp2_with fail
       refine (HLV.out _ HI6.out.lev).mono ?_
       rintro e w7 ⟨p7,c7,rfl,hr7,hb7⟩
       have HI7:=hid (HI6.out.grow HD.out hb7)
       have HR7:=hid (HR6.out.below hb7)
       have HX7:=hid hr7
       have hw7:=hbx.trans (hb7.mono hbx.size)
       have l0:=(hb7.cell (p:=⟨gl,ol+i,none⟩) hgl).trans l0
       have hgl:=Nat.lt_of_lt_of_le hgl hb7.size
       clear hr7 hb7 HI6 HR6 HLV
       go_wp2_with fail
       refine (HST.out _ HR7.out).mono ?_
       rintro e w8 ⟨p8,c8,rfl,ho8,hb8⟩
       have HI8:=hid (HI7.out.grow HD.out hb8)
       have HR8:=hid (HR7.out.below hb8)
       have HX8:=hid (HX7.out.below hb8)
       have HY8:=hid (Row.of_own ho8)
       have hw8:=hw7.trans (hb8.mono hw7.size)
       have l0:=(hb8.cell (p:=⟨gl,ol+i,none⟩) hgl).trans l0
       have hgl:=Nat.lt_of_lt_of_le hgl hb8.size
       clear ho8 hb8 HI7 HR7 HX7 HST
       go_wp2_with fail
       refine (HSA.out _ _ _ _ _ HX8.out HY8.out).mono ?_
       rintro e w9 ⟨rfl,hb9⟩
       have HI9:=hid (HI8.out.grow HD.out hb9)
       have HR9:=hid (HR8.out.below hb9)
       have hw9:=hw8.trans (hb9.mono hw8.size)
       have l0:=(hb9.cell (p:=⟨gl,ol+i,none⟩) hgl).trans l0
       have hgl:=Nat.lt_of_lt_of_le hgl hb9.size
       obtain ⟨-,-,cw,cl⟩:=HCF.out _ HI9.out.below
       clear hb9 HI8 HR8 HX8 HY8 HSA
       go_wp2
       go_roundg (LV.length-(i+1))
       case measure=>omega
       case rel=>exact ⟨i+1,S+b,vn,by go_num,by omega,by omega,by go_num,rfl,hid HSM2.out.symm,by omega,HNX,HI9,HR9,hw9⟩
      ·obtain ⟨-,cw,-,cl⟩:=HCF.out _ HI6.out.below
       have hfin:(S:Int)<=bt:=by
        have h1:=HTOT.out
        rw [HS.out,show i=LV.length by omega]
        exact h1
       go_wp2
       go_ret
       exact ⟨Zai (by simp [hfin]),hbx⟩
end
def SetC:Prop:=∀(p:Option Addr) (c:Nat) (L:List Rt) (low high:Int) (W:World),Row W p (rcs L)->(∀x∈L,x.k.good)->(p=none->c=0)->L.length<=c->L.length<=4000 ->
 Calls Tryz.prog 84 #[.slice p L.length c,.int .i64 low,.int .i64 high] W fun e w'=>Zcf W w' e (setS (Zap L) low high)
theorem Zbl {w:World} {B n m d k:Nat} {e:TypeId} {q:Option Addr} {xs:List Value} (h:w.ownsRow B e k (.slice q n d) m xs):n<=d:=by
 rcases h.2 with ⟨e1,_⟩ | ⟨g,cap,cur,e1,_,_,hc,_⟩
 ·injection e1 with _ e2 e3
  omega
 ·injection e1 with _ e2 e3
  omega
end Go.Proofs.YtgfjmgebecmbiaaGreat
