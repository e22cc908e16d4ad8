/-
  EngineBack's walk. No condition but those that stand in it.
-/
import Derived.Test.YtgfjmgebecmbiaaGreatL22d
set_option linter.unusedSimpArgs false
set_option linter.unusedVariables false
namespace Go.Proofs.YtgfjmgebecmbiaaGreat
open Go Go.RowKit Go.Sort M
theorem own_apart {w w':World} {B hi n k:Nat} {e:TypeId} {v:Value} {xs:List Value} {K:Nat->Prop} (h:w.ownsRow B e k v n xs) (hj:∀j,v.ownBlock=some j->j<hi) (hK:∀g,K g->g<B\/hi<=g) (hT:Touch K w w'):w'.ownsRow B e k v n xs:=
 own_block h fun j hb=>hT.block j (h.lt j hb).2 (fun hk=>by
  rcases hK j hk with h1 | h1
  ·have:=(h.lt j hb).1
   omega
  ·have:=hj j hb
   omega)
theorem into_back {R:List Rt} (h:Sorted R) (r:Rt) (hk:r.k∉keysR R):outS (intoS R r) r.k=R:=by
 refine getS_ext (outS_sorted _ (intoS_sorted _ h)) h fun j => ?_
 rw [getS_out (intoS_sorted _ h),getS_into h]
 by_cases e:j=r.k
 ·rw [if_pos e,e,getS_none.2 hk]
 ·rw [if_neg e,if_neg e]
theorem into_more {R:List Rt} (h:Sorted R) (r:Rt) (hk:r.k∉keysR R):(intoS R r).length=R.length+1:=by
 have h1:=(intoS_perm r h).length_eq
 rw [out_same hk] at h1
 simpa using h1
theorem into_key {R:List Rt} (h:Sorted R) (r:Rt):r.k∈keysR (intoS R r):=List.mem_map.2 ⟨r,(mem_into h).2 (.inl rfl),rfl⟩
theorem back22 {E:Eg} (h:E.ok) (r:Rt) (hg:r.k.good) (hk:r.k∉keysR E.R) :
 ((E.put r).del r.k).R=E.R/\((E.put r).del r.k).wd=E.wd/\(E.put r).ok/\((E.put r).del r.k).ok/\(E.put r).R.length<=E.R.length+1 /\
   (((E.put r).R.length:Int) == (E.R.length:Int)+1)=decide (r.k∈keysR (E.put r).R):=by
 refine ⟨?_,by rw [del_wd,put_wd],h.put r hg,(h.put r hg).del _,put_len E h.rts.sort r,?_⟩
 ·rw [del_R,put_R]
  split
  ·exact into_back h.rts.sort r hk
  ·exact out_same hk
 ·rw [put_R]
  split
  ·rw [into_more h.rts.sort r hk,decide_eq_true (into_key h.rts.sort r)]
   simp
  ·rw [decide_eq_false hk,beq_eq_false_iff_ne]
   omega
section
variable {P:World->(Nat->Prop)->Nat->Eg->Prop}
set_option maxHeartbeats 8000000 in
set_option maxRecDepth 100000 in
theorem eback_walk (D:EngC P) (c:Cf) (s:Nat) (p0 q q2:Option Addr) (k0 c1 c2:Nat) (LV:List Int) (L:List Rt) (kh kl:Nat) (kn v:Int) (T:List (Nat×Nat)) (w:World) (ws:W64 s) (hV:IRow w p0 LV) (hR:Row w q (rcs L)) (hg:∀a∈L,a.k.good) (wkh:W64 kh) (wkl:W64 kl) (hA:RowA 2 adrA w q2 T) (hgA:∀a∈T,W64 a.1/\W64 a.2)
 (hcap:LV.length<=k0) (hl0:LV.length<=maxLen) (hl1:L.length<=maxLen) (hl2:T.length<=maxLen) (hlw:∀x∈LV,x<=9223372036854775807) :
 Calls Tryz.prog 5 #[cfgA c,.int .u64 (s:Int),.slice p0 LV.length k0,.slice q L.length c1,.agg #[.int .u64 (kh:Int),.int .u64 (kl:Int),.int .i64 kn,.int .i64 v],.slice q2 T.length c2] w fun e w'=>e = .returned (.bool true)/\Below w.heap.size w w':=by
 have HA:=Lib.hid (fun w=>alive22_any D w)
 have hsm:=small_any c
 unfold maxLen at hl0 hl1 hl2
 have hbad:=fun W h1 h2 h3=>D.bad c s LV [] p0 none k0 0 W ws h1 (.inl rfl) h2 (by decide) hcap (by decide) hlw h3
 have hnew:=fun W h1 h2 h3=>D.new c s LV [] p0 none k0 0 W ws h1 (.inl rfl) h2 (by decide) hcap (by decide) h3
 have hE0ok:okE c LV=true->(newE c s LV []).ok:=fun h=>by
  unfold okE at h
  rw [Bool.and_eq_true] at h
  exact newE_ok h.1 h.2
 have hE0:(newE c s LV []).R=[]:=rfl
 obtain ⟨E0,hE0e⟩:∃E0,E0=newE c s LV []:=⟨_,rfl⟩
 rw [<-hE0e] at hnew hE0ok hE0
 obtain ⟨oe,hoe⟩:∃oe,oe=okE c LV:=⟨_,rfl⟩
 obtain ⟨sb,hsb⟩:∃sb,sb=smallB c:=⟨_,rfl⟩
 rw [<-hoe] at hbad hnew hE0ok
 rw [<-hsb] at hsm
 obtain ⟨wd,di,lv,st,hs,bt,le,bk,rt,hp⟩:=c
 unfold cfgA at *
 simp only at *
 have HSM:=Lib.hid hsm
 clear hsm hsb hoe hE0e
 have hkg:(⟨kh,kl,kn⟩:Ky).good:=⟨wkh,wkl⟩
 have HKG:=Lib.hid hkg
 clear hkg wkh wkl
 cases sb with
 | false=>
  clear hbad hnew hE0ok hE0
  clear hV hR hA hg hgA
  go_enter Tryz.func5,Tryz.ntmps5
  go_wp2_with fail
  refine (HA.out _).mono ?_
  rintro e w1 ⟨rfl,hb1⟩
  have hw1:Below w.heap.size w w1:=Below.trans (by go_grown) (hb1.mono (by simp;omega))
  have y0:w1.cell? ⟨w.heap.size,0,none⟩=some (.int .i64 wd):=by
   rw [hb1.cell (by simp<;>omega)]
   first|assumption|(simp [go_sem];done)|(simp [go_sem, *];done)
  have y1:w1.cell? ⟨w.heap.size,1,none⟩=some (.int .i64 di):=by
   rw [hb1.cell (by simp<;>omega)]
   first|assumption|(simp [go_sem];done)|(simp [go_sem, *];done)
  have y2:w1.cell? ⟨w.heap.size,2,none⟩=some (.int .i64 lv):=by
   rw [hb1.cell (by simp<;>omega)]
   first|assumption|(simp [go_sem];done)|(simp [go_sem, *];done)
  have y3:w1.cell? ⟨w.heap.size,3,none⟩=some (.int .i64 st):=by
   rw [hb1.cell (by simp<;>omega)]
   first|assumption|(simp [go_sem];done)|(simp [go_sem, *];done)
  have y4:w1.cell? ⟨w.heap.size,4,none⟩=some (.int .i64 hs):=by
   rw [hb1.cell (by simp<;>omega)]
   first|assumption|(simp [go_sem];done)|(simp [go_sem, *];done)
  have y5:w1.cell? ⟨w.heap.size,5,none⟩=some (.int .i64 bt):=by
   rw [hb1.cell (by simp<;>omega)]
   first|assumption|(simp [go_sem];done)|(simp [go_sem, *];done)
  have y6:w1.cell? ⟨w.heap.size,6,none⟩=some (.int .i64 le):=by
   rw [hb1.cell (by simp<;>omega)]
   first|assumption|(simp [go_sem];done)|(simp [go_sem, *];done)
  have y7:w1.cell? ⟨w.heap.size,7,none⟩=some (.int .i64 bk):=by
   rw [hb1.cell (by simp<;>omega)]
   first|assumption|(simp [go_sem];done)|(simp [go_sem, *];done)
  have y8:w1.cell? ⟨w.heap.size,8,none⟩=some (.int .i64 rt):=by
   rw [hb1.cell (by simp<;>omega)]
   first|assumption|(simp [go_sem];done)|(simp [go_sem, *];done)
  have y9:w1.cell? ⟨w.heap.size,9,none⟩=some (.int .i64 hp):=by
   rw [hb1.cell (by simp<;>omega)]
   first|assumption|(simp [go_sem];done)|(simp [go_sem, *];done)
  clear hb1
  go_wp2_with fail
  refine (HSM.out _).mono ?_
  rintro e w2 ⟨rfl,hb2⟩
  have hw2:=hw1.trans (hb2.mono hw1.size)
  clear hb2 y0 y1 y2 y3 y4 y5 y6 y7 y8 y9
  go_wp2
  go_ret
  exact ⟨rfl,hw2⟩
 | true=>
  by_cases g1:40<(LV.length:Int)
  ·clear hbad hnew hE0ok hE0
   clear hV hR hA hg hgA
   go_enter Tryz.func5,Tryz.ntmps5
   go_wp2_with fail
   refine (HA.out _).mono ?_
   rintro e w1 ⟨rfl,hb1⟩
   have hw1:Below w.heap.size w w1:=Below.trans (by go_grown) (hb1.mono (by simp;omega))
   have y0:w1.cell? ⟨w.heap.size,0,none⟩=some (.int .i64 wd):=by
    rw [hb1.cell (by simp<;>omega)]
    first|assumption|(simp [go_sem];done)|(simp [go_sem, *];done)
   have y1:w1.cell? ⟨w.heap.size,1,none⟩=some (.int .i64 di):=by
    rw [hb1.cell (by simp<;>omega)]
    first|assumption|(simp [go_sem];done)|(simp [go_sem, *];done)
   have y2:w1.cell? ⟨w.heap.size,2,none⟩=some (.int .i64 lv):=by
    rw [hb1.cell (by simp<;>omega)]
    first|assumption|(simp [go_sem];done)|(simp [go_sem, *];done)
   have y3:w1.cell? ⟨w.heap.size,3,none⟩=some (.int .i64 st):=by
    rw [hb1.cell (by simp<;>omega)]
    first|assumption|(simp [go_sem];done)|(simp [go_sem, *];done)
   have y4:w1.cell? ⟨w.heap.size,4,none⟩=some (.int .i64 hs):=by
    rw [hb1.cell (by simp<;>omega)]
    first|assumption|(simp [go_sem];done)|(simp [go_sem, *];done)
   have y5:w1.cell? ⟨w.heap.size,5,none⟩=some (.int .i64 bt):=by
    rw [hb1.cell (by simp<;>omega)]
    first|assumption|(simp [go_sem];done)|(simp [go_sem, *];done)
   have y6:w1.cell? ⟨w.heap.size,6,none⟩=some (.int .i64 le):=by
    rw [hb1.cell (by simp<;>omega)]
    first|assumption|(simp [go_sem];done)|(simp [go_sem, *];done)
   have y7:w1.cell? ⟨w.heap.size,7,none⟩=some (.int .i64 bk):=by
    rw [hb1.cell (by simp<;>omega)]
    first|assumption|(simp [go_sem];done)|(simp [go_sem, *];done)
   have y8:w1.cell? ⟨w.heap.size,8,none⟩=some (.int .i64 rt):=by
    rw [hb1.cell (by simp<;>omega)]
    first|assumption|(simp [go_sem];done)|(simp [go_sem, *];done)
   have y9:w1.cell? ⟨w.heap.size,9,none⟩=some (.int .i64 hp):=by
    rw [hb1.cell (by simp<;>omega)]
    first|assumption|(simp [go_sem];done)|(simp [go_sem, *];done)
   clear hb1
   go_wp2_with fail
   refine (HSM.out _).mono ?_
   rintro e w2 ⟨rfl,hb2⟩
   have hw2:=hw1.trans (hb2.mono hw1.size)
   clear hb2 y0 y1 y2 y3 y4 y5 y6 y7 y8 y9
   go_wp2
   go_ret
   exact ⟨rfl,hw2⟩
  by_cases g2:20<(L.length:Int)
  ·clear hbad hnew hE0ok hE0
   clear hV hR hA hg hgA
   go_enter Tryz.func5,Tryz.ntmps5
   go_wp2_with fail
   refine (HA.out _).mono ?_
   rintro e w1 ⟨rfl,hb1⟩
   have hw1:Below w.heap.size w w1:=Below.trans (by go_grown) (hb1.mono (by simp;omega))
   have y0:w1.cell? ⟨w.heap.size,0,none⟩=some (.int .i64 wd):=by
    rw [hb1.cell (by simp<;>omega)]
    first|assumption|(simp [go_sem];done)|(simp [go_sem, *];done)
   have y1:w1.cell? ⟨w.heap.size,1,none⟩=some (.int .i64 di):=by
    rw [hb1.cell (by simp<;>omega)]
    first|assumption|(simp [go_sem];done)|(simp [go_sem, *];done)
   have y2:w1.cell? ⟨w.heap.size,2,none⟩=some (.int .i64 lv):=by
    rw [hb1.cell (by simp<;>omega)]
    first|assumption|(simp [go_sem];done)|(simp [go_sem, *];done)
   have y3:w1.cell? ⟨w.heap.size,3,none⟩=some (.int .i64 st):=by
    rw [hb1.cell (by simp<;>omega)]
    first|assumption|(simp [go_sem];done)|(simp [go_sem, *];done)
   have y4:w1.cell? ⟨w.heap.size,4,none⟩=some (.int .i64 hs):=by
    rw [hb1.cell (by simp<;>omega)]
    first|assumption|(simp [go_sem];done)|(simp [go_sem, *];done)
   have y5:w1.cell? ⟨w.heap.size,5,none⟩=some (.int .i64 bt):=by
    rw [hb1.cell (by simp<;>omega)]
    first|assumption|(simp [go_sem];done)|(simp [go_sem, *];done)
   have y6:w1.cell? ⟨w.heap.size,6,none⟩=some (.int .i64 le):=by
    rw [hb1.cell (by simp<;>omega)]
    first|assumption|(simp [go_sem];done)|(simp [go_sem, *];done)
   have y7:w1.cell? ⟨w.heap.size,7,none⟩=some (.int .i64 bk):=by
    rw [hb1.cell (by simp<;>omega)]
    first|assumption|(simp [go_sem];done)|(simp [go_sem, *];done)
   have y8:w1.cell? ⟨w.heap.size,8,none⟩=some (.int .i64 rt):=by
    rw [hb1.cell (by simp<;>omega)]
    first|assumption|(simp [go_sem];done)|(simp [go_sem, *];done)
   have y9:w1.cell? ⟨w.heap.size,9,none⟩=some (.int .i64 hp):=by
    rw [hb1.cell (by simp<;>omega)]
    first|assumption|(simp [go_sem];done)|(simp [go_sem, *];done)
   clear hb1
   go_wp2_with fail
   refine (HSM.out _).mono ?_
   rintro e w2 ⟨rfl,hb2⟩
   have hw2:=hw1.trans (hb2.mono hw1.size)
   clear hb2 y0 y1 y2 y3 y4 y5 y6 y7 y8 y9
   go_wp2
   go_ret
   exact ⟨rfl,hw2⟩
  by_cases g3:20<(T.length:Int)
  ·clear hbad hnew hE0ok hE0
   clear hV hR hA hg hgA
   go_enter Tryz.func5,Tryz.ntmps5
   go_wp2_with fail
   refine (HA.out _).mono ?_
   rintro e w1 ⟨rfl,hb1⟩
   have hw1:Below w.heap.size w w1:=Below.trans (by go_grown) (hb1.mono (by simp;omega))
   have y0:w1.cell? ⟨w.heap.size,0,none⟩=some (.int .i64 wd):=by
    rw [hb1.cell (by simp<;>omega)]
    first|assumption|(simp [go_sem];done)|(simp [go_sem, *];done)
   have y1:w1.cell? ⟨w.heap.size,1,none⟩=some (.int .i64 di):=by
    rw [hb1.cell (by simp<;>omega)]
    first|assumption|(simp [go_sem];done)|(simp [go_sem, *];done)
   have y2:w1.cell? ⟨w.heap.size,2,none⟩=some (.int .i64 lv):=by
    rw [hb1.cell (by simp<;>omega)]
    first|assumption|(simp [go_sem];done)|(simp [go_sem, *];done)
   have y3:w1.cell? ⟨w.heap.size,3,none⟩=some (.int .i64 st):=by
    rw [hb1.cell (by simp<;>omega)]
    first|assumption|(simp [go_sem];done)|(simp [go_sem, *];done)
   have y4:w1.cell? ⟨w.heap.size,4,none⟩=some (.int .i64 hs):=by
    rw [hb1.cell (by simp<;>omega)]
    first|assumption|(simp [go_sem];done)|(simp [go_sem, *];done)
   have y5:w1.cell? ⟨w.heap.size,5,none⟩=some (.int .i64 bt):=by
    rw [hb1.cell (by simp<;>omega)]
    first|assumption|(simp [go_sem];done)|(simp [go_sem, *];done)
   have y6:w1.cell? ⟨w.heap.size,6,none⟩=some (.int .i64 le):=by
    rw [hb1.cell (by simp<;>omega)]
    first|assumption|(simp [go_sem];done)|(simp [go_sem, *];done)
   have y7:w1.cell? ⟨w.heap.size,7,none⟩=some (.int .i64 bk):=by
    rw [hb1.cell (by simp<;>omega)]
    first|assumption|(simp [go_sem];done)|(simp [go_sem, *];done)
   have y8:w1.cell? ⟨w.heap.size,8,none⟩=some (.int .i64 rt):=by
    rw [hb1.cell (by simp<;>omega)]
    first|assumption|(simp [go_sem];done)|(simp [go_sem, *];done)
   have y9:w1.cell? ⟨w.heap.size,9,none⟩=some (.int .i64 hp):=by
    rw [hb1.cell (by simp<;>omega)]
    first|assumption|(simp [go_sem];done)|(simp [go_sem, *];done)
   clear hb1
   go_wp2_with fail
   refine (HSM.out _).mono ?_
   rintro e w2 ⟨rfl,hb2⟩
   have hw2:=hw1.trans (hb2.mono hw1.size)
   clear hb2 y0 y1 y2 y3 y4 y5 y6 y7 y8 y9
   go_wp2
   go_ret
   exact ⟨rfl,hw2⟩
  have hl20:L.length<=20:=by omega
  have ht20:T.length<=20:=by omega
  have HV:=Lib.hid hV
  have HR:=Lib.hid hR
  have HG:=Lib.hid hg
  have HAA:=Lib.hid hA
  have HGA:=Lib.hid hgA
  have HD:=Lib.hid D
  cases oe with
  | false=>
   have HBAD:=Lib.hid (fun W h=>hbad W h (by omega) rfl)
   clear hV hR hA hg hgA hbad hnew hE0ok
   go_enter Tryz.func5,Tryz.ntmps5
   go_wp2_with fail
   refine (HA.out _).mono ?_
   rintro e w1 ⟨rfl,hb1⟩
   have hw1:Below w.heap.size w w1:=Below.trans (by go_grown) (hb1.mono (by simp;omega))
   have y0:w1.cell? ⟨w.heap.size,0,none⟩=some (.int .i64 wd):=by
    rw [hb1.cell (by simp<;>omega)]
    first|assumption|(simp [go_sem];done)|(simp [go_sem, *];done)
   have y1:w1.cell? ⟨w.heap.size,1,none⟩=some (.int .i64 di):=by
    rw [hb1.cell (by simp<;>omega)]
    first|assumption|(simp [go_sem];done)|(simp [go_sem, *];done)
   have y2:w1.cell? ⟨w.heap.size,2,none⟩=some (.int .i64 lv):=by
    rw [hb1.cell (by simp<;>omega)]
    first|assumption|(simp [go_sem];done)|(simp [go_sem, *];done)
   have y3:w1.cell? ⟨w.heap.size,3,none⟩=some (.int .i64 st):=by
    rw [hb1.cell (by simp<;>omega)]
    first|assumption|(simp [go_sem];done)|(simp [go_sem, *];done)
   have y4:w1.cell? ⟨w.heap.size,4,none⟩=some (.int .i64 hs):=by
    rw [hb1.cell (by simp<;>omega)]
    first|assumption|(simp [go_sem];done)|(simp [go_sem, *];done)
   have y5:w1.cell? ⟨w.heap.size,5,none⟩=some (.int .i64 bt):=by
    rw [hb1.cell (by simp<;>omega)]
    first|assumption|(simp [go_sem];done)|(simp [go_sem, *];done)
   have y6:w1.cell? ⟨w.heap.size,6,none⟩=some (.int .i64 le):=by
    rw [hb1.cell (by simp<;>omega)]
    first|assumption|(simp [go_sem];done)|(simp [go_sem, *];done)
   have y7:w1.cell? ⟨w.heap.size,7,none⟩=some (.int .i64 bk):=by
    rw [hb1.cell (by simp<;>omega)]
    first|assumption|(simp [go_sem];done)|(simp [go_sem, *];done)
   have y8:w1.cell? ⟨w.heap.size,8,none⟩=some (.int .i64 rt):=by
    rw [hb1.cell (by simp<;>omega)]
    first|assumption|(simp [go_sem];done)|(simp [go_sem, *];done)
   have y9:w1.cell? ⟨w.heap.size,9,none⟩=some (.int .i64 hp):=by
    rw [hb1.cell (by simp<;>omega)]
    first|assumption|(simp [go_sem];done)|(simp [go_sem, *];done)
   have u0:w1.cell? ⟨w.heap.size+1,0,none⟩=some (.int .u64 (kh:Int)):=by
    rw [hb1.cell (by simp<;>omega)]
    first|assumption|(simp [go_sem];done)|(simp [go_sem, *];done)
   have u1:w1.cell? ⟨w.heap.size+1,1,none⟩=some (.int .u64 (kl:Int)):=by
    rw [hb1.cell (by simp<;>omega)]
    first|assumption|(simp [go_sem];done)|(simp [go_sem, *];done)
   have u2:w1.cell? ⟨w.heap.size+1,2,none⟩=some (.int .i64 kn):=by
    rw [hb1.cell (by simp<;>omega)]
    first|assumption|(simp [go_sem];done)|(simp [go_sem, *];done)
   have u3:w1.cell? ⟨w.heap.size+1,3,none⟩=some (.int .i64 v):=by
    rw [hb1.cell (by simp<;>omega)]
    first|assumption|(simp [go_sem];done)|(simp [go_sem, *];done)
   have hz1:w.heap.size<w1.heap.size:=by have:=hb1.size;simp at this;omega
   have hzz1:w.heap.size+1<w1.heap.size:=by have:=hb1.size;simp at this;omega
   clear hb1
   go_wp2_with fail
   refine (HSM.out _).mono ?_
   rintro e w2 ⟨rfl,hb2⟩
   have hw2:=hw1.trans (hb2.mono hw1.size)
   obtain ⟨hc2,-⟩:=bcell hb2
   have y0:=(hc2 _ 0 hz1).trans y0
   have y1:=(hc2 _ 1 hz1).trans y1
   have y2:=(hc2 _ 2 hz1).trans y2
   have y3:=(hc2 _ 3 hz1).trans y3
   have y4:=(hc2 _ 4 hz1).trans y4
   have y5:=(hc2 _ 5 hz1).trans y5
   have y6:=(hc2 _ 6 hz1).trans y6
   have y7:=(hc2 _ 7 hz1).trans y7
   have y8:=(hc2 _ 8 hz1).trans y8
   have y9:=(hc2 _ 9 hz1).trans y9
   have u0:=(hc2 _ 0 hzz1).trans u0
   have u1:=(hc2 _ 1 hzz1).trans u1
   have u2:=(hc2 _ 2 hzz1).trans u2
   have u3:=(hc2 _ 3 hzz1).trans u3
   have hz2:=Nat.lt_of_lt_of_le hz1 hb2.size
   have hzz2:=Nat.lt_of_lt_of_le hzz1 hb2.size
   clear hc2
   go_wp2_with fail
   refine (HBAD.out _ (HV.out.below hw2)).mono ?_
   rintro e w3 ⟨rfl,hb3⟩
   have hw3:=hw2.trans (hb3.mono hw2.size)
   clear hb3 hb2 y0 y1 y2 y3 y4 y5 y6 y7 y8 y9 u0 u1 u2 u3
   go_wp2_with fail
   refine (num22_any 1 _).mono ?_
   rintro e w4 ⟨rfl,hb4⟩
   have hw4:=hw3.trans (hb4.mono hw3.size)
   go_wp2_with fail
   refine (num22_any 1 _).mono ?_
   rintro e w5 ⟨rfl,hb5⟩
   have hw5:=hw4.trans (hb5.mono hw4.size)
   go_wp2
   go_ret
   exact ⟨rfl,hw5⟩
  | true=>
   have HNEW:=Lib.hid (fun W h=>hnew W h (by omega) rfl)
   have HE0:=Lib.hid (And.intro (hE0ok rfl) hE0)
   clear hE0
   obtain ⟨i0,hi0,iz0,iz1,iz2⟩:=info_parts infoI
   clear hV hR hA hg hgA hbad hnew hE0ok
   go_enter Tryz.func5,Tryz.ntmps5
   go_wp2_with fail
   refine (HA.out _).mono ?_
   rintro e w1 ⟨rfl,hb1⟩
   have hw1:Below w.heap.size w w1:=Below.trans (by go_grown) (hb1.mono (by simp;omega))
   have y0:w1.cell? ⟨w.heap.size,0,none⟩=some (.int .i64 wd):=by
    rw [hb1.cell (by simp<;>omega)]
    first|assumption|(simp [go_sem];done)|(simp [go_sem, *];done)
   have y1:w1.cell? ⟨w.heap.size,1,none⟩=some (.int .i64 di):=by
    rw [hb1.cell (by simp<;>omega)]
    first|assumption|(simp [go_sem];done)|(simp [go_sem, *];done)
   have y2:w1.cell? ⟨w.heap.size,2,none⟩=some (.int .i64 lv):=by
    rw [hb1.cell (by simp<;>omega)]
    first|assumption|(simp [go_sem];done)|(simp [go_sem, *];done)
   have y3:w1.cell? ⟨w.heap.size,3,none⟩=some (.int .i64 st):=by
    rw [hb1.cell (by simp<;>omega)]
    first|assumption|(simp [go_sem];done)|(simp [go_sem, *];done)
   have y4:w1.cell? ⟨w.heap.size,4,none⟩=some (.int .i64 hs):=by
    rw [hb1.cell (by simp<;>omega)]
    first|assumption|(simp [go_sem];done)|(simp [go_sem, *];done)
   have y5:w1.cell? ⟨w.heap.size,5,none⟩=some (.int .i64 bt):=by
    rw [hb1.cell (by simp<;>omega)]
    first|assumption|(simp [go_sem];done)|(simp [go_sem, *];done)
   have y6:w1.cell? ⟨w.heap.size,6,none⟩=some (.int .i64 le):=by
    rw [hb1.cell (by simp<;>omega)]
    first|assumption|(simp [go_sem];done)|(simp [go_sem, *];done)
   have y7:w1.cell? ⟨w.heap.size,7,none⟩=some (.int .i64 bk):=by
    rw [hb1.cell (by simp<;>omega)]
    first|assumption|(simp [go_sem];done)|(simp [go_sem, *];done)
   have y8:w1.cell? ⟨w.heap.size,8,none⟩=some (.int .i64 rt):=by
    rw [hb1.cell (by simp<;>omega)]
    first|assumption|(simp [go_sem];done)|(simp [go_sem, *];done)
   have y9:w1.cell? ⟨w.heap.size,9,none⟩=some (.int .i64 hp):=by
    rw [hb1.cell (by simp<;>omega)]
    first|assumption|(simp [go_sem];done)|(simp [go_sem, *];done)
   have u0:w1.cell? ⟨w.heap.size+1,0,none⟩=some (.int .u64 (kh:Int)):=by
    rw [hb1.cell (by simp<;>omega)]
    first|assumption|(simp [go_sem];done)|(simp [go_sem, *];done)
   have u1:w1.cell? ⟨w.heap.size+1,1,none⟩=some (.int .u64 (kl:Int)):=by
    rw [hb1.cell (by simp<;>omega)]
    first|assumption|(simp [go_sem];done)|(simp [go_sem, *];done)
   have u2:w1.cell? ⟨w.heap.size+1,2,none⟩=some (.int .i64 kn):=by
    rw [hb1.cell (by simp<;>omega)]
    first|assumption|(simp [go_sem];done)|(simp [go_sem, *];done)
   have u3:w1.cell? ⟨w.heap.size+1,3,none⟩=some (.int .i64 v):=by
    rw [hb1.cell (by simp<;>omega)]
    first|assumption|(simp [go_sem];done)|(simp [go_sem, *];done)
   have hz1:w.heap.size<w1.heap.size:=by have:=hb1.size;simp at this;omega
   have hzz1:w.heap.size+1<w1.heap.size:=by have:=hb1.size;simp at this;omega
   clear hb1
   go_wp2_with fail
   refine (HSM.out _).mono ?_
   rintro e w2 ⟨rfl,hb2⟩
   have hw2:=hw1.trans (hb2.mono hw1.size)
   obtain ⟨hc2,-⟩:=bcell hb2
   have y0:=(hc2 _ 0 hz1).trans y0
   have y1:=(hc2 _ 1 hz1).trans y1
   have y2:=(hc2 _ 2 hz1).trans y2
   have y3:=(hc2 _ 3 hz1).trans y3
   have y4:=(hc2 _ 4 hz1).trans y4
   have y5:=(hc2 _ 5 hz1).trans y5
   have y6:=(hc2 _ 6 hz1).trans y6
   have y7:=(hc2 _ 7 hz1).trans y7
   have y8:=(hc2 _ 8 hz1).trans y8
   have y9:=(hc2 _ 9 hz1).trans y9
   have u0:=(hc2 _ 0 hzz1).trans u0
   have u1:=(hc2 _ 1 hzz1).trans u1
   have u2:=(hc2 _ 2 hzz1).trans u2
   have u3:=(hc2 _ 3 hzz1).trans u3
   have hz2:=Nat.lt_of_lt_of_le hz1 hb2.size
   have hzz2:=Nat.lt_of_lt_of_le hzz1 hb2.size
   clear hc2
   have HBX:Hid (∀wx,Below w2.heap.size w2 wx->wx.cell? ⟨w.heap.size+1,0,none⟩=some (.int .u64 (kh:Int))/\wx.cell? ⟨w.heap.size+1,1,none⟩=some (.int .u64 (kl:Int))/\wx.cell? ⟨w.heap.size+1,2,none⟩=some (.int .i64 kn)/\wx.cell? ⟨w.heap.size+1,3,none⟩=some (.int .i64 v)/\w.heap.size+1<wx.heap.size):=Lib.hid fun wx h=>
    ⟨(h.cell (p:=⟨w.heap.size+1,0,none⟩) hzz2).trans u0,(h.cell (p:=⟨w.heap.size+1,1,none⟩) hzz2).trans u1,(h.cell (p:=⟨w.heap.size+1,2,none⟩) hzz2).trans u2,(h.cell (p:=⟨w.heap.size+1,3,none⟩) hzz2).trans u3,Nat.lt_of_lt_of_le hzz2 h.size⟩
   go_wp2_with fail
   refine (HNEW.out _ (HV.out.below hw2)).mono ?_
   rintro e w3 ⟨t,rfl,hP,hb3⟩
   have HI3:Hid (EngH P w2 w3 t E0 E0.di (E0.L.map Lv.n) (E0.L.map (fun V=>V.C.length)) (In w2.heap.size w3.heap.size)):=Lib.hid ⟨hP,HE0.out.1,rfl,rfl,rfl,fun g hg=>⟨hg.1,hg.2⟩,hb3⟩
   generalize E0.di=d0 at *
   generalize E0.L.map Lv.n=NS at *
   generalize E0.L.map (fun V=>V.C.length)=CS at *
   clear hb2 hb3 hP HNEW y0 y1 y2 y3 y4 y5 y6 y7 y8 y9 u0 u1 u2 u3
   go_wp2_with fail
   refine (num22_any 0 _).mono ?_
   rintro e w4 ⟨rfl,hb4⟩
   have HI4:=Lib.hid (HI3.out.grow HD.out hb4)
   clear hb4 HI3
   go_wp2
   go_loopg [16] L.length (fun kx s16 wr=>∃i:Nat,s16 = .int .i64 (i:Int)/\L.length-i<=kx/\i<=L.length/\Hid (∃E K,EngH P w2 wr t E d0 NS CS K/\E.R.length<=i))
   case atStart=>exact ⟨0,rfl,by omega,by omega,Lib.hid ⟨E0,_,HI4.out,by rw [HE0.out.2];exact Nat.le_refl _⟩⟩
   case round=>
    clear HI4 HE0
    obtain ⟨i,rfl,m1,m2,HI⟩:=hrel
    by_cases hi:i<L.length
    ·obtain ⟨E,K,hI,hnl⟩:=HI.out
     have hwr:=hw2.trans (hI.below.mono hw2.size)
     obtain ⟨g0,o0,rfl,hg0,x0,x1,x2,x3⟩:=(HR.out.below hwr).rt hi
     have hgd:=HG.out _ (List.getElem_mem hi)
     have j1:(0:Int)<=(i:Int):=by omega
     have j2:(i:Int)<(L.length:Int):=by omega
     generalize L[i]=x at *
     obtain ⟨⟨ah,al,an⟩,av⟩:=x
     simp only at x0 x1 x2 x3 hgd
     have hpu:=D.put _ K t E ⟨⟨ah,al,an⟩,av⟩ hI.lev hI.ok hgd (by omega)
     unfold rtA at hpu
     simp only at hpu
     have HPU:=Lib.hid hpu
     have hnx:Hid (∀w' K',P w' K' t (E.put ⟨⟨ah,al,an⟩,av⟩)->Touch K wr w'->(∀g,K' g->K g\/In wr.heap.size w'.heap.size g)->∃E K,EngH P w2 w' t E d0 NS CS K/\E.R.length<=i+1):=Lib.hid fun w' K' h1 h2 h3=>
      ⟨_,K',hI.turned h1 (hI.ok.put _ hgd) (put_di _ _) (put_ns _ _) (put_cs _ _) h2 h3,Nat.le_trans (put_len E hI.ok.rts.sort _) (by omega)⟩
     clear hpu hI HI
     go_wp2_with fail
     refine HPU.out.mono ?_
     rintro e w5 ⟨rfl,K',hP5,hT5,hK5⟩
     have HI5:=Lib.hid (hnx.out w5 K' hP5 hT5 hK5)
     clear hP5 hT5 hK5 hnx HPU x0 x1 x2 x3
     go_wp2
     go_roundg (L.length-(i+1))
     case measure=>omega
     case rel=>exact ⟨i+1,by go_num,by omega,by omega,HI5⟩
    ·obtain ⟨E,K,hI,hnl⟩:=HI.out
     have hwr:=hw2.trans (hI.below.mono hw2.size)
     have hrl:E.R.length<=20:=by omega
     have HRO:=Lib.hid (fun W h=>D.routes W K t E h hI.ok (by omega))
     have HI5:=Lib.hid hI
     have hok:=hI.ok
     have hfi:=fun (p:Option Addr) c W h=>find12_any p c E.R ⟨kh,kl,kn⟩ W h (by omega)
     unfold kyV at hfi
     simp only at hfi
     clear HI hI HR HG
     go_wp2_with fail
     refine (HRO.out _ HI5.out.lev).mono ?_
     rintro e w6 ⟨p6,c6,rfl,ho6,hb6⟩
     have HI6:=Lib.hid (HI5.out.grow HD.out hb6)
     have HO6:=Lib.hid ho6
     have hw6:=hwr.trans (hb6.mono hwr.size)
     have htopr:=HI5.out.top
     have HTOP:Hid (∀g,K g->w2.heap.size<=g/\g<wr.heap.size):=Lib.hid htopr
     have hs6:=hb6.size
     obtain ⟨u0,u1,u2,u3,ul⟩:=HBX.out _ HI6.out.below
     clear ho6 hb6 HRO HI5 htopr
     cases hf:findS E.R ⟨kh,kl,kn⟩ with
     | some j=>
      rw [stI_some hf] at hfi
      have HFI:=Lib.hid hfi
      have o1:(0:Int)<=(j:Int):=by omega
      clear hfi hok hf
      go_wp2_with fail
      refine (HFI.out _ _ _ (Row.of_own HO6.out)).mono ?_
      rintro e w7 ⟨rfl,hb7⟩
      have hw7:=hw6.trans (hb7.mono hw6.size)
      clear u0 u1 u2 u3
      go_wp2
      go_ret
      exact ⟨rfl,hw7⟩
     | none=>
      rw [stI_none hf] at hfi
      have hknot:(⟨kh,kl,kn⟩:Ky)∉keysR E.R:=fun h=>by
       have:=find_is18.2 h
       rw [hf] at this
       cases this
      obtain ⟨q1,q2',q3,q4,q5,q6⟩:=back22 hok ⟨⟨kh,kl,kn⟩,v⟩ HKG.out hknot
      have hpu:=fun W h=>D.put W K t E ⟨⟨kh,kl,kn⟩,v⟩ h hok HKG.out (by omega)
      unfold rtA at hpu
      simp only at hpu q1 q2' q4 q6
      obtain ⟨fh,hfh⟩:∃fh:Nat×Nat->Int,fh=fun a=>longV E.R a.1 a.2 E.wd:=⟨_,rfl⟩
      have hhop1:∀ah al,W64 ah->W64 al->E.hop ah al=fh (ah,al):=fun ah al a b=>by rw [hok.longest a b,hfh];rfl
      obtain ⟨E1,hE1⟩:∃E1,E1=E.put ⟨⟨kh,kl,kn⟩,v⟩:=⟨_,rfl⟩
      rw [<-hE1] at q1 q2' q3 q4 q5 q6 hpu
      obtain ⟨E2,hE2⟩:∃E2,E2=E1.del ⟨kh,kl,kn⟩:=⟨_,rfl⟩
      have hde:=fun W K h=>D.del W K t E1 ⟨kh,kl,kn⟩ h q3 HKG.out (by omega)
      unfold kyV at hde
      simp only at hde
      rw [<-hE2] at q1 q2' q4 hde
      have hhop2:∀ah al,W64 ah->W64 al->E2.hop ah al=fh (ah,al):=fun ah al a b=>by
       rw [q4.longest a b,hfh]
       unfold longV Eg.cutA
       rw [q1,q2']
      have hl1:=fun W (h:P W K t E) ah al (a:W64 ah) (b:W64 al)=>D.look W K t E ah al h hok (by omega) a b
      have hl2:=fun W K (h:P W K t E2) ah al (a:W64 ah) (b:W64 al)=>D.look W K t E2 ah al h q4 (by rw [q1];omega) a b
      have hro1:=fun W K (h:P W K t E1)=>(D.routes W K t E1 h q3 (by omega)).mono (fun e w' (⟨p,c,h1,_,h3⟩:NewRts W w' e E1.R)=>(⟨p,c,h1,h3⟩:∃p c,e=Ending.returned (.slice p E1.R.length c)/\Below W.heap.size W w'))
      have hro2:=fun W K (h:P W K t E2)=>D.routes W K t E2 h q4 (by rw [q1];omega)
      rw [q1] at hro2
      have hsame:=fun (p q:Option Addr) c d W h1 h2=>sameR_any p q c d E.R E.R W h1 h2 (by omega) (by omega)
      simp only [decide_true] at hsame
      obtain ⟨bb,hbb⟩:∃bb,bb=decide ((⟨kh,kl,kn⟩:Ky)∈keysR E1.R):=⟨_,rfl⟩
      rw [<-hbb] at q6 hde
      have HFI:=Lib.hid hfi
      have HPU:=Lib.hid hpu
      have HDE:=Lib.hid hde
      have HH1:=Lib.hid hhop1
      have HH2:=Lib.hid hhop2
      have HL1:=Lib.hid hl1
      have HL2:=Lib.hid hl2
      have HRO1:=Lib.hid hro1
      have HRO2:=Lib.hid hro2
      have HSA:=Lib.hid hsame
      have hm1:=q5
      obtain ⟨M1,hM1⟩:∃M1,M1=E1.R.length:=⟨_,rfl⟩
      rw [<-hM1] at q6 hm1 HRO1
      have nb:(bb != bb)=false:=by simp
      clear hfi hok hf hpu hde hhop1 hhop2 hl1 hl2 hro1 hro2 hsame q1 q2' q3 q4 q5 hbb hE1 hE2 hM1 hknot hfh
      go_wp2_with fail
      refine (HFI.out _ _ _ (Row.of_own HO6.out)).mono ?_
      rintro e w7 ⟨rfl,hb7⟩
      have HI7:=Lib.hid (HI6.out.grow HD.out hb7)
      have HO7:=Lib.hid (own_below HO6.out hb7)
      have hw7:=hw6.trans (hb7.mono hw6.size)
      have hs7:=hb7.size
      have hz67:wr.heap.size<=w7.heap.size:=by omega
      have HLT7:Hid (∀j,(Value.slice p6 E.R.length c6).ownBlock=some j->j<w7.heap.size):=Lib.hid fun j hj=>(HO7.out.lt j hj).2
      obtain ⟨B0,hB0⟩:∃B0,B0=wr.heap.size:=⟨_,rfl⟩
      rw [<-hB0] at HO7 HTOP hz67
      have hb27:=HI7.out.below
      have HP7:=Lib.hid HI7.out.lev
      clear u0 u1 u2 u3 hb7 HI6 HO6 HFI HI7
      go_wp2
      go_loopg [18,19] T.length (fun kx s18 s19 wx=>∃(i:Nat) (p:Option Addr) (cp:Nat),s19 = .int .i64 (i:Int)/\T.length-i<=kx/\i<=T.length/\s18 = .slice p i cp/\Hid (wx.ownsRow w7.heap.size 3 1 (.slice p i cp) i (ics ((T.take i).map fh)))/\Hid (P wx K t E)/\Hid (wx.ownsRow B0 41 4 (.slice p6 E.R.length c6) E.R.length (rcs E.R))/\Below w7.heap.size w7 wx)
      case atStart=>exact ⟨0,none,0,rfl,by omega,by omega,rfl,Lib.hid (World.ownsRow_nil _ _ _ _),HP7,HO7,Below.refl _ _⟩
      case round=>
       clear HP7 HO7
       obtain ⟨i,p,cp,rfl,m1,m2,rfl,HOI,HP,HOW,hbx⟩:=hrel
       have hzx:=hbx.size
       by_cases hi2:i<T.length
       ·obtain ⟨ga,oa,rfl,hga,a0,a1⟩:=(HAA.out.below (hw7.trans (hbx.mono hw7.size))).adr hi2
        have hgd:=HGA.out T[i] (List.getElem_mem hi2)
        have hsn:T.take (i+1)=T.take i++[T[i]]:=List.take_succ_eq_append_getElem hi2
        have j1:(0:Int)<=(i:Int):=by omega
        have j2:(i:Int)<(T.length:Int):=by omega
        generalize T[i]=aa at *
        obtain ⟨ah,al⟩:=aa
        simp only at a0 a1 hgd
        have hl:=HL1.out _ HP.out ah al hgd.1 hgd.2
        rw [HH1.out ah al hgd.1 hgd.2] at hl
        have hmap:(T.take (i+1)).map fh=(T.take i).map fh++[fh (ah,al)]:=by rw [hsn,List.map_append];rfl
        generalize fh (ah,al)=hv at *
        have HL:=Lib.hid hl
        have HMP:=Lib.hid hmap
        have hln:((T.take i).map fh).length=i:=by rw [List.length_map,List.length_take];omega
        have HLN:=Lib.hid hln
        generalize (T.take i).map fh=HS at *
        clear hl hmap hgd hsn hln
        go_wp2_with fail
        refine HL.out.mono ?_
        rintro e w8 ⟨p8,c8,rfl,-,hb8⟩
        have HP8:=Lib.hid (HD.out.below HP.out hb8)
        have HOW8:=Lib.hid (own_below HOW.out hb8)
        have HOI8:=Lib.hid (own_below HOI.out hb8)
        have hbx8:=hbx.trans (hb8.mono hbx.size)
        have hzx8:=hbx8.size
        clear hb8 HP HOW HOI HL hbx a0 a1
        go_wp2_with (at_builtin;go_loud (refine wpList_append_own_at _ rfl (.tmp 102) (.tmp 104) 25 rfl w7.heap.size 3 i0 _ 1 8 Tryz.underlying25 hi0 iz0 iz1 iz2 rfl (by decide) _ _ _ rfl (HOI8.out.alloc _) ⟨w8.heap.size,0,none⟩ 1 1 [.int .i64 hv] rfl rfl (one_new (by simp [go_sem])) (by simp [Value.oneCell']) (by unfold maxLen;omega) (by omega) (by simp;omega) ?_))
        intro v9 w9 hown9 hg9 _ _
        obtain ⟨p9,c9,rfl⟩:=own_slice hown9
        have hb9:Below w7.heap.size w8 w9:=((Below.refl w7.heap.size w8).alloc hzx8 _).grown hg9 (by simp;omega) (fun j hj=>(HOI8.out.lt j hj).1)
        have hbt:Below w7.heap.size w7 w9:=hbx8.trans hb9
        have HOW9:Hid (w9.ownsRow B0 41 4 (.slice p6 E.R.length c6) E.R.length (rcs E.R)):=Lib.hid (own_block HOW8.out fun j hj=>hb9.block j (HLT7.out j hj))
        have HP9:=Lib.hid (HD.out.touched _ _ _ _ _ _ HP8.out (Touch.of_below hb9 (S:=fun j=>w7.heap.size<=j) (fun k _ h=>h)) (fun g hg h=>by have:=(HTOP.out g hg).2;omega))
        have HOI9:Hid (w9.ownsRow w7.heap.size 3 1 (.slice p9 (i+1) c9) (i+1) (ics ((T.take (i+1)).map fh))):=by
         rw [HMP.out]
         have h9:=own_isnoc (L:=HS) hown9 HLN.out.symm
         rw [List.length_append,List.length_singleton,HLN.out] at h9
         exact Lib.hid h9
        clear hown9 hg9 hb9 HOI8 HOW8 HP8 hbx8
        go_wp2
        go_roundg (T.length-(i+1))
        case measure=>omega
        case rel=>exact ⟨i+1,p9,c9,by go_num,by omega,by omega,rfl,HOI9,HP9,HOW9,hbt⟩
       ·obtain rfl:i=T.length:=by omega
        have hoi:=HOI.out
        rw [List.take_length] at hoi
        have HOI2:=Lib.hid hoi
        have hwx:=hw7.trans (hbx.mono hw7.size)
        have hb2x:=hb27.trans (hbx.mono hb27.size)
        obtain ⟨u0,u1,u2,u3,ul⟩:=HBX.out _ hb2x
        obtain ⟨wp,hwp⟩:∃wp,wp=wr:=⟨_,rfl⟩
        rw [<-hwp] at HP HOW HOI2 hwx hb2x u0 u1 u2 u3 ul hzx ⊢
        have hlp:∀j,(Value.slice p T.length cp).ownBlock=some j->j<wp.heap.size:=fun j hj=>(HOI2.out.lt j hj).2
        have hlw:∀j,(Value.slice p6 E.R.length c6).ownBlock=some j->j<wp.heap.size:=fun j hj=>(HOW.out.lt j hj).2
        have HLP:=Lib.hid hlp
        have HLW:=Lib.hid hlw
        clear hoi HOI hlp hlw hbx hwp HLT7 HL1 HH1
        go_wp2_with fail
        refine (HPU.out _ HP.out).mono ?_
        rintro e w9 ⟨rfl,K1,hP1,hT1,hK1⟩
        have HOW9:=Lib.hid (own_apart HOW.out HLW.out (fun g hg => .inl (HTOP.out g hg).2) hT1)
        have HOI9:=Lib.hid (own_apart HOI2.out HLP.out (fun g hg => .inl (by have:=(HTOP.out g hg).2;omega)) hT1)
        have hws:=hw2.size
        have hw9:Below w.heap.size w w9:=hwx.trans (hT1.below hwx.size (fun j hj=>by have:=(HTOP.out j hj).1;omega))
        have hb29:Below w2.heap.size w2 w9:=hb2x.trans (hT1.below hb2x.size (fun j hj=>(HTOP.out j hj).1))
        have HK1:Hid (∀g,K1 g->w2.heap.size<=g/\(g<B0\/wp.heap.size<=g)):=Lib.hid fun g hg=>by
         rcases hK1 g hg with h | h
         ·exact ⟨(HTOP.out g h).1,.inl (HTOP.out g h).2⟩
         ·exact ⟨Nat.le_trans hb2x.size h.1,.inr h.1⟩
        have HP1:=Lib.hid hP1
        clear hP1 hT1 hK1 HP HOW HOI2 HPU u0 u1 u2 u3 ul hwx
        go_wp2_with fail
        refine (HRO1.out _ _ HP1.out).mono ?_
        rintro e w10 ⟨p10,c10,rfl,hb10⟩
        have HP10:=Lib.hid (HD.out.below HP1.out hb10)
        have HOW10:=Lib.hid (own_below HOW9.out hb10)
        have HOI10:=Lib.hid (own_below HOI9.out hb10)
        have hw10:=hw9.trans (hb10.mono hw9.size)
        have hb210:=hb29.trans (hb10.mono hb29.size)
        obtain ⟨u0,u1,u2,u3,ul⟩:=HBX.out _ hb210
        clear hb10 HP1 HOW9 HOI9 HRO1 hw9 hb29
        go_wp2_with fail
        refine (HDE.out _ _ HP10.out).mono ?_
        rintro e w11 ⟨rfl,K2,hP2,hT2,-⟩
        have HOW11:=Lib.hid (own_apart HOW10.out HLW.out (fun g hg=>(HK1.out g hg).2) hT2)
        have HOI11:=Lib.hid (own_apart HOI10.out HLP.out (fun g hg=>by
         rcases (HK1.out g hg).2 with h | h
         ·exact .inl (by omega)
         ·exact .inr h) hT2)
        have hw11:Below w.heap.size w w11:=hw10.trans (hT2.below hw10.size (fun j hj=>by have:=(HK1.out j hj).1;omega))
        have HP11:=Lib.hid hP2
        clear hP2 hT2 HP10 HOW10 HOI10 HDE hw10 u0 u1 u2 u3 ul
        go_wp2_with fail
        refine (HRO2.out _ _ HP11.out).mono ?_
        rintro e w12 ⟨p12,c12,rfl,ho12,hb12⟩
        have HP12:=Lib.hid (HD.out.below HP11.out hb12)
        have HOW12:=Lib.hid (own_below HOW11.out hb12)
        have HOI12:=Lib.hid (own_below HOI11.out hb12)
        have HO12:=Lib.hid ho12
        have hw12:=hw11.trans (hb12.mono hw11.size)
        clear hb12 HP11 HOW11 HOI11 HRO2 hw11 ho12
        go_wp2_with fail
        refine (HSA.out _ _ _ _ _ (Row.of_own HO12.out) (Row.of_own HOW12.out)).mono ?_
        rintro e w13 ⟨rfl,hb13⟩
        have HP13:=Lib.hid (HD.out.below HP12.out hb13)
        have HOI13:=Lib.hid (IRow.below (IRow.of_own HOI12.out) hb13)
        have hw13:=hw12.trans (hb13.mono hw12.size)
        clear hb13 HP12 HOW12 HOI12 HO12 HSA hw12
        go_wp2
        go_loopg [24] T.length (fun kx s24 wy=>∃j:Nat,s24 = .int .i64 (j:Int)/\T.length-j<=kx/\j<=T.length/\Hid (P wy K2 t E2)/\Hid (IRow wy p (T.map fh))/\Below w.heap.size w wy)
        case atStart=>exact ⟨0,rfl,by omega,by omega,HP13,HOI13,hw13⟩
        case round=>
         clear HP13 HOI13 hw13
         obtain ⟨j,rfl,n1,n2,HPY,HOY,hby⟩:=hrel
         by_cases hj:j<T.length
         ·obtain ⟨ga,oa,rfl,hga,a0,a1⟩:=(HAA.out.below hby).adr hj
          have hgd:=HGA.out T[j] (List.getElem_mem hj)
          obtain ⟨gh,oh,rfl,hgh,v0⟩:=HOY.out.at (k:=j) (by rw [List.length_map];exact hj)
          rw [List.getElem_map] at v0
          have j1:(0:Int)<=(j:Int):=by omega
          have j2:(j:Int)<(T.length:Int):=by omega
          generalize T[j]=aa at *
          obtain ⟨ah,al⟩:=aa
          simp only at a0 a1 hgd
          have hl:=HL2.out _ _ HPY.out ah al hgd.1 hgd.2
          rw [HH2.out ah al hgd.1 hgd.2] at hl
          generalize fh (ah,al)=hv at *
          have HL:=Lib.hid hl
          have nv:(hv != hv)=false:=by simp
          clear hl hgd
          go_wp2_with fail
          refine HL.out.mono ?_
          rintro e w14 ⟨p14,c14,rfl,-,hb14⟩
          have HP14:=Lib.hid (HD.out.below HPY.out hb14)
          have HO14:=Lib.hid (HOY.out.below hb14)
          have hw14:=hby.trans (hb14.mono hby.size)
          have v0:=(hb14.cell (p:=⟨gh,oh+j,none⟩) hgh).trans v0
          have hgh:=Nat.lt_of_lt_of_le hgh hb14.size
          clear hb14 HPY HOY HL a0 a1
          go_wp2
          go_roundg (T.length-(j+1))
          case measure=>omega
          case rel=>exact ⟨j+1,by go_num,by omega,by omega,HP14,HO14,hw14⟩
         ·go_wp2
          go_ret
          exact ⟨rfl,hby⟩
end
end Go.Proofs.YtgfjmgebecmbiaaGreat
