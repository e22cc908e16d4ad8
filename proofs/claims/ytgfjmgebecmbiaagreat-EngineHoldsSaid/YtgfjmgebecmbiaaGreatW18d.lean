import Derived.Test.YtgfjmgebecmbiaaGreatW15
set_option linter.unusedSimpArgs false
set_option linter.unusedVariables false
set_option maxHeartbeats 8000000
namespace Go.Proofs.YtgfjmgebecmbiaaGreat
open Lib(hid)
open Go Go.RowKit Go.Sort M
set_option maxRecDepth 100000 in
theorem Zp6 (p:Option Addr) (c:Nat) (L:List Rt) (w:World) (hR:Row w p (rcs L)) (hp:p=none->c=0) (hl:L.length<1048576) :
 Calls Tryz.prog 109 #[.slice p L.length c] w fun e w'=>Zcf w w' e (Zap L):=by
 have HC:=hid (Zkh p c L w hR hp (by omega))
 have HLn:=hid hl
 clear hR hp hl
 go_enter Tryz.func109,Tryz.ntmps109
 go_wp2_with fail
 refine HC.out.mono ?_
 rintro e w1 ⟨p,c,rfl,hown,hb1⟩
 have eg:=enters_of Tryz.func141 (by kernel_rfl) rfl
 have hz1:=hb1.size
 have hS:∀W,RowKit.Below w1.heap.size w1 W->w1.heap.size<W.heap.size->W.cell? ⟨w1.heap.size,0,none⟩=some (.slice p L.length c) ->
  Calls Tryz.prog 140 #[.iface 35 (.slice p L.length c),.func (.func 141) #[] #[.pointer (some ⟨w1.heap.size,0,none⟩)]] W fun e w'=>e = .returned (.tuple #[])/\∃M:List Rt,M.length=L.length/\Asc ltR M/\Stb ltR L M/\Row w' p (rcs M)/\RowKit.Below w.heap.size w1 w'/\w'.cell? ⟨w1.heap.size,0,none⟩=some (.slice p L.length c):=by
  intro W hW hz hc
  have hLn:=HLn.out
  have hownW:=own_below hown hW
  by_cases h2:2<=L.length
  ·rcases hown.2 with ⟨e,h0⟩ | ⟨blk,cap',cur,e,hB,-,-,-,-,-⟩
   ·omega
   ·injection e with e1 e2 e3
    subst e1
    have hbk:blk<w1.heap.size:=(hown.lt blk rfl).2
    refine (Zqg _ _ ltR Zq4 eg blk c L h2 (by omega) W (Zo3 hownW) (by omega) (Zng w1.heap.size blk c L.length (by omega) W hc (by omega))).mono ?_
    rintro e w' ⟨rfl,M,m1,m2,m3,m4⟩
    have ml:=m2.len
    refine ⟨rfl,M,ml.symm,m1,m2,Zn0 m3 (by have:=m4.size;omega),?_,m4.cell hc (by show w1.heap.size≠blk;omega)⟩
    exact (hW.mono hz1).trans (m4.below (by have:=hW.size;omega) (fun j hj=>by omega))
  ·refine (Znt _ _ p c L.length (by omega) W).mono ?_
   rintro e w' ⟨rfl,hb⟩
   have hs:Asc ltR L:=by
    rcases L with _ | ⟨a,_ | ⟨b,L⟩⟩
    ·exact List.Pairwise.nil
    ·exact List.pairwise_singleton _ _
    ·simp at h2
   exact ⟨rfl,L,rfl,hs,Stb.refl _,(Row.of_own hownW).below hb,(hW.trans (hb.mono (by have:=hW.size;omega))).mono hz1,(hb.cell (p:=⟨w1.heap.size,0,none⟩) hz).trans hc⟩
 have HS:=hid hS
 have HP:Hid (p=none->L.length=0):=hid fun e=>by
  subst e
  rcases hown.2 with ⟨-,h0⟩ | ⟨blk,cap',cur,e,-⟩
  ·exact h0
  ·cases e
 clear hS hown eg HC
 go_wp2_with fail
 refine (HS.out _ (by go_grown) (by simp) (by simp [go_sem])).mono ?_
 rintro e w2 ⟨rfl,M,m0,m1,m2,m3,m4,b0⟩
 have hbl:w1.heap.size<w2.heap.size:=World.block_lt_of_cell? w2 _ b0
 have HE:=hid (Z2q m1 m2)
 have hw2:RowKit.Below w.heap.size w w2:=hb1.trans m4
 have HM:=hid m3
 have HN:=hid m0
 have hMl:M.length<1048576:=by have:=HLn.out;omega
 rw [<-HN.out]
 rw [<-HN.out] at b0
 clear m0 m1 m2 m3 m4 HS HLn HN
 go_wp2
 go_loopg [4,15] M.length (fun kx s4 s15 wr=>∃(i:Nat) (N:List Rt) (p4:Option Addr) (c4:Nat),s15 = .int .i64 (i:Int)/\M.length-i<=kx/\i<=M.length/\s4 = .slice p4 N.length c4/\Hid (N++Zba (M.drop i)=Zba M)/\Hid (wr.ownsRow w2.heap.size 41 4 (.slice p4 N.length c4) N.length (rcs N))/\Below w2.heap.size w2 wr)
 case atStart=>exact ⟨0,[],none,0,rfl,by omega,by omega,rfl,hid rfl,hid (World.ownsRow_nil _ _ _ _),by go_grown⟩
 case round=>
  obtain ⟨i,N,p4,c4,rfl,h1,h2,rfl,HN,HO,hb⟩:=hrel
  by_cases hi:i<M.length
  ·obtain ⟨g,o,rfl,hg,x0,x1,x2,x3⟩:=HM.out.rt hi
   have x0:=(hb.cell (p:=⟨g,o+i*4,none⟩) hg).trans x0
   have x1:=(hb.cell (p:=⟨g,o+i*4+1,none⟩) hg).trans x1
   have x2:=(hb.cell (p:=⟨g,o+i*4+2,none⟩) hg).trans x2
   have x3:=(hb.cell (p:=⟨g,o+i*4+3,none⟩) hg).trans x3
   have d0:=(hb.cell (p:=⟨w1.heap.size,0,none⟩) hbl).trans b0
   have hg2:=Nat.lt_of_lt_of_le hg hb.size
   have hbl2:=Nat.lt_of_lt_of_le hbl hb.size
   have hz0:=hb.size
   have i1:(0:Int)<=(i:Int):=by omega
   have i2:(i:Int)<(M.length:Int):=by omega
   obtain ⟨r,hr⟩:∃r,r=M[i]:=⟨_,rfl⟩
   rw [<-hr] at x0 x1 x2 x3
   have HMr:=hid hr
   clear hr
   have HOb:=hid (HO.out.alloc (.cells #[.int .u64 (r.k.h:Int),.int .u64 (r.k.l:Int),.int .i64 r.k.n,.int .i64 r.v] 41))
   have hb5:Below w2.heap.size w2 (wr.alloc (.cells #[.int .u64 (r.k.h:Int),.int .u64 (r.k.l:Int),.int .i64 r.k.n,.int .i64 r.v] 41)):=by go_grown
   have e0:(wr.alloc (.cells #[.int .u64 (r.k.h:Int),.int .u64 (r.k.l:Int),.int .i64 r.k.n,.int .i64 r.v] 41)).cell? ⟨wr.heap.size,0,none⟩=some (.int .u64 (r.k.h:Int)):=by simp [go_sem]
   have e1:(wr.alloc (.cells #[.int .u64 (r.k.h:Int),.int .u64 (r.k.l:Int),.int .i64 r.k.n,.int .i64 r.v] 41)).cell? ⟨wr.heap.size,1,none⟩=some (.int .u64 (r.k.l:Int)):=by simp [go_sem]
   have e2:(wr.alloc (.cells #[.int .u64 (r.k.h:Int),.int .u64 (r.k.l:Int),.int .i64 r.k.n,.int .i64 r.v] 41)).cell? ⟨wr.heap.size,2,none⟩=some (.int .i64 r.k.n):=by simp [go_sem]
   have e3:(wr.alloc (.cells #[.int .u64 (r.k.h:Int),.int .u64 (r.k.l:Int),.int .i64 r.k.n,.int .i64 r.v] 41)).cell? ⟨wr.heap.size,3,none⟩=some (.int .i64 r.v):=by simp [go_sem]
   have z5:wr.heap.size<(wr.alloc (.cells #[.int .u64 (r.k.h:Int),.int .u64 (r.k.l:Int),.int .i64 r.k.n,.int .i64 r.v] 41)).heap.size:=by simp
   by_cases hn:i+1<M.length
   ·obtain ⟨g',o',hgo,-,y0,y1,y2,-⟩:=HM.out.rt hn
    injection hgo with hgo
    injection hgo with hg1 ho1
    subst hg1
    subst ho1
    have y0:=(hb5.cell (p:=⟨g,o+(i+1)*4,none⟩) hg).trans y0
    have y1:=(hb5.cell (p:=⟨g,o+(i+1)*4+1,none⟩) hg).trans y1
    have y2:=(hb5.cell (p:=⟨g,o+(i+1)*4+2,none⟩) hg).trans y2
    have hn1:((i:Int)+1 == (M.length:Int))=false:=by
     rw [beq_eq_false_iff_ne]
     omega
    have i3:(i:Int)+1<(M.length:Int):=by omega
    have hE:=Zoo M[i+1].k.h M[i+1].k.l M[i+1].k.n r.k.h r.k.l r.k.n
    have hst:=HN.out
    rw [Zlf M i hi,dif_pos hn,<-HMr.out] at hst
    obtain ⟨y,hy⟩:∃y,y=M[i+1]:=⟨_,rfl⟩
    rw [<-hy] at y0 y1 y2 hE hst
    clear hy
    by_cases hk:y.k=r.k
    ·rw [if_pos hk] at hst
     have HN2:Hid (N++Zba (M.drop (i+1))=Zba M):=hid (by simpa using hst)
     rw [decide_eq_true (show y.k.h=r.k.h/\y.k.l=r.k.l/\y.k.n=r.k.n from by rw [hk];exact ⟨rfl,rfl,rfl⟩)] at hE
     clear hst hk
     go_wp2_with fail
     have d0:=(hb5.cell (p:=⟨w1.heap.size,0,none⟩) hbl).trans b0
     have hg2:=Nat.lt_of_lt_of_le hg hb5.size
     have hbl2:=Nat.lt_of_lt_of_le hbl hb5.size
     generalize World.alloc wr _=w5 at *
     have hz5:=hb5.size
     have hw5:=hw2.trans (hb5.mono hw2.size)
     have kg:=Zaa
     refine Zab (by kernel_rfl) (by kernel_rfl) ?_
     repeat (any_goals (first|go_big_quiet_step (fail)|quiet_step (fail)))
     refine wpQuiet_nil ?_
     clear kg
     intro w7 hb7
     obtain ⟨hc7,hf7⟩:=Zaf hb7
     have hw7:Below w.heap.size w w7:=by
      refine Below.trans ?_ (hb7.mono ?_)
      ·go_grown
      ·first|omega|go_size
     have hw7:=hb5.trans (hb7.mono hb5.size)
     have HO7:=hid (own_below HOb.out hb7)
     have e0:=(hc7 _ _ z5).trans e0
     have e1:=(hc7 _ _ z5).trans e1
     have e2:=(hc7 _ _ z5).trans e2
     have e3:=(hc7 _ _ z5).trans e3
     have z5:=Nat.lt_of_lt_of_le z5 hb7.size
     clear hc7 hf7 hb7
     go_wp2
     go_roundg (M.length-(i+1))
     case measure=>omega
     case rel=>exact ⟨i+1,N,p4,c4,by go_num,by omega,by omega,rfl,HN2,HO7,hw7⟩
    ·rw [if_neg hk] at hst
     have HN2:Hid ((N++[r])++Zba (M.drop (i+1))=Zba M):=hid (by simpa using hst)
     have hne:¬(y.k.h=r.k.h/\y.k.l=r.k.l/\y.k.n=r.k.n):=fun ⟨q1,q2,q3⟩=>hk (by
      cases hy1:y.k
      cases hr1:r.k
      rw [hy1,hr1] at q1 q2 q3
      simp_all)
     rw [decide_eq_false hne] at hE
     clear hst hk hne
     go_wp2_with fail
     have d0:=(hb5.cell (p:=⟨w1.heap.size,0,none⟩) hbl).trans b0
     have hg2:=Nat.lt_of_lt_of_le hg hb5.size
     have hbl2:=Nat.lt_of_lt_of_le hbl hb5.size
     generalize World.alloc wr _=w5 at *
     have hz5:=hb5.size
     have hw5:=hw2.trans (hb5.mono hw2.size)
     have kg:=Zaa
     refine Zab (by kernel_rfl) (by kernel_rfl) ?_
     repeat (any_goals (first|go_big_quiet_step (fail)|quiet_step (fail)))
     refine wpQuiet_nil ?_
     clear kg
     intro w7 hb7
     obtain ⟨hc7,hf7⟩:=Zaf hb7
     have hw7:Below w.heap.size w w7:=by
      refine Below.trans ?_ (hb7.mono ?_)
      ·go_grown
      ·first|omega|go_size
     have hw7:=hb5.trans (hb7.mono hb5.size)
     have HO7:=hid (own_below HOb.out hb7)
     have e0:=(hc7 _ _ z5).trans e0
     have e1:=(hc7 _ _ z5).trans e1
     have e2:=(hc7 _ _ z5).trans e2
     have e3:=(hc7 _ _ z5).trans e3
     have z5:=Nat.lt_of_lt_of_le z5 hb7.size
     clear hc7 hf7 hb7
     have HO8:=hid (HO7.out.alloc (.cells #[.int .u64 (r.k.h:Int),.int .u64 (r.k.l:Int),.int .i64 r.k.n,.int .i64 r.v] 41))
     have hsrc:Hid (∀j u,(rcs [r])[j]? = some u->(w7.alloc (.cells #[.int .u64 (r.k.h:Int),.int .u64 (r.k.l:Int),.int .i64 r.k.n,.int .i64 r.v] 41)).cell? ((⟨w7.heap.size,0,none⟩:Addr).add j)=some u):=by
      rw [Zgc]
      exact hid (Zb9 (by simp [go_sem]) (by simp [go_sem]) (by simp [go_sem]) (by simp [go_sem]))
     have hNl:N.length<=M.length:=by
      have h1:=congrArg List.length HN.out
      have h2:=Zj3 M
      simp only [List.length_append] at h1
      omega
     have HNl:=hid hNl
     clear hNl
     have hw8:Below w2.heap.size w2 (w7.alloc (.cells #[.int .u64 (r.k.h:Int),.int .u64 (r.k.l:Int),.int .i64 r.k.n,.int .i64 r.v] 41)):=hw7.alloc hw7.size _
     go_wp2_with (at_builtin;go_loud (refine Zbf rfl (.tmp 36) (.tmp 38) rfl w2.heap.size _ N [r] (N++[r]) rfl rfl ⟨w7.heap.size,0,none⟩ 1 rfl HO8.out hsrc.out (by have:=HNl.out;simp;omega) hw8.size ?_))
     intro v9 w9 hown9 hg9 _
     obtain ⟨p9,c9,rfl⟩:=Zag hown9
     have hw9:Below w2.heap.size w2 w9:=hw8.grown hg9 hw8.size (fun k e=>(HO8.out.lt k e).1)
     have HO9:=hid hown9
     clear hown9 hg9 hw8
     go_wp2
     go_roundg (M.length-(i+1))
     case measure=>omega
     case rel=>exact ⟨i+1,N++[r],p9,c9,by go_num,by omega,by omega,by rw [List.length_append];rfl,HN2,by rw [List.length_append];exact HO9,hw9⟩
   ·have hn1:((i:Int)+1 == (M.length:Int))=true:=by
     rw [beq_iff_eq]
     omega
    have HN2:Hid ((N++[r])++Zba (M.drop (i+1))=Zba M):=by
     have:=HN.out
     rw [Zlf M i hi,dif_neg hn,<-HMr.out] at this
     exact hid (by simpa using this)
    go_wp2_with fail
    have d0:=(hb5.cell (p:=⟨w1.heap.size,0,none⟩) hbl).trans b0
    have hg2:=Nat.lt_of_lt_of_le hg hb5.size
    have hbl2:=Nat.lt_of_lt_of_le hbl hb5.size
    generalize World.alloc wr _=w5 at *
    have hz5:=hb5.size
    have hw5:=hw2.trans (hb5.mono hw2.size)
    have kg:=Zaa
    refine Zab (by kernel_rfl) (by kernel_rfl) ?_
    repeat (any_goals (first|go_big_quiet_step (fail)|quiet_step (fail)))
    refine wpQuiet_nil ?_
    clear kg
    intro w7 hb7
    obtain ⟨hc7,hf7⟩:=Zaf hb7
    have hw7:Below w.heap.size w w7:=by
     refine Below.trans ?_ (hb7.mono ?_)
     ·go_grown
     ·first|omega|go_size
    have hw7:=hb5.trans (hb7.mono hb5.size)
    have HO7:=hid (own_below HOb.out hb7)
    have e0:=(hc7 _ _ z5).trans e0
    have e1:=(hc7 _ _ z5).trans e1
    have e2:=(hc7 _ _ z5).trans e2
    have e3:=(hc7 _ _ z5).trans e3
    have z5:=Nat.lt_of_lt_of_le z5 hb7.size
    clear hc7 hf7 hb7
    have HO8:=hid (HO7.out.alloc (.cells #[.int .u64 (r.k.h:Int),.int .u64 (r.k.l:Int),.int .i64 r.k.n,.int .i64 r.v] 41))
    have hsrc:Hid (∀j u,(rcs [r])[j]? = some u->(w7.alloc (.cells #[.int .u64 (r.k.h:Int),.int .u64 (r.k.l:Int),.int .i64 r.k.n,.int .i64 r.v] 41)).cell? ((⟨w7.heap.size,0,none⟩:Addr).add j)=some u):=by
     rw [Zgc]
     exact hid (Zb9 (by simp [go_sem]) (by simp [go_sem]) (by simp [go_sem]) (by simp [go_sem]))
    have hNl:N.length<=M.length:=by
     have h1:=congrArg List.length HN.out
     have h2:=Zj3 M
     simp only [List.length_append] at h1
     omega
    have HNl:=hid hNl
    clear hNl
    have hw8:Below w2.heap.size w2 (w7.alloc (.cells #[.int .u64 (r.k.h:Int),.int .u64 (r.k.l:Int),.int .i64 r.k.n,.int .i64 r.v] 41)):=hw7.alloc hw7.size _
    go_wp2_with (at_builtin;go_loud (refine Zbf rfl (.tmp 36) (.tmp 38) rfl w2.heap.size _ N [r] (N++[r]) rfl rfl ⟨w7.heap.size,0,none⟩ 1 rfl HO8.out hsrc.out (by have:=HNl.out;simp;omega) hw8.size ?_))
    intro v9 w9 hown9 hg9 _
    obtain ⟨p9,c9,rfl⟩:=Zag hown9
    have hw9:Below w2.heap.size w2 w9:=hw8.grown hg9 hw8.size (fun k e=>(HO8.out.lt k e).1)
    have HO9:=hid hown9
    clear hown9 hg9 hw8
    go_wp2
    go_roundg (M.length-(i+1))
    case measure=>omega
    case rel=>exact ⟨i+1,N++[r],p9,c9,by go_num,by omega,by omega,by rw [List.length_append];rfl,HN2,by rw [List.length_append];exact HO9,hw9⟩
  ·go_wp2
   go_ret
   have:=HN.out
   rw [List.drop_eq_nil_of_le (by omega)] at this
   simp only [Zba,List.append_nil] at this
   rw [<-HE.out,<-this]
   exact ⟨p4,c4,rfl,Za4 HO.out hw2.size,hw2.trans (hb.mono hw2.size)⟩
set_option maxRecDepth 100000 in
theorem Zq9 (bk bo:Nat) (p p2:Option Addr) (c c2:Nat) (K:List Rt) (V:List Pf) (u:Ky) (i:Nat) (w:World) (hK:Row w p (rcs K)) (hV:Row w p2 (pcs V)) (hs:Sorted K) (hi:i<K.length) (h0:0<V.length) (hu:u=kyP V[0])
 (l0:bk<w.heap.size) (l1:bo<w.heap.size) (k0:w.cell? ⟨bk,0,none⟩=some (.slice p K.length c)) (o0:w.cell? ⟨bo,0,none⟩=some (.slice p2 V.length c2)) :
 Calls Tryz.prog 143 #[.int .i64 (i:Int),.pointer (some ⟨bk,0,none⟩),.pointer (some ⟨bo,0,none⟩)] w fun e w'=>e = .returned (.bool (decide (bh K u<=i)))/\Below w.heap.size w w':=by
 obtain ⟨gr,o,rfl,hgr,r0,r1,r2,-⟩:=hK.rt hi
 obtain ⟨gv,ov,rfl,hgv,v0,v1,v2⟩:=hV.at h0
 have hT:=Zrx K u hs i hi
 have HL:=Zfg K[i].k.h K[i].k.l K[i].k.n (hiW V[0].a) (loW V[0].a) V[0].n
 rw [show lessB K[i].k.h K[i].k.l K[i].k.n (hiW V[0].a) (loW V[0].a) V[0].n=Zau K[i].k u by rw [hu];rfl] at HL
 have HL:=hid HL
 have i1:(0:Int)<=(i:Int):=by omega
 have i2:(i:Int)<(K.length:Int):=by omega
 have i3:(0:Int)<(V.length:Int):=by omega
 simp only [Nat.zero_mul,Nat.add_zero] at v0 v1 v2
 generalize Zau K[i].k u=ls at *
 generalize decide (bh K u<=i)=ds at *
 subst hT
 generalize K[i].k=q at *
 generalize V[0]=pv at *
 generalize K.length=n at *
 generalize V.length=m at *
 clear hK hV hs
 go_enter Tryz.func143,Tryz.ntmps143
 go_wp2_with fail
 have kg:=Zaa
 refine Zab (by kernel_rfl) (by kernel_rfl) ?_
 repeat (any_goals (first|go_big_quiet_step ((exact HL.out.at _ _ _))|quiet_step ((exact HL.out.at _ _ _))))
 refine wpQuiet_nil ?_
 clear kg
 intro w1 hb1
 obtain ⟨hc1,hf1⟩:=Zaf hb1
 have hw1:Below w.heap.size w w1:=by
  refine Below.trans ?_ (hb1.mono ?_)
  ·go_grown
  ·first|omega|go_size
 go_wp2
 go_ret
 exact ⟨rfl,hw1⟩
def curL (P M S:List Rt) (U:List Ky) (v:Int) (i:Nat):List Rt:=P++((U.take i).map (fun q=>⟨q,v⟩)++(M.drop i++S))
theorem Z0b (P M S:List Rt) (U:List Ky) (v:Int):curL P M S U v 0=P++(M++S):=by simp [curL]
theorem Z3r (P M S:List Rt) (U:List Ky) (v:Int) (h:M.length<=U.length):curL P M S U v U.length=P++(U.map (fun q=>⟨q,v⟩)++S):=by
 unfold curL
 rw [List.take_of_length_le (Nat.le_refl _),List.drop_eq_nil_of_le h,List.nil_append]
theorem Z6s {P M S:List Rt} {U:List Ky} {v:Int} {i:Nat} (hM:M.length=U.length) (hi:i<U.length):curL P M S U v (i+1)=(curL P M S U v i).set (P.length+i) ⟨U[i],v⟩:=by
 unfold curL
 rw [List.set_append_right _ _ (by omega),List.set_append_right _ _ (by rw [List.length_map,List.length_take];omega),List.length_map,List.length_take,List.take_succ_eq_append_getElem hi,List.map_append,List.map_singleton,List.append_assoc]
 congr 2
 have hiM:i<M.length:=by omega
 rw [show P.length+i-P.length-min i U.length=0 by omega,List.drop_eq_getElem_cons hiM]
 rfl
theorem Z6u {P:List Rt} {U:List Ky} {v:Int} {i:Nat} (hi:i<U.length):curL P [] [] U v (i+1)=curL P [] [] U v i++[⟨U[i],v⟩]:=by
 unfold curL
 rw [List.take_succ_eq_append_getElem hi,List.map_append,List.map_singleton]
 simp
theorem Z6t (P M S:List Rt) (U:List Ky) (v:Int) (i:Nat) (hi:i<=U.length):(curL P M S U v i).length=P.length+i+(M.length-i)+S.length:=by
 simp [curL]
 omega
theorem Z8p {P M S:List Rt} {U:List Ky} {v:Int} {i:Nat} (hM:M.map Rt.k=U) (hi:i<U.length) (h:P.length+i<(curL P M S U v i).length):(curL P M S U v i)[P.length+i].k=U[i]:=by
 have hl:M.length=U.length:=by rw [<-hM,List.length_map]
 have e:(curL P M S U v i)[P.length+i]? = some (M[i]'(by omega)):=by
  unfold curL
  rw [List.getElem?_append_right (by omega),List.getElem?_append_right (by rw [List.length_map,List.length_take];omega),List.length_map,List.length_take,List.getElem?_append_left (by rw [List.length_drop];omega),List.getElem?_drop,show i+(P.length+i-P.length-min i U.length)=i by omega,List.getElem?_eq_getElem]
 rw [List.getElem?_eq_getElem h] at e
 injection e with e
 rw [e]
 subst hM
 simp
theorem Zob (L:List Rt) (j:Nat) (v:Int) (h:j<L.length):(rcs L).set (j*4+3) (.int .i64 v)=rcs (L.set j ⟨L[j].k,v⟩):=by
 have:=Zjt L j ⟨L[j].k,v⟩ h
 rw [<-this]
 apply List.ext_getElem?
 intro i
 simp only [List.getElem?_set,List.length_set,Zaz]
 have c0:=Zcc L j 0 h (by omega)
 have c1:=Zcc L j 1 h (by omega)
 have c2:=Zcc L j 2 h (by omega)
 unfold Zac at c0 c1 c2
 simp only [Nat.add_zero,List.getElem?_cons_zero,List.getElem?_cons_succ] at c0 c1 c2
 by_cases e3:j*4+3=i
 ·simp [e3]
 ·rw [if_neg e3,if_neg e3]
  by_cases e2:j*4+2=i
  ·subst e2
   simp [c2]
   omega
  ·rw [if_neg e2]
   by_cases e1:j*4+1=i
   ·subst e1
    simp [c1]
    omega
   ·rw [if_neg e1]
    by_cases e0:j*4=i
    ·subst e0
     simp [c0]
     omega
    ·rw [if_neg e0]
def LayR (B:Nat) (w w':World) (e:Ending) (L:List Rt):Prop:=∃p c,e = .returned (.slice p L.length c)/\w'.ownsRow B 41 4 (.slice p L.length c) L.length (rcs L)/\Below B w w'
set_option maxRecDepth 100000 in
theorem Z2p (B:Nat) (q:Option Addr) (cq:Nat) (K:List Rt) (kh kl:Nat) (kn v high:Int) (w:World) (hO:w.ownsRow B 41 4 (.slice q K.length cq) K.length (rcs K)) (hB:B<=w.heap.size)
 (g1:W64 kh) (g2:W64 kl) (hU:sprK ⟨kh,kl,kn⟩ high=[]) :
 Calls Tryz.prog 111 #[.slice q K.length cq,.agg #[.int .u64 (kh:Int),.int .u64 (kl:Int),.int .i64 kn,.int .i64 v],.int .i64 high] w fun e w'=>LayR B w w' e K:=by
 have hV:Zd7 kh kl kn high=[]:=by
  unfold sprK at hU
  exact List.map_eq_nil_iff.1 hU
 have hk:=Zta kh kl kn high g1 g2
 rw [hV] at hk
 have HK:Hid (∀W,Calls Tryz.prog 142 #[.agg #[.int .u64 (kh:Int),.int .u64 (kl:Int),.int .i64 kn],.int .i64 high] W fun e w'=>∃p c,e = .returned (.slice p 0 c)/\w'.ownsRow W.heap.size 39 3 (.slice p 0 c) 0 []/\Below W.heap.size W w'):=hid hk
 have HO:=hid hO
 clear hk hV hU hO
 go_enter Tryz.func111,Tryz.ntmps111
 go_wp2_with fail
 refine (HK.out _).mono ?_
 rintro e w1 ⟨p1,c1,rfl,ho1,hb1⟩
 have hw1:Below w.heap.size w w1:=Below.trans (by go_grown) (hb1.mono (by simp;omega))
 obtain ⟨nc,-⟩:=Zaf hb1
 have k0:=(nc w.heap.size 0 (by simp;omega)).trans (show _=some (Value.slice q K.length cq) by simp [go_sem])
 have hz:w.heap.size<w1.heap.size:=by have:=hb1.size;simp at this;omega
 clear nc ho1 hb1
 go_wp2
 go_ret
 exact ⟨q,cq,rfl,own_below HO.out (by go_grown),Below.mono (by go_grown) hB⟩
theorem Zgu {w w':World} {a b g o:Nat} (h:∀k,a<k->k<b->w'.heap[k]? = w.heap[k]?) (h1:a<g) (h2:g<b):w'.cell? ⟨g,o,none⟩=w.cell? ⟨g,o,none⟩:=World.cell?_of_block (a:=⟨g,o,none⟩) (h g h1 h2)
theorem Z64 (L:List Rt) (k:Ky) (v:Int) (j:Nat) (hj:j=L.length) (h:j<(L++[(⟨k,0⟩:Rt)]).length):(L++[(⟨k,0⟩:Rt)]).set j ⟨(L++[(⟨k,0⟩:Rt)])[j].k,v⟩=L++[⟨k,v⟩]:=by
 subst hj
 simp
set_option maxRecDepth 100000 in
theorem Z2o (B:Nat) (q:Option Addr) (cq:Nat) (K P Mm S:List Rt) (kh kl:Nat) (kn v high:Int) (w:World) (hO:w.ownsRow B 41 4 (.slice q K.length cq) K.length (rcs K)) (hB:B<=w.heap.size)
 (hs:Sorted K) (hKl:K.length<=1040000) (g1:W64 kh) (g2:W64 kl) (h0:0<(sprK ⟨kh,kl,kn⟩ high).length) (hKe:K=P++(Mm++S)) (hP:P.length=bh K (sprK ⟨kh,kl,kn⟩ high)[0])
 (hM:Mm.map Rt.k=sprK ⟨kh,kl,kn⟩ high\/(Mm=[]/\S=[])) :
 Calls Tryz.prog 111 #[.slice q K.length cq,.agg #[.int .u64 (kh:Int),.int .u64 (kl:Int),.int .i64 kn,.int .i64 v],.int .i64 high] w fun e w'=>LayR B w w' e (P++((sprK ⟨kh,kl,kn⟩ high).map (fun k=>(⟨k,v⟩:Rt))++S)):=by
 have hUl:=Zul ⟨kh,kl,kn⟩ g2 high
 have hk:=Zta kh kl kn high g1 g2
 have hat:=Z0w ⟨kh,kl,kn⟩ high
 have hsl:(sprK ⟨kh,kl,kn⟩ high).length=(Zd7 kh kl kn high).length:=by simp [sprK]
 simp only at hat
 obtain ⟨U,hU⟩:∃U,U=sprK ⟨kh,kl,kn⟩ high:=⟨_,rfl⟩
 obtain ⟨V,hV⟩:∃V,V=Zd7 kh kl kn high:=⟨_,rfl⟩
 have hat2:∀j (h1:j<U.length) (h2:j<V.length),U[j]=kyP V[j]:=by
  intro j h1 h2
  subst hU
  subst hV
  exact hat j h2
 clear hat
 have hP2:∀h:0<U.length,P.length=bh K U[0]:=by
  intro h
  subst hU
  exact hP
 clear hP
 rw [<-hU] at hUl h0 hM hsl ⊢
 rw [<-hV] at hk hsl
 have hV0:0<V.length:=by omega
 have hP:=hP2 h0
 clear hP2
 have hu0:=hat2 0 h0 hV0
 have hat0:P.length<=K.length:=by rw [hP];exact Zpw K _
 obtain ⟨F,hF⟩:∃F:Nat->List Rt,F=curL P Mm S U v:=⟨_,rfl⟩
 have hF0:F 0=K:=by rw [hF,Z0b,hKe]
 have hMl:Mm.length=U.length\/(Mm.length=0/\S.length=0):=by
  rcases hM with h | ⟨h1,h2⟩
  ·exact .inl (by rw [<-h,List.length_map])
  ·exact .inr ⟨by rw [h1];rfl,by rw [h2];rfl⟩
 have hFn:F U.length=P++(U.map (fun k=>(⟨k,v⟩:Rt))++S):=by rw [hF,Z3r _ _ _ _ _ (by omega)]
 have hFl:∀i,i<=U.length->(F i).length=P.length+i+(Mm.length-i)+S.length:=fun i hi=>by rw [hF,Z6t _ _ _ _ _ _ hi]
 -- one key more
 have hset:∀i (hi:i<U.length) (h:P.length+i<(F i).length),Mm.length=U.length->F (i+1)=(F i).set (P.length+i) ⟨(F i)[P.length+i].k,v⟩:=fun i hi h hm=>by
  rcases hM with hM | ⟨hM,-⟩
  ·have h2:=Z8p (S:=S) (P:=P) (v:=v) hM hi (by rw [<-hF];exact h)
   have h3:=Z6s (P:=P) (S:=S) (v:=v) hm hi
   subst hF
   rw [h3,h2]
  ·rw [hM] at hm
   simp at hm
   omega
 have happ:∀i (hi:i<U.length),Mm.length=0->S.length=0->F (i+1)=F i++[⟨U[i],v⟩]:=fun i hi h1 h2=>by
  rw [hF,List.length_eq_zero_iff.1 h1,List.length_eq_zero_iff.1 h2]
  exact Z6u hi
 rw [<-hFn]
 have hKl2:K.length<=P.length+Mm.length+S.length/\P.length+Mm.length+S.length<=K.length:=by
  have:=congrArg List.length hKe
  simp only [List.length_append] at this
  omega
 obtain ⟨hKla,hKlb⟩:=hKl2
 have HK:=hid hk
 have HO:=hid hO
 have HAT:=hid hat2
 have HF0:=hid hF0
 have HFL:=hid hFl
 have HSET:=hid hset
 have HAPP:=hid happ
 have HSL:=hid hsl
 have HMl:=hid hMl
 have HP:=hid (And.intro hP hu0)
 have HS:=hid hs
 have hVl:V.length<=256:=by omega
 have eg:=enters_of Tryz.func143 (by kernel_rfl) rfl
 clear hk hO hat2 hF0 hFl hset happ hsl hMl hP hu0 hs hU hV hF hM hKe hFn
 go_enter Tryz.func111,Tryz.ntmps111
 go_wp2_with fail
 refine (HK.out _).mono ?_
 rintro e w1 ⟨p1,c1,rfl,ho1,hb1⟩
 have hw1:Below w.heap.size w w1:=Below.trans (by go_grown) (hb1.mono (by simp;omega))
 obtain ⟨nc,nf⟩:=Zaf hb1
 have k0:=(nc w.heap.size 0 (by simp;omega)).trans (show _=some (Value.slice q K.length cq) by simp [go_sem])
 have kf:∀j,w1.frozen? ⟨w.heap.size,j,none⟩=false:=fun j=>(nf w.heap.size j (by simp;omega)).trans (by simp [go_sem])
 have r3:=(nc (w.heap.size+1) 3 (by simp)).trans (show _=some (Value.int .i64 v) by simp [go_sem])
 have hz:w.heap.size+1<w1.heap.size:=by have:=hb1.size;simp at this;omega
 have hz':w.heap.size<w1.heap.size:=by omega
 have HV:=hid (Row.of_own ho1)
 have hVlow:∀g o,p1=some ⟨g,o,none⟩->w.heap.size+2<=g:=fun g o hg=>by
  rcases ho1.2 with ⟨e,_⟩ | ⟨blk,cap,cur,e,h3,_⟩
  ·injection e with e
   rw [e] at hg
   cases hg
  ·injection e with e
   rw [e] at hg
   injection hg with hg
   injection hg with hg
   simp at h3
   omega
 have HVL:=hid hVlow
 have hS:∀W,Below w1.heap.size w1 W->w1.heap.size<W.heap.size->W.cell? ⟨w1.heap.size,0,none⟩=some (.slice p1 V.length c1) ->
  Calls Tryz.prog 54 #[.int .i64 (K.length:Int),.func (.func 143) #[] #[.pointer (some ⟨w.heap.size,0,none⟩),.pointer (some ⟨w1.heap.size,0,none⟩)]] W fun e w'=>e = .returned (.int .i64 (P.length:Int))/\Below W.heap.size W w':=by
  intro W hW hzW e0
  refine Zhw _ _ _ _ _ hat0 (by omega) W eg fun wx i hx hi => ?_
  rw [HP.out.1]
  refine Zq9 w.heap.size w1.heap.size q p1 cq c1 K V U[0] i wx ?_ ?_ HS.out hi hV0 HP.out.2 (by have:=hx.size;omega) (by have:=hx.size;omega) ?_ ?_
  ·exact (Row.of_own HO.out).below ((hw1.trans (hW.mono hw1.size)).trans (hx.mono (by have:=hw1.size;have:=hW.size;omega)))
  ·exact HV.out.below (hW.trans (hx.mono hW.size))
  ·exact (hx.cell (p:=⟨w.heap.size,0,none⟩) (by show w.heap.size<_;omega)).trans ((hW.cell (p:=⟨w.heap.size,0,none⟩) hz').trans k0)
  ·exact (hx.cell (p:=⟨w1.heap.size,0,none⟩) hzW).trans e0
 have HSE:=hid hS
 clear hS eg nc nf hVlow ho1 hb1
 go_wp2_with fail
 refine (HSE.out _ (by go_grown) (by simp) (by simp [go_sem])).mono ?_
 rintro e w2 ⟨rfl,hb2⟩
 have hw2:Below w1.heap.size w1 w2:=Below.trans (by go_grown) (hb2.mono (by simp))
 have o0:w2.cell? ⟨w1.heap.size,0,none⟩=some (.slice p1 V.length c1):=(hb2.cell (p:=⟨w1.heap.size,0,none⟩) (by simp)).trans (by simp [go_sem])
 have ko:=(hw2.cell (p:=⟨w.heap.size,0,none⟩) hz').trans k0
 have kof:∀j,w2.frozen? ⟨w.heap.size,j,none⟩=false:=fun j=>(hw2.frozen (p:=⟨w.heap.size,j,none⟩) hz').trans (kf j)
 have r3:=(hw2.cell (p:=⟨w.heap.size+1,3,none⟩) hz).trans r3
 have hzo:w1.heap.size<w2.heap.size:=Nat.lt_of_lt_of_le (by simp) hb2.size
 have HV2:=hid (HV.out.below hw2)
 have hwB:Below w.heap.size w w2:=hw1.trans (hw2.mono hw1.size)
 have HO2:=hid (own_below HO.out hwB)
 have hqlt:∀g,q=some ⟨g,0,none⟩->g<w.heap.size:=fun g hg=>by
  subst hg
  exact (HO.out.lt g rfl).2
 have HQ:=hid hqlt
 clear k0 kf HSE HV hb2 hqlt
 go_wp2
 go_loopg [25] V.length (fun kx s25 wr=>∃(i n:Nat) (q:Option Addr) (cq:Nat),s25 = .int .i64 (i:Int)/\V.length-i<=kx/\i<=V.length/\Hid (n=(F i).length)/\n<=1041000 /\
  Hid (wr.ownsRow B 41 4 (.slice q n cq) n (rcs (F i)))/\wr.cell? ⟨w.heap.size,0,none⟩=some (.slice q n cq)/\(∀j,wr.frozen? ⟨w.heap.size,j,none⟩=false) /\
  Hid (∀k,w.heap.size<k->k<w2.heap.size->wr.heap[k]? = w2.heap[k]?)/\w2.heap.size<=wr.heap.size/\Hid (∀g,q=some ⟨g,0,none⟩->g<w.heap.size\/w2.heap.size<=g)/\Below B w wr)
 case atStart=>
  refine ⟨0,K.length,q,cq,rfl,by omega,by omega,hid (by rw [HF0.out]),by omega,hid (by rw [HF0.out];exact HO2.out),ko,kof,hid (fun _ _ _=>rfl),Nat.le_refl _,hid (fun g hg => .inl (HQ.out g hg)),hwB.mono hB⟩
 case round=>
  clear ko kof HO2 HO HQ
  obtain ⟨i,n,q,cq,rfl,h1,h2,HN,hn,HOWN,kb,kf,HKEEP,hsz,HQG,hb⟩:=hrel
  by_cases hi:i<V.length
  ·have hiU:i<U.length:=by have:=HSL.out;omega
   obtain ⟨gv,ov,rfl,hgv,v0,v1,v2⟩:=HV2.out.at hi
   have hgv2:=HVL.out gv ov rfl
   have v0:=(Zgu HKEEP.out (by omega) hgv).trans v0
   have v1:=(Zgu HKEEP.out (by omega) hgv).trans v1
   have v2:=(Zgu HKEEP.out (by omega) hgv).trans v2
   have y3:=(Zgu (o:=3) HKEEP.out (show w.heap.size<w.heap.size+1 by omega) (by omega)).trans r3
   have hgv':gv<wr.heap.size:=by omega
   have hzk:w.heap.size<wr.heap.size:=by omega
   have hz1k:w.heap.size+1<wr.heap.size:=by omega
   have hUi:=HAT.out i hiU hi
   have hss:=HSET.out i hiU
   have haa:=HAPP.out i hiU
   rw [hUi] at haa
   have hfl:=HFL.out i (by omega)
   rw [<-HN.out] at hfl
   have i1:(0:Int)<=(i:Int):=by omega
   have i2:(i:Int)<(V.length:Int):=by omega
   generalize V[i]=pv at *
   obtain ⟨pa,pn⟩:=pv
   simp only at v0 v1 v2
   unfold kyP at haa hUi
   simp only at haa hUi
   have HOa:=hid (HOWN.out.alloc (.cells #[.int .u64 (hiW pa:Nat),.int .u64 (loW pa:Nat),.int .i64 pn] 39))
   rcases HMl.out with hm | ⟨hm1,hm2⟩
   ·have hlt:P.length+i<n:=by omega
    have hlt2:P.length+i<(F i).length:=by rw [<-HN.out];exact hlt
    have hss:=hss hlt2 hm
    obtain ⟨g,c5,cur5,eq4,hB5,hg5,-,-,-,-,-⟩:=Zbk HOWN.out (by omega)
    injection eq4 with eq4 _ eq6
    subst eq4 eq6
    have hrow:=(Row.of_own HOWN.out).rt hlt2
    obtain ⟨g',o',eq5,-,-,-,-,x3⟩:=hrow
    injection eq5 with eq5
    injection eq5 with eg eo
    subst eg eo
    simp only [Nat.zero_add] at x3
    have f3:=HOWN.out.frozenAt ((P.length+i)*4+3)
    have hs3:=HOWN.out.stored ((P.length+i)*4+3) (.int .i64 v)
    have hown6:=hs3.1
    rw [Zob (F i) (P.length+i) v hlt2,<-hss] at hown6
    have HO6:=hid (hown6.alloc (.cells #[.int .u64 (hiW pa:Nat),.int .u64 (loW pa:Nat),.int .i64 pn] 39))
    have HSS:=hid hss
    have hgq:=HQG.out g rfl
    have hne:((P.length:Int)+(i:Int) == (n:Int))=false:=by
     rw [beq_eq_false_iff_ne]
     omega
    have j1:(0:Int)<=(P.length:Int)+(i:Int):=by omega
    have j2:(P.length:Int)+(i:Int)<(n:Int):=by omega
    clear hs3 hown6 hss haa hfl hm
    generalize (F i)[P.length+i]=xx at *
    go_wp2
    go_roundg (V.length-(i+1))
    case measure=>omega
    case rel=>
     have hgw:g≠w.heap.size:=by omega
     refine ⟨i+1,n,some ⟨g,0,none⟩,cq,by go_num,by omega,by omega,hid (by rw [HSS.out,List.length_set];exact HN.out),hn,HO6,?_,?_,hid (fun k k1 k2 => ?_),by simp;omega,HQG,?_⟩
     ·simp [go_sem,hgw,hgw.symm,hzk,kb]
     ·intro j
      simp [go_sem,hgw,hgw.symm,hzk,kf]
     ·rw [Below.heap_alloc _ _ _ (by simp;omega),Below.heap_setCell _ _ _ _ (by show k≠g;omega)]
      exact HKEEP.out k k1 k2
     ·exact (hb.setCell hB5 _).alloc (by simp;have:=hw1.size;omega) _
   ·have hob:∀k,(Value.slice q n cq).ownBlock=some k->(k<w.heap.size\/w2.heap.size<=k)/\B<=k:=by
     intro k hk
     have h:=HOWN.out.lt k hk
     refine ⟨?_,h.1⟩
     rcases HOWN.out.2 with ⟨e,_⟩ | ⟨blk,cap,cur,e,_⟩
     ·rw [e] at hk
      simp [Value.ownBlock] at hk
     ·injection e with e
      rw [e] at hk
      simp [Value.ownBlock] at hk
      subst hk
      exact HQG.out _ e
    have hBw:=hb.size
    have haa:=haa hm1 hm2
    have HAA:=hid haa
    have hne:((P.length:Int)+(i:Int) == (n:Int))=true:=by
     rw [beq_iff_eq]
     omega
    have HOb:=hid (HOa.out.alloc (.cells #[.int .u64 (hiW pa:Nat),.int .u64 (loW pa:Nat),.int .i64 pn,.int .i64 0] 41))
    have HNP:Hid (P.length+i=(F i).length):=by
     have:=HN.out
     exact hid (by omega)
    have hown2:Hid (((wr.alloc (.cells #[.int .u64 (hiW pa:Nat),.int .u64 (loW pa:Nat),.int .i64 pn] 39)).alloc (.cells #[.int .u64 (hiW pa:Nat),.int .u64 (loW pa:Nat),.int .i64 pn,.int .i64 0] 41)).ownsRow B 41 4 (.slice q n cq) (F i).length (rcs (F i))):=by
     have h:=HOb.out
     rw [HN.out] at h ⊢
     exact hid h
    have hsrc:Hid (∀j u,(rcs [⟨⟨hiW pa,loW pa,pn⟩,0⟩])[j]? = some u->((wr.alloc (.cells #[.int .u64 (hiW pa:Nat),.int .u64 (loW pa:Nat),.int .i64 pn] 39)).alloc (.cells #[.int .u64 (hiW pa:Nat),.int .u64 (loW pa:Nat),.int .i64 pn,.int .i64 0] 41)).cell? ((⟨wr.heap.size+1,0,none⟩:Addr).add j)=some u):=by
     rw [Zgc]
     exact hid (Zb9 (by simp [go_sem]) (by simp [go_sem]) (by simp [go_sem]) (by simp [go_sem]))
    have hnl:(F i).length<=1041000:=by
     rw [<-HN.out]
     exact hn
    have HNL:=hid hnl
    have hn1:n<=P.length+i:=by omega
    have hn2:P.length+i<=n:=by omega
    have HOBK:=hid hob
    clear hob haa hss hnl HOb HOa hm1 hm2 hfl
    go_wp2_with (at_builtin;go_loud (refine Zbf rfl (.tmp 36) (.tmp 39) rfl B _ (F i) [⟨⟨hiW pa,loW pa,pn⟩,0⟩] (F i++[⟨⟨hiW pa,loW pa,pn⟩,0⟩]) rfl rfl ⟨wr.heap.size+1,0,none⟩ 1 rfl hown2.out hsrc.out (by have:=HNL.out;simp;omega) (by simp;omega) ?_))
    intro v9 w9 hown9 hg9 hat9
    obtain ⟨gb,c9,cur9,rfl,hB9,hgb,-,-,-,-,-⟩:=Zbk hown9 (by simp)
    have hgs:=hg9.size
    simp only [World.size_alloc] at hgs
    have hblk:∀k,w.heap.size<=k->k<w2.heap.size->w9.heap[k]? = wr.heap[k]? := fun k k1 k2=>by
     have h:=hg9.block k (by simp;omega) (fun e=>by
      rcases (HOBK.out k e.symm).1 with h | h<;>omega)
     rw [h,Below.heap_alloc _ _ _ (by simp;omega),Below.heap_alloc _ _ _ (by omega)]
    have hgbs:gb<w.heap.size\/w2.heap.size<=gb:=by
     rcases hat9 with h | h
     ·exact (HOBK.out gb (by rw [<-h];rfl)).1
     ·simp [Value.ownBlock] at h
      omega
    have hgw:gb≠w.heap.size:=by omega
    have hgw':w.heap.size≠gb:=by omega
    have kb9:=(World.cell?_of_block (a:=⟨w.heap.size,0,none⟩) (hblk w.heap.size (Nat.le_refl _) (by omega))).trans kb
    have kf9:=fun j=>(World.frozen?_of_block (a:=⟨w.heap.size,j,none⟩) (hblk w.heap.size (Nat.le_refl _) (by omega))).trans (kf j)
    have y3:=(World.cell?_of_block (a:=⟨w.heap.size+1,3,none⟩) (hblk (w.heap.size+1) (by omega) (by omega))).trans y3
    have hb9:Below B w w9:=Below.grown ((hb.alloc (by omega) _).alloc (by simp;omega) _) hg9 (by simp;omega) (fun k e=>(HOBK.out k e).2)
    have hlt9:P.length+i<(F i++[(⟨⟨hiW pa,loW pa,pn⟩,0⟩:Rt)]).length:=by
     have:=HNP.out
     simp
     omega
    obtain ⟨g',o',eq5,-,-,-,-,x3⟩:=(Row.of_own hown9).rt hlt9
    injection eq5 with eq5
    injection eq5 with eg eo
    subst eg eo
    simp only [Nat.zero_add] at x3
    have f3:=hown9.frozenAt ((P.length+i)*4+3)
    have hown10:=((ownsRow_setCell_other hown9 (a:=⟨w.heap.size,0,none⟩) (by simp [Value.ownBlock,hgw]) (.slice (some ⟨gb,0,none⟩) (F i++[(⟨⟨hiW pa,loW pa,pn⟩,0⟩:Rt)]).length c9)).stored ((P.length+i)*4+3) (.int .i64 v)).1
    rw [Zob _ _ v hlt9,Z64 _ _ _ _ HNP.out,<-HAA.out] at hown10
    have hm9:(F i++[(⟨⟨hiW pa,loW pa,pn⟩,0⟩:Rt)]).length=(F (i+1)).length:=by rw [HAA.out];simp
    have hL9:(F i++[(⟨⟨hiW pa,loW pa,pn⟩,0⟩:Rt)]).length=(F i).length+1:=by simp
    obtain ⟨m,hm⟩:∃m,m=(F i).length+1:=⟨_,rfl⟩
    generalize hxx:(F i++[(⟨⟨hiW pa,loW pa,pn⟩,0⟩:Rt)])[P.length+i]=xx at *
    rw [hL9,<-hm] at hown10 hm9 hlt9
    rw [<-hm]
    clear hxx hL9
    have hm1:m<=1041000:=by
     rw [hm9,HFL.out (i+1) (by omega)]
     omega
    have HO10:=hid hown10
    have HM:=hid hm9
    have HBLK:=hid hblk
    have j1:(0:Int)<=(P.length:Int)+(i:Int):=by omega
    have j2:(P.length:Int)+(i:Int)<(m:Int):=by omega
    clear hm hm9 hown10 hown9 hg9 hat9 hblk hlt9
    go_wp2
    go_roundg (V.length-(i+1))
    case measure=>omega
    case rel=>
     refine ⟨i+1,m,some ⟨gb,0,none⟩,c9,by go_num,by omega,by omega,HM,hm1,HO10,?_,?_,hid (fun k k1 k2 => ?_),by simp;omega,hid (fun g hg => ?_),?_⟩
     ·rw [World.cell?_setCell_other _ _ _ _ (by rintro e;injection e with e1 e2;exact hgw e1)]
      exact World.cell?_setCell_same _ _ _ kb9
     ·intro j
      rw [World.frozen?_setCell,World.frozen?_setCell]
      exact kf9 j
     ·rw [Below.heap_setCell _ _ _ _ (by show k≠gb;omega),Below.heap_setCell _ _ _ _ (by show k≠w.heap.size;omega),HBLK.out k (by omega) k2]
      exact HKEEP.out k k1 k2
     ·injection hg with hg
      injection hg with hg
      subst hg
      exact hgbs
     ·exact (hb9.setCell (by show B<=w.heap.size;omega) _).setCell hB9 _
  ·have hiU:i=U.length:=by have:=HSL.out;omega
   have HNF:Hid (n=(F U.length).length):=by rw [<-hiU];exact HN
   have HOF:Hid (wr.ownsRow B 41 4 (.slice q n cq) n (rcs (F U.length))):=by rw [<-hiU];exact HOWN
   have hzk:w.heap.size<wr.heap.size:=by omega
   clear HN HOWN hiU
   go_wp2
   go_ret
   refine ⟨q,cq,by rw [<-HNF.out];rfl,?_,hb⟩
   rw [<-HNF.out]
   exact HOF.out
end Go.Proofs.YtgfjmgebecmbiaaGreat
