import Derived.Test.YtgfjmgebecmbiaaGreatM20
import Derived.Test.YtgfjmgebecmbiaaGreatW18
set_option linter.unusedSimpArgs false
set_option linter.unusedVariables false
set_option maxHeartbeats 4000000
namespace Go.Proofs.YtgfjmgebecmbiaaGreat
open Lib(hid)
open Go Go.RowKit Go.Sort M
theorem Z4v:(Tryz.prog.info? 123).map (fun i=>(i.zero,i.size,i.bytes))=some (some (.agg #[.int .i64 0,.bool false]),2,16):=by kernel_rfl
set_option maxRecDepth 100000 in
theorem Ziq (t m:Nat) (ah al:Nat) (w:World) (ha:W64 ah) (hb:W64 al) (hm:m<=8) (c0:w.cell? ⟨t,0,none⟩=some (.int .i64 (m:Int))) (hl:t<w.heap.size) :
 Calls Tryz.prog 70 #[.pointer (some ⟨t,0,none⟩),.agg #[.int .u64 (ah:Int),.int .u64 (al:Int)]] w fun e w'=>e = .returned (.int .i64 (numA ah m:Int))/\Below w.heap.size w w':=by
 have hn:=Zq3 ha (show m<=64 by omega)
 have h2:2^m<=2^8:=Nat.pow_le_pow_right (by decide) hm
 obtain ⟨k,hk⟩:∃k:Int,k=(m:Int):=⟨_,rfl⟩
 have hk0:0<=k:=by omega
 have hk8:k<=8:=by omega
 have hN:(ah:Int)/2^(64-k).toNat=(numA ah m:Int):=by
  unfold numA
  rw [show (64-k).toNat=64-m by omega]
  simp
 rw [<-hk] at c0
 have HN:=hid hN
 have HB:Hid (numA ah m<256):=hid (by omega)
 have HK:=hid hk
 clear hk hN hn h2 hm
 go_enter Tryz.func70,Tryz.ntmps70
 go_wp2
 go_region
 go_wp2
 go_ret
 refine ⟨Zbb ?_,by go_grown⟩
 have hb:=HB.out
 rw [HN.out,IntWalk.wrap64_in _ (by omega)]
set_option maxRecDepth 100000 in
theorem Zj2 (t c:Nat) (p:Option Addr) (w:World) (c1:w.cell? ⟨t,1,none⟩=some (.slice p c c)) (hl:t<w.heap.size) :
 Calls Tryz.prog 69 #[.pointer (some ⟨t,0,none⟩)] w fun e w'=>e = .returned (.int .i64 (c:Int))/\Below w.heap.size w w':=by
 go_enter Tryz.func69,Tryz.ntmps69
 go_wp2
 go_ret
 exact ⟨rfl,by go_grown⟩
theorem DirP.new (w:World) (m c:Nat) (x:Int) (hm:m<=8) (hc:c=2^m) (hx:x=(m:Int)) (te ts:TypeId) :
 DirP ((w.alloc (.cells (madeCells #[.int .i64 0,.bool false] (c*2)) te)).alloc (.cells #[.int .i64 x,.slice (some ⟨w.heap.size,0,none⟩) c c] ts)) (In w.heap.size (w.heap.size+2)) (w.heap.size+1) m []:=by
 subst hc hx
 refine ⟨⟨by omega,by omega⟩,by simp,hm,by simp [go_sem],by simp [go_sem],w.heap.size,⟨by omega,by omega⟩,by simp;omega,by omega,by simp [go_sem],fun i hi => ?_⟩
 obtain ⟨h1,h2⟩:=PlOk.start [] m
 obtain ⟨v,b,q1,q2,q3⟩:=h2 i hi
 have e:∀x:Nat,dirK [] x 0 m=none:=fun x=>Z6p _ _ _
 unfold dirV
 rw [e]
 have q4:v=0/\b=false:=by
  rcases q3 with ⟨⟨r,hr,-⟩,-⟩ | ⟨-,q⟩
  ·simp at hr
  ·exact q
 obtain ⟨rfl,rfl⟩:=q4
 have n1:=Zeq w (madeCells #[.int .i64 0,.bool false] (2^m*2)) te (i*2) _ q1
 have n2:=Zeq w (madeCells #[.int .i64 0,.bool false] (2^m*2)) te (i*2+1) _ q2
 have ea:∀j:Nat,(⟨w.heap.size,0,none⟩:Addr).add j=⟨w.heap.size,j,none⟩:=fun j=>by unfold Addr.add;split<;>simp_all
 rw [ea] at n1 n2
 exact ⟨(World.cell?_alloc_lt _ _ ⟨w.heap.size,i*2,none⟩ (by simp)).trans n1,(World.cell?_alloc_lt _ _ ⟨w.heap.size,i*2+1,none⟩ (by simp)).trans n2⟩
set_option maxRecDepth 100000 in
theorem Zyg (n:Int) (w:World):Calls Tryz.prog 24 #[.int .i64 n] w fun e w'=>∃t,e = .returned (.pointer (some ⟨t,0,none⟩))/\Below w.heap.size w w'/\DirP w' (In w.heap.size w'.heap.size) t (Zgk n) []:=by
 have hm:=Z33 n
 have hx:max 0 (min n 8)=(Zgk n:Int):=by rw [<-cap8 n];split<;>(try split)<;>omega
 obtain ⟨m,hme⟩:∃m,m=Zgk n:=⟨_,rfl⟩
 rw [<-hme] at hm hx ⊢
 have h2:2^m<=2^8:=Nat.pow_le_pow_right (by decide) hm
 obtain ⟨c,hc⟩:∃c,c=2^m:=⟨_,rfl⟩
 rw [<-hc] at h2
 have he:(c:Int)=wrap64 (2^(max 0 (min n 8)).toNat):=by
  rw [hx,Int.toNat_natCast,show (2:Int)^m=(c:Int) by rw [hc];simp,IntWalk.wrap64_in _ (by omega)]
 have hmk:=Zcm (P:=Tryz.prog) (t:=94) Tryz.underlying94 Z4v c (by omega) (by unfold maxLen;omega)
 simp only [Value.cells] at hmk
 rw [he] at hmk
 have HM:=hid hm
 have HC:=hid hc
 have HX:=hid hx
 clear hm hc hx he hme h2
 go_enter Tryz.func24,Tryz.ntmps24
 go_wp2
 go_ret
 have hD:=DirP.new w m c _ HM.out HC.out HX.out 123 96
 refine ⟨_,rfl,by go_grown,?_⟩
 simp only [World.size_alloc]
 exact hD
def gD20 (q h:Nat) (v:Int) (b:Bool) (z:Nat) (i:Nat) (u:Value) (W:World):Prop:=
 match i with
 | 6=>u = .int .i64 (q:Int)
 | 7=>u = .pointer (some ⟨h,q*2,none⟩)
 | 8=>u = .agg #[.int .i64 v,.bool b]
 | 9=>∃B,u = .pointer (some ⟨B,0,none⟩)/\z<=B/\B<W.heap.size/\W.heap[B]? = some (.cells #[.int .i64 0,.bool false] 123 (0,0))
 | _=>True
theorem Zrk (q h:Nat) (v:Int) (b:Bool) (z:Nat):∀i u W W',Below W.heap.size W W'->gD20 q h v b z i u W->gD20 q h v b z i u W':=by
 intro i u W W' hb hd
 unfold gD20 at *
 split at hd<;>first|exact hd|skip
 obtain ⟨B,h1,h2,h3,h4⟩:=hd
 exact ⟨B,h1,h2,Nat.lt_of_lt_of_le h3 hb.size,by rw [hb.block B h3];exact h4⟩
set_option maxRecDepth 100000 in
theorem Zzj (w:World) (K:Nat->Prop) (t m:Nat) (L:List Rt) (ah al:Nat) (H:DirP w K t m L) (ha:W64 ah) (hb:W64 al) :
 Calls Tryz.prog 40 #[.pointer (some ⟨t,0,none⟩),.agg #[.int .u64 (ah:Int),.int .u64 (al:Int)]] w fun e w'=>e = .returned (dirA L ah al m)/\Below w.heap.size w w':=by
 obtain ⟨h,-,hh,-,c1,hc⟩:=H.row
 have c0:=H.bits
 have hl:=H.lt
 have hm:=H.le
 have hn:=Zq3 ha (show m<=64 by omega)
 obtain ⟨d0,d1⟩:=hc _ hn
 rw [<-Zz2 L hb hm] at d1
 have e:dirV L (numA ah m*2^(64-m)) 0 m=dirV L ah al m:=by unfold dirV;rw [<-Zz2 L hb hm]
 rw [e] at d0
 unfold dirA
 have h2:2^m<=2^8:=Nat.pow_le_pow_right (by decide) hm
 have hp:=Nat.two_pow_pos m
 obtain ⟨c,hc2⟩:∃c,c=2^m:=⟨_,rfl⟩
 rw [<-hc2] at c1 hn h2 hp
 have HNUM:Hid (∀W,Below w.heap.size w W->Calls Tryz.prog 70 #[.pointer (some ⟨t,0,none⟩),.agg #[.int .u64 (ah:Int),.int .u64 (al:Int)]] W fun e w'=>e = .returned (.int .i64 (numA ah m:Int))/\Below W.heap.size W w'):=
  hid (fun W hW=>Ziq t m ah al W ha hb hm ((hW.cell (p:=⟨t,0,none⟩) hl).trans c0) (Nat.lt_of_lt_of_le hl hW.size))
 have HLEN:Hid (∀W,Below w.heap.size w W->Calls Tryz.prog 69 #[.pointer (some ⟨t,0,none⟩)] W fun e w'=>e = .returned (.int .i64 (c:Int))/\Below W.heap.size W w'):=
  hid (fun W hW=>Zj2 t c _ W ((hW.cell (p:=⟨t,1,none⟩) hl).trans c1) (Nat.lt_of_lt_of_le hl hW.size))
 generalize numA ah m=q at *
 generalize dirV L ah al m=v at *
 generalize (dirK L ah al m).isSome=b at *
 have hc0:((c:Int) == 0)=false:=by simp;omega
 clear H hc hc2 e c0 hm ha hb
 go_enter Tryz.func40,Tryz.ntmps40
 go_wp2_with fail
 refine (HLEN.out _ (by go_grown)).mono ?_
 rintro e w1 ⟨rfl,hb1⟩
 have hw1:Below w.heap.size w w1:=Below.trans (by go_grown) (hb1.mono (by simp))
 have x0:w1.cell? ⟨w.heap.size,0,none⟩=some (.int .u64 ah):=by
  rw [hb1.cell (by simp<;>omega)]
  first|assumption|(simp [go_sem];done)|(simp [go_sem, *];done)
 have x1:w1.cell? ⟨w.heap.size,1,none⟩=some (.int .u64 al):=by
  rw [hb1.cell (by simp<;>omega)]
  first|assumption|(simp [go_sem];done)|(simp [go_sem, *];done)
 have hz:w.heap.size<w1.heap.size:=by have:=hb1.size;simp at this;omega
 have c1:=(hw1.cell (p:=⟨t,1,none⟩) hl).trans c1
 have d0:=(hw1.cell (p:=⟨h,q*2,none⟩) hh).trans d0
 have d1:=(hw1.cell (p:=⟨h,q*2+1,none⟩) hh).trans d1
 have hl1:=Nat.lt_of_lt_of_le hl hw1.size
 have hh1:=Nat.lt_of_lt_of_le hh hw1.size
 clear hb1 HLEN
 go_wp2_with fail
 have kg:=Zaa
 refine wp_region_noPanic ?_
 generalize hNQ:NoPanic _=NQ
 refine Zhy [0,1,2,4] [3,5] [(6,16,[]),(7,17,[(6,16)]),(8,18,[(7,17)]),(9,6,[])] [10] (gD20 q h v b w.heap.size) (Zrk _ _ _ _ _) (by kernel_rfl) (by rw [<-hNQ];exact fun _ _ _ h=>h) (by kernel_rfl) (by kernel_rfl) (by kernel_rfl) ?_
 simp only [Zah,List.filterMap_cons,List.filterMap_nil,List.getElem?_toArray,List.getElem?_cons_succ,List.getElem?_cons_zero]
 repeat (any_goals (quiet_step (fail)))
 refine wpQuiet_nil ?_
 clear kg
 refine ⟨by rfl,⟨?_,?_,?_,?_,trivial⟩,?_⟩
 ·intro W hW K hK o ho
  injection ho with ho
  subst ho
  go_simp
  go_at_call 70
  refine (HNUM.out _ (hw1.trans (hW.mono hw1.size))).mono ?_
  rintro e w3 ⟨rfl,hb3⟩
  exact hK _ _ hb3 rfl
 ·intro W hW v6 h6 K hK o ho
  injection ho with ho
  subst ho
  obtain rfl:v6=_:=h6
  go_simp
  exact hK _ _ (Below.refl _ _) rfl
 ·intro W hW v7 h7 K hK o ho
  injection ho with ho
  subst ho
  obtain rfl:v7=_:=h7
  have d0:=(hW.cell (p:=⟨h,q*2,none⟩) hh1).trans d0
  have d1:=(hW.cell (p:=⟨h,q*2+1,none⟩) hh1).trans d1
  go_simp
  exact hK _ _ (Below.refl _ _) rfl
 ·intro W hW K hK o ho
  injection ho with ho
  subst ho
  go_simp
  exact hK _ _ ((Below.refl _ _).alloc (Nat.le_refl _) _) ⟨_,rfl,Nat.le_trans hw1.size hW.size,by simp,heap_alloc_new _ _⟩
 ·intro W hW v6 h6 v7 h7 v8 h8 v9 h9
  obtain rfl:v8=_:=h8
  obtain ⟨B,rfl,hB1,hB2,hBh⟩:=h9
  have b0:W.cell? ⟨B,0,none⟩=some (.int .i64 0):=cell_of_row W B 0 _ _ _ hBh
  have b1:W.cell? ⟨B,1,none⟩=some (.bool false):=cell_of_row W B 1 _ _ _ hBh
  have bf:∀j,W.frozen? ⟨B,j,none⟩=false:=fun j=>by simp [World.frozen?,hBh]
  have hwW:=hw1.trans (hW.mono hw1.size)
  show wpList _ _ _ _ _ _
  simp only [Zah,List.filterMap_cons,List.filterMap_nil,List.getElem?_toArray,List.getElem?_cons_succ,List.getElem?_cons_zero]
  clear h6 h7 hBh
  subst hNQ
  go_wp2_with fail
  refine NoPanic.normal ?_
  go_wp2
  go_region
  go_wp2
  go_ret2
  exact ⟨rfl,by go_grown⟩
theorem Zus (N:List Rt) (low high:Int) (hg:∀r∈N,r.k.good):(setS N low high).length<=256*N.length:=by
 unfold setS
 split
 ·have e1:=Zzs N low (Zbd N low high)
  have e2:=Zew N low high hg N.length (Nat.le_refl _)
  rw [List.take_length] at e2
  unfold fS at e1
  omega
 ·simp
theorem Zjk (w:World) (p:Addr) (v:Value):Touch (· = p.block) w (w.setCell p v):=
 ⟨rfl,rfl,rfl,by rw [World.size_setCell];exact Nat.le_refl _,fun k _ hk=>Below.heap_setCell w p _ k hk⟩
theorem Zva {w:World} {B n k:Nat} {e:TypeId} {v:Value} {xs:List Value} (h:w.ownsRow B e k v n xs) (g a b:Nat) (u0 u1:Value) (hg:g<B):((w.setCell ⟨g,a,none⟩ u0).setCell ⟨g,b,none⟩ u1).ownsRow B e k v n xs:=
 Touch.own h ((Zjk w ⟨g,a,none⟩ u0).trans (Zjk _ ⟨g,b,none⟩ u1)) (fun j hj e=>by have h3:=(h.lt j hj).1;subst e;exact absurd h3 (by omega))
theorem Zhr (w:World) (t:Nat) (v:Value):Touch (· = t) w (w.setCell ⟨t,1,none⟩ v):=
 ⟨rfl,rfl,rfl,by rw [World.size_setCell];exact Nat.le_refl _,fun k _ hk=>Below.heap_setCell w ⟨t,1,none⟩ _ k hk⟩
theorem Z7q {w:World} {B g n c:Nat} {e:TypeId} {xs:List Value} (h:w.ownsRow B e 2 (.slice (some ⟨g,0,none⟩) n c) n xs) (k:Nat) (u0 u1:Value) :
 ((w.setCell ⟨g,k*2,none⟩ u0).setCell ⟨g,k*2+1,none⟩ u1).ownsRow B e 2 (.slice (some ⟨g,0,none⟩) n c) n ((xs.set (k*2) u0).set (k*2+1) u1):=
 ((h.stored _ _).1.stored _ _).1
set_option maxRecDepth 100000 in
theorem Zv0 (w:World) (K:Nat->Prop) (t m:Nat) (L0 L:List Rt) (p:Option Addr) (c:Nat) (H:DirP w K t m L0) (hR:Row w p (rcs L)) (hg:∀x∈L,x.k.good) (hp:p=none->c=0) (hcap:L.length<=c) (hl:L.length<=4000) :
 Calls Tryz.prog 59 #[.pointer (some ⟨t,0,none⟩),.slice p L.length c] w fun e w'=>e = .returned (.tuple #[])/\∃K',DirP w' K' t m L/\Touch K w w'/\∀g,K' g->K g\/In w.heap.size w'.heap.size g:=by
 obtain ⟨h,-,hh,-,c1,-⟩:=H.row
 have c0:=H.bits
 have hlt:=H.lt
 have hm:=H.le
 have f1:=H.f
 have hkt:=H.kt
 have h2:2^m<=2^8:=Nat.pow_le_pow_right (by decide) hm
 have hpw:=Nat.two_pow_pos m
 have hgN:∀r∈Zap L,r.k.good:=fun x hx=>hg x (Zc5 hx)
 have hML:=Zus (Zap L) (-1) (m:Int) hgN
 have hSL:=Zdi L
 have hMg:∀r∈setS (Zap L) (-1) (m:Int),r.k.good/\numA r.k.h m<2^m:=fun r hr=>by
  obtain ⟨-,h6,-⟩:=(Zdm _ _ _ _).1 hr
  obtain ⟨-,k2,-⟩:=Zy3 (low := -1) (high:=(m:Int)) (i:=(Zap L).length) hgN (by rw [List.take_of_length_le (Nat.le_refl _)];exact h6)
  exact ⟨k2,Zq3 k2.1 (by omega)⟩
 have hdone:=fun xs=>PlOk.done hg hm (xs:=xs)
 have hstart:=PlOk.start (setS (Zap L) (-1) (m:Int)) m
 have hnext:=fun j xs (H:PlOk (setS (Zap L) (-1) (m:Int)) m j xs) hj hn=>H.next hj hn
 have hset:=fun W (hW:Below w.heap.size w W)=>Zxg p c L (-1) (m:Int) W (hR.below hW) hg hp hcap hl
 obtain ⟨M,hM⟩:∃M,M=setS (Zap L) (-1) (m:Int):=⟨_,rfl⟩
 rw [<-hM] at hML hMg hdone hstart hnext hset
 obtain ⟨n,hn⟩:∃n,n=2^m:=⟨_,rfl⟩
 rw [<-hn] at c1 h2 hpw hMg hdone hstart hnext
 have HNUM:Hid (∀W (ah al:Nat),Below w.heap.size w W->W64 ah->W64 al->Calls Tryz.prog 70 #[.pointer (some ⟨t,0,none⟩),.agg #[.int .u64 (ah:Int),.int .u64 (al:Int)]] W fun e w'=>e = .returned (.int .i64 (numA ah m:Int))/\Below W.heap.size W w'):=
  hid (fun W ah al hW ha hb=>Ziq t m ah al W ha hb hm ((hW.cell (p:=⟨t,0,none⟩) hlt).trans c0) (Nat.lt_of_lt_of_le hlt hW.size))
 have HLEN:Hid (∀W,Below w.heap.size w W->Calls Tryz.prog 69 #[.pointer (some ⟨t,0,none⟩)] W fun e w'=>e = .returned (.int .i64 (n:Int))/\Below W.heap.size W w'):=
  hid (fun W hW=>Zj2 t n _ W ((hW.cell (p:=⟨t,1,none⟩) hlt).trans c1) (Nat.lt_of_lt_of_le hlt hW.size))
 have HSET:=hid hset
 have HD:=hid hdone
 have HST:=hid hstart
 have HNX:=hid hnext
 have HMG:=hid hMg
 have HN:=hid hn
 have HM8:Hid (m<=8):=hid hm
 have HMLB:Hid (M.length<=1048576):=hid (by omega)
 have hn0:((n:Int) == 0)=false:=by simp;omega
 have hmk:=Zcm (P:=Tryz.prog) (t:=94) Tryz.underlying94 Z4v n (by omega) (by unfold maxLen;omega)
 have HR0:=hid (fun W (hW:Below w.heap.size w W)=>(hW.cell (p:=⟨t,0,none⟩) hlt).trans c0)
 have HR1:=hid (fun W (hW:Below w.heap.size w W)=>(hW.cell (p:=⟨t,1,none⟩) hlt).trans c1)
 have HF1:=hid (fun W (hW:Below w.heap.size w W)=>(hW.frozen (p:=⟨t,1,none⟩) hlt).trans f1)
 clear H hR hg hp hgN hML hSL hMg hdone hstart hnext hset hM hn hm hl hcap c1 f1 hh
 go_enter Tryz.func59,Tryz.ntmps59
 go_wp2_with fail
 refine (HLEN.out _ (by go_grown)).mono ?_
 rintro e w1 ⟨rfl,hb1⟩
 have hw1:Below w.heap.size w w1:=Below.trans (by go_grown) (hb1.mono (by simp))
 clear hb1
 go_wp2_with fail
 refine (HLEN.out _ hw1).mono ?_
 rintro e w2 ⟨rfl,hb2⟩
 have hw2:=hw1.trans (hb2.mono hw1.size)
 have hz2:=hw2.size
 clear hb2 hw1
 obtain ⟨W3,hW3⟩:∃W3,W3=w2.alloc (.cells (madeCells #[.int .i64 0,.bool false] (n*2)) 123):=⟨_,rfl⟩
 have hown:W3.ownsRow w.heap.size 123 2 (.slice (some ⟨w2.heap.size,0,none⟩) n n) n (madeCells #[.int .i64 0,.bool false] (n*2)).toList:=by
  rw [hW3]
  exact World.ownsRow_lit _ _ n hz2 (by unfold maxLen;omega) (by simp [madeCells])
 have hw3:Below w.heap.size w W3:=by rw [hW3];exact hw2.alloc hz2 _
 have cb:=HR0.out _ hw3
 have hl3:=Nat.lt_of_lt_of_le hlt hw3.size
 rw [hW3] at cb hl3
 go_wp2_with fail
 rw [<-hW3]
 refine (HSET.out _ hw3).mono ?_
 rintro e w4 ⟨p1,c4,rfl,ho1,hb4⟩
 have hB3:w2.heap.size<W3.heap.size:=by rw [hW3];simp
 obtain ⟨B3,hB3e⟩:∃B3,B3=W3.heap.size:=⟨_,rfl⟩
 rw [<-hB3e] at hB3 ho1
 have HRO:=hid ho1
 have hown:=own_below hown hb4
 have hw4:=hw3.trans (hb4.mono hw3.size)
 clear ho1 hb4 hw3 hW3 hw2 cb hl3 hB3e
 have hz4:w2.heap.size<w4.heap.size:=(hown.lt _ rfl).2
 go_wp2
 go_loopw [20] (fun i wr=>∃(j:Nat) (xs:List Value),j<=M.length/\i = .int .i64 (j:Int)/\wr.ownsRow w.heap.size 123 2 (.slice (some ⟨w2.heap.size,0,none⟩) n n) n xs/\Hid (PlOk M m j xs) /\
  Below w.heap.size w wr/\Hid (wr.ownsRow B3 41 4 (.slice p1 M.length c4) M.length (rcs M))) (fun i _=>M.length-(intOf i).toNat)
 case atStart=>exact ⟨0,_,Nat.zero_le _,rfl,hown,hid (by exact HST.out),hw4,HRO⟩
 case round=>
  clear hown hw4 HRO
  obtain ⟨j,xs,hj,rfl,hown,HP,hw,HRW⟩:=hrel
  have hmlb:=HMLB.out
  have hxl0:=hown.1
  by_cases hlt2:j<M.length
  ·obtain ⟨g,o,rfl,hgs,x0,x1,x2,x3⟩:=(Row.of_own HRW.out).rt hlt2
   obtain ⟨⟨hg1,hg2⟩,hq⟩:=HMG.out _ (List.getElem_mem hlt2)
   have hx:=HNX.out j xs HP.out hlt2
   generalize M[j]=r at *
   obtain ⟨⟨kh,kl,kn⟩,v⟩:=r
   simp only at x0 x1 x2 x3 hg1 hg2 hq hx
   have hx:=hid (hx hq)
   have hnum:=fun W (hW:Below w.heap.size w W)=>HNUM.out W kh kl hW hg1 hg2
   obtain ⟨q,hqe⟩:∃q,q=numA kh m:=⟨_,rfl⟩
   rw [<-hqe] at hq hx hnum
   have HNUM2:=hid hnum
   clear hnum hqe
   have hzr:=hw.size
   have hgz:=hown.lt _ rfl
   have hwr3:Below w.heap.size w (wr.alloc (.cells #[.int .u64 (kh:Int),.int .u64 (kl:Int),.int .i64 kn,.int .i64 v] 41)):=hw.alloc hzr _
   go_wp2_with fail
   have kg:=Zaa
   refine Zaj 9 (by kernel_rfl) (by kernel_rfl) ?_
   simp only [List.take_succ_cons,List.take_zero,List.drop_succ_cons,List.drop_zero]
   repeat (any_goals (first|go_big_quiet_step ((exact Calls.regrown_of (HNUM2.out _ (hwr3.trans ((below_regrown _ _ _).mono hwr3.size)))))|quiet_step ((exact Calls.regrown_of (HNUM2.out _ (hwr3.trans ((below_regrown _ _ _).mono hwr3.size)))))))
   refine wpQuiet_nil ?_
   clear kg
   intro w5 hb5
   obtain ⟨hc5,hf5⟩:=Zaf hb5
   have hb5w:Below wr.heap.size wr w5:=Below.trans (by go_grown) (hb5.mono (by simp))
   have hown5:=own_below hown hb5w
   have hxl:xs.length=n*2:=hown5.1
   obtain ⟨v0,d0⟩:∃v,w5.cell? ⟨w2.heap.size,q*2,none⟩=some v:=⟨_,(hown5.cellAt (q*2) (by omega)).trans (List.getElem?_eq_getElem (by omega))⟩
   obtain ⟨v1,d1⟩:∃v,w5.cell? ⟨w2.heap.size,q*2+1,none⟩=some v:=⟨_,(hown5.cellAt (q*2+1) (by omega)).trans (List.getElem?_eq_getElem (by omega))⟩
   have f0:=hown5.frozenAt (q*2)
   have f1:=hown5.frozenAt (q*2+1)
   have hw5:=hw.trans (hb5w.mono hzr)
   have HRW5:=hid (own_below HRW.out hb5w)
   clear hown hc5 hf5 hb5 hb5w hxl
   go_wp2
   go_roundw
   case rel=>
    refine ⟨j+1,_,by omega,by go_num,Z7q hown5 q (.int .i64 v) (.bool true),hx,by go_grown,hid (Zva HRW5.out _ _ _ _ _ hB3)⟩
   case measure=>simp [intOf];omega
  ·have c1:=HR1.out _ hw
   have f1:=HF1.out _ hw
   have hltr:=Nat.lt_of_lt_of_le hlt hw.size
   go_wp2
   go_end0
   have hjm:j=M.length:=by omega
   subst hjm
   have hX:=HD.out xs HP.out
   have hgz:=hown.lt _ rfl
   have T:=(Touch.quiet (S:=K) hw).trans ((Zhr wr t (.slice (some ⟨w2.heap.size,0,none⟩) n n)).mono (fun k _ e=>e▸hkt))
   refine ⟨rfl,fun g=>K g\/In w.heap.size (wr.setCell ⟨t,1,none⟩ (.slice (some ⟨w2.heap.size,0,none⟩) n n)).heap.size g,⟨.inl hkt,by simpa using hltr,HM8.out,?_,by rw [World.frozen?_setCell];exact f1,w2.heap.size,.inr ⟨hz2,by simpa using hgz.2⟩,by simpa using hgz.2,by omega,?_,?_⟩,T,fun g hg=>hg⟩
   ·exact (World.cell?_setCell_other _ _ _ _ (fun e=>by injection e with _ e;cases e)).trans (HR0.out _ hw)
   ·rw [<-HN.out]
    exact World.cell?_setCell_same _ _ _ c1
   ·intro i hi
    rw [<-HN.out] at hi
    obtain ⟨y0,y1⟩:=hX i hi
    have hnt:w2.heap.size≠t:=by omega
    exact ⟨(Zhr wr t _).cell ((hown.cellAt (i*2) (by omega)).trans y0) hnt,(Zhr wr t _).cell ((hown.cellAt (i*2+1) (by omega)).trans y1) hnt⟩
theorem Zz1:DirC DirP where
 new:=Zyg
 fill:=fun w K t m L0 L p c H hR hg hp hcap hl=>Zv0 w K t m L0 L p c H hR hg hp hcap hl
 get:=fun w K t m L ah al H ha hb=>Zzj w K t m L ah al H ha hb
 len:=fun w K t m L H=>by
  obtain ⟨h,-,-,-,c1,-⟩:=H.row
  exact Zj2 t (2^m) _ w c1 H.lt
 touched:=fun w w' K S t m L H ht hn=>H.touched ht hn
end Go.Proofs.YtgfjmgebecmbiaaGreat
