import Derived.Test.YtgfjmgebecmbiaaGreatW22d
set_option linter.unusedSimpArgs false
set_option linter.unusedVariables false
set_option maxHeartbeats 20000000
namespace Go.Proofs.YtgfjmgebecmbiaaGreat
open Lib(hid)
open Go Go.RowKit Go.Sort M
theorem Zy6 {N:List Rt} (h:Sorted N) (r:Rt):(Zao N r).length<=N.length+1:=by
 have:=(Za7 r h).length_eq
 rw [this,List.length_cons]
 have:=List.length_filter_le (fun q:Rt=>decide (q.k≠r.k)) N
 unfold outS
 omega
theorem Ztp {E:Eg} (hs:Sorted E.R) (h0:0<=E.di):DirE E E.R:=fun ah al _ _=>by
 obtain ⟨m,hm⟩:=Int.eq_ofNat_of_zero_le h0
 unfold dirK Eg.dir22
 rw [hm,Int.toNat_natCast,Z8l hs,Zej hs]
set_option maxRecDepth 100000 in
theorem Zia (w:World) (K:Nat->Prop) (t:Nat) (E:Eg) (col:Nat->Nat) (v:Value) (d:Nat) (L0:List Rt) (X:List (Nat×Nat)) (p:Option Addr) (c:Nat) (n:Int) (H:EngB w K t E col v d L0 X p c) (hr:Zie E.R) (hl:E.R.length<=4000) (h0:0<=E.di)
 (hq:n<=E.di\/DirE E L0) :
 Calls Tryz.prog 32 #[.pointer (some ⟨t,0,none⟩),.int .i64 n] w fun e w'=>e = .returned (.tuple #[])/\∃K',EngP w' K' t E/\Touch K w w'/\∀g,K' g->K g\/In w.heap.size w'.heap.size g:=by
 obtain ⟨rp,rc,rfl⟩:=Zag H.own
 have d1:=H.c1
 have d2:=H.c2
 have d3:=H.c3
 have dl:=H.lt
 by_cases hn:n<=E.di
 ·have hF:=fun W (hb:Below w.heap.size w W)=>Zz1.fill W (fun j=>col j=3/\K j) d E.di.toNat L0 E.R rp rc (H.dir.touched (Touch.quiet hb) (fun _ _ x=>x)) ((Row.of_own H.own).below hb) hr.good (Zcq H.own) (Zbl H.own) hl
  have HF:=hid hF
  have HH:=hid H
  have HD:=hid (Ztp hr.sort h0)
  clear hF H hq hr hl h0
  go_enter Tryz.func32,Tryz.ntmps32
  go_wp2_with fail
  have kg:=Zaa
  refine Zaj 8 (by kernel_rfl) (by kernel_rfl) ?_
  simp only [List.take_succ_cons,List.take_zero,List.drop_succ_cons,List.drop_zero]
  repeat (any_goals (first|go_big_quiet_step (fail)|quiet_step (fail)))
  refine wpQuiet_nil ?_
  clear kg
  intro w1 hb1
  obtain ⟨hc1,hf1⟩:=Zaf hb1
  have hw1:Below w.heap.size w w1:=by
   refine Below.trans ?_ (hb1.mono ?_)
   ·go_grown
   ·first|omega|go_size
  go_wp2_with fail
  refine (HF.out _ hw1).mono ?_
  rintro e w2 ⟨rfl,K1,hA,hT,hG⟩
  have HE:=hid ((HH.out.below hw1).dir_step hA hG hT)
  have hT2:Touch K w w2:=Touch.trans (Touch.quiet hw1) (hT.mono fun g _ h=>h.2)
  clear hA hT hG HH
  go_wp2
  go_end0
  refine ⟨rfl,_,⟨_,_,_,_,_,_,_,HE.out,HD.out⟩,hT2,fun g hg=>hg.imp id fun h=>⟨Nat.le_trans hw1.size h.1,h.2⟩⟩
 ·have HD:DirE E L0:=hq.resolve_left hn
  have HP:=hid (show EngP w K t E from ⟨_,_,_,_,_,_,_,H,HD⟩)
  clear HD H hq hr hl h0
  go_enter Tryz.func32,Tryz.ntmps32
  go_wp2
  go_end0
  exact ⟨rfl,K,HP.out,Touch.quiet (by go_grown),fun g hg => .inl hg⟩
theorem Z2v {R:List Rt} (hs:Sorted R) (r:Rt) (h:r.k∈Zad R):Zao R r=R.set (bh R r.k) r:=Zex R r _ hs (Zll hs h)
theorem Z2y {R:List Rt} (hs:Sorted R) (r:Rt) (h:r.k∉Zad R):Zao R r=R.take (bh R r.k)++r::R.drop (bh R r.k):=Zgf R r (Zzr hs h)
theorem Z5r {R:List Rt} (hs:Sorted R) (k:Ky) (h:k∈Zad R):outS R k=R.take (bh R k)++R.drop (bh R k+1):=by
 rw [Zd5 R k _ hs (Zll hs h),List.eraseIdx_eq_take_drop_succ]
theorem Zz3 {E:Eg} {L0:List Rt} (hs:Sorted E.R) (hD:DirE E L0) (r:Rt) (h:E.di<r.k.n):DirE (E.toR (Zao E.R r)) L0:=fun ah al wa wb=>by
 rw [show (E.toR (Zao E.R r)).dir22 ah al=hopK (upS (Zao E.R r) E.di) (-1) (cutK ah al E.di.toNat) from rfl,Zwq hs r _ h]
 exact hD ah al wa wb
theorem Z3m {E:Eg} {L0:List Rt} (hs:Sorted E.R) (hD:DirE E L0) (k:Ky) (h:E.di<k.n):DirE (E.toR (outS E.R k)) L0:=fun ah al wa wb=>by
 rw [show (E.toR (outS E.R k)).dir22 ah al=hopK (upS (outS E.R k) E.di) (-1) (cutK ah al E.di.toNat) from rfl,Z07 hs k _ h]
 exact hD ah al wa wb
section
variable {w w4:World} {K:Nat->Prop} {t:Nat} {E:Eg} {col:Nat->Nat} {v v':Value} {d:Nat} {L0:List Rt} {X:List (Nat×Nat)} {p:Option Addr} {c:Nat} {R':List Rt}
theorem EngB.mono {K':Nat->Prop} (H:EngB w K t E col v d L0 X p c) (h:∀j,K j->K' j):EngB w K' t E col v d L0 X p c:=
 ⟨H.lt,H.c0,H.c1,H.c2,H.c3,H.c4,H.f,H.own,H.ts,H.xl,H.xc,H.cap,fun i h1 h2=>(H.lev i h1 h2).mono fun j hj=>⟨hj.1,h _ hj.2⟩,H.dir.mono fun j hj=>⟨hj.1,h _ hj.2⟩,⟨H.kt.1,h _ H.kt.2⟩,
  fun j hj=>⟨(H.kv j hj).1,h _ (H.kv j hj).2⟩,fun a ha=>⟨⟨(H.kp a ha).1.1,h _ (H.kp a ha).1.2⟩,(H.kp a ha).2⟩⟩
theorem EngB.tv (H:EngB w K t E col v d L0 X p c):v.ownBlock≠some t:=fun e=>by
 have:=(H.kv t e).1
 have:=H.kt.1
 omega
theorem EngB.rts_in (H:EngB w K t E col v d L0 X p c) (hT:Touch (fun j=>v.ownBlock=some j) w w4) (ho:w4.ownsRow 0 41 4 v R'.length (rcs R')) :
 EngB w4 (fun j=>K j\/In w.heap.size w4.heap.size j) t { E with R:=R' } (colN w col 1) v d L0 X p c/\Touch K w w4:=by
 have hb:=hT.block t H.lt H.tv
 have hc:∀j,w4.cell? ⟨t,j,none⟩=w.cell? ⟨t,j,none⟩:=fun j=>World.cell?_of_block (a:=⟨t,j,none⟩) hb
 exact ⟨H.rts_step (hT.mono fun _ _ h => .inr h) (hc 0) (hc 1) ((hc 2).trans H.c2) (hc 3) (hc 4) (fun j=>(World.frozen?_of_block (a:=⟨t,j,none⟩) hb).trans (H.f j)) ho (.inl rfl),hT.mono fun j _ h=>(H.kv j h).2⟩
theorem EngB.rts_store (H:EngB w K t E col v d L0 X p c) (hT:Touch (fun j=>v.ownBlock=some j) w w4) (ho:w4.ownsRow 0 41 4 v' R'.length (rcs R')) (hat:v'.ownBlock=v.ownBlock\/∃k,v'.ownBlock=some k/\w.heap.size<=k) :
 EngB (w4.setCell ⟨t,2,none⟩ v') (fun j=>K j\/In w.heap.size w4.heap.size j) t { E with R:=R' } (colN w col 1) v' d L0 X p c/\Touch K w (w4.setCell ⟨t,2,none⟩ v'):=by
 have hb:=hT.block t H.lt H.tv
 have hc:∀j,w4.cell? ⟨t,j,none⟩=w.cell? ⟨t,j,none⟩:=fun j=>World.cell?_of_block (a:=⟨t,j,none⟩) hb
 have hs2:(w4.setCell ⟨t,2,none⟩ v').heap.size=w4.heap.size:=World.size_setCell _ _ _
 have hT2:Touch (fun j=>j=t) w4 (w4.setCell ⟨t,2,none⟩ v'):=⟨rfl,rfl,rfl,by rw [hs2];exact Nat.le_refl _,fun k _ hn=>Below.heap_setCell w4 ⟨t,2,none⟩ _ k (by simpa using hn)⟩
 have ne:∀j,j≠2->(w4.setCell ⟨t,2,none⟩ v').cell? ⟨t,j,none⟩=w.cell? ⟨t,j,none⟩:=fun j hj=>by
  rw [World.cell?_setCell_other]
  ·exact hc j
  ·intro e
   injection e with _ e2
   exact hj e2.symm
 have hvt:v'.ownBlock≠some t:=by
  rcases hat with e | ⟨k,e,hk⟩
  ·rw [e];exact H.tv
  ·rw [e]
   intro e2
   injection e2 with e2
   have:=H.lt
   omega
 have hT3:Touch (fun j=>j=t\/v.ownBlock=some j) w (w4.setCell ⟨t,2,none⟩ v'):=(hT.mono fun _ _ h => .inr h).trans (hT2.mono fun _ _ h => .inl h)
 have h:=H.rts_step (v':=v') hT3 (ne 0 (by decide)) (ne 1 (by decide)) (World.cell?_setCell_same _ _ _ ((hc 2).trans H.c2)) (ne 3 (by decide)) (ne 4 (by decide)) (fun j=>by
  rw [World.frozen?_setCell]
  exact (World.frozen?_of_block (a:=⟨t,j,none⟩) hb).trans (H.f j)) (Touch.own ho hT2 (fun j hj e=>hvt (by rw [hj,e]))) hat
 rw [hs2] at h
 refine ⟨h,hT3.mono fun j _ hj => ?_⟩
 rcases hj with rfl | hj
 ·exact H.kt.2
 ·exact (H.kv j hj).2
end
set_option maxRecDepth 100000 in
theorem Zxy (w:World) (K:Nat->Prop) (t:Nat) (E:Eg) (r:Rt) (HP:EngP w K t E) (hok:E.ok) (hg:r.k.good) (hl:E.R.length<=300) :
 Calls Tryz.prog 12 #[.pointer (some ⟨t,0,none⟩),rtA r] w fun e w'=>e = .returned (.tuple #[])/\∃K',EngP w' K' t (E.put r)/\Touch K w w'/\∀g,K' g->K g\/In w.heap.size w'.heap.size g:=by
 obtain ⟨⟨kh,kl,kn⟩,rv⟩:=r
 unfold rtA
 simp only
 have gk:W64 kh/\W64 kl:=hg
 have HP0:=HP
 obtain ⟨col,v,d,L0,X,p,c,H0,hD⟩:=HP
 have H:=H0.old
 obtain ⟨K0,hK0⟩:∃K0:Nat->Prop,K0=fun j=>K j/\j<w.heap.size:=⟨_,rfl⟩
 rw [<-hK0] at H
 have htw:t≠w.heap.size:=by have:=H.lt;omega
 have hnb:¬K0 w.heap.size:=by rw [hK0];intro h;have:=h.2;omega
 have hKK:∀g,K0 g->K g:=by rw [hK0];exact fun g h=>h.1
 obtain ⟨W0,hW0⟩:∃W:World,W=w.alloc (.cells #[.int .u64 (kh:Int),.int .u64 (kl:Int),.int .i64 kn,.int .i64 rv] 41):=⟨_,rfl⟩
 have hb0:Below w.heap.size w W0:=by rw [hW0];go_grown
 have hz0:W0.heap.size=w.heap.size+1:=by rw [hW0];simp
 have u0:W0.cell? ⟨w.heap.size,0,none⟩=some (.int .u64 (kh:Int)):=by rw [hW0];simp [go_sem]
 have u1:W0.cell? ⟨w.heap.size,1,none⟩=some (.int .u64 (kl:Int)):=by rw [hW0];simp [go_sem]
 have u2:W0.cell? ⟨w.heap.size,2,none⟩=some (.int .i64 kn):=by rw [hW0];simp [go_sem]
 have u3:W0.cell? ⟨w.heap.size,3,none⟩=some (.int .i64 rv):=by rw [hW0];simp [go_sem]
 have hz1:w.heap.size<W0.heap.size:=by omega
 have c0:=(hb0.cell (p:=⟨t,0,none⟩) H.lt).trans H.c0
 have c3:=(hb0.cell (p:=⟨t,3,none⟩) H.lt).trans H.c3
 have cl:=Nat.lt_of_lt_of_le H.lt hb0.size
 have HU:=hid (fun W (h:Below W0.heap.size W0 W)=>Zcp t d W (Nat.lt_of_lt_of_le cl h.size) ((h.cell (p:=⟨t,3,none⟩) cl).trans c3))
 have HRI:=hid (Zn4 kh kl kn gk.1 gk.2)
 have HB0:=hid hb0
 have HP:=hid HP0
 have HNB:=hid hnb
 by_cases hT:Zij E ⟨⟨kh,kl,kn⟩,rv⟩=true
 ·have hpe:E.put ⟨⟨kh,kl,kn⟩,rv⟩=E.toR (Zao E.R ⟨⟨kh,kl,kn⟩,rv⟩):=if_pos hT
  rw [hpe]
  unfold Zij at hT
  simp only [Bool.and_eq_true,decide_eq_true_eq] at hT
  obtain ⟨⟨q1,q2⟩,q3⟩:=hT
  rw [q1] at HRI
  have HLE:=hid (fun W (h:Below W0.heap.size W0 W)=>Zld W K0 t E col v d L0 X p c ⟨kh,kl,kn⟩ rv ((H.below hb0).below h) hok hg hl (.inl q3))
  rw [Zyr hok.rts.sort _ _ q3] at HLE
  unfold kyV at HLE
  obtain ⟨R',hR'⟩:∃R',R'=Zao E.R ⟨⟨kh,kl,kn⟩,rv⟩:=⟨_,rfl⟩
  have hrts:=Zrb hok.rts hg q3
  rw [<-hR'] at HLE hrts ⊢
  have n1:¬E.wd<kn:=by omega
  have n2:¬rv<0:=by omega
  have n3:decide (E.wd<kn)=false:=decide_eq_false n1
  have n4:decide (rv<0)=false:=decide_eq_false n2
  have HOK:=hid hok
  obtain ⟨rp,rc,rfl⟩:=Zag H.own
  have hdir:kn<=E.di\/DirE (E.toR R') L0:=by
   by_cases h:kn<=E.di
   ·exact .inl h
   ·rw [hR']
    exact .inr (Zz3 hok.rts.sort hD _ (by show E.di<kn;omega))
  have hlen:R'.length<=4000:=by rw [hR'];have:=Zy6 hok.rts.sort ⟨⟨kh,kl,kn⟩,rv⟩;omega
  have HRTS:=hid hrts
  have HKK:=hid hKK
  have HDR:=hid hdir
  have HLN:=hid hlen
  by_cases hin:(⟨kh,kl,kn⟩:Ky)∈Zad E.R
  ·have HDE:Hid (decide ((⟨kh,kl,kn⟩:Ky)∈Zad E.R)=true):=hid (decide_eq_true hin)
   obtain ⟨hb,hbk⟩:=(Zqd hok.rts.sort _).1 hin
   have hset:=Z2v hok.rts.sort ⟨⟨kh,kl,kn⟩,rv⟩ hin
   rw [<-hR'] at hset
   obtain ⟨g,cap,cur,hv,-,hgl,-,-,-,-,-⟩:=Zbk H.own (by omega)
   injection hv with hv1 hv2 hv3
   subst hv1 hv3
   simp only at hset
   have HBK:=hid hbk
   have HSET:=hid hset
   clear hset hbk hin hR' hdir hlen hrts hKK H H0 hD hok hg gk q1 q2 q3 hpe HP0 hnb hK0 hb0 hv2 hz0
   go_enter Tryz.func12,Tryz.ntmps12
   go_upto_region 1 with fail
   rw [<-hW0]
   clear hW0
   have kg:=Zaa
   refine Zab (by kernel_rfl) (by kernel_rfl) ?_
   repeat (any_goals (first|go_big_quiet_step ((first|exact HRI.out.at _ _ _|exact Calls.regrown_of (HU.out _ (below_regrown _ _ _))))|quiet_step ((first|exact HRI.out.at _ _ _|exact Calls.regrown_of (HU.out _ (below_regrown _ _ _))))))
   refine wpQuiet_nil ?_
   clear kg
   intro w1 hb1
   obtain ⟨hc1,hf1⟩:=Zaf hb1
   have u0:=(hc1 _ _ hz1).trans u0
   have u1:=(hc1 _ _ hz1).trans u1
   have u2:=(hc1 _ _ hz1).trans u2
   have u3:=(hc1 _ _ hz1).trans u3
   have hz2:=Nat.lt_of_lt_of_le hz1 hb1.size
   have HW1:=hid (HB0.out.trans (hb1.mono HB0.out.size))
   have HLE1:=hid (HLE.out _ hb1)
   clear HLE HU HRI hc1 hf1 hb1 c0 c3 cl HB0
   go_wp2_with fail
   refine HLE1.out.mono ?_
   rintro e w2 ⟨rfl,K2,col2,HE,HT,HG⟩
   have u0:=HT.cell u0 HNB.out
   have u1:=HT.cell u1 HNB.out
   have u2:=HT.cell u2 HNB.out
   have u3:=HT.cell u3 HNB.out
   have hz3:=Nat.lt_of_lt_of_le hz2 HT.size
   have HFI:=hid (Zh9 t E.R ⟨kh,kl,kn⟩ _ _ w2 (Row.of_own HE.own) HOK.out.rts.sort (by omega) HE.lt HE.c2)
   unfold kyV at HFI
   simp only [HDE.out] at HFI
   have HE2:=hid HE
   have HT2:=hid HT
   have HG2:=hid HG
   clear HE HT HG HLE1
   go_wp2_with fail
   refine HFI.out.mono ?_
   rintro e w3 ⟨rfl,hb3⟩
   obtain ⟨hc3,hf3⟩:=Zaf hb3
   have u0:=(hc3 _ _ hz3).trans u0
   have u1:=(hc3 _ _ hz3).trans u1
   have u2:=(hc3 _ _ hz3).trans u2
   have u3:=(hc3 _ _ hz3).trans u3
   have hz4:=Nat.lt_of_lt_of_le hz3 hb3.size
   have HE3:=hid (HE2.out.below hb3)
   have HB3:=hid hb3
   have c2:=HE3.out.c2
   have cl:=HE3.out.lt
   clear HFI hc3 hf3 hb3 HE2
   generalize bh E.R ⟨kh,kl,kn⟩=b at *
   obtain ⟨gx,ox,eg,-,r0,r1,r2,r3⟩:=(Row.of_own HE3.out.own).rt hb
   injection eg with eg
   injection eg with eg eo
   subst eg eo
   simp only [Nat.zero_add] at r0 r1 r2 r3
   have f0:=HE3.out.own.frozenAt (b*4)
   have f1:=HE3.out.own.frozenAt (b*4+1)
   have f2:=HE3.out.own.frozenAt (b*4+2)
   have f3:=HE3.out.own.frozenAt (b*4+3)
   have i1:(0:Int)<=(b:Int):=by omega
   have i2:(b:Int)<(E.R.length:Int):=by omega
   go_wp2_with fail
   go_region
   go_wp2_with fail
   obtain ⟨W5,hW5⟩:∃W:World,W=((((w3.setCell ⟨g,b*4,none⟩ (.int .u64 (kh:Int))).setCell ⟨g,b*4+1,none⟩ (.int .u64 (kl:Int))).setCell ⟨g,b*4+2,none⟩ (.int .i64 kn)).setCell ⟨g,b*4+3,none⟩ (.int .i64 rv)).drew:=⟨_,rfl⟩
   rw [<-hW5]
   have hs1:=HE3.out.own.stored (b*4) (.int .u64 (kh:Int))
   have hs2:=hs1.1.stored (b*4+1) (.int .u64 (kl:Int))
   have hs3:=hs2.1.stored (b*4+2) (.int .i64 kn)
   have hs4:=hs3.1.stored (b*4+3) (.int .i64 rv)
   have hdw:Below ((((w3.setCell ⟨g,b*4,none⟩ (.int .u64 (kh:Int))).setCell ⟨g,b*4+1,none⟩ (.int .u64 (kl:Int))).setCell ⟨g,b*4+2,none⟩ (.int .i64 kn)).setCell ⟨g,b*4+3,none⟩ (.int .i64 rv)).heap.size ((((w3.setCell ⟨g,b*4,none⟩ (.int .u64 (kh:Int))).setCell ⟨g,b*4+1,none⟩ (.int .u64 (kl:Int))).setCell ⟨g,b*4+2,none⟩ (.int .i64 kn)).setCell ⟨g,b*4+3,none⟩ (.int .i64 rv)) W5:=by rw [hW5];go_grown
   have hown:=own_below hs4.1 hdw
   have hg1:∀k,some k=some g->(Value.slice (some ⟨g,0,none⟩) E.R.length rc).ownBlock=some k:=fun k e=>e.symm
   have hT5:Touch (fun j=>(Value.slice (some ⟨g,0,none⟩) E.R.length rc).ownBlock=some j) w3 W5:=((((Touch.of_grown hs1.2 hg1).trans (Touch.of_grown hs2.2 hg1)).trans (Touch.of_grown hs3.2 hg1)).trans (Touch.of_grown hs4.2 hg1)).trans (Touch.quiet hdw)
   rw [Zjt E.R b ⟨⟨kh,kl,kn⟩,rv⟩ hb,<-HSET.out] at hown
   have hRl:R'.length=E.R.length:=by rw [HSET.out,List.length_set]
   rw [<-hRl] at hown
   have hin:=HE3.out.rts_in hT5 (by rw [hRl] at hown ⊢;exact hown)
   have HE5:=hid hin.1
   have HT5:=hid hin.2
   clear hin hown hRl hT5 hdw hs1 hs2 hs3 hs4 hg1 hW5 r0 r1 r2 r3 f0 f1 f2 f3
   have HA5:Hid (Touch K w W5):=hid (Zas ((Zas (Touch.quiet HW1.out) (fun g h => .inl (HKK.out g h)) HT2.out).trans (Touch.quiet HB3.out)) (fun j hj=>by
    rcases HG2.out j hj with h | h
    ·exact .inl (HKK.out j h)
    ·exact .inr (Nat.le_trans HW1.out.size h.1)) HT5.out)
   have HG5:Hid (∀j,(K2 j\/In w3.heap.size W5.heap.size j)->K j\/In w.heap.size W5.heap.size j):=hid fun j hj=>by
    have z1:=HW1.out.size
    have z2:=HT2.out.size
    have z3:=HB3.out.size
    have z5:=HT5.out.size
    rcases hj with hj | hj
    ·rcases HG2.out j hj with h | h
     ·exact .inl (HKK.out j h)
     ·exact .inr ⟨by have:=h.1;omega,by have:=h.2;omega⟩
    ·exact .inr ⟨by have:=hj.1;omega,hj.2⟩
   have HFL:=hid (Zia W5 _ t (E.toR R') _ _ d L0 X p c kn HE5.out HRTS.out HLN.out HOK.out.dir.1 HDR.out)
   clear HE5
   refine HFL.out.mono ?_
   rintro e w6 ⟨rfl,K6,hP6,hT6,hG6⟩
   have HP6:=hid hP6
   have HA6:=hid (Zas HA5.out (fun j hj=>(HG5.out j hj).imp id fun h=>h.1) hT6)
   have HG6:Hid (∀j,K6 j->K j\/In w.heap.size w6.heap.size j):=hid fun j hj=>by
    have z6:=hT6.size
    have z5:=HA5.out.size
    rcases hG6 j hj with h | h
    ·rcases HG5.out j h with h | h
     ·exact .inl h
     ·exact .inr ⟨h.1,by have:=h.2;omega⟩
    ·exact .inr ⟨by have:=h.1;omega,h.2⟩
   clear hP6 hT6 hG6
   go_wp2
   go_end0
   exact ⟨rfl,K6,HP6.out,HA6.out,HG6.out⟩
  ·have HDE:Hid (decide ((⟨kh,kl,kn⟩:Ky)∈Zad E.R)=false):=hid (decide_eq_false hin)
   have hins:=Z2y hok.rts.sort ⟨⟨kh,kl,kn⟩,rv⟩ hin
   rw [<-hR'] at hins
   simp only at hins
   have hble:=Zpw E.R ⟨kh,kl,kn⟩
   have HINS:=hid hins
   have hvlt:=H.vlt
   have hnv:(Value.slice rp E.R.length rc).ownBlock≠some w.heap.size:=fun e=>by have:=hvlt _ e;omega
   have HNV:=hid hnv
   have HVL:=hid hvlt
   clear hins hin hR' hdir hlen hrts hKK H H0 hD hok hg gk q1 q2 q3 hpe HP0 hnb hK0 hb0 hz0 hnv hvlt
   go_enter Tryz.func12,Tryz.ntmps12
   go_upto_region 1 with fail
   rw [<-hW0]
   clear hW0
   have kg:=Zaa
   refine Zab (by kernel_rfl) (by kernel_rfl) ?_
   repeat (any_goals (first|go_big_quiet_step ((first|exact HRI.out.at _ _ _|exact Calls.regrown_of (HU.out _ (below_regrown _ _ _))))|quiet_step ((first|exact HRI.out.at _ _ _|exact Calls.regrown_of (HU.out _ (below_regrown _ _ _))))))
   refine wpQuiet_nil ?_
   clear kg
   intro w1 hb1
   obtain ⟨hc1,hf1⟩:=Zaf hb1
   have u0:=(hc1 _ _ hz1).trans u0
   have u1:=(hc1 _ _ hz1).trans u1
   have u2:=(hc1 _ _ hz1).trans u2
   have u3:=(hc1 _ _ hz1).trans u3
   have hz2:=Nat.lt_of_lt_of_le hz1 hb1.size
   have HW1:=hid (HB0.out.trans (hb1.mono HB0.out.size))
   have HLE1:=hid (HLE.out _ hb1)
   clear HLE HU HRI hc1 hf1 hb1 c0 c3 cl HB0
   go_wp2_with fail
   refine HLE1.out.mono ?_
   rintro e w2 ⟨rfl,K2,col2,HE,HT,HG⟩
   have u0:=HT.cell u0 HNB.out
   have u1:=HT.cell u1 HNB.out
   have u2:=HT.cell u2 HNB.out
   have u3:=HT.cell u3 HNB.out
   have hz3:=Nat.lt_of_lt_of_le hz2 HT.size
   have HFI:=hid (Zh9 t E.R ⟨kh,kl,kn⟩ _ _ w2 (Row.of_own HE.own) HOK.out.rts.sort (by omega) HE.lt HE.c2)
   unfold kyV at HFI
   simp only [HDE.out] at HFI
   have HE2:=hid HE
   have HT2:=hid HT
   have HG2:=hid HG
   clear HE HT HG HLE1
   go_wp2_with fail
   refine HFI.out.mono ?_
   rintro e w3 ⟨rfl,hb3⟩
   obtain ⟨hc3,hf3⟩:=Zaf hb3
   have u0:=(hc3 _ _ hz3).trans u0
   have u1:=(hc3 _ _ hz3).trans u1
   have u2:=(hc3 _ _ hz3).trans u2
   have u3:=(hc3 _ _ hz3).trans u3
   have hz4:=Nat.lt_of_lt_of_le hz3 hb3.size
   have HE3:=hid (HE2.out.below hb3)
   have HB3:=hid hb3
   have c2:=HE3.out.c2
   have cl:=HE3.out.lt
   clear HFI hc3 hf3 hb3 HE2
   generalize bh E.R ⟨kh,kl,kn⟩=b at *
   have f2:=HE3.out.f 2
   have hzz:=HW1.out.size
   have hzz2:=HT2.out.size
   have hzz3:=HB3.out.size
   go_wp2_with fail
   refine wp_region_noPanic ?_
   generalize hNQ:NoPanic _=NQ
   refine Zn8 (fun w'=>w'.cell? ⟨t,2,none⟩=some (.slice rp E.R.length rc)/\w'.cell? ⟨w.heap.size,0,none⟩=some (.int .u64 (kh:Int))/\w'.cell? ⟨w.heap.size,1,none⟩=some (.int .u64 (kl:Int))/\w'.cell? ⟨w.heap.size,2,none⟩=some (.int .i64 kn)/\w'.cell? ⟨w.heap.size,3,none⟩=some (.int .i64 rv)) [0,1,2,3,5] [4,6] [7,8] [9,10,11] (by kernel_rfl) (by rw [<-hNQ];exact fun _ _ _ h=>h) (by kernel_rfl) (by kernel_rfl) ⟨c2,u0,u1,u2,u3⟩ ?_
   simp only [Zah,List.filterMap_cons,List.filterMap_nil,List.getElem?_toArray,List.getElem?_cons_succ,List.getElem?_cons_zero]
   iterate 5 (quiet_step (fail))
   refine wpQuiet_nil ?_
   refine Zdt (.slice rp E.R.length rc) rfl (fun w' ⟨c2,u0,u1,u2,u3⟩=>by go_simp) ?_
   refine Zdt (.agg #[.int .u64 (kh:Int),.int .u64 (kl:Int),.int .i64 kn,.int .i64 rv]) rfl (fun w' ⟨c2,u0,u1,u2,u3⟩=>by go_simp) ?_
   refine wpQuiet_nil ?_
   intro K hK o ho
   injection ho with ho
   subst ho
   go_simp
   obtain ⟨W4,hW4⟩:∃W:World,W=(w3.alloc (.cells #[.int .u64 (kh:Int),.int .u64 (kl:Int),.int .i64 kn,.int .i64 rv] 41)).drew:=⟨_,rfl⟩
   have hb4:Below w3.heap.size w3 W4:=by rw [hW4];go_grown
   have hvb:W4.heap[w3.heap.size]? = some (.cells (Zac ⟨⟨kh,kl,kn⟩,rv⟩).toArray 41 (0,0)):=by rw [hW4];exact heap_alloc_new w3 _
   have hz6:W4.heap.size=w3.heap.size+1:=by rw [hW4];simp
   try rw [<-hW4]
   clear hW4
   have HE4:=hid (HE3.out.below hb4)
   have u0:=(hb4.cell (p:=⟨w.heap.size,0,none⟩) hz4).trans u0
   have u1:=(hb4.cell (p:=⟨w.heap.size,1,none⟩) hz4).trans u1
   have u2:=(hb4.cell (p:=⟨w.heap.size,2,none⟩) hz4).trans u2
   have u3:=(hb4.cell (p:=⟨w.heap.size,3,none⟩) hz4).trans u3
   refine hK _ _ ⟨HE4.out.c2,u0,u1,u2,u3⟩ ?_
   clear hK K
   intro K hK o ho
   injection ho with ho
   subst ho
   go_simp
   go_at_call 34
   refine (Zlj _ E.R b ⟨⟨kh,kl,kn⟩,rv⟩ w3.heap.size W4 HE4.out.own hble (by omega) hvb (fun e=>by have:=HVL.out _ e;omega)).mono ?_
   rintro e w5 ⟨v5,rfl,ho5,hg5,hat5⟩
   rw [<-HINS.out] at ho5
   have hT5:Touch (fun j=>(Value.slice rp E.R.length rc).ownBlock=some j) W4 w5:=Touch.of_grown hg5 (fun k e=>e.symm)
   obtain ⟨p5,c5,rfl⟩:=Zag ho5
   have hst:=HE4.out.rts_store hT5 ho5 hat5
   have u0:=hT5.cell u0 HNV.out
   have u1:=hT5.cell u1 HNV.out
   have u2:=hT5.cell u2 HNV.out
   have u3:=hT5.cell u3 HNV.out
   have c2:=hT5.cell HE4.out.c2 HE4.out.tv
   have f2:=(World.frozen?_of_block (a:=⟨t,2,none⟩) (hT5.block t HE4.out.lt HE4.out.tv)).trans (HE4.out.f 2)
   have cl5:=Nat.lt_of_lt_of_le HE4.out.lt hT5.size
   have hz5:=Nat.lt_of_lt_of_le (show w.heap.size<W4.heap.size by omega) hT5.size
   have hz7:=hT5.size
   have HST:=hid hst
   have HB4:=hid hb4
   refine hK _ _ ⟨c2,u0,u1,u2,u3⟩ ?_
   clear hK K hst ho5 hg5 hat5 hT5 HE4 hb4 hvb
   show wpList _ _ _ _ _ _
   simp only [Zah,List.filterMap_cons,List.filterMap_nil,List.getElem?_toArray,List.getElem?_cons_succ,List.getElem?_cons_zero]
   subst hNQ
   go_wp2_with fail
   refine NoPanic.normal ?_
   go_wp2_with fail
   obtain ⟨W5,hW5⟩:∃W:World,W=w5.setCell ⟨t,2,none⟩ (.slice p5 R'.length c5):=⟨_,rfl⟩
   have hE5:=HST.out.1
   have hT5:=(Touch.quiet (S:=K2) HB4.out).trans HST.out.2
   have hs5:W5.heap.size=w5.heap.size:=by rw [hW5];exact World.size_setCell _ _ _
   rw [<-hW5] at hE5 hT5 ⊢
   rw [<-hs5] at hE5
   have hE6:=hE5.mono (K':=fun j=>K2 j\/In w3.heap.size W5.heap.size j) (fun j hj=>hj.imp id fun h=>⟨by have:=h.1;omega,h.2⟩)
   have HE5:=hid hE6
   have HT5:=hid hT5
   clear hE5 hE6 hT5 HST HB4 hW5
   have HA5:Hid (Touch K w W5):=hid (Zas ((Zas (Touch.quiet HW1.out) (fun g h => .inl (HKK.out g h)) HT2.out).trans (Touch.quiet HB3.out)) (fun j hj=>by
    rcases HG2.out j hj with h | h
    ·exact .inl (HKK.out j h)
    ·exact .inr (Nat.le_trans HW1.out.size h.1)) HT5.out)
   have HG5:Hid (∀j,(K2 j\/In w3.heap.size W5.heap.size j)->K j\/In w.heap.size W5.heap.size j):=hid fun j hj=>by
    have z1:=HW1.out.size
    have z2:=HT2.out.size
    have z3:=HB3.out.size
    have z5:=HT5.out.size
    rcases hj with hj | hj
    ·rcases HG2.out j hj with h | h
     ·exact .inl (HKK.out j h)
     ·exact .inr ⟨by have:=h.1;omega,by have:=h.2;omega⟩
    ·exact .inr ⟨by have:=hj.1;omega,hj.2⟩
   have HFL:=hid (Zia W5 _ t (E.toR R') _ _ d L0 X p c kn HE5.out HRTS.out HLN.out HOK.out.dir.1 HDR.out)
   clear HE5
   refine HFL.out.mono ?_
   rintro e w6 ⟨rfl,K6,hP6,hT6,hG6⟩
   have HP6:=hid hP6
   have HA6:=hid (Zas HA5.out (fun j hj=>(HG5.out j hj).imp id fun h=>h.1) hT6)
   have HG6:Hid (∀j,K6 j->K j\/In w.heap.size w6.heap.size j):=hid fun j hj=>by
    have z6:=hT6.size
    have z5:=HA5.out.size
    rcases hG6 j hj with h | h
    ·rcases HG5.out j h with h | h
     ·exact .inl h
     ·exact .inr ⟨h.1,by have:=h.2;omega⟩
    ·exact .inr ⟨by have:=h.1;omega,h.2⟩
   clear hP6 hT6 hG6
   go_wp2
   go_end0
   exact ⟨rfl,K6,HP6.out,HA6.out,HG6.out⟩
 ·have hpe:E.put ⟨⟨kh,kl,kn⟩,rv⟩=E:=if_neg hT
  rw [hpe]
  clear hpe H H0 hD hok hg hKK hnb hK0 hb0 HNB HP0 hz0 gk hl htw
  unfold Zij at hT
  simp only [Bool.and_eq_true,decide_eq_true_eq] at hT
  cases q1:Zan kh kl kn with
  | false=>
   rw [q1] at HRI
   clear q1 hT
   go_enter Tryz.func12,Tryz.ntmps12
   go_upto_region 1 with fail
   rw [<-hW0]
   clear hW0
   have kg:=Zaa
   refine Zab (by kernel_rfl) (by kernel_rfl) ?_
   repeat (any_goals (first|go_big_quiet_step ((first|exact HRI.out.at _ _ _|exact Calls.regrown_of (HU.out _ (below_regrown _ _ _))))|quiet_step ((first|exact HRI.out.at _ _ _|exact Calls.regrown_of (HU.out _ (below_regrown _ _ _))))))
   refine wpQuiet_nil ?_
   clear kg
   intro w1 hb1
   obtain ⟨hc1,hf1⟩:=Zaf hb1
   have hw1:=HB0.out.trans (hb1.mono HB0.out.size)
   go_wp2
   (try simp only [Exit.inBlock,Exit.then])
   refine bodyPost_ret (results_none rfl _ _ _) rfl ?_
   exact ⟨rfl,K,HP.out.touched (S:=fun _=>False) (Touch.quiet hw1) (fun _ _ x=>x),Touch.quiet hw1,fun g hg => .inl hg⟩
  | true=>
   rw [q1] at HRI hT
   by_cases q2:kn<=E.wd
   ·have n1:¬E.wd<kn:=by omega
    have n3:decide (E.wd<kn)=false:=decide_eq_false n1
    have q3:rv<0:=by
     by_cases q3:rv<0
     ·exact q3
     ·exact absurd ⟨⟨rfl,q2⟩,by omega⟩ hT
    have n4:decide (rv<0)=true:=decide_eq_true q3
    clear hT q2 q1
    go_enter Tryz.func12,Tryz.ntmps12
    go_upto_region 1 with fail
    rw [<-hW0]
    clear hW0
    have kg:=Zaa
    refine Zab (by kernel_rfl) (by kernel_rfl) ?_
    repeat (any_goals (first|go_big_quiet_step ((first|exact HRI.out.at _ _ _|exact Calls.regrown_of (HU.out _ (below_regrown _ _ _))))|quiet_step ((first|exact HRI.out.at _ _ _|exact Calls.regrown_of (HU.out _ (below_regrown _ _ _))))))
    refine wpQuiet_nil ?_
    clear kg
    intro w1 hb1
    obtain ⟨hc1,hf1⟩:=Zaf hb1
    have hw1:=HB0.out.trans (hb1.mono HB0.out.size)
    go_wp2
    (try simp only [Exit.inBlock,Exit.then])
    refine bodyPost_ret (results_none rfl _ _ _) rfl ?_
    exact ⟨rfl,K,HP.out.touched (S:=fun _=>False) (Touch.quiet hw1) (fun _ _ x=>x),Touch.quiet hw1,fun g hg => .inl hg⟩
   ·have n1:E.wd<kn:=by omega
    have n3:decide (E.wd<kn)=true:=decide_eq_true n1
    clear hT q2 q1
    go_enter Tryz.func12,Tryz.ntmps12
    go_upto_region 1 with fail
    rw [<-hW0]
    clear hW0
    have kg:=Zaa
    refine Zab (by kernel_rfl) (by kernel_rfl) ?_
    repeat (any_goals (first|go_big_quiet_step ((first|exact HRI.out.at _ _ _|exact Calls.regrown_of (HU.out _ (below_regrown _ _ _))))|quiet_step ((first|exact HRI.out.at _ _ _|exact Calls.regrown_of (HU.out _ (below_regrown _ _ _))))))
    refine wpQuiet_nil ?_
    clear kg
    intro w1 hb1
    obtain ⟨hc1,hf1⟩:=Zaf hb1
    have hw1:=HB0.out.trans (hb1.mono HB0.out.size)
    go_wp2
    (try simp only [Exit.inBlock,Exit.then])
    refine bodyPost_ret (results_none rfl _ _ _) rfl ?_
    exact ⟨rfl,K,HP.out.touched (S:=fun _=>False) (Touch.quiet hw1) (fun _ _ x=>x),Touch.quiet hw1,fun g hg => .inl hg⟩
set_option maxRecDepth 100000 in
theorem Zz7 (w:World) (K:Nat->Prop) (t:Nat) (E:Eg) (k:Ky) (HP:EngP w K t E) (hok:E.ok) (hg:k.good) (hl:E.R.length<=300) :
 Calls Tryz.prog 10 #[.pointer (some ⟨t,0,none⟩),kyV k] w fun e w'=>e = .returned (.bool (decide (k∈Zad E.R)))/\∃K',EngP w' K' t (E.del k)/\Touch K w w'/\∀g,K' g->K g\/In w.heap.size w'.heap.size g:=by
 obtain ⟨kh,kl,kn⟩:=k
 have gk:W64 kh/\W64 kl:=hg
 have HP0:=HP
 obtain ⟨col,v,d,L0,X,p,c,H0,hD⟩:=HP
 have H:=H0.old
 obtain ⟨K0,hK0⟩:∃K0:Nat->Prop,K0=fun j=>K j/\j<w.heap.size:=⟨_,rfl⟩
 rw [<-hK0] at H
 have htw:t≠w.heap.size:=by have:=H.lt;omega
 have hnb:¬K0 w.heap.size:=by rw [hK0];intro h;have:=h.2;omega
 have hKK:∀g,K0 g->K g:=by rw [hK0];exact fun g h=>h.1
 obtain ⟨W0,hW0⟩:∃W:World,W=w.alloc (.cells #[.int .u64 (kh:Int),.int .u64 (kl:Int),.int .i64 kn] 39):=⟨_,rfl⟩
 have hb0:Below w.heap.size w W0:=by rw [hW0];go_grown
 have hz0:W0.heap.size=w.heap.size+1:=by rw [hW0];simp
 have u0:W0.cell? ⟨w.heap.size,0,none⟩=some (.int .u64 (kh:Int)):=by rw [hW0];simp [go_sem]
 have u1:W0.cell? ⟨w.heap.size,1,none⟩=some (.int .u64 (kl:Int)):=by rw [hW0];simp [go_sem]
 have u2:W0.cell? ⟨w.heap.size,2,none⟩=some (.int .i64 kn):=by rw [hW0];simp [go_sem]
 have hz1:w.heap.size<W0.heap.size:=by omega
 have c3:=(hb0.cell (p:=⟨t,3,none⟩) H.lt).trans H.c3
 have cl:=Nat.lt_of_lt_of_le H.lt hb0.size
 have HU:=hid (fun W (h:Below W0.heap.size W0 W)=>Zcp t d W (Nat.lt_of_lt_of_le cl h.size) ((h.cell (p:=⟨t,3,none⟩) cl).trans c3))
 have HB0:=hid hb0
 have HP:=hid HP0
 have HNB:=hid hnb
 obtain ⟨rp,rc,rfl⟩:=Zag H.own
 have HFI:=hid (fun W (h:Below W0.heap.size W0 W)=>Zh9 t E.R ⟨kh,kl,kn⟩ _ _ W (Row.of_own ((H.below hb0).below h).own) hok.rts.sort (by omega) ((H.below hb0).below h).lt ((H.below hb0).below h).c2)
 unfold kyV at HFI ⊢
 by_cases hin:(⟨kh,kl,kn⟩:Ky)∈Zad E.R
 ·have hpe:E.del ⟨kh,kl,kn⟩=E.toR (outS E.R ⟨kh,kl,kn⟩):=if_pos hin
  rw [hpe,decide_eq_true hin]
  simp only [decide_eq_true hin] at HFI
  have HLE:=hid (fun W (h:Below W0.heap.size W0 W)=>Zld W K0 t E col _ d L0 X p c ⟨kh,kl,kn⟩ (-1) ((H.below hb0).below h) hok hg hl (.inr rfl))
  rw [Zyt] at HLE
  unfold kyV at HLE
  obtain ⟨R',hR'⟩:∃R',R'=outS E.R ⟨kh,kl,kn⟩:=⟨_,rfl⟩
  have hrts:=Zx6 hok.rts ⟨kh,kl,kn⟩
  rw [<-hR'] at HLE hrts ⊢
  have hdir:kn<=E.di\/DirE (E.toR R') L0:=by
   by_cases h:kn<=E.di
   ·exact .inl h
   ·rw [hR']
    exact .inr (Z3m hok.rts.sort hD _ (by show E.di<kn;omega))
  have hlen:R'.length<=4000:=by rw [hR'];have:=List.length_filter_le (fun q:Rt=>decide (q.k≠(⟨kh,kl,kn⟩:Ky))) E.R;unfold outS;omega
  obtain ⟨hb,hbk⟩:=(Zqd hok.rts.sort _).1 hin
  have hdel:=Z5r hok.rts.sort ⟨kh,kl,kn⟩ hin
  rw [<-hR'] at hdel
  obtain ⟨m,hm⟩:∃m,E.R.length=m+1:=⟨E.R.length-1,by omega⟩
  have HOK:=hid hok
  have HRTS:=hid hrts
  have HKK:=hid hKK
  have HDR:=hid hdir
  have HLN:=hid hlen
  have HDL:=hid hdel
  clear hdel hbk hin hR' hdir hlen hrts hKK H H0 hD hok hg gk hpe HP0 hnb hK0 hb0 hz0 c3 cl
  go_enter Tryz.func10,Tryz.ntmps10
  go_upto_region 1 with fail
  rw [<-hW0]
  clear hW0
  go_wp2_with fail
  refine (HU.out _ (Below.refl _ _)).mono ?_
  rintro e w1 ⟨rfl,hb1⟩
  obtain ⟨hc1,hf1⟩:=Zaf hb1
  have u0:=(hc1 _ _ hz1).trans u0
  have u1:=(hc1 _ _ hz1).trans u1
  have u2:=(hc1 _ _ hz1).trans u2
  have hz2:=Nat.lt_of_lt_of_le hz1 hb1.size
  have HF1:=hid (HFI.out _ hb1)
  have HW1:=hid hb1
  clear hc1 hf1 hb1 HFI HU
  go_wp2_with fail
  refine HF1.out.mono ?_
  rintro e w2 ⟨rfl,hb2⟩
  obtain ⟨hc2,hf2⟩:=Zaf hb2
  have u0:=(hc2 _ _ hz2).trans u0
  have u1:=(hc2 _ _ hz2).trans u1
  have u2:=(hc2 _ _ hz2).trans u2
  have hz3:=Nat.lt_of_lt_of_le hz2 hb2.size
  have HW2:=hid (HW1.out.trans (hb2.mono HW1.out.size))
  have HL2:=hid (HLE.out _ HW2.out)
  clear hc2 hf2 hb2 HF1 HLE HW1
  go_wp2_with fail
  refine HL2.out.mono ?_
  rintro e w3 ⟨rfl,K2,col2,HE,HT,HG⟩
  have u0:=HT.cell u0 HNB.out
  have u1:=HT.cell u1 HNB.out
  have u2:=HT.cell u2 HNB.out
  have hz4:=Nat.lt_of_lt_of_le hz3 HT.size
  obtain ⟨g,cap,cur,hv,-,hgl,hhg,h1,h2,h3,h4⟩:=Zbk HE.own (by show 0<E.R.length;omega)
  injection hv with hv1 hv2 hv3
  subst hv1 hv3
  have hcl:(⟨{ E with L:=Zd2 E.R R' E.di E.L }.R.length,0⟩:Nat×Nat)=⟨m+1,0⟩:=by show (E.R.length,0)=_;rw [hm]
  have h1':m+1<=rc:=by rw [<-hm];exact h1
  have h4':cur.toList.take ((m+1)*4)=rcs E.R:=by rw [<-hm];exact h4
  generalize hbb:bh E.R ⟨kh,kl,kn⟩=b at *
  have HDE:=hid (Zpi g rc m b cur E.R w3 hm hhg h1' h2 h3 h4' (by omega) (by omega))
  rw [<-HDL.out] at HDE
  have HE3:=hid HE
  have HT2:=hid HT
  have HG2:=hid HG
  have c2:=HE.c2
  have cl:=HE.lt
  have f2:=HE.f 2
  have i0:(0:Int)<=(b:Int):=by omega
  have hwr:IntKind.i64.wrap ((b:Int)+1)=(b:Int)+1:=by rw [IntKind.wrap_i64];omega
  have hgc:=HE3.out.kv g rfl
  have hgw:g≠w.heap.size:=fun e=>by
   rcases HG2.out g hgc.2 with h | h
   ·exact HNB.out (e▸h)
   ·have:=h.1;omega
  simp only [hm] at c2
  clear HE HT HG h1 h1' h2 h3 h4 h4' hhg hv2 hcl HL2 hgc
  go_wp2_with fail
  refine HDE.out.mono ?_
  rintro e w4 ⟨rfl,ho4,hg4⟩
  have hRm:R'.length=m:=by
   have:=HDL.out
   rw [this,List.length_append,List.length_take,List.length_drop]
   omega
  have hT4:Touch (fun j=>(Value.slice (some ⟨g,0,none⟩) E.R.length rc).ownBlock=some j) w3 w4:=Touch.of_grown hg4 (fun k e=>e.symm)
  have HST:=hid (HE3.out.rts_store (v' := .slice (some ⟨g,0,none⟩) m rc) (R':=R') hT4 (by rw [hRm];exact ho4) (.inl rfl))
  have hbt:=hT4.block t HE3.out.lt HE3.out.tv
  have hbw:=hT4.block w.heap.size hz4 (fun e=>hgw (by injection e))
  have c2:=(World.cell?_of_block (a:=⟨t,2,none⟩) hbt).trans c2
  have f2:=(World.frozen?_of_block (a:=⟨t,2,none⟩) hbt).trans f2
  have u0:=(World.cell?_of_block (a:=⟨w.heap.size,0,none⟩) hbw).trans u0
  have u1:=(World.cell?_of_block (a:=⟨w.heap.size,1,none⟩) hbw).trans u1
  have u2:=(World.cell?_of_block (a:=⟨w.heap.size,2,none⟩) hbw).trans u2
  have cl4:=Nat.lt_of_lt_of_le cl hT4.size
  have hz5:=Nat.lt_of_lt_of_le hz4 hT4.size
  have HRM:=hid hRm
  clear hT4 ho4 hg4 hbt hbw HDE hRm
  go_wp2_with fail
  obtain ⟨W5,hW5⟩:∃W:World,W=w4.setCell ⟨t,2,none⟩ (.slice (some ⟨g,0,none⟩) m rc):=⟨_,rfl⟩
  have hE5:=HST.out.1
  have hT5:=HST.out.2
  have hs5:W5.heap.size=w4.heap.size:=by rw [hW5];exact World.size_setCell _ _ _
  rw [<-hW5] at hE5 hT5 ⊢
  rw [<-hs5] at hE5
  have HE5:=hid hE5
  have HT5:=hid hT5
  have HB3:=hid (Below.refl w3.heap.size w3)
  have HW1:=hid (HB0.out.trans (HW2.out.mono HB0.out.size))
  clear hE5 hT5 HST hW5 HW2
  have HA5:Hid (Touch K w W5):=hid (Zas ((Zas (Touch.quiet HW1.out) (fun g h => .inl (HKK.out g h)) HT2.out).trans (Touch.quiet HB3.out)) (fun j hj=>by
   rcases HG2.out j hj with h | h
   ·exact .inl (HKK.out j h)
   ·exact .inr (Nat.le_trans HW1.out.size h.1)) HT5.out)
  have HG5:Hid (∀j,(K2 j\/In w3.heap.size W5.heap.size j)->K j\/In w.heap.size W5.heap.size j):=hid fun j hj=>by
   have z1:=HW1.out.size
   have z2:=HT2.out.size
   have z3:=HB3.out.size
   have z5:=HT5.out.size
   rcases hj with hj | hj
   ·rcases HG2.out j hj with h | h
    ·exact .inl (HKK.out j h)
    ·exact .inr ⟨by have:=h.1;omega,by have:=h.2;omega⟩
   ·exact .inr ⟨by have:=hj.1;omega,hj.2⟩
  have HFL:=hid (Zia W5 _ t (E.toR R') _ _ d L0 X p c kn HE5.out HRTS.out HLN.out HOK.out.dir.1 HDR.out)
  clear HE5
  refine HFL.out.mono ?_
  rintro e w6 ⟨rfl,K6,hP6,hT6,hG6⟩
  have HP6:=hid hP6
  have HA6:=hid (Zas HA5.out (fun j hj=>(HG5.out j hj).imp id fun h=>h.1) hT6)
  have HG6:Hid (∀j,K6 j->K j\/In w.heap.size w6.heap.size j):=hid fun j hj=>by
   have z6:=hT6.size
   have z5:=HA5.out.size
   rcases hG6 j hj with h | h
   ·rcases HG5.out j h with h | h
    ·exact .inl h
    ·exact .inr ⟨h.1,by have:=h.2;omega⟩
   ·exact .inr ⟨by have:=h.1;omega,h.2⟩
  clear hP6 hT6 hG6
  go_wp2
  go_ret
  exact ⟨rfl,K6,HP6.out,HA6.out,HG6.out⟩
 ·have hpe:E.del ⟨kh,kl,kn⟩=E:=if_neg hin
  rw [hpe,decide_eq_false hin]
  simp only [decide_eq_false hin] at HFI
  clear hin H H0 hD hok hg gk hpe HP0 hnb hK0 hb0 hz0 c3 cl hKK
  go_enter Tryz.func10,Tryz.ntmps10
  go_upto_region 1 with fail
  rw [<-hW0]
  clear hW0
  go_wp2_with fail
  refine (HU.out _ (Below.refl _ _)).mono ?_
  rintro e w1 ⟨rfl,hb1⟩
  obtain ⟨hc1,hf1⟩:=Zaf hb1
  have u0:=(hc1 _ _ hz1).trans u0
  have u1:=(hc1 _ _ hz1).trans u1
  have u2:=(hc1 _ _ hz1).trans u2
  have HF1:=hid (HFI.out _ hb1)
  have HW1:=hid (HB0.out.trans (hb1.mono HB0.out.size))
  clear hc1 hf1 hb1 HFI HU
  go_wp2_with fail
  refine HF1.out.mono ?_
  rintro e w2 ⟨rfl,hb2⟩
  have hw2:=HW1.out.trans (hb2.mono HW1.out.size)
  go_wp2
  go_ret
  exact ⟨rfl,K,HP.out.touched (S:=fun _=>False) (Touch.quiet hw2) (fun _ _ x=>x),Touch.quiet hw2,fun g hg => .inl hg⟩
end Go.Proofs.YtgfjmgebecmbiaaGreat
