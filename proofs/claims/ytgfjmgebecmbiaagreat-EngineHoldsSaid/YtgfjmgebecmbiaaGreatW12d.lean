import Derived.Test.YtgfjmgebecmbiaaGreatW12c
set_option linter.unusedSimpArgs false
set_option linter.unusedVariables false
set_option maxHeartbeats 4000000
namespace Go.Proofs.YtgfjmgebecmbiaaGreat
open Lib(hid)
open Go.RowKit Go.Sort M
def rtV (r:Rt):Value := .agg #[.int .u64 (r.k.h:Int),.int .u64 (r.k.l:Int),.int .i64 r.k.n,.int .i64 r.v]
def rt0:Rt:=⟨⟨0,0,0⟩,0⟩
theorem Touch.up {a b:World} {t g lim B:Nat} {v:Value} (h:Touch (Blk t g v) a b) (hl:∀k,Blk t g v k->k<lim) (hB:lim<=B) (hs:B<a.heap.size):b.heap[B]? = a.heap[B]?:=
 h.block B hs (fun x=>by have:=hl B x;omega)
theorem Touch.upc {a b:World} {t g lim B:Nat} {v:Value} (h:Touch (Blk t g v) a b) (hl:∀k,Blk t g v k->k<lim) (hB:lim<=B) (hs:B<a.heap.size) (j:Nat):b.cell? ⟨B,j,none⟩=a.cell? ⟨B,j,none⟩:=
 World.cell?_of_block (a:=⟨B,j,none⟩) (h.up hl hB hs)
theorem Touch.upf {a b:World} {t g lim B:Nat} {v:Value} (h:Touch (Blk t g v) a b) (hl:∀k,Blk t g v k->k<lim) (hB:lim<=B) (hs:B<a.heap.size) (j:Nat):b.frozen? ⟨B,j,none⟩=a.frozen? ⟨B,j,none⟩:=
 World.frozen?_of_block (a:=⟨B,j,none⟩) (h.up hl hB hs)
theorem CT.low {a b:World} {t g lim:Nat} {v:Value} {T:Tab} {m:Int} (H:CT a t g v T m) (hl:∀k,Blk t g v k->k<lim) (hb:Below lim a b):CT b t g v T m:=H.blocks hb.size fun k hk=>hb.block k (hl k hk)
theorem Touch.low {a b c:World} {t g lim:Nat} {v:Value} (h:Touch (Blk t g v) a b) (hlim:a.heap.size=lim) (hb:Below lim b c):Touch (Blk t g v) a c:=
 ⟨hb.os.trans h.os,hb.tape.trans h.tape,hb.output.trans h.output,Nat.le_trans h.size hb.size,fun k hk hn=>(hb.block k (by omega)).trans (h.block k hk hn)⟩
theorem Zbg (T:Tab) (i:Nat) (h:i<T.B.length):T.set i (T.bk i)=T:=by
 unfold Tab.set
 rw [Zrw T i h,List.set_getElem_self]
set_option maxRecDepth 100000 in
theorem Zs9 (t g:Nat) (v:Value) (T:Tab) (m:Int) (b:Nat) (r:Rt) (w:World) (H:CT w t g v T m) (h:Num T) (hgd:Zhm T) (hb0:b<T.B.length) (hr:r.k.good) :
 Calls Tryz.prog 134 #[.pointer (some ⟨t,0,none⟩),.int .i64 (b:Int),rtV r] w fun e w'=>e = .returned (.tuple #[rtV ((Zdo 16 0 T b r).2.getD rt0),.bool (Zdo 16 0 T b r).2.isSome]) /\
  CT w' t g v (Zdo 16 0 T b r).1 m/\Touch (Blk t g v) w w':=by
 have hlim:=H.tb.blk
 have HH:=hid H
 have HN:=hid h
 obtain ⟨R,hR⟩:∃R,R=Zdo 16 0 T b r:=⟨_,rfl⟩
 rw [<-hR]
 obtain ⟨lim,hlm⟩:∃x,x=w.heap.size:=⟨_,rfl⟩
 have hlim':Hid (∀k,Blk t g v k->k<lim):=by rw [hlm];exact hlim
 have HR:=hid hR
 clear H h hlim hR
 unfold rtV
 go_enter Tryz.func134,Tryz.ntmps134
 go_wp2
 go_loopw [1,8,9,10,11,12] (fun s1 s8 s9 s10 s11 i wr=>∃(j:Nat) (T':Tab) (b':Nat) (r':Rt),j<=16/\i = .int .i64 (j:Int)/\s1 = .int .i64 (b':Int)/\b'<T'.B.length/\Hid (Num T')/\Hid (Zhm T')/\Hid r'.k.good/\Hid (CT wr t g v T' m)/\Hid (Zdo (16-j) j T' b' r'=R) /\
  wr.cell? ⟨w.heap.size,0,none⟩=some (.int .u64 (r'.k.h:Int))/\wr.cell? ⟨w.heap.size,1,none⟩=some (.int .u64 (r'.k.l:Int))/\wr.cell? ⟨w.heap.size,2,none⟩=some (.int .i64 r'.k.n)/\wr.cell? ⟨w.heap.size,3,none⟩=some (.int .i64 r'.v) /\
  wr.cell? ⟨w.heap.size+1,0,none⟩=some (.int .u64 0)/\wr.cell? ⟨w.heap.size+1,1,none⟩=some (.int .u64 0)/\wr.cell? ⟨w.heap.size+1,2,none⟩=some (.int .i64 0)/\wr.cell? ⟨w.heap.size+1,3,none⟩=some (.int .i64 0) /\
  (∀j,wr.frozen? ⟨w.heap.size,j,none⟩=false)/\(∀j,wr.frozen? ⟨w.heap.size+1,j,none⟩=false)/\w.heap.size+1<wr.heap.size/\Hid (Touch (Blk t g v) w wr)) (fun _ _ _ _ _ i _=>16-(intOf i).toNat)
 case atStart=>
  exact ⟨0,T,b,r,by omega,rfl,rfl,hb0,HN,hgd,hr,HH.out.below (by go_grown),HR.out.symm,by simp [go_sem],by simp [go_sem],by simp [go_sem],by simp [go_sem],by simp [go_sem],by simp [go_sem],by simp [go_sem],by simp [go_sem],fun j=>by simp [go_sem],fun j=>by simp [go_sem],by simp,Touch.quiet (by go_grown)⟩
 case round=>
  obtain ⟨j,T',b',r',hj,rfl,rfl,hb',HNT,HGT,HGR,HC,HK,d0,d1,d2,d3,z0,z1,z2,z3,fd,fz,hz,HT⟩:=hrel
  by_cases hlt:j<16
  ·have c1:=HC.out.tb.c1
   have hl1:=HC.out.tb.tlt
   have i1:(0:Int)<=(b':Int):=by omega
   have i2:(b':Int)<(T'.B.length:Int):=by omega
   have hz0:w.heap.size<wr.heap.size:=by omega
   have hgl:=HC.out.tb.blt
   have htg:=HC.out.tb.tg
   have hlg:g<lim:=hlim'.out g (.inr (.inl rfl))
   have hwg:w.heap.size≠g:=by omega
   obtain ⟨q,hq⟩:∃q,q=kOut T' b' j r':=⟨_,rfl⟩
   obtain ⟨so,hso⟩:∃x,x=(Zfr (T'.bk b') ((j%4:Nat):Int) r'.k r'.v).isSome:=⟨_,rfl⟩
   have hwrg:wr.heap.size≠g:=by omega
   have hltt:t<wr.heap.size:=hl1
   have hSW:∀W,Below wr.heap.size wr W->Calls Tryz.prog 171 #[.pointer (some ⟨g,b'*20,none⟩),.int .i64 ((j:Int)%4),kyV r'.k,.int .i64 r'.v] W fun e w'=>e = .returned (.tuple #[kyV q.k,.int .i64 q.v,.bool so])/\Hid (CT w' t g v (kTab T' b' j r') m/\Touch (Blk t g v) wr w') /\
    W.heap.size<=w'.heap.size/\Hid (∀B j,B<W.heap.size->B≠g->w'.cell? ⟨B,j,none⟩=W.cell? ⟨B,j,none⟩/\w'.frozen? ⟨B,j,none⟩=W.frozen? ⟨B,j,none⟩)/\w'.cell? ⟨t,1,none⟩=some (.slice (some ⟨g,0,none⟩) T'.B.length T'.B.length)/\w'.cell? ⟨w.heap.size,0,none⟩=some (.int .u64 (r'.k.h:Int))/\w'.cell? ⟨w.heap.size,1,none⟩=some (.int .u64 (r'.k.l:Int))/\w'.cell? ⟨w.heap.size,2,none⟩=some (.int .i64 r'.k.n)/\w'.cell? ⟨w.heap.size,3,none⟩=some (.int .i64 r'.v):=by
    intro W hW
    have HW:=HC.out.below hW
    have:=Zuj g (b'*20) (T'.bk b') ((j%4:Nat):Int) r'.k r'.v W (HW.tb.bk b' hb')
    rw [show ((j%4:Nat):Int)=(j:Int)%4 by omega] at this
    refine this.mono ?_
    rintro e w' ⟨rfl,h1,h2⟩
    have hfar:∀B j,B<W.heap.size->B≠g->w'.cell? ⟨B,j,none⟩=W.cell? ⟨B,j,none⟩/\w'.frozen? ⟨B,j,none⟩=W.frozen? ⟨B,j,none⟩:=fun B j hB hne=>h2.far hB hne j
    have far2:∀B j u,B<wr.heap.size->B≠g->wr.cell? ⟨B,j,none⟩=some u->w'.cell? ⟨B,j,none⟩=some u:=fun B j u hB hne hc=>((hfar B j (Nat.lt_of_lt_of_le hB hW.size) hne).1.trans (hW.cell (p:=⟨B,j,none⟩) hB)).trans hc
    refine ⟨?_,⟨?_,(Touch.quiet hW (S:=Blk t g v)).trans (h2.touch (.inr (.inl rfl)))⟩,h2.grown.size,hfar,far2 _ _ _ hltt htg c1,far2 _ _ _ hz0 hwg d0,far2 _ _ _ hz0 hwg d1,far2 _ _ _ hz0 hwg d2,far2 _ _ _ hz0 hwg d3⟩
    ·rw [hq,hso,show ((j%4:Nat):Int)=(j:Int)%4 by omega]
     unfold kOut
     rw [show ((j%4:Nat):Int)=(j:Int)%4 by omega]
     rfl
    ·unfold kTab
     rw [show ((j%4:Nat):Int)=(j:Int)%4 by omega]
     exact (HW.turn hb' h2 h1).1
   have HSW:=hid hSW
   have HQ:=hid hq
   clear hSW hso
   obtain ⟨hqg,hG3⟩:=HGT.out.kick hb' j HGR.out
   rw [<-hq] at hqg
   have hN3:Num (kTab T' b' j r'):=HNT.out.set _ _
   have hnb:(kTab T' b' j r').other q.k b'=kNew T' b' j r':=by unfold kNew;rw [hq]
   have hnbl:kNew T' b' j r'<(kTab T' b' j r').B.length:=by
    rw [<-hnb]
    rcases Zh3 (kTab T' b' j r') q.k b' with e | e
    ·rw [e];exact hN3.x1_lt _
    ·rw [e];exact hN3.x2_lt _
   clear hq
   obtain ⟨T3,hT3e⟩:∃x,x=kTab T' b' j r':=⟨_,rfl⟩
   obtain ⟨nb,hNB⟩:∃x,x=kNew T' b' j r':=⟨_,rfl⟩
   rw [<-hT3e] at hG3 hN3 hnb hnbl HSW
   rw [<-hNB] at hnb hnbl
   have HT3e:=hid hT3e
   have HNB:=hid hNB
   have hzl:lim<=wr.heap.size:=by omega
   clear hT3e hNB
   unfold kyV at HSW
   have hn0:=World.new_ne wr _ c1
   have hn1:=World.new_ne wr _ d0
   have hn2:=World.new_ne wr _ d1
   have hn3:=World.new_ne wr _ d2
   have hn4:=World.new_ne wr _ d3
   go_wp2_with fail
   go_region_held3 (fun w'=>w'.cell? ⟨t,1,none⟩=some (.slice (some ⟨g,0,none⟩) T'.B.length T'.B.length)/\w'.cell? ⟨w.heap.size,0,none⟩=some (.int .u64 (r'.k.h:Int))/\w'.cell? ⟨w.heap.size,1,none⟩=some (.int .u64 (r'.k.l:Int))/\w'.cell? ⟨w.heap.size,2,none⟩=some (.int .i64 r'.k.n)/\w'.cell? ⟨w.heap.size,3,none⟩=some (.int .i64 r'.v))
    (go_keep)
    ((go_at_call 171;refine (HSW.out _ (by go_grown)).mono ?_;rintro e w2 ⟨rfl,hF2,hszW,hfar,k0,k1,k2,k3,k4⟩;
      have s0:=hfar.out wr.heap.size 0;have s1:=hfar.out wr.heap.size 1;have s2:=hfar.out wr.heap.size 2;
      try (simp [go_sem,hwrg] at s0);try (simp [go_sem,hwrg] at s1);try (simp [go_sem,hwrg] at s2)))
   ·generalize hw3:w2.alloc _=w3
    have hsz2:=hF2.out.2.size
    try simp only [World.size_alloc,World.size_drew] at hszW
    have hB3:Below wr.heap.size w2 w3:=by rw [<-hw3];go_grown
    have hC3:=hF2.out.1.low (fun k hk=>Nat.lt_of_lt_of_le (hlim'.out k hk) hzl) hB3
    have ht3:=hF2.out.2.low rfl hB3
    have e0:w3.cell? ⟨w2.heap.size,0,none⟩=some (.int .u64 (q.k.h:Int)):=by rw [<-hw3];first|(simp [go_sem];done)|(simp [go_sem,s0,s1,s2];done)
    have e1:w3.cell? ⟨w2.heap.size,1,none⟩=some (.int .u64 (q.k.l:Int)):=by rw [<-hw3];first|(simp [go_sem];done)|(simp [go_sem,s0,s1,s2];done)
    have e2:w3.cell? ⟨w2.heap.size,2,none⟩=some (.int .i64 q.k.n):=by rw [<-hw3];first|(simp [go_sem];done)|(simp [go_sem,s0,s1,s2];done)
    have hP9:w2.heap.size<w3.heap.size:=by rw [<-hw3];simp;try omega
    have hP8:w.heap.size+1<w2.heap.size:=by omega
    obtain ⟨P9,hP9e⟩:∃x,x=w2.heap.size:=⟨_,rfl⟩
    rw [<-hP9e] at e0 e1 e2 hP9 hP8 ⊢
    have d0:=(ht3.upc hlim'.out (by omega) hz0 0).trans d0
    have d1:=(ht3.upc hlim'.out (by omega) hz0 1).trans d1
    have d2:=(ht3.upc hlim'.out (by omega) hz0 2).trans d2
    have d3:=(ht3.upc hlim'.out (by omega) hz0 3).trans d3
    have z0:=(ht3.upc hlim'.out (by omega) hz 0).trans z0
    have z1:=(ht3.upc hlim'.out (by omega) hz 1).trans z1
    have z2:=(ht3.upc hlim'.out (by omega) hz 2).trans z2
    have z3:=(ht3.upc hlim'.out (by omega) hz 3).trans z3
    have fd:∀j,w3.frozen? ⟨w.heap.size,j,none⟩=false:=fun j=>(ht3.upf hlim'.out (by omega) hz0 j).trans (fd j)
    have fz:∀j,w3.frozen? ⟨w.heap.size+1,j,none⟩=false:=fun j=>(ht3.upf hlim'.out (by omega) hz j).trans (fz j)
    have hz3:w.heap.size+1<w3.heap.size:=by omega
    have HT3:=hid (HT.out.trans ht3)
    have HF3:=hid hC3
    have HOT:=hid (fun W H=>Zol t g v T3 m q.k b' W H hN3 hqg)
    clear hw3 hP9e hszW hF2 hC3 ht3 hB3 hfar s0 s1 s2 k0 k1 k2 k3 k4 c1 hz hz0 hsz2 HC HT
    go_wp2_with fail
    refine (HOT.out _ HF3.out).mono ?_
    rintro e w4 ⟨rfl,hb4⟩
    rw [hnb]
    obtain ⟨hc4,hf4⟩:=Zaf hb4
    have e0:=(hc4 _ _ hP9).trans e0
    have e1:=(hc4 _ _ hP9).trans e1
    have e2:=(hc4 _ _ hP9).trans e2
    have d0:=(hc4 _ _ (by omega)).trans d0
    have d1:=(hc4 _ _ (by omega)).trans d1
    have d2:=(hc4 _ _ (by omega)).trans d2
    have d3:=(hc4 _ _ (by omega)).trans d3
    have z0:=(hc4 _ _ (by omega)).trans z0
    have z1:=(hc4 _ _ (by omega)).trans z1
    have z2:=(hc4 _ _ (by omega)).trans z2
    have z3:=(hc4 _ _ (by omega)).trans z3
    have fd:∀j,w4.frozen? ⟨w.heap.size,j,none⟩=false:=fun j=>(hf4 _ _ (by omega)).trans (fd j)
    have fz:∀j,w4.frozen? ⟨w.heap.size+1,j,none⟩=false:=fun j=>(hf4 _ _ (by omega)).trans (fz j)
    have hz4:w.heap.size+1<w4.heap.size:=Nat.lt_of_lt_of_le hz3 hb4.size
    have hP4:P9<w4.heap.size:=Nat.lt_of_lt_of_le hP9 hb4.size
    have HF4:=hid (HF3.out.below hb4)
    have HT4:=hid (HT3.out.trans (Touch.quiet hb4))
    have c1:=HF4.out.tb.c1
    have hl4:=HF4.out.tb.tlt
    have i1:(0:Int)<=(nb:Int):=by omega
    have i2:(nb:Int)<(T3.B.length:Int):=by omega
    clear hc4 hf4 hb4 hP9 hz3 HF3 HT3 HOT
    go_wp2_with fail
    have kg:=Zaa
    refine Zaj 8 (by kernel_rfl) (by kernel_rfl) ?_
    simp only [List.take_succ_cons,List.take_zero,List.drop_succ_cons,List.drop_zero]
    repeat (any_goals (first|go_big_quiet_step (fail)|quiet_step (fail)))
    refine wpQuiet_nil ?_
    clear kg
    intro w5 hb5
    obtain ⟨hc5,hf5⟩:=Zaf hb5
    have e0:=(hc5 _ _ hP4).trans e0
    have e1:=(hc5 _ _ hP4).trans e1
    have e2:=(hc5 _ _ hP4).trans e2
    have d0:=(hc5 _ _ (by omega)).trans d0
    have d1:=(hc5 _ _ (by omega)).trans d1
    have d2:=(hc5 _ _ (by omega)).trans d2
    have d3:=(hc5 _ _ (by omega)).trans d3
    have z0:=(hc5 _ _ (by omega)).trans z0
    have z1:=(hc5 _ _ (by omega)).trans z1
    have z2:=(hc5 _ _ (by omega)).trans z2
    have z3:=(hc5 _ _ (by omega)).trans z3
    have fd:∀j,w5.frozen? ⟨w.heap.size,j,none⟩=false:=fun j=>(hf5 _ _ (by omega)).trans (fd j)
    have fz:∀j,w5.frozen? ⟨w.heap.size+1,j,none⟩=false:=fun j=>(hf5 _ _ (by omega)).trans (fz j)
    have hz5:w.heap.size+1<w5.heap.size:=Nat.lt_of_lt_of_le hz4 hb5.size
    have hP5:P9<w5.heap.size:=Nat.lt_of_lt_of_le hP4 hb5.size
    have HF5:=hid (HF4.out.below hb5)
    have HT5:=hid (HT4.out.trans (Touch.quiet hb5))
    clear hc5 hf5 hb5 hP4 hz4 HF4 HT4 c1 hl4
    go_wp2_with fail
    refine (Zby g (nb*20) (T3.bk nb) q.k q.v _ (HF5.out.tb.bk nb hnbl)).mono ?_
    rintro e w6 ⟨rfl,hB6,hT6⟩
    obtain ⟨hC6,ht6⟩:=HF5.out.turn hnbl hT6 hB6
    have e0:=(ht6.upc hlim'.out (by omega) hP5 0).trans e0
    have e1:=(ht6.upc hlim'.out (by omega) hP5 1).trans e1
    have e2:=(ht6.upc hlim'.out (by omega) hP5 2).trans e2
    have d0:=(ht6.upc hlim'.out (by omega) (by omega) 0).trans d0
    have d1:=(ht6.upc hlim'.out (by omega) (by omega) 1).trans d1
    have d2:=(ht6.upc hlim'.out (by omega) (by omega) 2).trans d2
    have d3:=(ht6.upc hlim'.out (by omega) (by omega) 3).trans d3
    have z0:=(ht6.upc hlim'.out (by omega) hz5 0).trans z0
    have z1:=(ht6.upc hlim'.out (by omega) hz5 1).trans z1
    have z2:=(ht6.upc hlim'.out (by omega) hz5 2).trans z2
    have z3:=(ht6.upc hlim'.out (by omega) hz5 3).trans z3
    have fd:∀j,w6.frozen? ⟨w.heap.size,j,none⟩=false:=fun j=>(ht6.upf hlim'.out (by omega) (by omega) j).trans (fd j)
    have fz:∀j,w6.frozen? ⟨w.heap.size+1,j,none⟩=false:=fun j=>(ht6.upf hlim'.out (by omega) hz5 j).trans (fz j)
    have hz6:w.heap.size+1<w6.heap.size:=Nat.lt_of_lt_of_le hz5 ht6.size
    have HT6:=hid (HT5.out.trans ht6)
    have HF6:=hid hC6
    clear hC6 ht6 hB6 hT6 hz5 hP5 HF5 HT5
    have fd0:=fd 0
    have fd1:=fd 1
    have fd2:=fd 2
    have fd3:=fd 3
    have fz0:=fz 0
    have fz1:=fz 1
    have fz2:=fz 2
    have fz3:=fz 3
    cases hpc:putC (T3.bk nb) q.k q.v with
    | some C=>
     rw [hpc] at HF6
     have HPC:=hid hpc
     clear hpc
     go_wp2
     refine bodyPost_ret (by simp [results,Tryz.results134,go_sem,z0,z1,z2,z3];try rfl) rfl ?_
     have hR2:R=(T3.set nb C,none):=by
      have:=HK.out
      rw [show 16-j=(15-j)+1 by omega,Zs8 (C:=C) (by rw [<-HT3e.out,<-HQ.out,<-HNB.out];exact HPC.out)] at this
      rw [<-this,HT3e.out,HNB.out]
     rw [hR2]
     exact ⟨rfl,HF6.out.low (lim:=w.heap.size) (fun k hk=>by have:=hlim'.out k hk;omega) (by go_grown),HT6.out.low rfl (by go_grown)⟩
    | none=>
     rw [hpc] at HF6
     have HPC:=hid hpc
     clear hpc
     go_wp2
     go_roundw
     case rel=>
      have hK2:Zdo (16-(j+1)) (j+1) T3 nb q=R:=by
       have:=HK.out
       rw [show 16-j=(15-j)+1 by omega,Zs6 (by rw [<-HT3e.out,<-HQ.out,<-HNB.out];exact HPC.out)] at this
       rw [<-this,HT3e.out,HNB.out,HQ.out]
       congr 1<;>omega
      have hF7:=HF6.out
      simp only [Option.getD_none] at hF7
      rw [Zbg T3 nb hnbl] at hF7
      refine ⟨j+1,T3,nb,q,by omega,by go_num,rfl,hnbl,hN3,hG3,hqg,hF7.low (lim:=w.heap.size) (fun k hk=>by have:=hlim'.out k hk;omega) (by go_grown),hK2,?_,?_,?_,?_,?_,?_,?_,?_,?_,?_,by simp;omega,HT6.out.low rfl (by go_grown)⟩
      all_goals first|(simp [go_sem,d0,d1,d2,d3,z0,z1,z2,z3];done)|(intro j;simp [go_sem,fd,fz];done)
     case measure=>simp [intOf];omega
   ·generalize hw3:World.setCell _ _ _=w3
    have hsz2:=hF2.out.2.size
    try simp only [World.size_alloc,World.size_drew] at hszW
    have hB3:Below wr.heap.size w2 w3:=by rw [<-hw3];go_grown
    have hC3:=hF2.out.1.low (fun k hk=>Nat.lt_of_lt_of_le (hlim'.out k hk) hzl) hB3
    have ht3:=hF2.out.2.low rfl hB3
    have e0:w3.cell? ⟨wr.heap.size,0,none⟩=some (.int .u64 (q.k.h:Int)):=by rw [<-hw3];first|(simp [go_sem];done)|(simp [go_sem,s0,s1,s2];done)
    have e1:w3.cell? ⟨wr.heap.size,1,none⟩=some (.int .u64 (q.k.l:Int)):=by rw [<-hw3];first|(simp [go_sem];done)|(simp [go_sem,s0,s1,s2];done)
    have e2:w3.cell? ⟨wr.heap.size,2,none⟩=some (.int .i64 q.k.n):=by rw [<-hw3];first|(simp [go_sem];done)|(simp [go_sem,s0,s1,s2];done)
    have hP9:wr.heap.size<w3.heap.size:=by rw [<-hw3];simp;try omega
    have hP8:w.heap.size+1<wr.heap.size:=by omega
    obtain ⟨P9,hP9e⟩:∃x,x=wr.heap.size:=⟨_,rfl⟩
    rw [<-hP9e] at e0 e1 e2 hP9 hP8 ⊢
    have d0:=(ht3.upc hlim'.out (by omega) hz0 0).trans d0
    have d1:=(ht3.upc hlim'.out (by omega) hz0 1).trans d1
    have d2:=(ht3.upc hlim'.out (by omega) hz0 2).trans d2
    have d3:=(ht3.upc hlim'.out (by omega) hz0 3).trans d3
    have z0:=(ht3.upc hlim'.out (by omega) hz 0).trans z0
    have z1:=(ht3.upc hlim'.out (by omega) hz 1).trans z1
    have z2:=(ht3.upc hlim'.out (by omega) hz 2).trans z2
    have z3:=(ht3.upc hlim'.out (by omega) hz 3).trans z3
    have fd:∀j,w3.frozen? ⟨w.heap.size,j,none⟩=false:=fun j=>(ht3.upf hlim'.out (by omega) hz0 j).trans (fd j)
    have fz:∀j,w3.frozen? ⟨w.heap.size+1,j,none⟩=false:=fun j=>(ht3.upf hlim'.out (by omega) hz j).trans (fz j)
    have hz3:w.heap.size+1<w3.heap.size:=by omega
    have HT3:=hid (HT.out.trans ht3)
    have HF3:=hid hC3
    have HOT:=hid (fun W H=>Zol t g v T3 m q.k b' W H hN3 hqg)
    clear hw3 hP9e hszW hF2 hC3 ht3 hB3 hfar s0 s1 s2 k0 k1 k2 k3 k4 c1 hz hz0 hsz2 HC HT
    go_wp2_with fail
    refine (HOT.out _ HF3.out).mono ?_
    rintro e w4 ⟨rfl,hb4⟩
    rw [hnb]
    obtain ⟨hc4,hf4⟩:=Zaf hb4
    have e0:=(hc4 _ _ hP9).trans e0
    have e1:=(hc4 _ _ hP9).trans e1
    have e2:=(hc4 _ _ hP9).trans e2
    have d0:=(hc4 _ _ (by omega)).trans d0
    have d1:=(hc4 _ _ (by omega)).trans d1
    have d2:=(hc4 _ _ (by omega)).trans d2
    have d3:=(hc4 _ _ (by omega)).trans d3
    have z0:=(hc4 _ _ (by omega)).trans z0
    have z1:=(hc4 _ _ (by omega)).trans z1
    have z2:=(hc4 _ _ (by omega)).trans z2
    have z3:=(hc4 _ _ (by omega)).trans z3
    have fd:∀j,w4.frozen? ⟨w.heap.size,j,none⟩=false:=fun j=>(hf4 _ _ (by omega)).trans (fd j)
    have fz:∀j,w4.frozen? ⟨w.heap.size+1,j,none⟩=false:=fun j=>(hf4 _ _ (by omega)).trans (fz j)
    have hz4:w.heap.size+1<w4.heap.size:=Nat.lt_of_lt_of_le hz3 hb4.size
    have hP4:P9<w4.heap.size:=Nat.lt_of_lt_of_le hP9 hb4.size
    have HF4:=hid (HF3.out.below hb4)
    have HT4:=hid (HT3.out.trans (Touch.quiet hb4))
    have c1:=HF4.out.tb.c1
    have hl4:=HF4.out.tb.tlt
    have i1:(0:Int)<=(nb:Int):=by omega
    have i2:(nb:Int)<(T3.B.length:Int):=by omega
    clear hc4 hf4 hb4 hP9 hz3 HF3 HT3 HOT
    go_wp2_with fail
    have kg:=Zaa
    refine Zaj 8 (by kernel_rfl) (by kernel_rfl) ?_
    simp only [List.take_succ_cons,List.take_zero,List.drop_succ_cons,List.drop_zero]
    repeat (any_goals (first|go_big_quiet_step (fail)|quiet_step (fail)))
    refine wpQuiet_nil ?_
    clear kg
    intro w5 hb5
    obtain ⟨hc5,hf5⟩:=Zaf hb5
    have e0:=(hc5 _ _ hP4).trans e0
    have e1:=(hc5 _ _ hP4).trans e1
    have e2:=(hc5 _ _ hP4).trans e2
    have d0:=(hc5 _ _ (by omega)).trans d0
    have d1:=(hc5 _ _ (by omega)).trans d1
    have d2:=(hc5 _ _ (by omega)).trans d2
    have d3:=(hc5 _ _ (by omega)).trans d3
    have z0:=(hc5 _ _ (by omega)).trans z0
    have z1:=(hc5 _ _ (by omega)).trans z1
    have z2:=(hc5 _ _ (by omega)).trans z2
    have z3:=(hc5 _ _ (by omega)).trans z3
    have fd:∀j,w5.frozen? ⟨w.heap.size,j,none⟩=false:=fun j=>(hf5 _ _ (by omega)).trans (fd j)
    have fz:∀j,w5.frozen? ⟨w.heap.size+1,j,none⟩=false:=fun j=>(hf5 _ _ (by omega)).trans (fz j)
    have hz5:w.heap.size+1<w5.heap.size:=Nat.lt_of_lt_of_le hz4 hb5.size
    have hP5:P9<w5.heap.size:=Nat.lt_of_lt_of_le hP4 hb5.size
    have HF5:=hid (HF4.out.below hb5)
    have HT5:=hid (HT4.out.trans (Touch.quiet hb5))
    clear hc5 hf5 hb5 hP4 hz4 HF4 HT4 c1 hl4
    go_wp2_with fail
    refine (Zby g (nb*20) (T3.bk nb) q.k q.v _ (HF5.out.tb.bk nb hnbl)).mono ?_
    rintro e w6 ⟨rfl,hB6,hT6⟩
    obtain ⟨hC6,ht6⟩:=HF5.out.turn hnbl hT6 hB6
    have e0:=(ht6.upc hlim'.out (by omega) hP5 0).trans e0
    have e1:=(ht6.upc hlim'.out (by omega) hP5 1).trans e1
    have e2:=(ht6.upc hlim'.out (by omega) hP5 2).trans e2
    have d0:=(ht6.upc hlim'.out (by omega) (by omega) 0).trans d0
    have d1:=(ht6.upc hlim'.out (by omega) (by omega) 1).trans d1
    have d2:=(ht6.upc hlim'.out (by omega) (by omega) 2).trans d2
    have d3:=(ht6.upc hlim'.out (by omega) (by omega) 3).trans d3
    have z0:=(ht6.upc hlim'.out (by omega) hz5 0).trans z0
    have z1:=(ht6.upc hlim'.out (by omega) hz5 1).trans z1
    have z2:=(ht6.upc hlim'.out (by omega) hz5 2).trans z2
    have z3:=(ht6.upc hlim'.out (by omega) hz5 3).trans z3
    have fd:∀j,w6.frozen? ⟨w.heap.size,j,none⟩=false:=fun j=>(ht6.upf hlim'.out (by omega) (by omega) j).trans (fd j)
    have fz:∀j,w6.frozen? ⟨w.heap.size+1,j,none⟩=false:=fun j=>(ht6.upf hlim'.out (by omega) hz5 j).trans (fz j)
    have hz6:w.heap.size+1<w6.heap.size:=Nat.lt_of_lt_of_le hz5 ht6.size
    have HT6:=hid (HT5.out.trans ht6)
    have HF6:=hid hC6
    clear hC6 ht6 hB6 hT6 hz5 hP5 HF5 HT5
    have fd0:=fd 0
    have fd1:=fd 1
    have fd2:=fd 2
    have fd3:=fd 3
    have fz0:=fz 0
    have fz1:=fz 1
    have fz2:=fz 2
    have fz3:=fz 3
    cases hpc:putC (T3.bk nb) q.k q.v with
    | some C=>
     rw [hpc] at HF6
     have HPC:=hid hpc
     clear hpc
     go_wp2
     refine bodyPost_ret (by simp [results,Tryz.results134,go_sem,z0,z1,z2,z3];try rfl) rfl ?_
     have hR2:R=(T3.set nb C,none):=by
      have:=HK.out
      rw [show 16-j=(15-j)+1 by omega,Zs8 (C:=C) (by rw [<-HT3e.out,<-HQ.out,<-HNB.out];exact HPC.out)] at this
      rw [<-this,HT3e.out,HNB.out]
     rw [hR2]
     exact ⟨rfl,HF6.out.low (lim:=w.heap.size) (fun k hk=>by have:=hlim'.out k hk;omega) (by go_grown),HT6.out.low rfl (by go_grown)⟩
    | none=>
     rw [hpc] at HF6
     have HPC:=hid hpc
     clear hpc
     go_wp2
     go_roundw
     case rel=>
      have hK2:Zdo (16-(j+1)) (j+1) T3 nb q=R:=by
       have:=HK.out
       rw [show 16-j=(15-j)+1 by omega,Zs6 (by rw [<-HT3e.out,<-HQ.out,<-HNB.out];exact HPC.out)] at this
       rw [<-this,HT3e.out,HNB.out,HQ.out]
       congr 1<;>omega
      have hF7:=HF6.out
      simp only [Option.getD_none] at hF7
      rw [Zbg T3 nb hnbl] at hF7
      refine ⟨j+1,T3,nb,q,by omega,by go_num,rfl,hnbl,hN3,hG3,hqg,hF7.low (lim:=w.heap.size) (fun k hk=>by have:=hlim'.out k hk;omega) (by go_grown),hK2,?_,?_,?_,?_,?_,?_,?_,?_,?_,?_,by simp;omega,HT6.out.low rfl (by go_grown)⟩
      all_goals first|(simp [go_sem,d0,d1,d2,d3,z0,z1,z2,z3];done)|(intro j;simp [go_sem,fd,fz];done)
     case measure=>simp [intOf];omega
  ·have hj16:j=16:=by omega
   have hRk:R=(T',some r'):=by have:=HK.out;rw [hj16] at this;exact this.symm
   have HRK:=hid hRk
   have fz0:=fz 0
   have fz1:=fz 1
   have fz2:=fz 2
   have fz3:=fz 3
   clear hRk
   go_wp2
   refine bodyPost_ret (by simp [results,Tryz.results134,go_sem,z0,z1,z2,z3];try rfl) rfl ?_
   rw [HRK.out]
   exact ⟨rfl,HC.out.low (lim:=w.heap.size) (fun k hk=>by have:=hlim'.out k hk;omega) (by go_grown),HT.out.low rfl (by go_grown)⟩
end Go.Proofs.YtgfjmgebecmbiaaGreat
