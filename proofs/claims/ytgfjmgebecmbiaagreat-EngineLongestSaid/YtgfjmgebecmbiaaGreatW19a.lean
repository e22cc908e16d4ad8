import Derived.Test.YtgfjmgebecmbiaaGreatW18
set_option linter.unusedSimpArgs false
set_option linter.unusedVariables false
set_option maxHeartbeats 8000000
namespace Go.Proofs.YtgfjmgebecmbiaaGreat
open Lib(hid)
open Go Go.RowKit Go.Sort M
set_option maxRecDepth 100000 in
theorem Zp0 (p q:Option Addr) (c d m n:Nat) (A B:List Rt) (w:World) (hA:Row w p (rcs A)) (hB:Row w q (rcs B)) (hm:A.length=m) (hn:B.length=n) :
 Calls Tryz.prog 108 #[.slice p m c,.slice q n d] w fun e w'=>e = .returned (.bool (Ze5 A B))/\Below w.heap.size w w':=by
 rcases A with _ | ⟨a,A⟩
 ·obtain rfl:m=0:=hm.symm
  rw [show Ze5 [] B=false from rfl]
  go_enter Tryz.func108,Tryz.ntmps108
  go_wp2_with fail
  have kg:=Zaa
  refine Zab (by kernel_rfl) (by kernel_rfl) ?_
  repeat (any_goals (first|go_big_quiet_step (fail)|quiet_step (fail)))
  refine wpQuiet_nil ?_
  clear kg
  intro w1 hb1
  obtain ⟨hc1,hf1⟩:=Zaf hb1
  have hw1:Below w.heap.size w w1:=by
   refine Below.trans ?_ (hb1.mono ?_)
   ·go_grown
   ·first|omega|go_size
  go_wp2
  go_ret
  exact ⟨rfl,hw1⟩
 ·obtain ⟨g,o,rfl,hg,x0,x1,x2,-⟩:=hA.rt (k:=0) (by simp)
  simp only [Nat.zero_mul,Nat.add_zero,List.getElem_cons_zero] at x0 x1 x2
  have hm0:0<m:=by rw [<-hm];simp
  have m0:(0:Int)<(m:Int):=by omega
  have m1:decide (0<m)=true:=by simpa using hm0
  rcases B with _ | ⟨b,B⟩
  ·obtain rfl:n=0:=hn.symm
   rw [show Ze5 (a::A) []=true from rfl]
   clear hA hB hm
   go_enter Tryz.func108,Tryz.ntmps108
   go_wp2_with fail
   have kg:=Zaa
   refine Zab (by kernel_rfl) (by kernel_rfl) ?_
   repeat (any_goals (first|go_big_quiet_step (fail)|quiet_step (fail)))
   refine wpQuiet_nil ?_
   clear kg
   intro w1 hb1
   obtain ⟨hc1,hf1⟩:=Zaf hb1
   have hw1:Below w.heap.size w w1:=by
    refine Below.trans ?_ (hb1.mono ?_)
    ·go_grown
    ·first|omega|go_size
   go_wp2
   go_ret
   exact ⟨rfl,hw1⟩
  ·obtain ⟨gb,ob,rfl,hgb,y0,y1,y2,-⟩:=hB.rt (k:=0) (by simp)
   simp only [Nat.zero_mul,Nat.add_zero,List.getElem_cons_zero] at y0 y1 y2
   have hn0:0<n:=by rw [<-hn];simp
   have n0:(0:Int)<(n:Int):=by omega
   have n1:((n:Int) == 0)=false:=by rw [beq_eq_false_iff_ne];omega
   have HL:=Zfg a.k.h a.k.l a.k.n b.k.h b.k.l b.k.n
   rw [show lessB a.k.h a.k.l a.k.n b.k.h b.k.l b.k.n=Ze5 (a::A) (b::B) from rfl] at HL
   have HL:=hid HL
   generalize Ze5 (a::A) (b::B)=r at *
   obtain ⟨⟨kh,kl,kn⟩,v⟩:=a
   obtain ⟨⟨jh,jl,jn⟩,u⟩:=b
   simp only at x0 x1 x2 y0 y1 y2 HL
   clear hA hB hm hn
   go_enter Tryz.func108,Tryz.ntmps108
   go_wp2_with fail
   have kg:=Zaa
   refine Zab (by kernel_rfl) (by kernel_rfl) ?_
   repeat (any_goals (first|go_big_quiet_step ((exact HL.out.at _ _ _))|quiet_step ((exact HL.out.at _ _ _))))
   refine wpQuiet_nil ?_
   clear kg
   intro w1 hb1
   obtain ⟨hc1,hf1⟩:=Zaf hb1
   have hw1:Below w.heap.size w w1:=by
    refine Below.trans ?_ (hb1.mono ?_)
    ·go_grown
    ·first|omega|go_size
   go_wp2
   go_ret
   exact ⟨rfl,hw1⟩
structure Rs (w:World) (q:Option Addr) (m d:Nat) (M:List Rt):Prop where
 len:M.length=m
 le:m<=d
 row:Row w q (rcs M)
theorem Rs.head {w:World} {q:Option Addr} {m d:Nat} {M:List Rt} (H:Rs w q m d M) (h:0<m) :
 ∃g o x N,q=some ⟨g,o,none⟩/\g<w.heap.size/\w.cell? ⟨g,o,none⟩=some (.int .u64 (x.k.h:Int))/\w.cell? ⟨g,o+1,none⟩=some (.int .u64 (x.k.l:Int))/\w.cell? ⟨g,o+2,none⟩=some (.int .i64 x.k.n)/\w.cell? ⟨g,o+3,none⟩=some (.int .i64 x.v) /\
  M=x::N/\Rs w (some ⟨g,o+4,none⟩) (m-1) (d-1) N/\(d=1->Rs w (some ⟨g,o,none⟩) (m-1) 0 N):=by
 obtain ⟨hl,hle,hr⟩:=H
 rcases M with _ | ⟨x,N⟩
 ·simp at hl;omega
 have hN:N.length=m-1:=by simp at hl;omega
 obtain ⟨g,o,e,hg,x0,x1,x2,x3⟩:=hr.rt (k:=0) (by simp)
 simp only [Nat.zero_mul,Nat.add_zero,List.getElem_cons_zero] at x0 x1 x2 x3
 refine ⟨g,o,x,N,e,hg,x0,x1,x2,x3,rfl,⟨hN,by omega,?_⟩,fun hd=>⟨by omega,by omega,?_⟩⟩
 ·rcases hr with h0 | ⟨g',o',e',-,hc⟩
  ·cases h0
  ·rw [e] at e'
   injection e' with e'
   injection e' with e1 e2
   subst e1 e2
   refine .inr ⟨g,o+4,rfl,hg,fun j u hu => ?_⟩
   rw [show o+4+j=o+(4+j) by omega]
   refine hc (4+j) u ?_
   rw [Zdj,List.getElem?_append_right (by simp [Zac]),show 4+j-(Zac x).length=j by simp [Zac]]
   exact hu
 ·have:N=[]:=List.length_eq_zero_iff.1 (by omega)
  subst this
  exact .inl rfl
theorem Z21:(Tryz.prog.info? 143).map (fun i=>(i.zero,i.size,i.bytes))=some (some (.agg #[.int .u64 0,.int .u64 0,.int .i64 0,.int .i64 0,.int .i64 0]),5,40):=by kernel_rfl
def Zwd (w:World) (q q':Option Addr) (m d m' d' n:Nat) (R:List Ch) (M M':List Rt) (O:List Ch):Prop:=Rs w q m d M/\Rs w q' m' d' M'/\Sorted M/\Sorted M'/\O++ofS M M'=R/\O.length=n
set_option maxRecDepth 100000 in
theorem Zwt (p q:Option Addr) (c d:Nat) (A B:List Rt) (w:World) (hA:Row w p (rcs A)) (hB:Row w q (rcs B)) (sA:Sorted A) (sB:Sorted B) (hc:A.length<=c) (hd:B.length<=d) (la:A.length<=1100000) (lb:B.length<=1100000) :
 Calls Tryz.prog 83 #[.slice p A.length c,.slice q B.length d] w fun e w'=>Z43 143 w w' e (ofS A B):=by
 obtain ⟨R,hR⟩:∃R,R=ofS A B:=⟨_,rfl⟩
 rw [<-hR]
 have HI:Hid (Zwd w p q A.length c B.length d 0 R A B []):=hid ⟨⟨rfl,hc,hA⟩,⟨rfl,hd,hB⟩,sA,sB,hR.symm,rfl⟩
 obtain ⟨j0,hj0,jz0,jz1,jz2⟩:=info_parts Z21
 obtain ⟨a0,ha0⟩:∃a0,a0=A.length:=⟨_,rfl⟩
 obtain ⟨b0,hb0⟩:∃b0,b0=B.length:=⟨_,rfl⟩
 rw [<-ha0] at HI la
 rw [<-hb0] at HI lb
 rw [<-ha0,<-hb0]
 clear hA hB sA sB hc hd hR ha0 hb0
 go_enter Tryz.func83,Tryz.ntmps83
 go_wp2
 go_loopg [0,1,5] (a0+b0) (fun kx s0 s1 s5 wr=>∃(m d m' d' n c:Nat) (q q' p:Option Addr) (M M':List Rt) (O:List Ch),s0 = .slice q m d/\s1 = .slice q' m' d'/\s5 = .slice p n c/\m+m'<=kx/\n+m+m'<=2200000 /\
  Hid (Zwd w q q' m d m' d' n R M M' O)/\Hid (wr.ownsRow w.heap.size 143 5 (.slice p n c) n (ccs O))/\Below w.heap.size w wr)
 case atStart=>exact ⟨a0,c,b0,d,0,0,p,q,none,A,B,[],rfl,rfl,rfl,by omega,by omega,HI,hid (World.ownsRow_nil _ _ _ _),Below.refl _ _⟩
 case round=>
  clear HI
  obtain ⟨m,d,m',d',n,c,q,q',p,M,M',O,rfl,rfl,rfl,k1,k2,HT,HO,hb⟩:=hrel
  obtain ⟨t1,t2,t3,t4,t5,t6⟩:=HT.out
  clear HT
  by_cases h0:m=0/\m'=0
  ·obtain ⟨rfl,rfl⟩:=h0
   have e1:M=[]:=List.length_eq_zero_iff.1 t1.len
   have e2:M'=[]:=List.length_eq_zero_iff.1 t2.len
   subst e1 e2
   rw [Zyb,List.append_nil] at t5
   subst t5 t6
   clear t1 t2 t3 t4
   go_wp2
   go_ret
   exact ⟨p,c,rfl,HO.out,hb⟩
  ·have hz:=hb.size
   have hah1:=fun W (h:Below w.heap.size w W)=>Zp0 q q' d d' m m' M M' W (t1.row.below h) (t2.row.below h) t1.len t2.len
   have hah2:=fun W (h:Below w.heap.size w W)=>Zp0 q' q d' d m' m M' M W (t2.row.below h) (t1.row.below h) t2.len t1.len
   cases e1:Ze5 M M' with
   | true=>
    have hm0:0<m:=by
     rcases M with _ | ⟨x,N⟩
     ·cases e1
     ·have:=t1.len
      simp at this
      omega
    obtain ⟨g,o,x,N,rfl,hg,x0,x1,x2,x3,rfl,hr1,hr2⟩:=t1.head hm0
    rw [Zlw t3 t4 e1] at t5
    have hN:Sorted N:=(List.pairwise_cons.1 t3).2
    rw [e1] at hah1
    obtain ⟨⟨kh,kl,kn⟩,v⟩:=x
    simp only at x0 x1 x2 x3 t5
    have HREL:Hid (∀(q:Option Addr) dd,Rs w q (m-1) dd N->Zwd w q q' (m-1) dd m' d' (n+1) R N M' (O++[⟨⟨kh,kl,kn⟩,v,-1⟩])):=hid fun q dd h=>⟨h,t2,hN,t4,by rw [<-t5,List.append_assoc];rfl,by rw [List.length_append,t6];rfl⟩
    have HAH:=hid hah1
    have HR1:=hid hr1
    have HR2:=hid hr2
    have m0:(0:Int)<(m:Int):=by omega
    have m1:(1:Int)<=(m:Int):=by omega
    have hdm:m<=d:=t1.le
    have m2:(m:Int)<=(d:Int):=by omega
    clear t1 t2 t3 t4 t5 t6 hah1 hah2 hr1 hr2 e1 hN
    go_wp2_with fail
    refine (HAH.out _ hb).mono ?_
    rintro e w4 ⟨rfl,hb4⟩
    have HO:=hid (own_below HO.out hb4)
    have hb:=hb.trans (hb4.mono hz)
    clear hb4 hz HAH
    have z0:=(hb.cell (p:=⟨g,o,none⟩) hg).trans x0
    have z1:=(hb.cell (p:=⟨g,o+1,none⟩) hg).trans x1
    have z2:=(hb.cell (p:=⟨g,o+2,none⟩) hg).trans x2
    have z3:=(hb.cell (p:=⟨g,o+3,none⟩) hg).trans x3
    have hgw:=Nat.lt_of_lt_of_le hg hb.size
    go_wp2_with fail
    have kg:=Zaa
    refine wp_region_noPanic ?_
    generalize hNQ:NoPanic _=NQ
    refine Zfc [0,1,2,3,5,6,7] [4,8,9] [10,11,12] (by kernel_rfl) (by rw [<-hNQ];exact fun _ _ _ h=>h) (by kernel_rfl) (by kernel_rfl) ?_
    simp only [Zah,List.filterMap_cons,List.filterMap_nil,List.getElem?_toArray,List.getElem?_cons_succ,List.getElem?_cons_zero]
    repeat (any_goals (quiet_step (fail)))
    refine wpQuiet_nil ?_
    clear kg
    intro w7 hb7
    have HO7:=own_below HO.out hb7
    have hw7:=hb.trans (hb7.mono hb.size)
    have hz7:=hw7.size
    go_step
    go_step
    refine wpList_append_own_at _ rfl (.tmp 47) (.tmp 57) 113 rfl w.heap.size 143 j0 _ 5 40 Tryz.underlying113 hj0 jz0 jz1 jz2 rfl (by decide) _ _ _ rfl (HO7.alloc _) ⟨w7.heap.size,0,none⟩ 1 1 (Zdg ⟨⟨kh,kl,kn⟩,v,(-1)⟩) rfl rfl (Zjb (by simp [go_sem]) (by simp [go_sem]) (by simp [go_sem]) (by simp [go_sem]) (by simp [go_sem])) (by simp [Zdg,Value.oneCell']) (by unfold maxLen;omega) (by omega) (by simp;omega) ?_
    intro v8 w8 hown8 hg8 _ _
    obtain ⟨p8,c8,rfl⟩:=Zag hown8
    have hb8:Below w.heap.size w w8:=(hw7.alloc hz7 _).grown hg8 (by simp;omega) (fun j hj=>(HO7.lt j hj).1)
    have HO8:Hid (w8.ownsRow w.heap.size 143 5 (.slice p8 (n+1) c8) (n+1) (ccs (O++[⟨⟨kh,kl,kn⟩,v,(-1)⟩]))):=by
     rw [Zfp,Zm7]
     exact hid hown8
    clear hown8 hg8 HO HO7 hb7 hb hw7
    go_wp2_with fail
    rw [<-hNQ]
    refine NoPanic.normal ?_
    clear hNQ
    by_cases hd1:d=1
    ·subst hd1
     obtain rfl:m=1:=by omega
     go_wp2
     go_roundg m'
     case measure=>omega
     case rel=>exact ⟨0,0,m',d',n+1,c8,_,q',p8,N,M',_,rfl,rfl,rfl,by omega,by omega,hid (HREL.out _ _ (HR2.out trivial)),HO8,hb8⟩
    ·go_wp2
     go_roundg (m-1+m')
     case measure=>omega
     case rel=>exact ⟨m-1,d-1,m',d',n+1,c8,_,q',p8,N,M',_,rfl,rfl,rfl,by omega,by omega,hid (HREL.out _ _ HR1.out),HO8,hb8⟩
   | false=>
    cases e2:Ze5 M' M with
    | true=>
     have hm0:0<m':=by
      rcases M' with _ | ⟨x,N⟩
      ·cases e2
      ·have:=t2.len
       simp at this
       omega
     obtain ⟨g,o,x,N,rfl,hg,x0,x1,x2,x3,rfl,hr1,hr2⟩:=t2.head hm0
     rw [Zr2 t3 t4 e2] at t5
     have hN:Sorted N:=(List.pairwise_cons.1 t4).2
     rw [e1] at hah1
     rw [e2] at hah2
     obtain ⟨⟨kh,kl,kn⟩,v⟩:=x
     simp only at x0 x1 x2 x3 t5
     have HREL:Hid (∀(q':Option Addr) dd,Rs w q' (m'-1) dd N->Zwd w q q' m d (m'-1) dd (n+1) R M N (O++[⟨⟨kh,kl,kn⟩,-1,v⟩])):=hid fun q' dd h=>⟨t1,h,t3,hN,by rw [<-t5,List.append_assoc];rfl,by rw [List.length_append,t6];rfl⟩
     have HAH1:=hid hah1
     have HAH2:=hid hah2
     have HR1:=hid hr1
     have HR2:=hid hr2
     have m0:(0:Int)<(m':Int):=by omega
     have m1:(1:Int)<=(m':Int):=by omega
     have hdm:m'<=d':=t2.le
     have m2:(m':Int)<=(d':Int):=by omega
     clear t1 t2 t3 t4 t5 t6 hah1 hah2 hr1 hr2 e1 e2 hN
     rcases Nat.eq_zero_or_pos m with hz0 | hz0
     ·subst hz0
      go_wp2_with fail
      refine (HAH1.out _ hb).mono ?_
      rintro e w4 ⟨rfl,hb4⟩
      have HO:=hid (own_below HO.out hb4)
      have hb:=hb.trans (hb4.mono hz)
      have hz:=hb.size
      clear hb4 HAH1
      go_wp2_with fail
      refine (HAH2.out _ hb).mono ?_
      rintro e w5 ⟨rfl,hb5⟩
      have HO:=hid (own_below HO.out hb5)
      have hb:=hb.trans (hb5.mono hz)
      clear hb5 hz HAH2
      have z0:=(hb.cell (p:=⟨g,o,none⟩) hg).trans x0
      have z1:=(hb.cell (p:=⟨g,o+1,none⟩) hg).trans x1
      have z2:=(hb.cell (p:=⟨g,o+2,none⟩) hg).trans x2
      have z3:=(hb.cell (p:=⟨g,o+3,none⟩) hg).trans x3
      have hgw:=Nat.lt_of_lt_of_le hg hb.size
      go_wp2_with fail
      have kg:=Zaa
      refine wp_region_noPanic ?_
      generalize hNQ:NoPanic _=NQ
      refine Zfc [0,1,2,3,5,6,7] [4,8,9] [10,11,12] (by kernel_rfl) (by rw [<-hNQ];exact fun _ _ _ h=>h) (by kernel_rfl) (by kernel_rfl) ?_
      simp only [Zah,List.filterMap_cons,List.filterMap_nil,List.getElem?_toArray,List.getElem?_cons_succ,List.getElem?_cons_zero]
      repeat (any_goals (quiet_step (fail)))
      refine wpQuiet_nil ?_
      clear kg
      intro w7 hb7
      have HO7:=own_below HO.out hb7
      have hw7:=hb.trans (hb7.mono hb.size)
      have hz7:=hw7.size
      go_step
      go_step
      refine wpList_append_own_at _ rfl (.tmp 65) (.tmp 75) 113 rfl w.heap.size 143 j0 _ 5 40 Tryz.underlying113 hj0 jz0 jz1 jz2 rfl (by decide) _ _ _ rfl (HO7.alloc _) ⟨w7.heap.size,0,none⟩ 1 1 (Zdg ⟨⟨kh,kl,kn⟩,(-1),v⟩) rfl rfl (Zjb (by simp [go_sem]) (by simp [go_sem]) (by simp [go_sem]) (by simp [go_sem]) (by simp [go_sem])) (by simp [Zdg,Value.oneCell']) (by unfold maxLen;omega) (by omega) (by simp;omega) ?_
      intro v8 w8 hown8 hg8 _ _
      obtain ⟨p8,c8,rfl⟩:=Zag hown8
      have hb8:Below w.heap.size w w8:=(hw7.alloc hz7 _).grown hg8 (by simp;omega) (fun j hj=>(HO7.lt j hj).1)
      have HO8:Hid (w8.ownsRow w.heap.size 143 5 (.slice p8 (n+1) c8) (n+1) (ccs (O++[⟨⟨kh,kl,kn⟩,(-1),v⟩]))):=by
       rw [Zfp,Zm7]
       exact hid hown8
      clear hown8 hg8 HO HO7 hb7 hb hw7
      go_wp2_with fail
      rw [<-hNQ]
      refine NoPanic.normal ?_
      clear hNQ
      by_cases hd1:d'=1
      ·subst hd1
       obtain rfl:m'=1:=by omega
       go_wp2
       go_roundg 0
       case measure=>omega
       case rel=>exact ⟨0,d,0,0,n+1,c8,q,_,p8,M,N,_,rfl,rfl,rfl,by omega,by omega,hid (HREL.out _ _ (HR2.out trivial)),HO8,hb8⟩
      ·go_wp2
       go_roundg (0+(m'-1))
       case measure=>omega
       case rel=>exact ⟨0,d,m'-1,d'-1,n+1,c8,q,_,p8,M,N,_,rfl,rfl,rfl,by omega,by omega,hid (HREL.out _ _ HR1.out),HO8,hb8⟩
     ·have mm0:(0:Int)<(m:Int):=by omega
      go_wp2_with fail
      refine (HAH1.out _ hb).mono ?_
      rintro e w4 ⟨rfl,hb4⟩
      have HO:=hid (own_below HO.out hb4)
      have hb:=hb.trans (hb4.mono hz)
      have hz:=hb.size
      clear hb4 HAH1
      go_wp2_with fail
      refine (HAH2.out _ hb).mono ?_
      rintro e w5 ⟨rfl,hb5⟩
      have HO:=hid (own_below HO.out hb5)
      have hb:=hb.trans (hb5.mono hz)
      clear hb5 hz HAH2
      have z0:=(hb.cell (p:=⟨g,o,none⟩) hg).trans x0
      have z1:=(hb.cell (p:=⟨g,o+1,none⟩) hg).trans x1
      have z2:=(hb.cell (p:=⟨g,o+2,none⟩) hg).trans x2
      have z3:=(hb.cell (p:=⟨g,o+3,none⟩) hg).trans x3
      have hgw:=Nat.lt_of_lt_of_le hg hb.size
      go_wp2_with fail
      have kg:=Zaa
      refine wp_region_noPanic ?_
      generalize hNQ:NoPanic _=NQ
      refine Zfc [0,1,2,3,5,6,7] [4,8,9] [10,11,12] (by kernel_rfl) (by rw [<-hNQ];exact fun _ _ _ h=>h) (by kernel_rfl) (by kernel_rfl) ?_
      simp only [Zah,List.filterMap_cons,List.filterMap_nil,List.getElem?_toArray,List.getElem?_cons_succ,List.getElem?_cons_zero]
      repeat (any_goals (quiet_step (fail)))
      refine wpQuiet_nil ?_
      clear kg
      intro w7 hb7
      have HO7:=own_below HO.out hb7
      have hw7:=hb.trans (hb7.mono hb.size)
      have hz7:=hw7.size
      go_step
      go_step
      refine wpList_append_own_at _ rfl (.tmp 65) (.tmp 75) 113 rfl w.heap.size 143 j0 _ 5 40 Tryz.underlying113 hj0 jz0 jz1 jz2 rfl (by decide) _ _ _ rfl (HO7.alloc _) ⟨w7.heap.size,0,none⟩ 1 1 (Zdg ⟨⟨kh,kl,kn⟩,(-1),v⟩) rfl rfl (Zjb (by simp [go_sem]) (by simp [go_sem]) (by simp [go_sem]) (by simp [go_sem]) (by simp [go_sem])) (by simp [Zdg,Value.oneCell']) (by unfold maxLen;omega) (by omega) (by simp;omega) ?_
      intro v8 w8 hown8 hg8 _ _
      obtain ⟨p8,c8,rfl⟩:=Zag hown8
      have hb8:Below w.heap.size w w8:=(hw7.alloc hz7 _).grown hg8 (by simp;omega) (fun j hj=>(HO7.lt j hj).1)
      have HO8:Hid (w8.ownsRow w.heap.size 143 5 (.slice p8 (n+1) c8) (n+1) (ccs (O++[⟨⟨kh,kl,kn⟩,(-1),v⟩]))):=by
       rw [Zfp,Zm7]
       exact hid hown8
      clear hown8 hg8 HO HO7 hb7 hb hw7
      go_wp2_with fail
      rw [<-hNQ]
      refine NoPanic.normal ?_
      clear hNQ
      by_cases hd1:d'=1
      ·subst hd1
       obtain rfl:m'=1:=by omega
       go_wp2
       go_roundg m
       case measure=>omega
       case rel=>exact ⟨m,d,0,0,n+1,c8,q,_,p8,M,N,_,rfl,rfl,rfl,by omega,by omega,hid (HREL.out _ _ (HR2.out trivial)),HO8,hb8⟩
      ·go_wp2
       go_roundg (m+(m'-1))
       case measure=>omega
       case rel=>exact ⟨m,d,m'-1,d'-1,n+1,c8,q,_,p8,M,N,_,rfl,rfl,rfl,by omega,by omega,hid (HREL.out _ _ HR1.out),HO8,hb8⟩
    | false=>
     rcases Zwc e1 e2 with ⟨h1,h2⟩ | ⟨x,N,y,N',rfl,rfl,hxy⟩
     ·subst h1 h2
      exact (h0 ⟨t1.len.symm,t2.len.symm⟩).elim
     ·rw [Z5v t3 t4 hxy] at t5
      have hm0:0<m:=by rw [<-t1.len];simp
      have hm0':0<m':=by rw [<-t2.len];simp
      obtain ⟨g,o,x',N1,rfl,hg,-,-,-,x3,eN,hr1,hr2⟩:=t1.head hm0
      injection eN with eN1 eN2
      subst eN1 eN2
      obtain ⟨gb,ob,y',N2,rfl,hgb,y0,y1,y2,y3,eN,hs1,hs2⟩:=t2.head hm0'
      injection eN with eN1 eN2
      subst eN1 eN2
      have hN:Sorted N:=(List.pairwise_cons.1 t3).2
      have hN':Sorted N':=(List.pairwise_cons.1 t4).2
      rw [e1] at hah1
      rw [e2] at hah2
      have HAH1:=hid hah1
      have HAH2:=hid hah2
      have HR1:=hid hr1
      have HR2:=hid hr2
      have HS1:=hid hs1
      have HS2:=hid hs2
      obtain ⟨xk,u⟩:=x
      obtain ⟨⟨kh,kl,kn⟩,v⟩:=y
      simp only at x3 y0 y1 y2 y3 t5
      have m0:(0:Int)<(m:Int):=by omega
      have m1:(1:Int)<=(m:Int):=by omega
      have hdm:m<=d:=t1.le
      have m2:(m:Int)<=(d:Int):=by omega
      have m3:(0:Int)<(m':Int):=by omega
      have m4:(1:Int)<=(m':Int):=by omega
      have hdm':m'<=d':=t2.le
      have m5:(m':Int)<=(d':Int):=by omega
      by_cases huv:u=v
      ·rw [if_pos huv,List.nil_append] at t5
       have HREL:Hid (∀(q q':Option Addr) dd dd',Rs w q (m-1) dd N->Rs w q' (m'-1) dd' N'->Zwd w q q' (m-1) dd (m'-1) dd' n R N N' O):=hid fun q q' dd dd' h h'=>⟨h,h',hN,hN',t5,t6⟩
       have nq:((u:Int) != v)=false:=by simpa using huv
       clear t1 t2 t3 t4 t5 t6 hah1 hah2 hr1 hr2 hs1 hs2 e1 e2 hN hN' hxy huv
       go_wp2_with fail
       refine (HAH1.out _ hb).mono ?_
       rintro e w4 ⟨rfl,hb4⟩
       have HO:=hid (own_below HO.out hb4)
       have hb:=hb.trans (hb4.mono hz)
       have hz:=hb.size
       clear hb4 HAH1
       go_wp2_with fail
       refine (HAH2.out _ hb).mono ?_
       rintro e w5 ⟨rfl,hb5⟩
       have HO5:=hid (own_below HO.out hb5)
       have hw5:=hb.trans (hb5.mono hz)
       clear hb5 hz HAH2 HO hb
       have p3:=(hw5.cell (p:=⟨g,o+3,none⟩) hg).trans x3
       have p4:=(hw5.cell (p:=⟨gb,ob+3,none⟩) hgb).trans y3
       have hgp:=Nat.lt_of_lt_of_le hg hw5.size
       have hgp':=Nat.lt_of_lt_of_le hgb hw5.size
       go_wp2_with fail
       have kg:=Zaa
       refine Zab (by kernel_rfl) (by kernel_rfl) ?_
       repeat (any_goals (first|go_big_quiet_step (fail)|quiet_step (fail)))
       refine wpQuiet_nil ?_
       clear kg
       intro w3 hb3
       obtain ⟨hc3,hf3⟩:=Zaf hb3
       have HO5:=hid (own_below HO5.out hb3)
       have hw5:=hw5.trans (hb3.mono hw5.size)
       clear hb3 hc3 hf3 p3 p4 hgp hgp'
       by_cases hd1:d=1
       ·subst hd1
        obtain rfl:m=1:=by omega
        by_cases hd2:d'=1
        ·subst hd2
         obtain rfl:m'=1:=by omega
         go_wp2_with fail
         have kg:=Zaa
         refine Zab (by kernel_rfl) (by kernel_rfl) ?_
         repeat (any_goals (first|go_big_quiet_step (fail)|quiet_step (fail)))
         refine wpQuiet_nil ?_
         clear kg
         intro w6 hb6
         obtain ⟨hc6,hf6⟩:=Zaf hb6
         have HO6:=hid (own_below HO5.out hb6)
         have hw6:=hw5.trans (hb6.mono hw5.size)
         go_wp2
         go_roundg 0
         case measure=>omega
         case rel=>exact ⟨0,0,0,0,n,c,_,_,p,N,N',_,rfl,rfl,rfl,by omega,by omega,hid (HREL.out _ _ _ _ (HR2.out trivial) (HS2.out trivial)),HO6,hw6⟩
        ·go_wp2_with fail
         have kg:=Zaa
         refine Zab (by kernel_rfl) (by kernel_rfl) ?_
         repeat (any_goals (first|go_big_quiet_step (fail)|quiet_step (fail)))
         refine wpQuiet_nil ?_
         clear kg
         intro w6 hb6
         obtain ⟨hc6,hf6⟩:=Zaf hb6
         have HO6:=hid (own_below HO5.out hb6)
         have hw6:=hw5.trans (hb6.mono hw5.size)
         go_wp2
         go_roundg (m'-1)
         case measure=>omega
         case rel=>exact ⟨0,0,m'-1,d'-1,n,c,_,_,p,N,N',_,rfl,rfl,rfl,by omega,by omega,hid (HREL.out _ _ _ _ (HR2.out trivial) HS1.out),HO6,hw6⟩
       ·by_cases hd2:d'=1
        ·subst hd2
         obtain rfl:m'=1:=by omega
         go_wp2_with fail
         have kg:=Zaa
         refine Zab (by kernel_rfl) (by kernel_rfl) ?_
         repeat (any_goals (first|go_big_quiet_step (fail)|quiet_step (fail)))
         refine wpQuiet_nil ?_
         clear kg
         intro w6 hb6
         obtain ⟨hc6,hf6⟩:=Zaf hb6
         have HO6:=hid (own_below HO5.out hb6)
         have hw6:=hw5.trans (hb6.mono hw5.size)
         go_wp2
         go_roundg (m-1)
         case measure=>omega
         case rel=>exact ⟨m-1,d-1,0,0,n,c,_,_,p,N,N',_,rfl,rfl,rfl,by omega,by omega,hid (HREL.out _ _ _ _ HR1.out (HS2.out trivial)),HO6,hw6⟩
        ·go_wp2_with fail
         have kg:=Zaa
         refine Zab (by kernel_rfl) (by kernel_rfl) ?_
         repeat (any_goals (first|go_big_quiet_step (fail)|quiet_step (fail)))
         refine wpQuiet_nil ?_
         clear kg
         intro w6 hb6
         obtain ⟨hc6,hf6⟩:=Zaf hb6
         have HO6:=hid (own_below HO5.out hb6)
         have hw6:=hw5.trans (hb6.mono hw5.size)
         go_wp2
         go_roundg (m-1+(m'-1))
         case measure=>omega
         case rel=>exact ⟨m-1,d-1,m'-1,d'-1,n,c,_,_,p,N,N',_,rfl,rfl,rfl,by omega,by omega,hid (HREL.out _ _ _ _ HR1.out HS1.out),HO6,hw6⟩
      ·rw [if_neg huv] at t5
       have HREL:Hid (∀(q q':Option Addr) dd dd',Rs w q (m-1) dd N->Rs w q' (m'-1) dd' N'->Zwd w q q' (m-1) dd (m'-1) dd' (n+1) R N N' (O++[⟨⟨kh,kl,kn⟩,u,v⟩])):=hid fun q q' dd dd' h h'=>⟨h,h',hN,hN',by rw [<-t5,List.append_assoc],by rw [List.length_append,t6];rfl⟩
       have nq:((u:Int) != v)=true:=by simpa using huv
       clear t1 t2 t3 t4 t5 t6 hah1 hah2 hr1 hr2 hs1 hs2 e1 e2 hN hN' hxy huv
       go_wp2_with fail
       refine (HAH1.out _ hb).mono ?_
       rintro e w4 ⟨rfl,hb4⟩
       have HO:=hid (own_below HO.out hb4)
       have hb:=hb.trans (hb4.mono hz)
       have hz:=hb.size
       clear hb4 HAH1
       go_wp2_with fail
       refine (HAH2.out _ hb).mono ?_
       rintro e w5 ⟨rfl,hb5⟩
       have HO5:=hid (own_below HO.out hb5)
       have hw5:=hb.trans (hb5.mono hz)
       clear hb5 hz HAH2 HO hb
       have p3:=(hw5.cell (p:=⟨g,o+3,none⟩) hg).trans x3
       have p4:=(hw5.cell (p:=⟨gb,ob+3,none⟩) hgb).trans y3
       have hgp:=Nat.lt_of_lt_of_le hg hw5.size
       have hgp':=Nat.lt_of_lt_of_le hgb hw5.size
       go_wp2_with fail
       have kg:=Zaa
       refine Zab (by kernel_rfl) (by kernel_rfl) ?_
       repeat (any_goals (first|go_big_quiet_step (fail)|quiet_step (fail)))
       refine wpQuiet_nil ?_
       clear kg
       intro w3 hb3
       obtain ⟨hc3,hf3⟩:=Zaf hb3
       have HO5:=hid (own_below HO5.out hb3)
       have hw5:=hw5.trans (hb3.mono hw5.size)
       clear hb3 hc3 hf3 p3 p4 hgp hgp'
       have HO:=HO5
       have hb:=hw5
       have z0:=(hb.cell (p:=⟨gb,ob,none⟩) hgb).trans y0
       have z1:=(hb.cell (p:=⟨gb,ob+1,none⟩) hgb).trans y1
       have z2:=(hb.cell (p:=⟨gb,ob+2,none⟩) hgb).trans y2
       have z3:=(hb.cell (p:=⟨gb,ob+3,none⟩) hgb).trans y3
       have q3:=(hb.cell (p:=⟨g,o+3,none⟩) hg).trans x3
       have hgw:=Nat.lt_of_lt_of_le hgb hb.size
       have hgw':=Nat.lt_of_lt_of_le hg hb.size
       clear HO5 hw5
       go_wp2_with fail
       have kg:=Zaa
       refine wp_region_noPanic ?_
       generalize hNQ:NoPanic _=NQ
       refine Zfc [0,1,2,3,5,6,7,9,10,11] [4,8,12,13] [14,15,16] (by kernel_rfl) (by rw [<-hNQ];exact fun _ _ _ h=>h) (by kernel_rfl) (by kernel_rfl) ?_
       simp only [Zah,List.filterMap_cons,List.filterMap_nil,List.getElem?_toArray,List.getElem?_cons_succ,List.getElem?_cons_zero]
       repeat (any_goals (quiet_step (fail)))
       refine wpQuiet_nil ?_
       clear kg
       intro w7 hb7
       have HO7:=own_below HO.out hb7
       have hw7:=hb.trans (hb7.mono hb.size)
       have hz7:=hw7.size
       go_step
       go_step
       refine wpList_append_own_at _ rfl (.tmp 23) (.tmp 37) 113 rfl w.heap.size 143 j0 _ 5 40 Tryz.underlying113 hj0 jz0 jz1 jz2 rfl (by decide) _ _ _ rfl (HO7.alloc _) ⟨w7.heap.size,0,none⟩ 1 1 (Zdg ⟨⟨kh,kl,kn⟩,u,v⟩) rfl rfl (Zjb (by simp [go_sem]) (by simp [go_sem]) (by simp [go_sem]) (by simp [go_sem]) (by simp [go_sem])) (by simp [Zdg,Value.oneCell']) (by unfold maxLen;omega) (by omega) (by simp;omega) ?_
       intro v8 w8 hown8 hg8 _ _
       obtain ⟨p8,c8,rfl⟩:=Zag hown8
       have hb8:Below w.heap.size w w8:=(hw7.alloc hz7 _).grown hg8 (by simp;omega) (fun j hj=>(HO7.lt j hj).1)
       have HO8:Hid (w8.ownsRow w.heap.size 143 5 (.slice p8 (n+1) c8) (n+1) (ccs (O++[⟨⟨kh,kl,kn⟩,u,v⟩]))):=by
        rw [Zfp,Zm7]
        exact hid hown8
       clear hown8 hg8 HO HO7 hb7 hb hw7
       go_wp2_with fail
       rw [<-hNQ]
       refine NoPanic.normal ?_
       clear hNQ
       by_cases hd1:d=1
       ·subst hd1
        obtain rfl:m=1:=by omega
        by_cases hd2:d'=1
        ·subst hd2
         obtain rfl:m'=1:=by omega
         go_wp2_with fail
         have kg:=Zaa
         refine Zab (by kernel_rfl) (by kernel_rfl) ?_
         repeat (any_goals (first|go_big_quiet_step (fail)|quiet_step (fail)))
         refine wpQuiet_nil ?_
         clear kg
         intro w6 hb6
         obtain ⟨hc6,hf6⟩:=Zaf hb6
         have HO6:=hid (own_below HO8.out hb6)
         have hw6:=hb8.trans (hb6.mono hb8.size)
         go_wp2
         go_roundg 0
         case measure=>omega
         case rel=>exact ⟨0,0,0,0,(n+1),c8,_,_,p8,N,N',_,rfl,rfl,rfl,by omega,by omega,hid (HREL.out _ _ _ _ (HR2.out trivial) (HS2.out trivial)),HO6,hw6⟩
        ·go_wp2_with fail
         have kg:=Zaa
         refine Zab (by kernel_rfl) (by kernel_rfl) ?_
         repeat (any_goals (first|go_big_quiet_step (fail)|quiet_step (fail)))
         refine wpQuiet_nil ?_
         clear kg
         intro w6 hb6
         obtain ⟨hc6,hf6⟩:=Zaf hb6
         have HO6:=hid (own_below HO8.out hb6)
         have hw6:=hb8.trans (hb6.mono hb8.size)
         go_wp2
         go_roundg (m'-1)
         case measure=>omega
         case rel=>exact ⟨0,0,m'-1,d'-1,(n+1),c8,_,_,p8,N,N',_,rfl,rfl,rfl,by omega,by omega,hid (HREL.out _ _ _ _ (HR2.out trivial) HS1.out),HO6,hw6⟩
       ·by_cases hd2:d'=1
        ·subst hd2
         obtain rfl:m'=1:=by omega
         go_wp2_with fail
         have kg:=Zaa
         refine Zab (by kernel_rfl) (by kernel_rfl) ?_
         repeat (any_goals (first|go_big_quiet_step (fail)|quiet_step (fail)))
         refine wpQuiet_nil ?_
         clear kg
         intro w6 hb6
         obtain ⟨hc6,hf6⟩:=Zaf hb6
         have HO6:=hid (own_below HO8.out hb6)
         have hw6:=hb8.trans (hb6.mono hb8.size)
         go_wp2
         go_roundg (m-1)
         case measure=>omega
         case rel=>exact ⟨m-1,d-1,0,0,(n+1),c8,_,_,p8,N,N',_,rfl,rfl,rfl,by omega,by omega,hid (HREL.out _ _ _ _ HR1.out (HS2.out trivial)),HO6,hw6⟩
        ·go_wp2_with fail
         have kg:=Zaa
         refine Zab (by kernel_rfl) (by kernel_rfl) ?_
         repeat (any_goals (first|go_big_quiet_step (fail)|quiet_step (fail)))
         refine wpQuiet_nil ?_
         clear kg
         intro w6 hb6
         obtain ⟨hc6,hf6⟩:=Zaf hb6
         have HO6:=hid (own_below HO8.out hb6)
         have hw6:=hb8.trans (hb6.mono hb8.size)
         go_wp2
         go_roundg (m-1+(m'-1))
         case measure=>omega
         case rel=>exact ⟨m-1,d-1,m'-1,d'-1,(n+1),c8,_,_,p8,N,N',_,rfl,rfl,rfl,by omega,by omega,hid (HREL.out _ _ _ _ HR1.out HS1.out),HO6,hw6⟩
def Z81 (g:Nat) (lb:Array Value) (P:Rt->Bool) (B:Nat) (w0:World):Prop:=
 ∀(W:World) (r:Rt),r.k.good->Below B w0 W->Calls Tryz.prog g (#[rtA r]++lb) W fun e w'=>e = .returned (.bool (P r))/\Below W.heap.size W w'
theorem Zko {P:Program} (w:World) (t e ty:TypeId) (z:Value) (zs:List Value) (m:Nat) (ht:P.underlying t=some (.slice e)) (hv:∀w,(zeroValue e).run P w = .ok z w) (hz:(Builtin.zeroCells z.cells (m+1)).toList=zs) (h1:∀v∈zs,v.oneCell'=true)
 (g o c:Nat) (cur:Array Value) (tg:TypeId) (hg:w.heap[g]? = some (.cells cur tg (0,0))) (hfit:o+zs.length<=cur.size) :
 (Builtin.clear_ #[t] ty #[.slice (some ⟨g,o,none⟩) (m+1) c]).run P w = .ok (.tuple #[]) (w.setRow g (splice cur.toList o zs).toArray):=by
 have hst:=run_storeCells_at P g o tg zs 0 cur w hg (by simpa using hfit) h1
 simp [Builtin.clear_,run_underlying ht,hv,hz,hst,splice]
theorem Zwh (m:Nat):∃zs:List Value,(Builtin.zeroCells (Value.agg #[.int .u64 0,.int .u64 0,.int .i64 0,.int .i64 0]).cells m).toList=zs/\zs.length=m*4/\∀v∈zs,v.oneCell'=true:=by
 refine ⟨_,rfl,?_,?_⟩
 ·rw [Array.length_toList,size_zeroCells]
  rfl
 ·intro v hv
  unfold Builtin.zeroCells at hv
  rw [Array.toList_map,List.mem_map] at hv
  obtain ⟨i,-,rfl⟩:=hv
  have e:(Value.agg #[.int .u64 0,.int .u64 0,.int .i64 0,.int .i64 0]).cells.size=4:=by kernel_rfl
  rw [e]
  rcases (by omega:i%4=0\/i%4=1\/i%4=2\/i%4=3) with h | h | h | h<;>rw [h]<;>simp [Value.cells,Value.oneCell']
set_option maxRecDepth 100000 in
theorem Zzb (g:Nat) (lb:Array Value) (P:Rt->Bool) (B:Nat) (w0:World) (eg:∀args w,(callFunc g args).run Tryz.prog w = .ok (.enter g args) w) (hP:Z81 g lb P B w0) (p:Option Addr) (c:Nat) (L:List Rt) (w:World) (hR:Row w p (rcs L)) (hg:∀x∈L,x.k.good)
 (hb0:Below B w0 w) (hB:B<=w.heap.size) (hl:L.length<=1000000) :
 Calls Tryz.prog 173 #[.slice p L.length c,.func (.func g) #[] lb] w fun e w'=>Below w.heap.size w w' /\
  ((∃i:Nat,i<L.length/\e = .returned (.int .i64 (i:Int))/\(L.take (i+1)).filter (fun r => !P r)=L.take i)\/(e = .returned (.int .i64 (-1))/\L.filter (fun r => !P r)=L)):=by
 have HP:=hid hP
 have HR:=hid hR
 have HG:=hid hg
 clear hP hR hg
 go_enter Tryz.func173,Tryz.ntmps173
 go_wp2
 go_loopg [8] L.length (fun kx s8 wr=>∃i:Nat,s8 = .int .i64 (i:Int)/\L.length-i<=kx/\i<=L.length/\Hid ((L.take i).filter (fun r => !P r)=L.take i)/\Below w.heap.size w wr)
 case atStart=>exact ⟨0,rfl,by omega,by omega,hid rfl,by go_grown⟩
 case round=>
  obtain ⟨i,rfl,h1,h2,HF,hb⟩:=hrel
  by_cases hi:i<L.length
  ·obtain ⟨gr,o,rfl,hgr,x0,x1,x2,x3⟩:=(HR.out.below hb).rt hi
   have hk:=HP.out wr L[i] (HG.out _ (List.getElem_mem hi)) (hb0.trans (hb.mono hB))
   have hsn:L.take (i+1)=L.take i++[L[i]]:=List.take_succ_eq_append_getElem hi
   have hfl:(L.take (i+1)).filter (fun r => !P r)=L.take i++(if P L[i]=true then [] else [L[i]]):=by
    rw [hsn,List.filter_append,HF.out]
    congr 1
    cases h:P L[i]<;>simp [h]
   have i1:(0:Int)<=(i:Int):=by omega
   have i2:(i:Int)<(L.length:Int):=by omega
   generalize L[i]=r at *
   unfold rtA at hk
   have HK:=hid hk
   clear hk
   cases hv:P r with
   | true=>
    rw [hv,if_pos rfl,List.append_nil] at hfl
    rw [hv] at HK
    have HFL:=hid hfl
    clear hfl hsn HF
    go_wp2_with (go_at_fn g;refine HK.out.mono ?_;rintro e w1 ⟨rfl,hb1⟩)
    go_ret
    exact ⟨hb.trans (hb1.mono hb.size),.inl ⟨i,hi,rfl,HFL.out⟩⟩
   | false=>
    rw [hv,if_neg (by simp),<-hsn] at hfl
    rw [hv] at HK
    have HFL:=hid hfl
    clear hfl hsn HF
    go_wp2_with (go_at_fn g;refine HK.out.mono ?_;rintro e w1 ⟨rfl,hb1⟩)
    have hw1:=hb.trans (hb1.mono hb.size)
    clear HK hb1 hb
    go_wp2
    go_roundg (L.length-(i+1))
    case measure=>omega
    case rel=>exact ⟨i+1,by go_num,by omega,by omega,HFL,hw1⟩
  ·have HF2:Hid (L.filter (fun r => !P r)=L):=hid (by have:=HF.out;rwa [List.take_of_length_le (by omega)] at this)
   clear HF
   go_wp2
   go_ret
   exact ⟨hb,.inr ⟨rfl,HF2.out⟩⟩
end Go.Proofs.YtgfjmgebecmbiaaGreat
