import Derived.Test.YtgfjmgebecmbiaaGreatL22b
set_option linter.unusedSimpArgs false
set_option linter.unusedVariables false
set_option maxHeartbeats 4000000
namespace Go.Proofs.YtgfjmgebecmbiaaGreat
open Lib(hid)
open Go Go.RowKit Go.Sort M
structure EngI (P:World->(Nat->Prop)->Nat->Eg->Prop) (w0 wr:World) (t:Nat) (E:Eg) (q:Option Addr) (c:Nat) (K:Nat->Prop):Prop where
 lev:P wr K t E
 ok:E.ok
 top:∀g,K g->w0.heap.size<=g/\g<wr.heap.size
 own:wr.ownsRow w0.heap.size 41 4 (.slice q E.R.length c) E.R.length (rcs E.R)
 far:∀j,(Value.slice q E.R.length c).ownBlock=some j->¬K j
 below:Below w0.heap.size w0 wr
section
variable {P:World->(Nat->Prop)->Nat->Eg->Prop}
theorem EngI.grow (D:EngC P) {w0 wr w':World} {t:Nat} {E:Eg} {q:Option Addr} {c:Nat} {K:Nat->Prop} (h:EngI P w0 wr t E q c K) (hb:Below wr.heap.size wr w'):EngI P w0 w' t E q c K:=
 ⟨D.below h.lev hb,h.ok,fun g hg=>⟨(h.top g hg).1,Nat.lt_of_lt_of_le (h.top g hg).2 hb.size⟩,own_below h.own hb,h.far,h.below.trans (hb.mono h.below.size)⟩
theorem Zvs {N:List Rt} (h:Sorted N) (r:Rt):(Zao N r).length<=N.length+1:=by
 have h1:=(Za7 r h).length_eq
 have h2:(outS N r.k).length<=N.length:=List.length_filter_le _ _
 simp only [List.length_cons] at h1
 omega
end
theorem Zdi:∀(l:List Rt),(Zap l).length<=l.length:=by
 intro l
 suffices H:∀(n:Nat) (l:List Rt),l.length=n->(Zap l).length<=l.length from H l.length l rfl
 intro n
 induction n with
 | zero=>
  intro l hl
  obtain rfl:=List.eq_nil_of_length_eq_zero hl
  simp [Zap]
 | succ n ih=>
  intro l hl
  obtain ⟨l,r,rfl⟩:∃l' r,l=l'++[r]:=⟨l.dropLast,l.getLast (by intro e;simp [e] at hl),(List.dropLast_concat_getLast _).symm⟩
  have:=ih l (by simpa using hl)
  rw [Ze9]
  have h1:=(Za7 r (Za9 l).1).length_eq
  have h2:(outS (Zap l) r.k).length<=(Zap l).length:=List.length_filter_le _ _
  simp only [List.length_cons] at h1
  simp
  omega
theorem Z7c (L:List Rt) (j:Nat) (h:j<L.length):Zao (Zap (L.take j)) L[j]=Zap (L.take (j+1)):=by
 rw [<-Ze9,List.take_succ_eq_append_getElem h]
set_option maxRecDepth 100000 in
theorem Zxi (p:Option Addr) (c:Nat) (L:List Rt) (w:World) (hR:Row w p (rcs L)) (hl:L.length<1048576) :
 Calls Tryz.prog 44 #[.slice p L.length c] w fun e w'=>Zcf w w' e (Zap L):=by
 have HR:=hid hR
 clear hR
 go_enter Tryz.func44,Tryz.ntmps44
 go_wp2
 go_loopg [3,4] L.length (fun kx s3 s4 wr=>∃(j:Nat) (N:List Rt) (p3:Option Addr) (c3:Nat),s4 = .int .i64 (j:Int)/\L.length-j<=kx/\j<=L.length/\s3 = .slice p3 N.length c3/\Hid (N=Zap (L.take j))/\Hid (wr.ownsRow w.heap.size 41 4 (.slice p3 N.length c3) N.length (rcs N))/\Below w.heap.size w wr)
 case atStart=>exact ⟨0,[],none,0,rfl,by omega,by omega,rfl,hid rfl,hid (World.ownsRow_nil _ _ _ _),by go_grown⟩
 case round=>
  obtain ⟨j,N,p3,c3,rfl,h1,h2,rfl,HN,HO,hb⟩:=hrel
  by_cases hi:j<L.length
  ·obtain ⟨g,o,rfl,hg,x0,x1,x2,x3⟩:=HR.out.rt hi
   have x0:=(hb.cell (p:=⟨g,o+j*4,none⟩) hg).trans x0
   have x1:=(hb.cell (p:=⟨g,o+j*4+1,none⟩) hg).trans x1
   have x2:=(hb.cell (p:=⟨g,o+j*4+2,none⟩) hg).trans x2
   have x3:=(hb.cell (p:=⟨g,o+j*4+3,none⟩) hg).trans x3
   have hg2:=Nat.lt_of_lt_of_le hg hb.size
   have hz0:=hb.size
   have i1:(0:Int)<=(j:Int):=by omega
   have i2:(j:Int)<(L.length:Int):=by omega
   have HI:=hid (Zwg w.heap.size p3 c3 N L[j] wr HO.out (by have:=Zdi (L.take j);rw [<-HN.out,List.length_take] at this;omega))
   have HN2:Hid (Zao N L[j]=Zap (L.take (j+1))):=hid (by rw [HN.out];exact Z7c L j hi)
   unfold rtA at HI
   generalize L[j]=r at *
   go_wp2_with fail
   refine HI.out.mono ?_
   rintro e w2 ⟨p5,c5,rfl,hown,hb2⟩
   have hw2:=hb.trans (hb2.mono hb.size)
   have HO2:=hid (Za4 hown hb.size)
   clear hown hb2
   go_wp2
   go_roundg (L.length-(j+1))
   case measure=>omega
   case rel=>exact ⟨j+1,_,p5,c5,by go_num,by omega,by omega,rfl,HN2,HO2,hw2⟩
  ·go_wp2
   go_ret
   have:=HN.out
   rw [List.take_of_length_le (by omega)] at this
   rw [<-this]
   exact ⟨p3,c3,rfl,HO.out,hb⟩
def kyA (k:Ky):Value := .agg #[.int .u64 (k.h:Int),.int .u64 (k.l:Int),.int .i64 k.n]
theorem Zc5 {l:List Rt} {q:Rt} (h:q∈Zap l):q∈l:=by
 have h:=((Za9 l).2 q).1 h
 unfold lst at h
 exact (List.mem_filter.1 (List.mem_of_getLast? h)).1
def hopA (N:List Rt) (low:Int) (k:Ky):Value := .tuple #[.int .i64 (hopV N low k),.bool (hopK N low k).isSome]
theorem Z7f (p:Option Addr) (c:Nat) (L:List Rt) (k:Ky) (low:Int) (w:World) (hR:Row w p (rcs L)) (hg:∀x∈L,x.k.good) (hk:k.good) (hl:L.length<1048576) :
 Calls Tryz.prog 46 #[.slice p L.length c,kyA k,.int .i64 low] w fun e w'=>e = .returned (hopA (Zap L) low k)/\Below w.heap.size w w':=by
 have hS:=fun W (hW:Below w.heap.size w W)=>Zxi p c L W (hR.below hW) hl
 have hlen:=Zdi L
 obtain ⟨N,hN⟩:∃N,N=Zap L:=⟨_,rfl⟩
 have hgN:∀x∈N,x.k.good:=fun x hx=>hg x (Zc5 (by rw [<-hN];exact hx))
 rw [<-hN] at hS hlen ⊢
 have hLg:=fun (q:Option Addr) d W (h:Row W q (rcs N))=>Zn2 q d N k.h k.l low k.n hk.1 hk.2 W h hgN (by omega)
 obtain ⟨kh,kl,kn⟩:=k
 unfold kyA
 simp only at hLg ⊢
 cases hlg:lngI N (Za8 kh kl low kn) N.length with
 | none=>
  have hA:hopA N low ⟨kh,kl,kn⟩ = .tuple #[.int .i64 0,.bool false]:=by unfold hopA hopV hopK;simp only;rw [hlg];rfl
  rw [hA]
  rw [hlg] at hLg
  have HS:=hid hS
  have HLG:Hid (∀(q:Option Addr) d W,Row W q (rcs N)->Calls Tryz.prog 41 #[.slice q N.length d,.agg #[.int .u64 (kh:Int),.int .u64 (kl:Int)],.int .i64 low,.int .i64 kn] W fun e w'=>e = .returned (.int .i64 (-1))/\Below W.heap.size W w'):=hid hLg
  clear hS hLg hA hN hgN hg hR hk hlg
  go_enter Tryz.func46,Tryz.ntmps46
  go_wp2_with fail
  refine (HS.out _ (by go_grown)).mono ?_
  rintro e w1 ⟨p1,c1,rfl,ho1,hb1⟩
  have c0:w1.cell? ⟨w.heap.size,0,none⟩=some (.int .u64 (kh:Int)):=by
   rw [hb1.cell (by simp<;>omega)]
   first|assumption|(simp [go_sem];done)|(simp [go_sem, *];done)
  have c1':w1.cell? ⟨w.heap.size,1,none⟩=some (.int .u64 (kl:Int)):=by
   rw [hb1.cell (by simp<;>omega)]
   first|assumption|(simp [go_sem];done)|(simp [go_sem, *];done)
  have c2:w1.cell? ⟨w.heap.size,2,none⟩=some (.int .i64 kn):=by
   rw [hb1.cell (by simp<;>omega)]
   first|assumption|(simp [go_sem];done)|(simp [go_sem, *];done)
  have hw1:Below w.heap.size w w1:=Below.trans (by go_grown) (hb1.mono (by simp))
  have hrow:=hid (Row.of_own ho1)
  clear ho1 hb1
  go_wp2_with fail
  refine (HLG.out _ _ _ hrow.out).mono ?_
  rintro e w2 ⟨rfl,hb2⟩
  have hw2:=hw1.trans (hb2.mono hw1.size)
  go_wp2
  go_ret2
  exact ⟨rfl,hw2⟩
 | some b=>
  have hbl:=Zwe hlg
  have hA:hopA N low ⟨kh,kl,kn⟩ = .tuple #[.int .i64 N[b].v,.bool true]:=by
   unfold hopA hopV hopK
   simp only
   rw [hlg]
   show Value.tuple #[.int .i64 (N.getD b _).v,.bool true]=_
   rw [getD_at hbl]
  rw [hA]
  rw [hlg] at hLg
  have HS:=hid hS
  have HLG:Hid (∀(q:Option Addr) d W,Row W q (rcs N)->Calls Tryz.prog 41 #[.slice q N.length d,.agg #[.int .u64 (kh:Int),.int .u64 (kl:Int)],.int .i64 low,.int .i64 kn] W fun e w'=>e = .returned (.int .i64 (b:Int))/\Below W.heap.size W w'):=hid hLg
  have i1:(0:Int)<=(b:Int):=by omega
  have i2:(b:Int)<(N.length:Int):=by omega
  obtain ⟨v,hv⟩:∃v,v=N[b].v:=⟨_,rfl⟩
  rw [<-hv]
  have HV:=hid hv
  clear hS hLg hA hN hgN hg hR hk hlg hv
  go_enter Tryz.func46,Tryz.ntmps46
  go_wp2_with fail
  refine (HS.out _ (by go_grown)).mono ?_
  rintro e w1 ⟨p1,c1,rfl,ho1,hb1⟩
  have c0:w1.cell? ⟨w.heap.size,0,none⟩=some (.int .u64 (kh:Int)):=by
   rw [hb1.cell (by simp<;>omega)]
   first|assumption|(simp [go_sem];done)|(simp [go_sem, *];done)
  have c1':w1.cell? ⟨w.heap.size,1,none⟩=some (.int .u64 (kl:Int)):=by
   rw [hb1.cell (by simp<;>omega)]
   first|assumption|(simp [go_sem];done)|(simp [go_sem, *];done)
  have c2:w1.cell? ⟨w.heap.size,2,none⟩=some (.int .i64 kn):=by
   rw [hb1.cell (by simp<;>omega)]
   first|assumption|(simp [go_sem];done)|(simp [go_sem, *];done)
  have hw1:Below w.heap.size w w1:=Below.trans (by go_grown) (hb1.mono (by simp))
  have hrow:=Row.of_own ho1
  have HROW:=hid hrow
  obtain ⟨g,o,rfl,hg1,-,-,-,x3⟩:=hrow.rt hbl
  rw [<-HV.out] at x3
  clear ho1 hb1 hrow
  go_wp2_with fail
  refine (HLG.out _ _ _ HROW.out).mono ?_
  rintro e w2 ⟨rfl,hb2⟩
  have hw2:=hw1.trans (hb2.mono hw1.size)
  have x3:=(hb2.cell (p:=⟨g,o+b*4+3,none⟩) hg1).trans x3
  go_wp2
  go_ret2
  exact ⟨rfl,hw2⟩
def fS (N:List Rt) (low:Int) (K:List Ky):List Rt:=Zap (K.map fun k=>⟨k,hopV N low k⟩)
theorem Z9e (N:List Rt) (low:Int) (K:List Ky) (k:Ky):fS N low (K++[k])=Zao (fS N low K) ⟨k,hopV N low k⟩:=by
 unfold fS
 rw [List.map_append,List.map_cons,List.map_nil,Ze9]
theorem Zzs (N:List Rt) (low:Int) (K:List Ky):(fS N low K).length<=K.length:=by
 have:=Zdi (K.map fun k=>(⟨k,hopV N low k⟩:Rt))
 rwa [List.length_map] at this
theorem Zul (k:Ky) (g:W64 k.l) (m:Int):(sprK k m).length<=256:=by
 unfold sprK
 rw [List.length_map,Zj4 _ _ _ _ g]
 exact Z0i _ _ _ _
theorem Zkm (N:List Rt) (low high:Int) (i:Nat) (h:i<N.length) (hc:insB low high N[i]=true):Zbd (N.take (i+1)) low high=Zbd (N.take i) low high++sprK N[i].k high:=by
 unfold Zbd
 rw [List.take_succ_eq_append_getElem h,List.filter_append,List.flatMap_append]
 congr 1
 simp [hc]
theorem Zlh (N:List Rt) (low high:Int) (i:Nat) (h:i<N.length) (hc:insB low high N[i]=false):Zbd (N.take (i+1)) low high=Zbd (N.take i) low high:=by
 unfold Zbd
 rw [List.take_succ_eq_append_getElem h,List.filter_append,List.flatMap_append]
 simp [hc]
theorem Zew (N:List Rt) (low high:Int) (hg:∀r∈N,r.k.good):∀i,i<=N.length->(Zbd (N.take i) low high).length<=256*i
 | 0,_=>by simp [Zbd]
 | i+1,h=>by
  have ih:=Zew N low high hg i (by omega)
  have hi:i<N.length:=by omega
  cases hc:insB low high N[i] with
  | true=>
   rw [Zkm N low high i hi hc,List.length_append]
   have:=Zul N[i].k (hg _ (List.getElem_mem hi)).2 high
   omega
  | false=>
   rw [Zlh N low high i hi hc]
   omega
theorem Z0w (k:Ky) (m:Int) (j:Nat) (h:j<(Zd7 k.h k.l k.n m).length):(sprK k m)[j]'(by unfold sprK;rw [List.length_map];exact h)=kyP (Zd7 k.h k.l k.n m)[j]:=by simp [sprK]
theorem Zf5 {k:Ky} (g:k.good) (m:Int) {q:Ky} (h:q∈sprK k m):q.good:=by
 have:=(Zat g.1 g.2 q m).1 h
 exact ⟨this.2.2.2.2.1,this.2.2.2.2.2.1⟩
set_option maxRecDepth 100000 in
theorem Z7e (p:Option Addr) (c:Nat) (L:List Rt) (low high:Int) (w:World) (hR:Row w p (rcs L)) (hg:∀x∈L,x.k.good) (hl:L.length<=4000) :
 Calls Tryz.prog 20 #[.slice p L.length c,.int .i64 low,.int .i64 high] w fun e w'=>Zcf w w' e (setS (Zap L) low high):=by
 have hS:=Zxi p c L w hR (by omega)
 have hlen:=Zdi L
 have hsrt:=(Za9 L).1
 obtain ⟨N,hN⟩:∃N,N=Zap L:=⟨_,rfl⟩
 have hgN:∀x∈N,x.k.good:=fun x hx=>hg x (Zc5 (by rw [<-hN];exact hx))
 rw [<-hN] at hS hlen hsrt ⊢
 have hH:=fun (q:Option Addr) d (k:Ky) (hk:k.good) W (h:Row W q (rcs N))=>Z7f q d N k low W h hgN hk (by omega)
 rw [Zej hsrt] at hH
 obtain ⟨R,hR2⟩:∃R,R=setS N low high:=⟨_,rfl⟩
 rw [<-hR2]
 have HS:=hid hS
 have HH:=hid hH
 have HG:=hid hgN
 have HLN:N.length<=4000:=by omega
 have HRR:=hid hR2
 clear hS hH hgN hsrt hR hg hN hlen hR2
 go_enter Tryz.func20,Tryz.ntmps20
 go_wp2_with fail
 refine HS.out.mono ?_
 rintro e w1 ⟨p1,c1,rfl,ho1,hb1⟩
 have HROW:=hid (Row.of_own ho1)
 clear ho1 HS
 go_wp2
 go_loopg [7,8] N.length (fun kx s7 s8 wr=>∃(i:Nat) (K:List Ky) (n:Nat) (q:Option Addr) (cq:Nat),s8 = .int .i64 (i:Int)/\N.length-i<=kx/\i<=N.length/\s7 = .slice q n cq/\Hid (K=Zbd (N.take i) low high)/\Hid (i=0\/low<high)/\Hid (n=(fS N low K).length) /\
  Hid (wr.ownsRow w.heap.size 41 4 (.slice q n cq) n (rcs (fS N low K)))/\Below w1.heap.size w1 wr)
 case atStart=>exact ⟨0,[],0,none,0,rfl,by omega,by omega,rfl,hid (by simp [Zbd]),hid (.inl rfl),hid rfl,hid (World.ownsRow_nil _ _ _ _),Below.refl _ _⟩
 case round=>
  obtain ⟨i,K,n,q,cq,rfl,k1,k2,rfl,HK,HLH,HN,HO,hb⟩:=hrel
  have hw:=hb1.trans (hb.mono hb1.size)
  by_cases hlh:low<high
  ·by_cases hi:i<N.length
   ·have hrow:=HROW.out.below hb
    obtain ⟨g,o,rfl,hg,x0,x1,x2,x3⟩:=hrow.rt hi
    have hkl:=Zew N low high HG.out i k2
    rw [<-HK.out] at hkl
    have hin:=Zkm N low high i hi
    have hout:=Zlh N low high i hi
    have hgd:=HG.out N[i] (List.getElem_mem hi)
    have hku:=Z4j N[i].k.h N[i].k.l N[i].k.n high hgd.1 hgd.2
    have i1:(0:Int)<=(i:Int):=by omega
    have i2:(i:Int)<(N.length:Int):=by omega
    generalize N[i]=r at x0 x1 x2 x3 hin hout hgd hku
    obtain ⟨kk,v⟩:=r
    obtain ⟨kh,kl,kn⟩:=kk
    simp only at x0 x1 x2 x3 hin hout hgd hku
    unfold insB at hin hout
    simp only at hin hout
    by_cases c1':kn<=low
    ·have HK2:Hid (K=Zbd (N.take (i+1)) low high):=by rw [hout (by rw [decide_eq_false (by omega)];rfl)];exact HK
     clear hin hout hku hrow
     go_wp2
     go_roundg (N.length-(i+1))
     case measure=>omega
     case rel=>exact ⟨i+1,K,n,q,cq,by go_num,by omega,by omega,rfl,HK2,hid (.inr hlh),HN,HO,hb⟩
    ·by_cases c2':high<kn
     ·have HK2:Hid (K=Zbd (N.take (i+1)) low high):=by rw [hout (by rw [decide_eq_false (by omega:¬kn<=high),Bool.and_false])];exact HK
      clear hin hout hku hrow
      go_wp2
      go_roundg (N.length-(i+1))
      case measure=>omega
      case rel=>exact ⟨i+1,K,n,q,cq,by go_num,by omega,by omega,rfl,HK2,hid (.inr hlh),HN,HO,hb⟩
     ·have hin2:=hin (by rw [decide_eq_true (by omega:low<kn),decide_eq_true (by omega:kn<=high)];rfl)
      rw [<-HK.out] at hin2
      have HIN:=hid hin2
      have hsp:=Zul ⟨kh,kl,kn⟩ hgd.2 high
      have hsg:∀q∈sprK ⟨kh,kl,kn⟩ high,q.good:=fun q hq=>Zf5 hgd high hq
      have hat:=Z0w ⟨kh,kl,kn⟩ high
      have hsl:(sprK ⟨kh,kl,kn⟩ high).length=(Zd7 kh kl kn high).length:=by simp [sprK]
      simp only at hat hsl
      obtain ⟨U,hU⟩:∃U,U=sprK ⟨kh,kl,kn⟩ high:=⟨_,rfl⟩
      obtain ⟨V,hV⟩:∃V,V=Zd7 kh kl kn high:=⟨_,rfl⟩
      have HIN:Hid (Zbd (N.take (i+1)) low high=K++U):=by rw [hU];exact HIN
      have hat:∀j (h1:j<U.length) (h2:j<V.length),U[j]=kyP V[j]:=by
       intro j h1 h2
       subst hU
       subst hV
       exact hat j h2
      rw [<-hU] at hsp hsg hsl
      rw [<-hV] at hsl hku
      have HKU:Hid (Zp3 45 #[.agg #[.int .u64 (kh:Int),.int .u64 (kl:Int),.int .i64 kn],.int .i64 high] V):=hid hku
      have HAT:=hid hat
      have HSG:=hid hsg
      have HSL:=hid hsl
      clear hin hout hku hin2 hgd hat hsg hU hV hsl
      have hrow2:=hid hrow
      clear hrow
      go_wp2_with fail
      refine (HKU.out _).mono ?_
      rintro e w3 ⟨p3,c3,rfl,ho3,hb3⟩
      have HV:=hid (Row.of_own ho3)
      have hbw:=hb.trans (hb3.mono hb.size)
      have HO3:=hid (own_below HO.out hb3)
      clear ho3 hb3 HKU x0 x1 x2 x3
      go_wp2
      go_loopg [7,10] V.length (fun kx s7 s10 wr=>∃(j n:Nat) (q:Option Addr) (cq:Nat),s10 = .int .i64 (j:Int)/\V.length-j<=kx/\j<=V.length/\s7 = .slice q n cq/\Hid (n=(fS N low (K++U.take j)).length) /\
       Hid (wr.ownsRow w.heap.size 41 4 (.slice q n cq) n (rcs (fS N low (K++U.take j))))/\Below w3.heap.size w3 wr)
      case atStart=>exact ⟨0,n,q,cq,rfl,by omega,by omega,rfl,by simpa using HN,by simpa using HO3,Below.refl _ _⟩
      case round=>
       clear HO3 HO HN hw
       obtain ⟨j,n,q,cq,rfl,k3,k4,rfl,HN,HO,hbj⟩:=hrel
       by_cases hj:j<V.length
       ·have hju:j<U.length:=by rw [HSL.out];exact hj
        obtain ⟨g2,o2,rfl,hg2,y0,y1,y2⟩:=(HV.out.below hbj).at hj
        have hkj:=HAT.out j hju hj
        have hgj:=HSG.out U[j] (List.getElem_mem hju)
        have hsn:K++U.take (j+1)=(K++U.take j)++[U[j]]:=by rw [List.take_succ_eq_append_getElem hju,List.append_assoc]
        generalize U[j]=kj at hkj hgj hsn
        subst hkj
        unfold kyP at hsn hgj
        have hbj2:=hbw.trans (hbj.mono hbw.size)
        have hho:=HH.out (some ⟨g,o,none⟩) c1 _ hgj
        generalize V[j]=pv at y0 y1 y2 hsn hgj hho
        obtain ⟨a,m⟩:=pv
        try simp only at y0 y1 y2 hho hsn
        unfold kyA hopA at hho
        try simp only at hho
        have hfs:=Z9e N low (K++U.take j) ⟨hiW a,loW a,m⟩
        rw [<-hsn] at hfs
        obtain ⟨hv,hhv⟩:∃hv,hv=hopV N low ⟨hiW a,loW a,m⟩:=⟨_,rfl⟩
        rw [<-hhv] at hho hfs
        have HFS:=hid hfs
        have hn2:n<=1048000:=by
         have h5:=Zzs N low (K++U.take j)
         rw [List.length_append,List.length_take] at h5
         have:=HN.out
         omega
        have i3:(0:Int)<=(j:Int):=by omega
        have i4:(j:Int)<(V.length:Int):=by omega
        have HHO:=hid hho
        clear hhv hfs hsn hgj hho
        go_wp2_with fail
        refine (HHO.out _ (HROW.out.below hbj2)).mono ?_
        rintro e w5 ⟨rfl,hb5⟩
        have y0:=(hb5.cell (p:=⟨g2,o2+j*3,none⟩) hg2).trans y0
        have y1:=(hb5.cell (p:=⟨g2,o2+j*3+1,none⟩) hg2).trans y1
        have y2:=(hb5.cell (p:=⟨g2,o2+j*3+2,none⟩) hg2).trans y2
        have hbj5:=hbj.trans (hb5.mono hbj.size)
        have HO5:=hid (own_below HO.out hb5)
        have hin:=HN.out
        have hino:=Zwg w.heap.size q cq (fS N low (K++U.take j)) ⟨⟨hiW a,loW a,m⟩,hv⟩ w5 (by rw [<-hin];exact HO5.out) (by rw [<-hin];omega)
        rw [<-hin,<-HFS.out] at hino
        unfold rtA at hino
        try simp only at hino
        have HINO:=hid hino
        clear hino hin HHO HO
        go_wp2_with fail
        refine HINO.out.mono ?_
        rintro e w6 ⟨q6,c6,rfl,ho6,hb6⟩
        have hbj6:=hbj5.trans (hb6.mono hbj5.size)
        have hz6:w.heap.size<=w5.heap.size:=by
         have:=hb1.size
         have:=hbj5.size
         have:=hbw.size
         omega
        have HO6:=hid (Za4 ho6 hz6)
        clear ho6 HINO HO5 y0 y1 y2
        go_wp2
        go_roundg (V.length-(j+1))
        case measure=>omega
        case rel=>exact ⟨j+1,_,q6,c6,by go_num,by omega,by omega,rfl,hid rfl,HO6,hbj6⟩
       ·have hju:U.take j=U:=List.take_of_length_le (by have:=HSL.out;omega)
        rw [hju] at HN HO
        have HK9:Hid (K++U=Zbd (N.take (i+1)) low high):=hid HIN.out.symm
        have hbj2:=hbw.trans (hbj.mono hbw.size)
        go_wp2
        go_roundg (N.length-(i+1))
        case measure=>omega
        case rel=>exact ⟨i+1,K++U,n,q,cq,by go_num,by omega,by omega,rfl,HK9,hid (.inr hlh),HN,HO,hbj2⟩
   ·have hR9:Hid (fS N low K=R):=by
     rw [HRR.out,HK.out,List.take_of_length_le (by omega)]
     unfold setS fS
     rw [if_pos hlh]
     exact hid rfl
    go_wp2
    go_ret
    refine ⟨q,cq,?_,?_,hw⟩
    ·rw [<-hR9.out,HN.out];rfl
    ·have:=HO.out
     rw [HN.out,hR9.out] at this
     exact this
  ·have hi0:i=0:=by
    rcases HLH.out with h | h
    ·exact h
    ·exact absurd h hlh
   have hR9:Hid (fS N low K=R):=by
    rw [HRR.out,HK.out,hi0]
    unfold setS fS Zbd
    rw [if_neg hlh]
    exact hid rfl
   by_cases hi:i<N.length
   ·have i2:(i:Int)<(N.length:Int):=by omega
    go_wp2
    go_ret
    refine ⟨q,cq,?_,?_,hw⟩
    ·rw [<-hR9.out,HN.out];rfl
    ·have:=HO.out
     rw [HN.out,hR9.out] at this
     exact this
   ·go_wp2
    go_ret
    refine ⟨q,cq,?_,?_,hw⟩
    ·rw [<-hR9.out,HN.out];rfl
    ·have:=HO.out
     rw [HN.out,hR9.out] at this
     exact this
end Go.Proofs.YtgfjmgebecmbiaaGreat
