import Derived.Test.YtgfjmgebecmbiaaGreatSort2
import Derived.Sort.Walk13
set_option linter.unusedSimpArgs false
set_option linter.unusedVariables false
set_option maxHeartbeats 1000000
namespace Go.Proofs.YtgfjmgebecmbiaaGreat
open Lib(hid)
open Go.RowKit Go.Sort M
section
variable {α:Type} [Inhabited α] {enc:α->List Value} {k:Nat} {w0:World} {blk off n:Nat} {lt:α->α->Bool} {g:Nat} {lb:Array Value} {sfn:Fn} {sa sb:Array Value}
theorem Zo4 {W W':World} {d:Array α} (h:HoldsK enc k W blk off d) (hb:W'.heap[blk]? = W.heap[blk]?):HoldsK enc k W' blk off d:=by
 intro j hj
 obtain ⟨h1,h2⟩:=h j hj
 exact ⟨(World.cell?_of_block hb).trans h1,(World.frozen?_of_block hb).trans h2⟩
theorem Srt.moved {W W':World} {d:Array α} {T:Nat->Prop} (S:Srt enc k w0 blk off n d W) (t:Touch T W W') (hT:∀j,T j->w0.heap.size<=j):Srt enc k w0 blk off n d W':=by
 have hl:=S.lt
 refine ⟨S.size,Zo4 S.holds (t.block blk S.lt2 (fun h=>by have:=hT _ h;omega)),⟨t.os.trans S.touch.os,t.tape.trans S.touch.tape,t.output.trans S.touch.output,Nat.le_trans S.touch.size t.size,fun j hj hn => ?_⟩,S.lt⟩
 exact (t.block j (Nat.lt_of_lt_of_le hj S.touch.size) (fun h=>by have:=hT _ h;omega)).trans (S.touch.block j hj hn)
theorem Srt.lessB {W:World} {d:Array α} (S:Srt enc k w0 blk off n d W) (hL:Zdh g lb enc k lt w0 blk off n) (x y:Int) (i j:Nat) (hi:i<n) (hj:j<n) (hx:(i:Int)=x) (hy:(j:Int)=y) :
 Calls Tryz.prog g (#[.int .i64 x,.int .i64 y]++lb) W fun e w'=>e = .returned (.bool (lt d[i]! d[j]!))/\RowKit.Below W.heap.size W w':=by
 subst hx hy
 exact hL W d S i j hi hj
structure Ctr (cb s:Nat) (W:World):Prop where
 c:W.cell? ⟨cb,0,none⟩=some (.int .i64 (s:Int))
 f:W.frozen? ⟨cb,0,none⟩=false
 lt:cb<W.heap.size
theorem Ctr.below {cb s:Nat} {W W':World} (h:Ctr cb s W) (t:RowKit.Below W.heap.size W W'):Ctr cb s W':=
 ⟨(t.cell (p:=⟨cb,0,none⟩) h.lt).trans h.c,(t.frozen (p:=⟨cb,0,none⟩) h.lt).trans h.f,Nat.lt_of_lt_of_le h.lt t.size⟩
theorem Ctr.set {cb s:Nat} {W:World} (h:Ctr cb s W) (t:Nat) (x:Int) (hx:x=(t:Int)):Ctr cb t (W.setCell ⟨cb,0,none⟩ (.int .i64 x))/\Touch (· = cb) W (W.setCell ⟨cb,0,none⟩ (.int .i64 x)):=by
 subst hx
 refine ⟨⟨?_,?_,by simpa using h.lt⟩,?_⟩
 ·exact World.cell?_setCell_same _ _ _ h.c
 ·rw [World.frozen?_setCell]
  exact h.f
 ·rw [setCell_eq]
  refine ⟨rfl,rfl,rfl,by simp [mapBlock],fun j hj hn => ?_⟩
  show (W.heap.modify cb _)[j]? = W.heap[j]?
  rw [Array.getElem?_modify,if_neg (fun e=>hn e.symm)]
set_option maxRecDepth 100000 in
theorem Zvc (eg:∀args w,(callFunc g args).run Tryz.prog w = .ok (.enter g args) w) (hL:Zdh g lb enc k lt w0 blk off n)
 (a b s cb:Nat) (ha:a<n) (hb:b<n) (hs:s<=1000000) (d:Array α) (W:World) (S:Srt enc k w0 blk off n d W) (K:Ctr cb s W) :
 Calls Tryz.prog 188 #[.agg #[.func (.func g) #[] lb,.func sfn sa sb],.int .i64 (a:Int),.int .i64 (b:Int),.pointer (some ⟨cb,0,none⟩)] W fun e w'=>
  e = .returned (.tuple #[.int .i64 ((order2 lt d a b s).1:Nat),.int .i64 ((order2 lt d a b s).2.1:Nat)])/\Touch (· = cb) W w'/\Ctr cb (order2 lt d a b s).2.2 w':=by
 have HL:=hid hL
 clear hL
 cases hv:lt d[b]! d[a]! with
 | true=>
  rw [show order2 lt d a b s=(b,a,s+1) by simp [order2,hv]]
  go_enter Tryz.func188,Tryz.ntmps188
  go_wp2_with fail
  have R:=Srd.start (x := .func (.func g) #[] lb) (y := .func sfn sa sb) S 183
  have hw1:RowKit.Below W.heap.size W (W.alloc (.cells #[.func (.func g) #[] lb,.func sfn sa sb] 183)):=by go_grown
  have K1:=K.below hw1
  have c0:=R.box.c0
  have hl:=R.box.lt
  have HR:=hid R
  have HK:=hid K1
  clear S K R K1
  go_wp2_with (go_at_fn g;refine (HR.out.srt.lessB HL.out _ _ b a hb ha rfl rfl).mono ?_;rw [hv];rintro e w2 ⟨rfl,hb2⟩;have hw2:=hw1.trans (hb2.mono hw1.size);have K2:=HK.out.below hb2;have k0:=K2.c;have k1:=K2.f;have k2:=K2.lt;have HK2:=hid K2;clear K2)
  go_ret2
  have hN:=HK2.out.set (s+1) ((s:Int)+1) (by omega)
  exact ⟨rfl,(Touch.quiet hw2).trans hN.2,hN.1⟩
 | false=>
  rw [show order2 lt d a b s=(a,b,s) by simp [order2,hv]]
  go_enter Tryz.func188,Tryz.ntmps188
  go_wp2_with fail
  have R:=Srd.start (x := .func (.func g) #[] lb) (y := .func sfn sa sb) S 183
  have hw1:RowKit.Below W.heap.size W (W.alloc (.cells #[.func (.func g) #[] lb,.func sfn sa sb] 183)):=by go_grown
  have K1:=K.below hw1
  have c0:=R.box.c0
  have hl:=R.box.lt
  have HR:=hid R
  have HK:=hid K1
  clear S K R K1
  go_wp2_with (go_at_fn g;refine (HR.out.srt.lessB HL.out _ _ b a hb ha rfl rfl).mono ?_;rw [hv];rintro e w2 ⟨rfl,hb2⟩;have hw2:=hw1.trans (hb2.mono hw1.size);have HK2:=hid (HK.out.below hb2))
  go_ret2
  exact ⟨rfl,.quiet hw2,HK2.out⟩
theorem Zk8 (lt:α->α->Bool) (d:Array α) {a b m:Nat} (s:Nat) (ha:a<m) (hb:b<m):(order2 lt d a b s).1<m/\(order2 lt d a b s).2.1<m/\(order2 lt d a b s).2.2<=s+1:=by
 unfold order2
 split
 ·exact ⟨hb,ha,Nat.le_refl _⟩
 ·exact ⟨ha,hb,Nat.le_succ _⟩
theorem Zyo (lt:α->α->Bool) (d:Array α) {a b c m:Nat} (s:Nat) (ha:a<m) (hb:b<m) (hc:c<m):(median lt d a b c s).1<m/\(median lt d a b c s).2<=s+3:=by
 have h1:=Zk8 lt d s ha hb
 have h2:=Zk8 lt d (order2 lt d a b s).2.2 h1.2.1 hc
 have h3:=Zk8 lt d (order2 lt d (order2 lt d a b s).2.1 c (order2 lt d a b s).2.2).2.2 h1.1 h2.1
 have h4:=h2.2.2
 have h5:=h1.2.2
 exact ⟨h3.2.1,Nat.le_trans (show (median lt d a b c s).2<=_ from h3.2.2) (by omega)⟩
set_option maxRecDepth 100000 in
theorem Zlc (eg:∀args w,(callFunc g args).run Tryz.prog w = .ok (.enter g args) w) (hL:Zdh g lb enc k lt w0 blk off n)
 (a b c s cb:Nat) (ha:a<n) (hb:b<n) (hc:c<n) (hs:s<=999000) (hcb:w0.heap.size<=cb) (d:Array α) (W:World) (S:Srt enc k w0 blk off n d W) (K:Ctr cb s W) :
 Calls Tryz.prog 182 #[.agg #[.func (.func g) #[] lb,.func sfn sa sb],.int .i64 (a:Int),.int .i64 (b:Int),.int .i64 (c:Int),.pointer (some ⟨cb,0,none⟩)] W fun e w'=>
  e = .returned (.int .i64 ((median lt d a b c s).1:Nat))/\Touch (· = cb) W w'/\Ctr cb (median lt d a b c s).2 w':=by
 have HO:=hid (fun a b s ha hb hs W S K=>Zvc (sfn:=sfn) (sa:=sa) (sb:=sb) eg hL a b s cb ha hb hs d W S K)
 have l1:=Zk8 lt d s ha hb
 obtain ⟨r1,e1⟩:∃r,r=order2 lt d a b s:=⟨_,rfl⟩
 rw [<-e1] at l1
 have l2:=Zk8 lt d r1.2.2 l1.2.1 hc
 obtain ⟨r2,e2⟩:∃r,r=order2 lt d r1.2.1 c r1.2.2:=⟨_,rfl⟩
 rw [<-e2] at l2
 have l3:=Zk8 lt d r2.2.2 l1.1 l2.1
 obtain ⟨r3,e3⟩:∃r,r=order2 lt d r1.1 r2.1 r2.2.2:=⟨_,rfl⟩
 rw [<-e3] at l3
 have em:median lt d a b c s=(r3.2.1,r3.2.2):=by
  unfold median
  simp only [<-e1]
  simp only [<-e2]
  simp only [<-e3]
 rw [em]
 have E1:=hid e1
 have E2:=hid e2
 have E3:=hid e3
 obtain ⟨q1,q2,q3⟩:=r1
 obtain ⟨u1,u2,u3⟩:=r2
 obtain ⟨v1,v2,v3⟩:=r3
 simp only at l1 l2 l3
 obtain ⟨l1a,l1b,l1c⟩:=l1
 obtain ⟨l2a,l2b,l2c⟩:=l2
 obtain ⟨l3a,l3b,l3c⟩:=l3
 have hcl:=K.lt
 clear e1 e2 e3 em hL
 go_enter Tryz.func182,Tryz.ntmps182
 go_wp2_with fail
 have hw1:RowKit.Below W.heap.size W (W.alloc (.cells #[.func (.func g) #[] lb,.func sfn sa sb] 183)):=by go_grown
 have B1:Bxd (.func (.func g) #[] lb) (.func sfn sa sb) W.heap.size cb (W.alloc (.cells #[.func (.func g) #[] lb,.func sfn sa sb] 183)):=⟨by simp,by simp,by simp,by omega⟩
 have K1:=K.below hw1
 have S1:=S.below hw1
 clear S K
 refine (HO.out a b s ha hb (by omega) _ S1 K1).mono ?_
 rw [<-E1.out]
 rintro e w2 ⟨rfl,hT2,K2⟩
 have S2:=S1.moved hT2 (by rintro j rfl;exact hcb)
 have B2:=B1.touch hT2
 have HT2:=hid ((Touch.quiet (S:=(· = cb)) hw1).trans hT2)
 have c0:=B2.c0
 have c1:=B2.c1
 have hl:=B2.lt
 clear K1 S1 B1 hT2 hw1
 go_wp2_with fail
 refine (HO.out q2 c q3 l1b hc (by omega) _ S2 K2).mono ?_
 rw [<-E2.out]
 rintro e w3 ⟨rfl,hT3,K3⟩
 have S3:=S2.moved hT3 (by rintro j rfl;exact hcb)
 have B3:=B2.touch hT3
 have HT3:=hid (HT2.out.trans hT3)
 have c0:=B3.c0
 have c1:=B3.c1
 have hl:=B3.lt
 clear K2 S2 B2 hT3 HT2
 go_wp2_with fail
 refine (HO.out q1 u1 u3 l1a l2a (by omega) _ S3 K3).mono ?_
 rw [<-E3.out]
 rintro e w4 ⟨rfl,hT4,K4⟩
 have HT4:=hid (HT3.out.trans hT4)
 clear hT4
 go_wp2
 go_ret
 exact ⟨rfl,HT4.out,K4⟩
set_option maxRecDepth 100000 in
theorem Zvl (eg:∀args w,(callFunc g args).run Tryz.prog w = .ok (.enter g args) w) (hL:Zdh g lb enc k lt w0 blk off n) (hn:n<4611686018427387904)
 (a s cb:Nat) (ha1:1<=a) (ha2:a+1<n) (hs:s<=999000) (hcb:w0.heap.size<=cb) (d:Array α) (W:World) (S:Srt enc k w0 blk off n d W) (K:Ctr cb s W) :
 Calls Tryz.prog 181 #[.agg #[.func (.func g) #[] lb,.func sfn sa sb],.int .i64 (a:Int),.pointer (some ⟨cb,0,none⟩)] W fun e w'=>
  e = .returned (.int .i64 ((medianAdjacent lt d a s).1:Nat))/\Touch (· = cb) W w'/\Ctr cb (medianAdjacent lt d a s).2 w':=by
 have HM:=hid (fun W S K=>Zlc (sfn:=sfn) (sa:=sa) (sb:=sb) eg hL (a-1) a (a+1) s cb (by omega) (by omega) (by omega) hs hcb d W S K)
 have hcl:=K.lt
 clear hL
 go_enter Tryz.func181,Tryz.ntmps181
 go_wp2_with fail
 have hw1:RowKit.Below W.heap.size W (W.alloc (.cells #[.func (.func g) #[] lb,.func sfn sa sb] 183)):=by go_grown
 have hc:=HM.out _ (S.below hw1) (K.below hw1)
 rw [show ((a-1:Nat):Int)=(a:Int)-1 by omega,show ((a+1:Nat):Int)=(a:Int)+1 by omega] at hc
 refine hc.mono ?_
 clear hc
 rintro e w2 ⟨rfl,hT2,K2⟩
 have HT2:=hid ((Touch.quiet (S:=(· = cb)) hw1).trans hT2)
 clear hT2 hw1
 go_wp2
 go_ret
 exact ⟨rfl,HT2.out,K2⟩
end
section
variable {α:Type} [Inhabited α] {enc:α->List Value} {k:Nat} {w0:World} {blk off n:Nat} {lt:α->α->Bool} {g:Nat} {lb:Array Value} {sfn:Fn} {sa sb:Array Value}
def Z24:Hint->Nat
 | .unknown=>0
 | .increasing=>1
 | .decreasing=>2
def hintOf (s:Nat):Hint:=if s=0 then .increasing else if s=12 then .decreasing else .unknown
set_option maxRecDepth 100000 in
theorem Zx1 (eg:∀args w,(callFunc g args).run Tryz.prog w = .ok (.enter g args) w) (hL:Zdh g lb enc k lt w0 blk off n) (hn:n<4611686018427387904)
 (a b l:Nat) (hl0:0<l) (hab:a+l=b) (hb:b<=n) (d:Array α) (W:World) (S:Srt enc k w0 blk off n d W) :
 Calls Tryz.prog 161 #[.agg #[.func (.func g) #[] lb,.func sfn sa sb],.int .i64 (a:Int),.int .i64 (b:Int)] W fun e w'=>
  e = .returned (.tuple #[.int .i64 ((choosePivot lt d a b).1:Nat),.int .i64 (Z24 (choosePivot lt d a b).2:Nat)])/\RowKit.Below W.heap.size W w':=by
 have HA:=hid (fun a s cb ha1 ha2 hs hcb W S K=>Zvl (sfn:=sfn) (sa:=sa) (sb:=sb) eg hL hn a s cb ha1 ha2 hs hcb d W S K)
 have HM:=hid (fun a b c s cb ha hb hc hs hcb W S K=>Zlc (sfn:=sfn) (sa:=sa) (sb:=sb) eg hL a b c s cb ha hb hc hs hcb d W S K)
 have hS:=hid S
 clear S hL
 obtain ⟨q,hq⟩:∃q,q=l/4:=⟨_,rfl⟩
 have hq4:(l:Int)/4=(q:Int):=by rw [hq];rfl
 have hsub:(b:Int)-(a:Int)=(l:Int):=by omega
 have hsub2:b-a=l:=by omega
 have hql:4*q<=l:=by omega
 by_cases h8:8<=l
 ·by_cases h50:50<=l
  ·obtain ⟨ri,ei⟩:∃r,r=medianAdjacent lt d (a+q*1) 0:=⟨_,rfl⟩
   obtain ⟨rj,ej⟩:∃r,r=medianAdjacent lt d (a+q*2) ri.2:=⟨_,rfl⟩
   obtain ⟨rk,ek⟩:∃r,r=medianAdjacent lt d (a+q*3) rj.2:=⟨_,rfl⟩
   obtain ⟨rm,em⟩:∃r,r=median lt d ri.1 rj.1 rk.1 rk.2:=⟨_,rfl⟩
   have e0:choosePivot lt d a b=(rm.1,hintOf rm.2):=by
    unfold choosePivot
    simp only [hsub2]
    rw [if_pos (show l≥8 from h8),if_pos (show l≥50 from h50),<-hq]
    simp only [<-ei]
    simp only [<-ej]
    simp only [<-ek]
    simp only [<-em]
    rfl
   rw [e0]
   have li:ri.1<n/\ri.2<=0+3:=by rw [ei];exact Zyo lt d 0 (by omega) (by omega) (by omega)
   have lj:rj.1<n/\rj.2<=ri.2+3:=by rw [ej];exact Zyo lt d _ (by omega) (by omega) (by omega)
   have lk:rk.1<n/\rk.2<=rj.2+3:=by rw [ek];exact Zyo lt d _ (by omega) (by omega) (by omega)
   have EI:=hid ei
   have EJ:=hid ej
   have EK:=hid ek
   have EM:=hid em
   clear e0 hq hsub2 hab ei ej ek em
   obtain ⟨mi,si⟩:=ri
   obtain ⟨mj,sj⟩:=rj
   obtain ⟨mk,sk⟩:=rk
   obtain ⟨mm,s⟩:=rm
   simp only at li lj lk
   obtain ⟨li,li2⟩:=li
   obtain ⟨lj,lj2⟩:=lj
   obtain ⟨lk,lk2⟩:=lk
   have h8z:(8:Int)<=(l:Int):=by omega
   have h50z:(50:Int)<=(l:Int):=by omega
   go_enter Tryz.func161,Tryz.ntmps161
   go_wp2_with fail
   have hw1:RowKit.Below W.heap.size W ((W.alloc (.cells #[.func (.func g) #[] lb,.func sfn sa sb] 183)).alloc (.cells #[.int .i64 0] 3)):=by go_grown
   have S1:=hS.out.below hw1
   have K1:Ctr (W.heap.size+1) 0 ((W.alloc (.cells #[.func (.func g) #[] lb,.func sfn sa sb] 183)).alloc (.cells #[.int .i64 0] 3)):=⟨by simp [go_sem],by simp [go_sem],by simp⟩
   have B1:Bxd (.func (.func g) #[] lb) (.func sfn sa sb) W.heap.size (W.heap.size+1) ((W.alloc (.cells #[.func (.func g) #[] lb,.func sfn sa sb] 183)).alloc (.cells #[.int .i64 0] 3)):=⟨by simp,by simp,by simp;omega,by omega⟩
   have hcb:w0.heap.size<=W.heap.size+1:=by have:=hS.out.touch.size;omega
   have hc:=HA.out (a+q*1) 0 (W.heap.size+1) (by omega) (by omega) (by omega) hcb _ S1 K1
   rw [show ((a+q*1:Nat):Int)=(a:Int)+(q:Int) by omega] at hc
   refine hc.mono ?_
   clear hc
   rw [<-EI.out]
   rintro e w2 ⟨rfl,hT2,K2⟩
   have S2:=S1.moved hT2 (by rintro j rfl;exact hcb)
   have B2:=B1.touch hT2
   have c0:=B2.c0
   have c1:=B2.c1
   have hbl:=B2.lt
   have HT2:=hid ((Touch.quiet (S:=(· = W.heap.size+1)) hw1).trans hT2)
   clear S1 K1 B1 hT2 hw1
   go_wp2_with fail
   have hc:=HA.out (a+q*2) si (W.heap.size+1) (by omega) (by omega) (by omega) hcb _ S2 K2
   rw [show ((a+q*2:Nat):Int)=(a:Int)+(q:Int)*2 by omega] at hc
   refine hc.mono ?_
   clear hc
   rw [<-EJ.out]
   rintro e w3 ⟨rfl,hT3,K3⟩
   have S3:=S2.moved hT3 (by rintro j rfl;exact hcb)
   have B3:=B2.touch hT3
   have c0:=B3.c0
   have c1:=B3.c1
   have hbl:=B3.lt
   have HT3:=hid (HT2.out.trans hT3)
   clear S2 K2 B2 hT3 HT2
   go_wp2_with fail
   have hc:=HA.out (a+q*3) sj (W.heap.size+1) (by omega) (by omega) (by omega) hcb _ S3 K3
   rw [show ((a+q*3:Nat):Int)=(a:Int)+(q:Int)*3 by omega] at hc
   refine hc.mono ?_
   clear hc
   rw [<-EK.out]
   rintro e w4 ⟨rfl,hT4,K4⟩
   have S4:=S3.moved hT4 (by rintro j rfl;exact hcb)
   have B4:=B3.touch hT4
   have c0:=B4.c0
   have c1:=B4.c1
   have hbl:=B4.lt
   have HT4:=hid (HT3.out.trans hT4)
   clear S3 K3 B3 hT4 HT3
   go_wp2_with fail
   have hc:=HM.out mi mj mk sk (W.heap.size+1) (by omega) (by omega) (by omega) (by omega) hcb _ S4 K4
   refine hc.mono ?_
   clear hc
   rw [<-EM.out]
   rintro e w5 ⟨rfl,hT5,K5⟩
   have S5:=S4.moved hT5 (by rintro j rfl;exact hcb)
   have B5:=B4.touch hT5
   have c0:=B5.c0
   have c1:=B5.c1
   have hbl:=B5.lt
   have HT:=hid (HT4.out.trans hT5)
   have K:=K5
   clear S4 K4 B4 hT5 HT4 S5 B5 K5 c0 c1 hbl
   have HB:Hid (RowKit.Below W.heap.size W w5):=hid (HT.out.below (Nat.le_refl _) (fun j e=>by omega))
   have k0:=K.c
   have kl:=K.lt
   clear HT
   by_cases s0:s=0
   ·have z1:((s:Int) == 0)=true:=by simp;omega
    go_wp2
    go_ret2
    refine ⟨?_,HB.out⟩
    rw [show hintOf s = .increasing by simp [hintOf,s0]]
    rfl
   ·have z1:((s:Int) == 0)=false:=by simp;omega
    by_cases s1:s=12
    ·have z2:((s:Int) == 12)=true:=by simp;omega
     go_wp2
     go_ret2
     refine ⟨?_,HB.out⟩
     rw [show hintOf s = .decreasing by simp [hintOf,s1]]
     rfl
    ·have z2:((s:Int) == 12)=false:=by simp;omega
     go_wp2
     go_ret2
     refine ⟨?_,HB.out⟩
     rw [show hintOf s = .unknown by simp [hintOf,s0,s1]]
     rfl
  ·obtain ⟨rm,em⟩:∃r,r=median lt d (a+q*1) (a+q*2) (a+q*3) 0:=⟨_,rfl⟩
   have e0:choosePivot lt d a b=(rm.1,hintOf rm.2):=by
    unfold choosePivot
    simp only [hsub2]
    rw [if_pos (show l≥8 from h8),if_neg (show ¬l≥50 from h50),<-hq]
    simp only [<-em]
    rfl
   rw [e0]
   have EM:=hid em
   clear e0 hq hsub2 hab em
   obtain ⟨mm,s⟩:=rm
   have h8z:(8:Int)<=(l:Int):=by omega
   have h50z:¬(50:Int)<=(l:Int):=by omega
   go_enter Tryz.func161,Tryz.ntmps161
   go_wp2_with fail
   have hw1:RowKit.Below W.heap.size W ((W.alloc (.cells #[.func (.func g) #[] lb,.func sfn sa sb] 183)).alloc (.cells #[.int .i64 0] 3)):=by go_grown
   have S1:=hS.out.below hw1
   have K1:Ctr (W.heap.size+1) 0 ((W.alloc (.cells #[.func (.func g) #[] lb,.func sfn sa sb] 183)).alloc (.cells #[.int .i64 0] 3)):=⟨by simp [go_sem],by simp [go_sem],by simp⟩
   have B1:Bxd (.func (.func g) #[] lb) (.func sfn sa sb) W.heap.size (W.heap.size+1) ((W.alloc (.cells #[.func (.func g) #[] lb,.func sfn sa sb] 183)).alloc (.cells #[.int .i64 0] 3)):=⟨by simp,by simp,by simp;omega,by omega⟩
   have hcb:w0.heap.size<=W.heap.size+1:=by have:=hS.out.touch.size;omega
   have hc:=HM.out (a+q*1) (a+q*2) (a+q*3) 0 (W.heap.size+1) (by omega) (by omega) (by omega) (by omega) hcb _ S1 K1
   rw [show ((a+q*1:Nat):Int)=(a:Int)+(q:Int) by omega,show ((a+q*2:Nat):Int)=(a:Int)+(q:Int)*2 by omega,show ((a+q*3:Nat):Int)=(a:Int)+(q:Int)*3 by omega] at hc
   refine hc.mono ?_
   clear hc
   rw [<-EM.out]
   rintro e w2 ⟨rfl,hT2,K2⟩
   have S2:=S1.moved hT2 (by rintro j rfl;exact hcb)
   have B2:=B1.touch hT2
   have c0:=B2.c0
   have c1:=B2.c1
   have hbl:=B2.lt
   have HT:=hid ((Touch.quiet (S:=(· = W.heap.size+1)) hw1).trans hT2)
   have K:=K2
   clear S1 K1 B1 hT2 S2 B2 K2 c0 c1 hbl hw1
   have HB:Hid (RowKit.Below W.heap.size W w2):=hid (HT.out.below (Nat.le_refl _) (fun j e=>by omega))
   have k0:=K.c
   have kl:=K.lt
   clear HT
   by_cases s0:s=0
   ·have z1:((s:Int) == 0)=true:=by simp;omega
    go_wp2
    go_ret2
    refine ⟨?_,HB.out⟩
    rw [show hintOf s = .increasing by simp [hintOf,s0]]
    rfl
   ·have z1:((s:Int) == 0)=false:=by simp;omega
    by_cases s1:s=12
    ·have z2:((s:Int) == 12)=true:=by simp;omega
     go_wp2
     go_ret2
     refine ⟨?_,HB.out⟩
     rw [show hintOf s = .decreasing by simp [hintOf,s1]]
     rfl
    ·have z2:((s:Int) == 12)=false:=by simp;omega
     go_wp2
     go_ret2
     refine ⟨?_,HB.out⟩
     rw [show hintOf s = .unknown by simp [hintOf,s0,s1]]
     rfl
 ·have e0:choosePivot lt d a b=(a+q*2,hintOf 0):=by
   unfold choosePivot
   simp only [hsub2]
   rw [if_neg (by omega),hq]
   rfl
  rw [e0]
  clear e0 hq hsub2 hab
  go_enter Tryz.func161,Tryz.ntmps161
  go_wp2
  go_ret2
  exact ⟨rfl,by go_grown⟩
end
end Go.Proofs.YtgfjmgebecmbiaaGreat
