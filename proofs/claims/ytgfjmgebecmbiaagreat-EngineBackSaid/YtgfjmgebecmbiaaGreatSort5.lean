/-
  sort.partitionEqual_func and partition_func, at a test that may make blocks of its own. No condition but those that stand in each.
-/
import Derived.Test.YtgfjmgebecmbiaaGreatSort3
import Derived.Sort.WalkC4
import Derived.Deep.CutBlock
set_option linter.unusedSimpArgs false
set_option linter.unusedVariables false
namespace Go.Proofs.YtgfjmgebecmbiaaGreat
open Go.RowKit Go.Sort M
section
variable {α:Type} [Inhabited α] {enc:α->List Value} {k:Nat} {w0:World} {blk off n:Nat} {lt:α->α->Bool} {g:Nat} {lb:Array Value} {sfn:Fn} {sa sb:Array Value}
def hintN:Hint->Nat
 | .unknown=>0
 | .increasing=>1
 | .decreasing=>2
def hintOf (s:Nat):Hint:=if s=0 then .increasing else if s=12 then .decreasing else .unknown
set_option maxHeartbeats 1000000 in
set_option maxRecDepth 100000 in
theorem pivot_any (eg:∀args w,(callFunc g args).run Tryz.prog w = .ok (.enter g args) w) (hL:LessB g lb enc k lt w0 blk off n) (hn:n<4611686018427387904)
 (a b l:Nat) (hl0:0<l) (hab:a+l=b) (hb:b<=n) (d:Array α) (W:World) (S:Srt enc k w0 blk off n d W) :
 Calls Tryz.prog 161 #[.agg #[.func (.func g) #[] lb,.func sfn sa sb],.int .i64 (a:Int),.int .i64 (b:Int)] W fun e w'=>
  e = .returned (.tuple #[.int .i64 ((choosePivot lt d a b).1:Nat),.int .i64 (hintN (choosePivot lt d a b).2:Nat)])/\RowKit.Below W.heap.size W w':=by
 have HA:=Lib.hid (fun a s cb ha1 ha2 hs hcb W S K=>medAdj_any (sfn:=sfn) (sa:=sa) (sb:=sb) eg hL hn a s cb ha1 ha2 hs hcb d W S K)
 have HM:=Lib.hid (fun a b c s cb ha hb hc hs hcb W S K=>median_any (sfn:=sfn) (sa:=sa) (sb:=sb) eg hL a b c s cb ha hb hc hs hcb d W S K)
 have hS:=Lib.hid S
 clear S hL
 obtain ⟨q,hq⟩:∃q,q=l/4:=⟨_,rfl⟩
 have hq4:(l:Int)/4=(q:Int):=by rw [hq];rfl
 have hsub:(b:Int)-(a:Int)=(l:Int):=by omega
 have hsub2:b-a=l:=by omega
 have hql:4*q<=l:=by omega
 by_cases h8:8<=l
 ·by_cases h50:50<=l
  ·obtain ⟨ri,ei⟩:∃r,r=medianAdjacent lt d (a+q*1) 0:=⟨_,rfl⟩
   obtain ⟨rj,ej⟩:∃r,r=medianAdjacent lt d (a+q*2) ri.2:=⟨_,rfl⟩
   obtain ⟨rk,ek⟩:∃r,r=medianAdjacent lt d (a+q*3) rj.2:=⟨_,rfl⟩
   obtain ⟨rm,em⟩:∃r,r=median lt d ri.1 rj.1 rk.1 rk.2:=⟨_,rfl⟩
   have e0:choosePivot lt d a b=(rm.1,hintOf rm.2):=by
    unfold choosePivot
    simp only [hsub2]
    rw [if_pos (show l≥8 from h8),if_pos (show l≥50 from h50),<-hq]
    simp only [<-ei]
    simp only [<-ej]
    simp only [<-ek]
    simp only [<-em]
    rfl
   rw [e0]
   have li:ri.1<n/\ri.2<=0+3:=by rw [ei];exact med_lt lt d 0 (by omega) (by omega) (by omega)
   have lj:rj.1<n/\rj.2<=ri.2+3:=by rw [ej];exact med_lt lt d _ (by omega) (by omega) (by omega)
   have lk:rk.1<n/\rk.2<=rj.2+3:=by rw [ek];exact med_lt lt d _ (by omega) (by omega) (by omega)
   have EI:=Lib.hid ei
   have EJ:=Lib.hid ej
   have EK:=Lib.hid ek
   have EM:=Lib.hid em
   clear e0 hq hsub2 hab ei ej ek em
   obtain ⟨mi,si⟩:=ri
   obtain ⟨mj,sj⟩:=rj
   obtain ⟨mk,sk⟩:=rk
   obtain ⟨mm,s⟩:=rm
   simp only at li lj lk
   obtain ⟨li,li2⟩:=li
   obtain ⟨lj,lj2⟩:=lj
   obtain ⟨lk,lk2⟩:=lk
   have h8z:(8:Int)<=(l:Int):=by omega
   have h50z:(50:Int)<=(l:Int):=by omega
   go_enter Tryz.func161,Tryz.ntmps161
   go_wp2_with fail
   have hw1:RowKit.Below W.heap.size W ((W.alloc (.cells #[.func (.func g) #[] lb,.func sfn sa sb] 183)).alloc (.cells #[.int .i64 0] 3)):=by go_grown
   have S1:=hS.out.below hw1
   have K1:Ctr (W.heap.size+1) 0 ((W.alloc (.cells #[.func (.func g) #[] lb,.func sfn sa sb] 183)).alloc (.cells #[.int .i64 0] 3)):=⟨by simp [go_sem],by simp [go_sem],by simp⟩
   have B1:Bxd (.func (.func g) #[] lb) (.func sfn sa sb) W.heap.size (W.heap.size+1) ((W.alloc (.cells #[.func (.func g) #[] lb,.func sfn sa sb] 183)).alloc (.cells #[.int .i64 0] 3)):=⟨by simp,by simp,by simp;omega,by omega⟩
   have hcb:w0.heap.size<=W.heap.size+1:=by have:=hS.out.touch.size;omega
   have hc:=HA.out (a+q*1) 0 (W.heap.size+1) (by omega) (by omega) (by omega) hcb _ S1 K1
   rw [show ((a+q*1:Nat):Int)=(a:Int)+(q:Int) by omega] at hc
   refine hc.mono ?_
   clear hc
   rw [<-EI.out]
   rintro e w2 ⟨rfl,hT2,K2⟩
   have S2:=S1.moved hT2 (by rintro j rfl;exact hcb)
   have B2:=B1.touch hT2
   have c0:=B2.c0
   have c1:=B2.c1
   have hbl:=B2.lt
   have HT2:=Lib.hid ((Touch.quiet (S:=(· = W.heap.size+1)) hw1).trans hT2)
   clear S1 K1 B1 hT2 hw1
   go_wp2_with fail
   have hc:=HA.out (a+q*2) si (W.heap.size+1) (by omega) (by omega) (by omega) hcb _ S2 K2
   rw [show ((a+q*2:Nat):Int)=(a:Int)+(q:Int)*2 by omega] at hc
   refine hc.mono ?_
   clear hc
   rw [<-EJ.out]
   rintro e w3 ⟨rfl,hT3,K3⟩
   have S3:=S2.moved hT3 (by rintro j rfl;exact hcb)
   have B3:=B2.touch hT3
   have c0:=B3.c0
   have c1:=B3.c1
   have hbl:=B3.lt
   have HT3:=Lib.hid (HT2.out.trans hT3)
   clear S2 K2 B2 hT3 HT2
   go_wp2_with fail
   have hc:=HA.out (a+q*3) sj (W.heap.size+1) (by omega) (by omega) (by omega) hcb _ S3 K3
   rw [show ((a+q*3:Nat):Int)=(a:Int)+(q:Int)*3 by omega] at hc
   refine hc.mono ?_
   clear hc
   rw [<-EK.out]
   rintro e w4 ⟨rfl,hT4,K4⟩
   have S4:=S3.moved hT4 (by rintro j rfl;exact hcb)
   have B4:=B3.touch hT4
   have c0:=B4.c0
   have c1:=B4.c1
   have hbl:=B4.lt
   have HT4:=Lib.hid (HT3.out.trans hT4)
   clear S3 K3 B3 hT4 HT3
   go_wp2_with fail
   have hc:=HM.out mi mj mk sk (W.heap.size+1) (by omega) (by omega) (by omega) (by omega) hcb _ S4 K4
   refine hc.mono ?_
   clear hc
   rw [<-EM.out]
   rintro e w5 ⟨rfl,hT5,K5⟩
   have S5:=S4.moved hT5 (by rintro j rfl;exact hcb)
   have B5:=B4.touch hT5
   have c0:=B5.c0
   have c1:=B5.c1
   have hbl:=B5.lt
   have HT:=Lib.hid (HT4.out.trans hT5)
   have K:=K5
   clear S4 K4 B4 hT5 HT4 S5 B5 K5 c0 c1 hbl
   have HB:Hid (RowKit.Below W.heap.size W w5):=Lib.hid (HT.out.below (Nat.le_refl _) (fun j e=>by omega))
   have k0:=K.c
   have kl:=K.lt
   clear HT
   by_cases s0:s=0
   ·have z1:((s:Int) == 0)=true:=by simp;omega
    go_wp2
    go_ret2
    refine ⟨?_,HB.out⟩
    rw [show hintOf s = .increasing by simp [hintOf,s0]]
    rfl
   ·have z1:((s:Int) == 0)=false:=by simp;omega
    by_cases s1:s=12
    ·have z2:((s:Int) == 12)=true:=by simp;omega
     go_wp2
     go_ret2
     refine ⟨?_,HB.out⟩
     rw [show hintOf s = .decreasing by simp [hintOf,s1]]
     rfl
    ·have z2:((s:Int) == 12)=false:=by simp;omega
     go_wp2
     go_ret2
     refine ⟨?_,HB.out⟩
     rw [show hintOf s = .unknown by simp [hintOf,s0,s1]]
     rfl
  ·obtain ⟨rm,em⟩:∃r,r=median lt d (a+q*1) (a+q*2) (a+q*3) 0:=⟨_,rfl⟩
   have e0:choosePivot lt d a b=(rm.1,hintOf rm.2):=by
    unfold choosePivot
    simp only [hsub2]
    rw [if_pos (show l≥8 from h8),if_neg (show ¬l≥50 from h50),<-hq]
    simp only [<-em]
    rfl
   rw [e0]
   have EM:=Lib.hid em
   clear e0 hq hsub2 hab em
   obtain ⟨mm,s⟩:=rm
   have h8z:(8:Int)<=(l:Int):=by omega
   have h50z:¬(50:Int)<=(l:Int):=by omega
   go_enter Tryz.func161,Tryz.ntmps161
   go_wp2_with fail
   have hw1:RowKit.Below W.heap.size W ((W.alloc (.cells #[.func (.func g) #[] lb,.func sfn sa sb] 183)).alloc (.cells #[.int .i64 0] 3)):=by go_grown
   have S1:=hS.out.below hw1
   have K1:Ctr (W.heap.size+1) 0 ((W.alloc (.cells #[.func (.func g) #[] lb,.func sfn sa sb] 183)).alloc (.cells #[.int .i64 0] 3)):=⟨by simp [go_sem],by simp [go_sem],by simp⟩
   have B1:Bxd (.func (.func g) #[] lb) (.func sfn sa sb) W.heap.size (W.heap.size+1) ((W.alloc (.cells #[.func (.func g) #[] lb,.func sfn sa sb] 183)).alloc (.cells #[.int .i64 0] 3)):=⟨by simp,by simp,by simp;omega,by omega⟩
   have hcb:w0.heap.size<=W.heap.size+1:=by have:=hS.out.touch.size;omega
   have hc:=HM.out (a+q*1) (a+q*2) (a+q*3) 0 (W.heap.size+1) (by omega) (by omega) (by omega) (by omega) hcb _ S1 K1
   rw [show ((a+q*1:Nat):Int)=(a:Int)+(q:Int) by omega,show ((a+q*2:Nat):Int)=(a:Int)+(q:Int)*2 by omega,show ((a+q*3:Nat):Int)=(a:Int)+(q:Int)*3 by omega] at hc
   refine hc.mono ?_
   clear hc
   rw [<-EM.out]
   rintro e w2 ⟨rfl,hT2,K2⟩
   have S2:=S1.moved hT2 (by rintro j rfl;exact hcb)
   have B2:=B1.touch hT2
   have c0:=B2.c0
   have c1:=B2.c1
   have hbl:=B2.lt
   have HT:=Lib.hid ((Touch.quiet (S:=(· = W.heap.size+1)) hw1).trans hT2)
   have K:=K2
   clear S1 K1 B1 hT2 S2 B2 K2 c0 c1 hbl hw1
   have HB:Hid (RowKit.Below W.heap.size W w2):=Lib.hid (HT.out.below (Nat.le_refl _) (fun j e=>by omega))
   have k0:=K.c
   have kl:=K.lt
   clear HT
   by_cases s0:s=0
   ·have z1:((s:Int) == 0)=true:=by simp;omega
    go_wp2
    go_ret2
    refine ⟨?_,HB.out⟩
    rw [show hintOf s = .increasing by simp [hintOf,s0]]
    rfl
   ·have z1:((s:Int) == 0)=false:=by simp;omega
    by_cases s1:s=12
    ·have z2:((s:Int) == 12)=true:=by simp;omega
     go_wp2
     go_ret2
     refine ⟨?_,HB.out⟩
     rw [show hintOf s = .decreasing by simp [hintOf,s1]]
     rfl
    ·have z2:((s:Int) == 12)=false:=by simp;omega
     go_wp2
     go_ret2
     refine ⟨?_,HB.out⟩
     rw [show hintOf s = .unknown by simp [hintOf,s0,s1]]
     rfl
 ·have e0:choosePivot lt d a b=(a+q*2,hintOf 0):=by
   unfold choosePivot
   simp only [hsub2]
   rw [if_neg (by omega),hq]
   rfl
  rw [e0]
  clear e0 hq hsub2 hab
  go_enter Tryz.func161,Tryz.ntmps161
  go_wp2
  go_ret2
  exact ⟨rfl,by go_grown⟩
end
section
variable {α:Type} [Inhabited α] {enc:α->List Value} {k:Nat} {w0:World} {blk off n:Nat} {lt:α->α->Bool} {g:Nat} {lb:Array Value} {sf:Nat} {sb:Array Value}
set_option maxHeartbeats 2000000 in
set_option maxRecDepth 100000 in
theorem partEq_any (hk:∀x,(enc x).length=k) (eg:∀args w,(callFunc g args).run Tryz.prog w = .ok (.enter g args) w) (hL:LessB g lb enc k lt w0 blk off n) (hS:SwapSwapsK Tryz.prog sf sb enc k blk off n) (hn:n<4611686018427387904)
 (a b p:Nat) (hap:a<=p) (hpb:p<b) (hb:b<=n) (d:Array α) (W:World) (S:Srt enc k w0 blk off n d W) :
 Calls Tryz.prog 164 #[.agg #[.func (.func g) #[] lb,.func (.func sf) #[] sb],.int .i64 (a:Int),.int .i64 (b:Int),.int .i64 (p:Int)] W fun e w'=>
  e = .returned (.int .i64 ((partitionEqual lt d a b p).1:Nat))/\Srt enc k w0 blk off n (partitionEqual lt d a b p).2 w'/\Touch (· = blk) W w':=by
 have HL:=Lib.hid hL
 have HSW:=Lib.hid hS
 clear hL hS
 have HE0:Hid (partEqLoop lt a (a+1) (b-1) (swp d a p)=partitionEqual lt d a b p):=rfl
 go_enter Tryz.func164,Tryz.ntmps164
 have R:=Srd.start (x := .func (.func g) #[] lb) (y := .func (.func sf) #[] sb) S 183
 clear S
 obtain ⟨w2,hrun,hS2,hT2⟩:=R.srt.swap HSW.out hk (a:Int) (p:Int) a p (by omega) (by omega) rfl rfl
 have HR:=Lib.hid (R.next hS2 hT2)
 clear hS2 hT2 R
 go_wp2_with fail
 go_loopg [9,10] b (fun kx s9 s10 wr=>∃(i j:Nat) (dk:Array α),s9 = .int .i64 (i:Int)/\s10 = .int .i64 (j:Int)/\a<i/\i<=j+1/\j<n/\j+1-i<=kx/\Hid (partEqLoop lt a i j dk=partitionEqual lt d a b p)/\Hid (Srd enc k w0 blk off n (.func (.func g) #[] lb) (.func (.func sf) #[] sb) W dk wr))
 case atStart=>exact ⟨a+1,b-1,swp d a p,by go_num,congrArg (Value.int .i64) (by omega),by omega,by omega,by omega,by omega,HE0,HR⟩
 case round=>
  clear HR hrun w2 HE0
  obtain ⟨i,j,dk,rfl,rfl,h1,h2,h3,h4,HE,HR⟩:=hrel
  go_upto_block 2 with fail
  go_cut [9] (fun si wx=>∃i2:Nat,si = .int .i64 (i2:Int)/\i<=i2/\i2<=j+1/\Hid (i2=scanUp (fun x => !lt dk[a]! x) dk j i)/\Hid (Srd enc k w0 blk off n (.func (.func g) #[] lb) (.func (.func sf) #[] sb) W dk wx))
  case first=>
   go_wp2_with fail
   go_loopg [9] (j+1-i) (fun kx si wx=>∃i2:Nat,si = .int .i64 (i2:Int)/\i<=i2/\i2<=j+1/\j+1-i2<=kx/\Hid (scanUp (fun x => !lt dk[a]! x) dk j i2=scanUp (fun x => !lt dk[a]! x) dk j i)/\Hid (Srd enc k w0 blk off n (.func (.func g) #[] lb) (.func (.func sf) #[] sb) W dk wx))
   case atStart=>exact ⟨i,rfl,Nat.le_refl _,by omega,Nat.le_refl _,rfl,HR⟩
   case round=>
    clear HR
    obtain ⟨i2,rfl,u1,u2,u3,HU,HR⟩:=hrel
    have c0:=HR.out.box.c0
    have hl:=HR.out.box.lt
    by_cases hij:i2<=j
    ·have hijz:(i2:Int)<=(j:Int):=by omega
     cases hv:lt dk[a]! dk[i2]! with
     | false=>
      go_wp2_with (go_at_fn g;refine (HR.out.srt.less HL.out _ _ a i2 (by omega) (by omega) rfl rfl).mono ?_;rw [hv];rintro e w1 ⟨rfl,hS1,hT1⟩;have R1:=Lib.hid (HR.out.next hS1 hT1);clear hS1 hT1)
      go_roundg (j+1-(i2+1))
      case measure=>omega
      case rel=>exact ⟨i2+1,by go_num,by omega,by omega,by omega,Lib.hid ((scanUp_go (fun x => !lt dk[a]! x) dk j i2 hij (by simp [hv])).symm.trans HU.out),R1⟩
     | true=>
      go_wp2_with (go_at_fn g;refine (HR.out.srt.less HL.out _ _ a i2 (by omega) (by omega) rfl rfl).mono ?_;rw [hv];rintro e w1 ⟨rfl,hS1,hT1⟩;have R1:=Lib.hid (HR.out.next hS1 hT1);clear hS1 hT1)
      go_meet
      exact ⟨i2,rfl,u1,u2,Lib.hid ((scanUp_end (fun x => !lt dk[a]! x) dk j i2 (.inr (by simp [hv]))).symm.trans HU.out),R1⟩
    ·have hijz:¬(i2:Int)<=(j:Int):=by omega
     go_wp2_with fail
     go_meet
     exact ⟨i2,rfl,u1,u2,Lib.hid ((scanUp_end (fun x => !lt dk[a]! x) dk j i2 (.inl hij)).symm.trans HU.out),HR⟩
  case rest=>
   clear HR
   obtain ⟨i2,rfl,u1,u2,HU,HR⟩:=hcut
   rename World=>wo
   go_upto_block 4 with fail
   go_cut [10] (fun sj wx=>∃j2:Nat,sj = .int .i64 (j2:Int)/\j2<=j/\i2<=j2+1/\Hid (j2=scanDown (fun x=>lt dk[a]! x) dk i2 j)/\Hid (Srd enc k w0 blk off n (.func (.func g) #[] lb) (.func (.func sf) #[] sb) W dk wx))
   case first=>
    go_wp2_with fail
    go_loopg [10] j (fun kx sj wx=>∃j2:Nat,sj = .int .i64 (j2:Int)/\j2<=j/\i2<=j2+1/\j2<=kx/\Hid (scanDown (fun x=>lt dk[a]! x) dk i2 j2=scanDown (fun x=>lt dk[a]! x) dk i2 j)/\Hid (Srd enc k w0 blk off n (.func (.func g) #[] lb) (.func (.func sf) #[] sb) W dk wx))
    case atStart=>exact ⟨j,rfl,Nat.le_refl _,by omega,Nat.le_refl _,rfl,HR⟩
    case round=>
     clear HR
     obtain ⟨j2,rfl,v1,v2,v3,HU,HR⟩:=hrel
     have c0:=HR.out.box.c0
     have hl:=HR.out.box.lt
     by_cases hij:i2<=j2
     ·have hijz:(i2:Int)<=(j2:Int):=by omega
      cases hv:lt dk[a]! dk[j2]! with
      | true=>
       go_wp2_with (go_at_fn g;refine (HR.out.srt.less HL.out _ _ a j2 (by omega) (by omega) rfl rfl).mono ?_;rw [hv];rintro e w1 ⟨rfl,hS1,hT1⟩;have R1:=Lib.hid (HR.out.next hS1 hT1);clear hS1 hT1)
       go_roundg (j2-1)
       case measure=>omega
       case rel=>exact ⟨j2-1,congrArg (Value.int .i64) (by omega),by omega,by omega,by omega,Lib.hid ((scanDown_go (fun x=>lt dk[a]! x) dk i2 j2 hij (by omega) (by simp [hv])).symm.trans HU.out),R1⟩
      | false=>
       go_wp2_with (go_at_fn g;refine (HR.out.srt.less HL.out _ _ a j2 (by omega) (by omega) rfl rfl).mono ?_;rw [hv];rintro e w1 ⟨rfl,hS1,hT1⟩;have R1:=Lib.hid (HR.out.next hS1 hT1);clear hS1 hT1)
       go_meet
       exact ⟨j2,rfl,v1,v2,Lib.hid ((scanDown_end (fun x=>lt dk[a]! x) dk i2 j2 (.inr (by simp [hv]))).symm.trans HU.out),R1⟩
     ·have hijz:¬(i2:Int)<=(j2:Int):=by omega
      go_wp2_with fail
      go_meet
      exact ⟨j2,rfl,v1,v2,Lib.hid ((scanDown_end (fun x=>lt dk[a]! x) dk i2 j2 (.inl hij)).symm.trans HU.out),HR⟩
   case rest=>
    clear HR
    obtain ⟨j2,rfl,v1,v2,HV,HR⟩:=hcut
    have c1:=HR.out.box.c1
    have hl:=HR.out.box.lt
    by_cases hbr:j2<i2
    ·have hbz:(j2:Int)<(i2:Int):=by omega
     have e:=(partEq_break lt a i j dk HU.out HV.out hbr).symm.trans HE.out
     have E:=Lib.hid e
     clear e
     go_wp2
     go_ret
     rw [<-E.out]
     exact ⟨rfl,HR.out.srt,HR.out.touch⟩
    ·have hbz:¬(j2:Int)<(i2:Int):=by omega
     have hlt:=scans_lt lt a i j dk (by omega) HU.out HV.out (by omega)
     obtain ⟨w2,hrun,hS2,hT2⟩:=HR.out.srt.swap HSW.out hk (i2:Int) (j2:Int) i2 j2 (by omega) (by omega) rfl rfl
     have R2:=Lib.hid (HR.out.next hS2 hT2)
     clear hS2 hT2
     go_wp2_with fail
     go_roundg (j2-1+1-(i2+1))
     case measure=>omega
     case rel=>exact ⟨i2+1,j2-1,_,by go_num,congrArg (Value.int .i64) (by omega),Nat.lt_succ_of_lt (Nat.lt_of_lt_of_le h1 u1),by omega,by omega,Nat.le_refl _,Lib.hid ((partEq_go lt a i j dk HU.out HV.out (by omega)).symm.trans HE.out),R2⟩
set_option maxHeartbeats 2000000 in
set_option maxRecDepth 100000 in
theorem part_any (hk:∀x,(enc x).length=k) (eg:∀args w,(callFunc g args).run Tryz.prog w = .ok (.enter g args) w) (hL:LessB g lb enc k lt w0 blk off n) (hS:SwapSwapsK Tryz.prog sf sb enc k blk off n) (hn:n<4611686018427387904)
 (a b p:Nat) (hap:a<=p) (hpb:p<b) (hb:b<=n) (d:Array α) (W:World) (S:Srt enc k w0 blk off n d W) :
 Calls Tryz.prog 165 #[.agg #[.func (.func g) #[] lb,.func (.func sf) #[] sb],.int .i64 (a:Int),.int .i64 (b:Int),.int .i64 (p:Int)] W fun e w'=>
  e = .returned (.tuple #[.int .i64 ((partition lt d a b p).1:Nat),.bool (partition lt d a b p).2.1])/\Srt enc k w0 blk off n (partition lt d a b p).2.2 w'/\Touch (· = blk) W w':=by
 have HL:=Lib.hid hL
 have HSW:=Lib.hid hS
 clear hL hS
 go_enter Tryz.func165,Tryz.ntmps165
 have R:=Srd.start (x := .func (.func g) #[] lb) (y := .func (.func sf) #[] sb) S 183
 clear S
 obtain ⟨w2,hrun,hS2,hT2⟩:=R.srt.swap HSW.out hk (a:Int) (p:Int) a p (by omega) (by omega) rfl rfl
 have HR:=Lib.hid (R.next hS2 hT2)
 clear hS2 hT2 R
 go_upto_region 2 with fail
 go_cut [10,11] (fun si sj wx=>∃(i j:Nat) (dk:Array α),si = .int .i64 (i:Int)/\sj = .int .i64 (j:Int)/\Hid (i=a+1/\j=b-1/\dk=swp d a p)/\a<i/\i<=j+1/\j<n/\Hid (Srd enc k w0 blk off n (.func (.func g) #[] lb) (.func (.func sf) #[] sb) W dk wx))
 case first=>
  go_wp2_with fail
  go_meet
  exact ⟨a+1,b-1,swp d a p,by go_num,congrArg (Value.int .i64) (by omega),Lib.hid ⟨rfl,rfl,rfl⟩,by omega,by omega,by omega,HR⟩
 case rest=>
  clear HR hrun w2
  obtain ⟨i,j,dk,rfl,rfl,HIJ,h1,h2,h3,HR⟩:=hcut
  rename World=>wp
  go_upto_block 0 with fail
  go_cut [10] (fun si wx=>∃i2:Nat,si = .int .i64 (i2:Int)/\i<=i2/\i2<=j+1/\Hid (i2=scanUp (fun x=>lt x dk[a]!) dk j i)/\Hid (Srd enc k w0 blk off n (.func (.func g) #[] lb) (.func (.func sf) #[] sb) W dk wx))
  case first=>
   go_wp2_with fail
   go_loopg [10] (j+1-i) (fun kx si wx=>∃i2:Nat,si = .int .i64 (i2:Int)/\i<=i2/\i2<=j+1/\j+1-i2<=kx/\Hid (scanUp (fun x=>lt x dk[a]!) dk j i2=scanUp (fun x=>lt x dk[a]!) dk j i)/\Hid (Srd enc k w0 blk off n (.func (.func g) #[] lb) (.func (.func sf) #[] sb) W dk wx))
   case atStart=>exact ⟨i,rfl,Nat.le_refl _,by omega,Nat.le_refl _,rfl,HR⟩
   case round=>
    clear HR
    obtain ⟨i2,rfl,u1,u2,u3,HU,HR⟩:=hrel
    have c0:=HR.out.box.c0
    have hl:=HR.out.box.lt
    by_cases hij:i2<=j
    ·have hijz:(i2:Int)<=(j:Int):=by omega
     cases hv:lt dk[i2]! dk[a]! with
     | true=>
      go_wp2_with (go_at_fn g;refine (HR.out.srt.less HL.out _ _ i2 a (by omega) (by omega) rfl rfl).mono ?_;rw [hv];rintro e w1 ⟨rfl,hS1,hT1⟩;have R1:=Lib.hid (HR.out.next hS1 hT1);clear hS1 hT1)
      go_roundg (j+1-(i2+1))
      case measure=>omega
      case rel=>exact ⟨i2+1,by go_num,by omega,by omega,by omega,Lib.hid ((scanUp_go (fun x=>lt x dk[a]!) dk j i2 hij (by simp [hv])).symm.trans HU.out),R1⟩
     | false=>
      go_wp2_with (go_at_fn g;refine (HR.out.srt.less HL.out _ _ i2 a (by omega) (by omega) rfl rfl).mono ?_;rw [hv];rintro e w1 ⟨rfl,hS1,hT1⟩;have R1:=Lib.hid (HR.out.next hS1 hT1);clear hS1 hT1)
      go_meet
      exact ⟨i2,rfl,u1,u2,Lib.hid ((scanUp_end (fun x=>lt x dk[a]!) dk j i2 (.inr (by simp [hv]))).symm.trans HU.out),R1⟩
    ·have hijz:¬(i2:Int)<=(j:Int):=by omega
     go_wp2_with fail
     go_meet
     exact ⟨i2,rfl,u1,u2,Lib.hid ((scanUp_end (fun x=>lt x dk[a]!) dk j i2 (.inl hij)).symm.trans HU.out),HR⟩
  case rest=>
   clear HR
   obtain ⟨i2,rfl,u1,u2,HU,HR⟩:=hcut
   rename World=>wo
   go_upto_block 2 with fail
   go_cut [11] (fun sj wx=>∃j2:Nat,sj = .int .i64 (j2:Int)/\j2<=j/\i2<=j2+1/\Hid (j2=scanDown (fun x => !lt x dk[a]!) dk i2 j)/\Hid (Srd enc k w0 blk off n (.func (.func g) #[] lb) (.func (.func sf) #[] sb) W dk wx))
   case first=>
    go_wp2_with fail
    go_loopg [11] j (fun kx sj wx=>∃j2:Nat,sj = .int .i64 (j2:Int)/\j2<=j/\i2<=j2+1/\j2<=kx/\Hid (scanDown (fun x => !lt x dk[a]!) dk i2 j2=scanDown (fun x => !lt x dk[a]!) dk i2 j)/\Hid (Srd enc k w0 blk off n (.func (.func g) #[] lb) (.func (.func sf) #[] sb) W dk wx))
    case atStart=>exact ⟨j,rfl,Nat.le_refl _,by omega,Nat.le_refl _,rfl,HR⟩
    case round=>
     clear HR
     obtain ⟨j2,rfl,v1,v2,v3,HU,HR⟩:=hrel
     have c0:=HR.out.box.c0
     have hl:=HR.out.box.lt
     by_cases hij:i2<=j2
     ·have hijz:(i2:Int)<=(j2:Int):=by omega
      cases hv:lt dk[j2]! dk[a]! with
      | false=>
       go_wp2_with (go_at_fn g;refine (HR.out.srt.less HL.out _ _ j2 a (by omega) (by omega) rfl rfl).mono ?_;rw [hv];rintro e w1 ⟨rfl,hS1,hT1⟩;have R1:=Lib.hid (HR.out.next hS1 hT1);clear hS1 hT1)
       go_roundg (j2-1)
       case measure=>omega
       case rel=>exact ⟨j2-1,congrArg (Value.int .i64) (by omega),by omega,by omega,by omega,Lib.hid ((scanDown_go (fun x => !lt x dk[a]!) dk i2 j2 hij (by omega) (by simp [hv])).symm.trans HU.out),R1⟩
      | true=>
       go_wp2_with (go_at_fn g;refine (HR.out.srt.less HL.out _ _ j2 a (by omega) (by omega) rfl rfl).mono ?_;rw [hv];rintro e w1 ⟨rfl,hS1,hT1⟩;have R1:=Lib.hid (HR.out.next hS1 hT1);clear hS1 hT1)
       go_meet
       exact ⟨j2,rfl,v1,v2,Lib.hid ((scanDown_end (fun x => !lt x dk[a]!) dk i2 j2 (.inr (by simp [hv]))).symm.trans HU.out),R1⟩
     ·have hijz:¬(i2:Int)<=(j2:Int):=by omega
      go_wp2_with fail
      go_meet
      exact ⟨j2,rfl,v1,v2,Lib.hid ((scanDown_end (fun x => !lt x dk[a]!) dk i2 j2 (.inl hij)).symm.trans HU.out),HR⟩
   case rest=>
    clear HR
    obtain ⟨j2,rfl,v1,v2,HV,HR⟩:=hcut
    rename World=>wq
    have c1:=HR.out.box.c1
    have hl:=HR.out.box.lt
    by_cases hbr:j2<i2
    ·have hbz:(j2:Int)<(i2:Int):=by omega
     have E:=Lib.hid (part_first_break lt d a b p HIJ.out.1 HIJ.out.2.1 HIJ.out.2.2 HU.out HV.out hbr)
     obtain ⟨w2,hrun,hS2,hT2⟩:=HR.out.srt.swap HSW.out hk (j2:Int) (a:Int) j2 a (by omega) (by omega) rfl rfl
     have R2:=Lib.hid (HR.out.next hS2 hT2)
     clear hS2 hT2
     go_wp2
     go_ret2
     rw [E.out]
     exact ⟨rfl,R2.out.srt,R2.out.touch⟩
    ·have hbz:¬(j2:Int)<(i2:Int):=by omega
     have E:=Lib.hid (part_first_go lt d a b p HIJ.out.1 HIJ.out.2.1 HIJ.out.2.2 HU.out HV.out (by omega))
     have hlt:=part_scans_lt lt a i j dk (by omega) HU.out HV.out (by omega)
     obtain ⟨w2,hrun,hS2,hT2⟩:=HR.out.srt.swap HSW.out hk (i2:Int) (j2:Int) i2 j2 (by omega) (by omega) rfl rfl
     have R2:=Lib.hid (HR.out.next hS2 hT2)
     clear hS2 hT2 HIJ HU HV
     obtain ⟨r,hr⟩:∃r,r=partLoop lt a (i2+1) (j2-1) (swp dk i2 j2):=⟨_,rfl⟩
     rw [<-hr] at E
     have HRR:=Lib.hid hr
     clear hr
     go_wp2_with fail
     go_loopg [10,11] n (fun kx s9 s10 wr=>∃(i j:Nat) (dk:Array α),s9 = .int .i64 (i:Int)/\s10 = .int .i64 (j:Int)/\a<i/\i<=j+1/\j<n/\j+1-i<=kx/\Hid (partLoop lt a i j dk=r)/\Hid (Srd enc k w0 blk off n (.func (.func g) #[] lb) (.func (.func sf) #[] sb) W dk wr))
     case atStart=>exact ⟨i2+1,j2-1,_,by go_num,congrArg (Value.int .i64) (by omega),by omega,by omega,by omega,by omega,Lib.hid HRR.out.symm,R2⟩
     case round=>
      clear HR R2 HRR hrun w2 c1 hl hbz hbr hlt u1 u2 v1 v2 h1 h2 h3
      obtain ⟨i,j,dk,rfl,rfl,h1,h2,h3,h4,HE,HR⟩:=hrel
      go_upto_block 6 with fail
      go_cut [10] (fun si wx=>∃i2:Nat,si = .int .i64 (i2:Int)/\i<=i2/\i2<=j+1/\Hid (i2=scanUp (fun x=>lt x dk[a]!) dk j i)/\Hid (Srd enc k w0 blk off n (.func (.func g) #[] lb) (.func (.func sf) #[] sb) W dk wx))
      case first=>
       go_wp2_with fail
       go_loopg [10] (j+1-i) (fun kx si wx=>∃i2:Nat,si = .int .i64 (i2:Int)/\i<=i2/\i2<=j+1/\j+1-i2<=kx/\Hid (scanUp (fun x=>lt x dk[a]!) dk j i2=scanUp (fun x=>lt x dk[a]!) dk j i)/\Hid (Srd enc k w0 blk off n (.func (.func g) #[] lb) (.func (.func sf) #[] sb) W dk wx))
       case atStart=>exact ⟨i,rfl,Nat.le_refl _,by omega,Nat.le_refl _,rfl,HR⟩
       case round=>
        clear HR
        obtain ⟨i2,rfl,u1,u2,u3,HU,HR⟩:=hrel
        have c0:=HR.out.box.c0
        have hl:=HR.out.box.lt
        by_cases hij:i2<=j
        ·have hijz:(i2:Int)<=(j:Int):=by omega
         cases hv:lt dk[i2]! dk[a]! with
         | true=>
          go_wp2_with (go_at_fn g;refine (HR.out.srt.less HL.out _ _ i2 a (by omega) (by omega) rfl rfl).mono ?_;rw [hv];rintro e w1 ⟨rfl,hS1,hT1⟩;have R1:=Lib.hid (HR.out.next hS1 hT1);clear hS1 hT1)
          go_roundg (j+1-(i2+1))
          case measure=>omega
          case rel=>exact ⟨i2+1,by go_num,by omega,by omega,by omega,Lib.hid ((scanUp_go (fun x=>lt x dk[a]!) dk j i2 hij (by simp [hv])).symm.trans HU.out),R1⟩
         | false=>
          go_wp2_with (go_at_fn g;refine (HR.out.srt.less HL.out _ _ i2 a (by omega) (by omega) rfl rfl).mono ?_;rw [hv];rintro e w1 ⟨rfl,hS1,hT1⟩;have R1:=Lib.hid (HR.out.next hS1 hT1);clear hS1 hT1)
          go_meet
          exact ⟨i2,rfl,u1,u2,Lib.hid ((scanUp_end (fun x=>lt x dk[a]!) dk j i2 (.inr (by simp [hv]))).symm.trans HU.out),R1⟩
        ·have hijz:¬(i2:Int)<=(j:Int):=by omega
         go_wp2_with fail
         go_meet
         exact ⟨i2,rfl,u1,u2,Lib.hid ((scanUp_end (fun x=>lt x dk[a]!) dk j i2 (.inl hij)).symm.trans HU.out),HR⟩
      case rest=>
       clear HR
       obtain ⟨i2,rfl,u1,u2,HU,HR⟩:=hcut
       rename World=>wo
       go_upto_block 8 with fail
       go_cut [11] (fun sj wx=>∃j2:Nat,sj = .int .i64 (j2:Int)/\j2<=j/\i2<=j2+1/\Hid (j2=scanDown (fun x => !lt x dk[a]!) dk i2 j)/\Hid (Srd enc k w0 blk off n (.func (.func g) #[] lb) (.func (.func sf) #[] sb) W dk wx))
       case first=>
        go_wp2_with fail
        go_loopg [11] j (fun kx sj wx=>∃j2:Nat,sj = .int .i64 (j2:Int)/\j2<=j/\i2<=j2+1/\j2<=kx/\Hid (scanDown (fun x => !lt x dk[a]!) dk i2 j2=scanDown (fun x => !lt x dk[a]!) dk i2 j)/\Hid (Srd enc k w0 blk off n (.func (.func g) #[] lb) (.func (.func sf) #[] sb) W dk wx))
        case atStart=>exact ⟨j,rfl,Nat.le_refl _,by omega,Nat.le_refl _,rfl,HR⟩
        case round=>
         clear HR
         obtain ⟨j2,rfl,v1,v2,v3,HU,HR⟩:=hrel
         have c0:=HR.out.box.c0
         have hl:=HR.out.box.lt
         by_cases hij:i2<=j2
         ·have hijz:(i2:Int)<=(j2:Int):=by omega
          cases hv:lt dk[j2]! dk[a]! with
          | false=>
           go_wp2_with (go_at_fn g;refine (HR.out.srt.less HL.out _ _ j2 a (by omega) (by omega) rfl rfl).mono ?_;rw [hv];rintro e w1 ⟨rfl,hS1,hT1⟩;have R1:=Lib.hid (HR.out.next hS1 hT1);clear hS1 hT1)
           go_roundg (j2-1)
           case measure=>omega
           case rel=>exact ⟨j2-1,congrArg (Value.int .i64) (by omega),by omega,by omega,by omega,Lib.hid ((scanDown_go (fun x => !lt x dk[a]!) dk i2 j2 hij (by omega) (by simp [hv])).symm.trans HU.out),R1⟩
          | true=>
           go_wp2_with (go_at_fn g;refine (HR.out.srt.less HL.out _ _ j2 a (by omega) (by omega) rfl rfl).mono ?_;rw [hv];rintro e w1 ⟨rfl,hS1,hT1⟩;have R1:=Lib.hid (HR.out.next hS1 hT1);clear hS1 hT1)
           go_meet
           exact ⟨j2,rfl,v1,v2,Lib.hid ((scanDown_end (fun x => !lt x dk[a]!) dk i2 j2 (.inr (by simp [hv]))).symm.trans HU.out),R1⟩
         ·have hijz:¬(i2:Int)<=(j2:Int):=by omega
          go_wp2_with fail
          go_meet
          exact ⟨j2,rfl,v1,v2,Lib.hid ((scanDown_end (fun x => !lt x dk[a]!) dk i2 j2 (.inl hij)).symm.trans HU.out),HR⟩
       case rest=>
        clear HR
        obtain ⟨j2,rfl,v1,v2,HV,HR⟩:=hcut
        rename World=>wq
        have c1:=HR.out.box.c1
        have hl:=HR.out.box.lt
        by_cases hbr:j2<i2
        ·have hbz:(j2:Int)<(i2:Int):=by omega
         have e:=(part_break lt a i j dk HU.out HV.out hbr).symm.trans HE.out
         subst e
         obtain ⟨w2,hrun,hS2,hT2⟩:=HR.out.srt.swap HSW.out hk (j2:Int) (a:Int) j2 a (by omega) (by omega) rfl rfl
         have R2:=Lib.hid (HR.out.next hS2 hT2)
         clear hS2 hT2
         go_wp2
         go_ret2
         rw [E.out]
         exact ⟨rfl,R2.out.srt,R2.out.touch⟩
        ·have hbz:¬(j2:Int)<(i2:Int):=by omega
         have hlt:=part_scans_lt lt a i j dk (by omega) HU.out HV.out (by omega)
         obtain ⟨w2,hrun,hS2,hT2⟩:=HR.out.srt.swap HSW.out hk (i2:Int) (j2:Int) i2 j2 (by omega) (by omega) rfl rfl
         have R2:=Lib.hid (HR.out.next hS2 hT2)
         clear hS2 hT2
         go_wp2_with fail
         go_roundg (j2-1+1-(i2+1))
         case measure=>omega
         case rel=>exact ⟨i2+1,j2-1,_,by go_num,congrArg (Value.int .i64) (by omega),Nat.lt_succ_of_lt (Nat.lt_of_lt_of_le h1 u1),by omega,by omega,Nat.le_refl _,Lib.hid ((part_go lt a i j dk HU.out HV.out (by omega)).symm.trans HE.out),R2⟩
end
end Go.Proofs.YtgfjmgebecmbiaaGreat
