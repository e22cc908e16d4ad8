import Derived.Test.YtgfjmgebecmbiaaGreatSort2
import Derived.Sort.WalkC4
import Derived.Deep.CutBlock
import Derived.Sort.WalkA6
set_option linter.unusedSimpArgs false
set_option linter.unusedVariables false
set_option maxHeartbeats 2000000
namespace Go.Proofs.YtgfjmgebecmbiaaGreat
open Lib(hid)
open Go.RowKit Go.Sort M
section
variable {α:Type} [Inhabited α] {enc:α->List Value} {k:Nat} {w0:World} {blk off n:Nat} {lt:α->α->Bool} {g:Nat} {lb:Array Value} {sf:Nat} {sb:Array Value}
set_option maxRecDepth 100000 in
theorem Zu8 (hk:∀x,(enc x).length=k) (eg:∀args w,(callFunc g args).run Tryz.prog w = .ok (.enter g args) w) (hL:Zdh g lb enc k lt w0 blk off n) (hS:SwapSwapsK Tryz.prog sf sb enc k blk off n) (hn:n<4611686018427387904)
 (a b p:Nat) (hap:a<=p) (hpb:p<b) (hb:b<=n) (d:Array α) (W:World) (S:Srt enc k w0 blk off n d W) :
 Calls Tryz.prog 164 #[.agg #[.func (.func g) #[] lb,.func (.func sf) #[] sb],.int .i64 (a:Int),.int .i64 (b:Int),.int .i64 (p:Int)] W fun e w'=>
  e = .returned (.int .i64 ((partitionEqual lt d a b p).1:Nat))/\Srt enc k w0 blk off n (partitionEqual lt d a b p).2 w'/\Touch (· = blk) W w':=by
 have HL:=hid hL
 have HSW:=hid hS
 clear hL hS
 have HE0:Hid (partEqLoop lt a (a+1) (b-1) (swp d a p)=partitionEqual lt d a b p):=rfl
 go_enter Tryz.func164,Tryz.ntmps164
 have R:=Srd.start (x := .func (.func g) #[] lb) (y := .func (.func sf) #[] sb) S 183
 clear S
 obtain ⟨w2,hrun,hS2,hT2⟩:=R.srt.swap HSW.out hk (a:Int) (p:Int) a p (by omega) (by omega) rfl rfl
 have HR:=hid (R.next hS2 hT2)
 clear hS2 hT2 R
 go_wp2_with fail
 go_loopg [9,10] b (fun kx s9 s10 wr=>∃(i j:Nat) (dk:Array α),s9 = .int .i64 (i:Int)/\s10 = .int .i64 (j:Int)/\a<i/\i<=j+1/\j<n/\j+1-i<=kx/\Hid (partEqLoop lt a i j dk=partitionEqual lt d a b p)/\Hid (Srd enc k w0 blk off n (.func (.func g) #[] lb) (.func (.func sf) #[] sb) W dk wr))
 case atStart=>exact ⟨a+1,b-1,swp d a p,by go_num,congrArg (Value.int .i64) (by omega),by omega,by omega,by omega,by omega,HE0,HR⟩
 case round=>
  clear HR hrun w2 HE0
  obtain ⟨i,j,dk,rfl,rfl,h1,h2,h3,h4,HE,HR⟩:=hrel
  go_upto_block 2 with fail
  go_cut [9] (fun si wx=>∃i2:Nat,si = .int .i64 (i2:Int)/\i<=i2/\i2<=j+1/\Hid (i2=scanUp (fun x => !lt dk[a]! x) dk j i)/\Hid (Srd enc k w0 blk off n (.func (.func g) #[] lb) (.func (.func sf) #[] sb) W dk wx))
  case first=>
   go_wp2_with fail
   go_loopg [9] (j+1-i) (fun kx si wx=>∃i2:Nat,si = .int .i64 (i2:Int)/\i<=i2/\i2<=j+1/\j+1-i2<=kx/\Hid (scanUp (fun x => !lt dk[a]! x) dk j i2=scanUp (fun x => !lt dk[a]! x) dk j i)/\Hid (Srd enc k w0 blk off n (.func (.func g) #[] lb) (.func (.func sf) #[] sb) W dk wx))
   case atStart=>exact ⟨i,rfl,Nat.le_refl _,by omega,Nat.le_refl _,rfl,HR⟩
   case round=>
    clear HR
    obtain ⟨i2,rfl,u1,u2,u3,HU,HR⟩:=hrel
    have c0:=HR.out.box.c0
    have hl:=HR.out.box.lt
    by_cases hij:i2<=j
    ·have hijz:(i2:Int)<=(j:Int):=by omega
     cases hv:lt dk[a]! dk[i2]! with
     | false=>
      go_wp2_with (go_at_fn g;refine (HR.out.srt.less HL.out _ _ a i2 (by omega) (by omega) rfl rfl).mono ?_;rw [hv];rintro e w1 ⟨rfl,hS1,hT1⟩;have R1:=hid (HR.out.next hS1 hT1);clear hS1 hT1)
      go_roundg (j+1-(i2+1))
      case measure=>omega
      case rel=>exact ⟨i2+1,by go_num,by omega,by omega,by omega,hid ((scanUp_go (fun x => !lt dk[a]! x) dk j i2 hij (by simp [hv])).symm.trans HU.out),R1⟩
     | true=>
      go_wp2_with (go_at_fn g;refine (HR.out.srt.less HL.out _ _ a i2 (by omega) (by omega) rfl rfl).mono ?_;rw [hv];rintro e w1 ⟨rfl,hS1,hT1⟩;have R1:=hid (HR.out.next hS1 hT1);clear hS1 hT1)
      go_meet
      exact ⟨i2,rfl,u1,u2,hid ((scanUp_end (fun x => !lt dk[a]! x) dk j i2 (.inr (by simp [hv]))).symm.trans HU.out),R1⟩
    ·have hijz:¬(i2:Int)<=(j:Int):=by omega
     go_wp2_with fail
     go_meet
     exact ⟨i2,rfl,u1,u2,hid ((scanUp_end (fun x => !lt dk[a]! x) dk j i2 (.inl hij)).symm.trans HU.out),HR⟩
  case rest=>
   clear HR
   obtain ⟨i2,rfl,u1,u2,HU,HR⟩:=hcut
   rename World=>wo
   go_upto_block 4 with fail
   go_cut [10] (fun sj wx=>∃j2:Nat,sj = .int .i64 (j2:Int)/\j2<=j/\i2<=j2+1/\Hid (j2=scanDown (fun x=>lt dk[a]! x) dk i2 j)/\Hid (Srd enc k w0 blk off n (.func (.func g) #[] lb) (.func (.func sf) #[] sb) W dk wx))
   case first=>
    go_wp2_with fail
    go_loopg [10] j (fun kx sj wx=>∃j2:Nat,sj = .int .i64 (j2:Int)/\j2<=j/\i2<=j2+1/\j2<=kx/\Hid (scanDown (fun x=>lt dk[a]! x) dk i2 j2=scanDown (fun x=>lt dk[a]! x) dk i2 j)/\Hid (Srd enc k w0 blk off n (.func (.func g) #[] lb) (.func (.func sf) #[] sb) W dk wx))
    case atStart=>exact ⟨j,rfl,Nat.le_refl _,by omega,Nat.le_refl _,rfl,HR⟩
    case round=>
     clear HR
     obtain ⟨j2,rfl,v1,v2,v3,HU,HR⟩:=hrel
     have c0:=HR.out.box.c0
     have hl:=HR.out.box.lt
     by_cases hij:i2<=j2
     ·have hijz:(i2:Int)<=(j2:Int):=by omega
      cases hv:lt dk[a]! dk[j2]! with
      | true=>
       go_wp2_with (go_at_fn g;refine (HR.out.srt.less HL.out _ _ a j2 (by omega) (by omega) rfl rfl).mono ?_;rw [hv];rintro e w1 ⟨rfl,hS1,hT1⟩;have R1:=hid (HR.out.next hS1 hT1);clear hS1 hT1)
       go_roundg (j2-1)
       case measure=>omega
       case rel=>exact ⟨j2-1,congrArg (Value.int .i64) (by omega),by omega,by omega,by omega,hid ((scanDown_go (fun x=>lt dk[a]! x) dk i2 j2 hij (by omega) (by simp [hv])).symm.trans HU.out),R1⟩
      | false=>
       go_wp2_with (go_at_fn g;refine (HR.out.srt.less HL.out _ _ a j2 (by omega) (by omega) rfl rfl).mono ?_;rw [hv];rintro e w1 ⟨rfl,hS1,hT1⟩;have R1:=hid (HR.out.next hS1 hT1);clear hS1 hT1)
       go_meet
       exact ⟨j2,rfl,v1,v2,hid ((scanDown_end (fun x=>lt dk[a]! x) dk i2 j2 (.inr (by simp [hv]))).symm.trans HU.out),R1⟩
     ·have hijz:¬(i2:Int)<=(j2:Int):=by omega
      go_wp2_with fail
      go_meet
      exact ⟨j2,rfl,v1,v2,hid ((scanDown_end (fun x=>lt dk[a]! x) dk i2 j2 (.inl hij)).symm.trans HU.out),HR⟩
   case rest=>
    clear HR
    obtain ⟨j2,rfl,v1,v2,HV,HR⟩:=hcut
    have c1:=HR.out.box.c1
    have hl:=HR.out.box.lt
    by_cases hbr:j2<i2
    ·have hbz:(j2:Int)<(i2:Int):=by omega
     have e:=(partEq_break lt a i j dk HU.out HV.out hbr).symm.trans HE.out
     have E:=hid e
     clear e
     go_wp2
     go_ret
     rw [<-E.out]
     exact ⟨rfl,HR.out.srt,HR.out.touch⟩
    ·have hbz:¬(j2:Int)<(i2:Int):=by omega
     have hlt:=scans_lt lt a i j dk (by omega) HU.out HV.out (by omega)
     obtain ⟨w2,hrun,hS2,hT2⟩:=HR.out.srt.swap HSW.out hk (i2:Int) (j2:Int) i2 j2 (by omega) (by omega) rfl rfl
     have R2:=hid (HR.out.next hS2 hT2)
     clear hS2 hT2
     go_wp2_with fail
     go_roundg (j2-1+1-(i2+1))
     case measure=>omega
     case rel=>exact ⟨i2+1,j2-1,_,by go_num,congrArg (Value.int .i64) (by omega),Nat.lt_succ_of_lt (Nat.lt_of_lt_of_le h1 u1),by omega,by omega,Nat.le_refl _,hid ((partEq_go lt a i j dk HU.out HV.out (by omega)).symm.trans HE.out),R2⟩
set_option maxRecDepth 100000 in
theorem Z1z (hk:∀x,(enc x).length=k) (eg:∀args w,(callFunc g args).run Tryz.prog w = .ok (.enter g args) w) (hL:Zdh g lb enc k lt w0 blk off n) (hS:SwapSwapsK Tryz.prog sf sb enc k blk off n) (hn:n<4611686018427387904)
 (a b p:Nat) (hap:a<=p) (hpb:p<b) (hb:b<=n) (d:Array α) (W:World) (S:Srt enc k w0 blk off n d W) :
 Calls Tryz.prog 165 #[.agg #[.func (.func g) #[] lb,.func (.func sf) #[] sb],.int .i64 (a:Int),.int .i64 (b:Int),.int .i64 (p:Int)] W fun e w'=>
  e = .returned (.tuple #[.int .i64 ((partition lt d a b p).1:Nat),.bool (partition lt d a b p).2.1])/\Srt enc k w0 blk off n (partition lt d a b p).2.2 w'/\Touch (· = blk) W w':=by
 have HL:=hid hL
 have HSW:=hid hS
 clear hL hS
 go_enter Tryz.func165,Tryz.ntmps165
 have R:=Srd.start (x := .func (.func g) #[] lb) (y := .func (.func sf) #[] sb) S 183
 clear S
 obtain ⟨w2,hrun,hS2,hT2⟩:=R.srt.swap HSW.out hk (a:Int) (p:Int) a p (by omega) (by omega) rfl rfl
 have HR:=hid (R.next hS2 hT2)
 clear hS2 hT2 R
 go_upto_region 2 with fail
 go_cut [10,11] (fun si sj wx=>∃(i j:Nat) (dk:Array α),si = .int .i64 (i:Int)/\sj = .int .i64 (j:Int)/\Hid (i=a+1/\j=b-1/\dk=swp d a p)/\a<i/\i<=j+1/\j<n/\Hid (Srd enc k w0 blk off n (.func (.func g) #[] lb) (.func (.func sf) #[] sb) W dk wx))
 case first=>
  go_wp2_with fail
  go_meet
  exact ⟨a+1,b-1,swp d a p,by go_num,congrArg (Value.int .i64) (by omega),hid ⟨rfl,rfl,rfl⟩,by omega,by omega,by omega,HR⟩
 case rest=>
  clear HR hrun w2
  obtain ⟨i,j,dk,rfl,rfl,HIJ,h1,h2,h3,HR⟩:=hcut
  rename World=>wp
  go_upto_block 0 with fail
  go_cut [10] (fun si wx=>∃i2:Nat,si = .int .i64 (i2:Int)/\i<=i2/\i2<=j+1/\Hid (i2=scanUp (fun x=>lt x dk[a]!) dk j i)/\Hid (Srd enc k w0 blk off n (.func (.func g) #[] lb) (.func (.func sf) #[] sb) W dk wx))
  case first=>
   go_wp2_with fail
   go_loopg [10] (j+1-i) (fun kx si wx=>∃i2:Nat,si = .int .i64 (i2:Int)/\i<=i2/\i2<=j+1/\j+1-i2<=kx/\Hid (scanUp (fun x=>lt x dk[a]!) dk j i2=scanUp (fun x=>lt x dk[a]!) dk j i)/\Hid (Srd enc k w0 blk off n (.func (.func g) #[] lb) (.func (.func sf) #[] sb) W dk wx))
   case atStart=>exact ⟨i,rfl,Nat.le_refl _,by omega,Nat.le_refl _,rfl,HR⟩
   case round=>
    clear HR
    obtain ⟨i2,rfl,u1,u2,u3,HU,HR⟩:=hrel
    have c0:=HR.out.box.c0
    have hl:=HR.out.box.lt
    by_cases hij:i2<=j
    ·have hijz:(i2:Int)<=(j:Int):=by omega
     cases hv:lt dk[i2]! dk[a]! with
     | true=>
      go_wp2_with (go_at_fn g;refine (HR.out.srt.less HL.out _ _ i2 a (by omega) (by omega) rfl rfl).mono ?_;rw [hv];rintro e w1 ⟨rfl,hS1,hT1⟩;have R1:=hid (HR.out.next hS1 hT1);clear hS1 hT1)
      go_roundg (j+1-(i2+1))
      case measure=>omega
      case rel=>exact ⟨i2+1,by go_num,by omega,by omega,by omega,hid ((scanUp_go (fun x=>lt x dk[a]!) dk j i2 hij (by simp [hv])).symm.trans HU.out),R1⟩
     | false=>
      go_wp2_with (go_at_fn g;refine (HR.out.srt.less HL.out _ _ i2 a (by omega) (by omega) rfl rfl).mono ?_;rw [hv];rintro e w1 ⟨rfl,hS1,hT1⟩;have R1:=hid (HR.out.next hS1 hT1);clear hS1 hT1)
      go_meet
      exact ⟨i2,rfl,u1,u2,hid ((scanUp_end (fun x=>lt x dk[a]!) dk j i2 (.inr (by simp [hv]))).symm.trans HU.out),R1⟩
    ·have hijz:¬(i2:Int)<=(j:Int):=by omega
     go_wp2_with fail
     go_meet
     exact ⟨i2,rfl,u1,u2,hid ((scanUp_end (fun x=>lt x dk[a]!) dk j i2 (.inl hij)).symm.trans HU.out),HR⟩
  case rest=>
   clear HR
   obtain ⟨i2,rfl,u1,u2,HU,HR⟩:=hcut
   rename World=>wo
   go_upto_block 2 with fail
   go_cut [11] (fun sj wx=>∃j2:Nat,sj = .int .i64 (j2:Int)/\j2<=j/\i2<=j2+1/\Hid (j2=scanDown (fun x => !lt x dk[a]!) dk i2 j)/\Hid (Srd enc k w0 blk off n (.func (.func g) #[] lb) (.func (.func sf) #[] sb) W dk wx))
   case first=>
    go_wp2_with fail
    go_loopg [11] j (fun kx sj wx=>∃j2:Nat,sj = .int .i64 (j2:Int)/\j2<=j/\i2<=j2+1/\j2<=kx/\Hid (scanDown (fun x => !lt x dk[a]!) dk i2 j2=scanDown (fun x => !lt x dk[a]!) dk i2 j)/\Hid (Srd enc k w0 blk off n (.func (.func g) #[] lb) (.func (.func sf) #[] sb) W dk wx))
    case atStart=>exact ⟨j,rfl,Nat.le_refl _,by omega,Nat.le_refl _,rfl,HR⟩
    case round=>
     clear HR
     obtain ⟨j2,rfl,v1,v2,v3,HU,HR⟩:=hrel
     have c0:=HR.out.box.c0
     have hl:=HR.out.box.lt
     by_cases hij:i2<=j2
     ·have hijz:(i2:Int)<=(j2:Int):=by omega
      cases hv:lt dk[j2]! dk[a]! with
      | false=>
       go_wp2_with (go_at_fn g;refine (HR.out.srt.less HL.out _ _ j2 a (by omega) (by omega) rfl rfl).mono ?_;rw [hv];rintro e w1 ⟨rfl,hS1,hT1⟩;have R1:=hid (HR.out.next hS1 hT1);clear hS1 hT1)
       go_roundg (j2-1)
       case measure=>omega
       case rel=>exact ⟨j2-1,congrArg (Value.int .i64) (by omega),by omega,by omega,by omega,hid ((scanDown_go (fun x => !lt x dk[a]!) dk i2 j2 hij (by omega) (by simp [hv])).symm.trans HU.out),R1⟩
      | true=>
       go_wp2_with (go_at_fn g;refine (HR.out.srt.less HL.out _ _ j2 a (by omega) (by omega) rfl rfl).mono ?_;rw [hv];rintro e w1 ⟨rfl,hS1,hT1⟩;have R1:=hid (HR.out.next hS1 hT1);clear hS1 hT1)
       go_meet
       exact ⟨j2,rfl,v1,v2,hid ((scanDown_end (fun x => !lt x dk[a]!) dk i2 j2 (.inr (by simp [hv]))).symm.trans HU.out),R1⟩
     ·have hijz:¬(i2:Int)<=(j2:Int):=by omega
      go_wp2_with fail
      go_meet
      exact ⟨j2,rfl,v1,v2,hid ((scanDown_end (fun x => !lt x dk[a]!) dk i2 j2 (.inl hij)).symm.trans HU.out),HR⟩
   case rest=>
    clear HR
    obtain ⟨j2,rfl,v1,v2,HV,HR⟩:=hcut
    rename World=>wq
    have c1:=HR.out.box.c1
    have hl:=HR.out.box.lt
    by_cases hbr:j2<i2
    ·have hbz:(j2:Int)<(i2:Int):=by omega
     have E:=hid (part_first_break lt d a b p HIJ.out.1 HIJ.out.2.1 HIJ.out.2.2 HU.out HV.out hbr)
     obtain ⟨w2,hrun,hS2,hT2⟩:=HR.out.srt.swap HSW.out hk (j2:Int) (a:Int) j2 a (by omega) (by omega) rfl rfl
     have R2:=hid (HR.out.next hS2 hT2)
     clear hS2 hT2
     go_wp2
     go_ret2
     rw [E.out]
     exact ⟨rfl,R2.out.srt,R2.out.touch⟩
    ·have hbz:¬(j2:Int)<(i2:Int):=by omega
     have E:=hid (part_first_go lt d a b p HIJ.out.1 HIJ.out.2.1 HIJ.out.2.2 HU.out HV.out (by omega))
     have hlt:=part_scans_lt lt a i j dk (by omega) HU.out HV.out (by omega)
     obtain ⟨w2,hrun,hS2,hT2⟩:=HR.out.srt.swap HSW.out hk (i2:Int) (j2:Int) i2 j2 (by omega) (by omega) rfl rfl
     have R2:=hid (HR.out.next hS2 hT2)
     clear hS2 hT2 HIJ HU HV
     obtain ⟨r,hr⟩:∃r,r=partLoop lt a (i2+1) (j2-1) (swp dk i2 j2):=⟨_,rfl⟩
     rw [<-hr] at E
     have HRR:=hid hr
     clear hr
     go_wp2_with fail
     go_loopg [10,11] n (fun kx s9 s10 wr=>∃(i j:Nat) (dk:Array α),s9 = .int .i64 (i:Int)/\s10 = .int .i64 (j:Int)/\a<i/\i<=j+1/\j<n/\j+1-i<=kx/\Hid (partLoop lt a i j dk=r)/\Hid (Srd enc k w0 blk off n (.func (.func g) #[] lb) (.func (.func sf) #[] sb) W dk wr))
     case atStart=>exact ⟨i2+1,j2-1,_,by go_num,congrArg (Value.int .i64) (by omega),by omega,by omega,by omega,by omega,hid HRR.out.symm,R2⟩
     case round=>
      clear HR R2 HRR hrun w2 c1 hl hbz hbr hlt u1 u2 v1 v2 h1 h2 h3
      obtain ⟨i,j,dk,rfl,rfl,h1,h2,h3,h4,HE,HR⟩:=hrel
      go_upto_block 6 with fail
      go_cut [10] (fun si wx=>∃i2:Nat,si = .int .i64 (i2:Int)/\i<=i2/\i2<=j+1/\Hid (i2=scanUp (fun x=>lt x dk[a]!) dk j i)/\Hid (Srd enc k w0 blk off n (.func (.func g) #[] lb) (.func (.func sf) #[] sb) W dk wx))
      case first=>
       go_wp2_with fail
       go_loopg [10] (j+1-i) (fun kx si wx=>∃i2:Nat,si = .int .i64 (i2:Int)/\i<=i2/\i2<=j+1/\j+1-i2<=kx/\Hid (scanUp (fun x=>lt x dk[a]!) dk j i2=scanUp (fun x=>lt x dk[a]!) dk j i)/\Hid (Srd enc k w0 blk off n (.func (.func g) #[] lb) (.func (.func sf) #[] sb) W dk wx))
       case atStart=>exact ⟨i,rfl,Nat.le_refl _,by omega,Nat.le_refl _,rfl,HR⟩
       case round=>
        clear HR
        obtain ⟨i2,rfl,u1,u2,u3,HU,HR⟩:=hrel
        have c0:=HR.out.box.c0
        have hl:=HR.out.box.lt
        by_cases hij:i2<=j
        ·have hijz:(i2:Int)<=(j:Int):=by omega
         cases hv:lt dk[i2]! dk[a]! with
         | true=>
          go_wp2_with (go_at_fn g;refine (HR.out.srt.less HL.out _ _ i2 a (by omega) (by omega) rfl rfl).mono ?_;rw [hv];rintro e w1 ⟨rfl,hS1,hT1⟩;have R1:=hid (HR.out.next hS1 hT1);clear hS1 hT1)
          go_roundg (j+1-(i2+1))
          case measure=>omega
          case rel=>exact ⟨i2+1,by go_num,by omega,by omega,by omega,hid ((scanUp_go (fun x=>lt x dk[a]!) dk j i2 hij (by simp [hv])).symm.trans HU.out),R1⟩
         | false=>
          go_wp2_with (go_at_fn g;refine (HR.out.srt.less HL.out _ _ i2 a (by omega) (by omega) rfl rfl).mono ?_;rw [hv];rintro e w1 ⟨rfl,hS1,hT1⟩;have R1:=hid (HR.out.next hS1 hT1);clear hS1 hT1)
          go_meet
          exact ⟨i2,rfl,u1,u2,hid ((scanUp_end (fun x=>lt x dk[a]!) dk j i2 (.inr (by simp [hv]))).symm.trans HU.out),R1⟩
        ·have hijz:¬(i2:Int)<=(j:Int):=by omega
         go_wp2_with fail
         go_meet
         exact ⟨i2,rfl,u1,u2,hid ((scanUp_end (fun x=>lt x dk[a]!) dk j i2 (.inl hij)).symm.trans HU.out),HR⟩
      case rest=>
       clear HR
       obtain ⟨i2,rfl,u1,u2,HU,HR⟩:=hcut
       rename World=>wo
       go_upto_block 8 with fail
       go_cut [11] (fun sj wx=>∃j2:Nat,sj = .int .i64 (j2:Int)/\j2<=j/\i2<=j2+1/\Hid (j2=scanDown (fun x => !lt x dk[a]!) dk i2 j)/\Hid (Srd enc k w0 blk off n (.func (.func g) #[] lb) (.func (.func sf) #[] sb) W dk wx))
       case first=>
        go_wp2_with fail
        go_loopg [11] j (fun kx sj wx=>∃j2:Nat,sj = .int .i64 (j2:Int)/\j2<=j/\i2<=j2+1/\j2<=kx/\Hid (scanDown (fun x => !lt x dk[a]!) dk i2 j2=scanDown (fun x => !lt x dk[a]!) dk i2 j)/\Hid (Srd enc k w0 blk off n (.func (.func g) #[] lb) (.func (.func sf) #[] sb) W dk wx))
        case atStart=>exact ⟨j,rfl,Nat.le_refl _,by omega,Nat.le_refl _,rfl,HR⟩
        case round=>
         clear HR
         obtain ⟨j2,rfl,v1,v2,v3,HU,HR⟩:=hrel
         have c0:=HR.out.box.c0
         have hl:=HR.out.box.lt
         by_cases hij:i2<=j2
         ·have hijz:(i2:Int)<=(j2:Int):=by omega
          cases hv:lt dk[j2]! dk[a]! with
          | false=>
           go_wp2_with (go_at_fn g;refine (HR.out.srt.less HL.out _ _ j2 a (by omega) (by omega) rfl rfl).mono ?_;rw [hv];rintro e w1 ⟨rfl,hS1,hT1⟩;have R1:=hid (HR.out.next hS1 hT1);clear hS1 hT1)
           go_roundg (j2-1)
           case measure=>omega
           case rel=>exact ⟨j2-1,congrArg (Value.int .i64) (by omega),by omega,by omega,by omega,hid ((scanDown_go (fun x => !lt x dk[a]!) dk i2 j2 hij (by omega) (by simp [hv])).symm.trans HU.out),R1⟩
          | true=>
           go_wp2_with (go_at_fn g;refine (HR.out.srt.less HL.out _ _ j2 a (by omega) (by omega) rfl rfl).mono ?_;rw [hv];rintro e w1 ⟨rfl,hS1,hT1⟩;have R1:=hid (HR.out.next hS1 hT1);clear hS1 hT1)
           go_meet
           exact ⟨j2,rfl,v1,v2,hid ((scanDown_end (fun x => !lt x dk[a]!) dk i2 j2 (.inr (by simp [hv]))).symm.trans HU.out),R1⟩
         ·have hijz:¬(i2:Int)<=(j2:Int):=by omega
          go_wp2_with fail
          go_meet
          exact ⟨j2,rfl,v1,v2,hid ((scanDown_end (fun x => !lt x dk[a]!) dk i2 j2 (.inl hij)).symm.trans HU.out),HR⟩
       case rest=>
        clear HR
        obtain ⟨j2,rfl,v1,v2,HV,HR⟩:=hcut
        rename World=>wq
        have c1:=HR.out.box.c1
        have hl:=HR.out.box.lt
        by_cases hbr:j2<i2
        ·have hbz:(j2:Int)<(i2:Int):=by omega
         have e:=(part_break lt a i j dk HU.out HV.out hbr).symm.trans HE.out
         subst e
         obtain ⟨w2,hrun,hS2,hT2⟩:=HR.out.srt.swap HSW.out hk (j2:Int) (a:Int) j2 a (by omega) (by omega) rfl rfl
         have R2:=hid (HR.out.next hS2 hT2)
         clear hS2 hT2
         go_wp2
         go_ret2
         rw [E.out]
         exact ⟨rfl,R2.out.srt,R2.out.touch⟩
        ·have hbz:¬(j2:Int)<(i2:Int):=by omega
         have hlt:=part_scans_lt lt a i j dk (by omega) HU.out HV.out (by omega)
         obtain ⟨w2,hrun,hS2,hT2⟩:=HR.out.srt.swap HSW.out hk (i2:Int) (j2:Int) i2 j2 (by omega) (by omega) rfl rfl
         have R2:=hid (HR.out.next hS2 hT2)
         clear hS2 hT2
         go_wp2_with fail
         go_roundg (j2-1+1-(i2+1))
         case measure=>omega
         case rel=>exact ⟨i2+1,j2-1,_,by go_num,congrArg (Value.int .i64) (by omega),Nat.lt_succ_of_lt (Nat.lt_of_lt_of_le h1 u1),by omega,by omega,Nat.le_refl _,hid ((part_go lt a i j dk HU.out HV.out (by omega)).symm.trans HE.out),R2⟩
end
section
variable {α:Type} [Inhabited α] {enc:α->List Value} {k:Nat} {w0:World} {blk off n:Nat} {lt:α->α->Bool} {g:Nat} {lb:Array Value} {sf:Nat} {sb:Array Value}
set_option maxRecDepth 100000 in
theorem Zqz (hk:∀x,(enc x).length=k) (eg:∀args w,(callFunc g args).run Tryz.prog w = .ok (.enter g args) w) (hL:Zdh g lb enc k lt w0 blk off n) (hS:SwapSwapsK Tryz.prog sf sb enc k blk off n) (hn:n<4611686018427387904)
 (a b:Nat) (hab:a<b) (hb:b<=n) (d:Array α) (W:World) (S:Srt enc k w0 blk off n d W) :
 Calls Tryz.prog 163 #[.agg #[.func (.func g) #[] lb,.func (.func sf) #[] sb],.int .i64 (a:Int),.int .i64 (b:Int)] W fun e w'=>
  e = .returned (.bool (partialInsertionSort lt d a b).2)/\Srt enc k w0 blk off n (partialInsertionSort lt d a b).1 w'/\Touch (· = blk) W w':=by
 have HL:=hid hL
 have HSW:=hid hS
 clear hL hS
 have HE0:Hid (partialIns lt a b (5-0) (a+1) d=partialInsertionSort lt d a b):=rfl
 go_enter Tryz.func163,Tryz.ntmps163
 have R:=Srd.start (x := .func (.func g) #[] lb) (y := .func (.func sf) #[] sb) S 183
 clear S
 go_wp2_with fail
 go_loopg [7,8] 5 (fun kx s7 s8 wr=>∃(i s:Nat) (dk:Array α),s7 = .int .i64 (i:Int)/\s8 = .int .i64 (s:Int)/\a<i/\i<=b/\s+kx=5/\Hid (partialIns lt a b (5-s) i dk=partialInsertionSort lt d a b)/\Hid (Srd enc k w0 blk off n (.func (.func g) #[] lb) (.func (.func sf) #[] sb) W dk wr))
 case atStart=>exact ⟨a+1,0,d,by go_num,rfl,by omega,by omega,rfl,HE0,R⟩
 case round=>
  clear R HE0
  obtain ⟨i,s,dk,rfl,rfl,h1,h2,h3,HE,HR⟩:=hrel
  by_cases hs:s<5
  ·have hsz:(s:Int)<5:=by omega
   go_upto_block 2 with fail
   go_cut [7] (fun si wx=>∃i2:Nat,si = .int .i64 (i2:Int)/\a<i2/\i2<=b/\Hid (scanSorted lt dk b i=i2)/\Hid (Srd enc k w0 blk off n (.func (.func g) #[] lb) (.func (.func sf) #[] sb) W dk wx))
   case first=>
    go_wp2_with fail
    go_loopg [7] b (fun kx si wx=>∃j:Nat,si = .int .i64 (j:Int)/\a<j/\j<=b/\b-j<=kx/\Hid (scanSorted lt dk b i=scanSorted lt dk b j)/\Hid (Srd enc k w0 blk off n (.func (.func g) #[] lb) (.func (.func sf) #[] sb) W dk wx))
    case atStart=>exact ⟨i,rfl,h1,h2,by omega,rfl,HR⟩
    case round=>
     clear HR
     obtain ⟨j,rfl,u1,u2,u3,HU,HR⟩:=hrel
     have c0:=HR.out.box.c0
     have hl:=HR.out.box.lt
     by_cases hjb:j<b
     ·cases hv:lt dk[j]! dk[j-1]! with
      | false=>
       go_wp2_with (go_at_fn g;refine (HR.out.srt.less HL.out _ _ j (j-1) (by omega) (by omega) rfl (by omega)).mono ?_;rw [hv];rintro e w1 ⟨rfl,hS1,hT1⟩;have R1:=hid (HR.out.next hS1 hT1);clear hS1 hT1)
       go_roundg (b-(j+1))
       case measure=>omega
       case rel=>exact ⟨j+1,by go_num,by omega,by omega,by omega,hid (HU.out.trans (scanSorted_go lt dk b j hjb hv)),R1⟩
      | true=>
       go_wp2_with (go_at_fn g;refine (HR.out.srt.less HL.out _ _ j (j-1) (by omega) (by omega) rfl (by omega)).mono ?_;rw [hv];rintro e w1 ⟨rfl,hS1,hT1⟩;have R1:=hid (HR.out.next hS1 hT1);clear hS1 hT1)
       go_meet
       exact ⟨j,rfl,u1,u2,hid (HU.out.trans (scanSorted_stop lt dk b j (.inr hv))),R1⟩
     ·go_wp2_with fail
      go_meet
      exact ⟨j,rfl,u1,u2,hid (HU.out.trans (scanSorted_stop lt dk b j (.inl hjb))),HR⟩
   case rest=>
    clear HR
    obtain ⟨i2,rfl,u1,u2,HU,HR⟩:=hcut
    rename World=>wo
    have c1:=HR.out.box.c1
    have hl:=HR.out.box.lt
    by_cases hib:i2=b
    ·have hz:((i2:Int) == (b:Int))=true:=by simp;omega
     have E:=hid ((pi_true lt a b s i dk hs (HU.out.trans hib)).symm.trans HE.out)
     clear hib
     go_wp2
     go_ret
     rw [<-E.out]
     exact ⟨rfl,HR.out.srt,HR.out.touch⟩
    ·have hz:((i2:Int) == (b:Int))=false:=by simp;omega
     have HNB:=hid hib
     clear hib
     by_cases h50:b-a<50
     ·have h50z:(b:Int)-(a:Int)<50:=by omega
      have E:=hid ((pi_short lt a b s i dk hs (by rw [HU.out];exact HNB.out) h50).symm.trans HE.out)
      go_wp2
      go_ret
      rw [<-E.out]
      exact ⟨rfl,HR.out.srt,HR.out.touch⟩
     ·have h50z:¬(b:Int)-(a:Int)<50:=by omega
      have E:=hid ((pi_go lt a b s i i2 dk hs HU.out HNB.out h50).symm.trans HE.out)
      obtain ⟨w2,hrun,hS2,hT2⟩:=HR.out.srt.swap HSW.out hk (i2:Int) ((i2:Int)-1) i2 (i2-1) (by have:=HNB.out;omega) (by omega) rfl (by omega)
      have R2:=hid (HR.out.next hS2 hT2)
      clear hS2 hT2 HE HR
      obtain ⟨d1,hd1⟩:∃d1,d1=swp dk i2 (i2-1):=⟨_,rfl⟩
      rw [<-hd1] at E R2
      have HR:=R2
      clear R2 hd1 HU
      go_upto_if 47 with fail
      go_cut [9] (fun _ wx=>Hid (Srd enc k w0 blk off n (.func (.func g) #[] lb) (.func (.func sf) #[] sb) W (fixDown lt a i2 d1) wx))
      case first=>
       by_cases h2a:2<=i2-a
       ·have h2z:(2:Int)<=(i2:Int)-(a:Int):=by omega
        go_wp2_with fail
        go_loopg [9] i2 (fun kx s9 wx=>∃(j:Nat) (dj:Array α),s9 = .int .i64 (j:Int)/\j<i2/\j<=kx/\Hid (shiftDown lt j dj=fixDown lt a i2 d1)/\Hid (Srd enc k w0 blk off n (.func (.func g) #[] lb) (.func (.func sf) #[] sb) W (dj) wx))
        case atStart=>exact ⟨i2-1,d1,congrArg (Value.int .i64) (by omega),by omega,by omega,hid (by rw [fixDown,if_pos h2a]),HR⟩
        case round=>
         clear HR
         obtain ⟨j,dj,rfl,j1,j2,HJ,HR⟩:=hrel
         have c0:=HR.out.box.c0
         have hl:=HR.out.box.lt
         by_cases hj:1<=j
         ·have hjz:(1:Int)<=(j:Int):=by omega
          cases hv:lt dj[j]! dj[j-1]! with
          | true=>
           go_wp2_with (go_at_fn g;refine (HR.out.srt.less HL.out _ _ j (j-1) (by omega) (by omega) rfl (by omega)).mono ?_;rw [hv];rintro e w1 ⟨rfl,hS1,hT1⟩;have R1:=HR.out.next hS1 hT1;have e1:=R1.box.c1;have el:=R1.box.lt;obtain ⟨w3,hrun,hS3,hT3⟩:=R1.srt.swap HSW.out hk (j:Int) ((j:Int)-1) j (j-1) (by omega) (by omega) rfl (by omega);have R3:=hid (R1.next hS3 hT3);clear R1 hS1 hT1 hS3 hT3)
           go_roundg (j-1)
           case measure=>omega
           case rel=>exact ⟨j-1,_,congrArg (Value.int .i64) (by omega),by omega,Nat.le_refl _,hid ((shiftDown_go lt j dj hj hv).symm.trans HJ.out),R3⟩
          | false=>
           go_wp2_with (go_at_fn g;refine (HR.out.srt.less HL.out _ _ j (j-1) (by omega) (by omega) rfl (by omega)).mono ?_;rw [hv];rintro e w1 ⟨rfl,hS1,hT1⟩;have R1:=hid (HR.out.next hS1 hT1);clear hS1 hT1)
           go_meet
           have:=HJ.out
           rw [shiftDown_stop lt j dj (.inr hv)] at this
           rw [<-this]
           exact R1
         ·have hjz:¬(1:Int)<=(j:Int):=by omega
          go_wp2_with fail
          go_meet
          have:=HJ.out
          rw [shiftDown_stop lt j dj (.inl (by omega))] at this
          rw [<-this]
          exact HR
       ·have h2z:¬(2:Int)<=(i2:Int)-(a:Int):=by omega
        go_wp2_with fail
        go_meet
        rw [show fixDown lt a i2 d1=d1 by rw [fixDown,if_neg h2a]]
        exact HR
      case rest=>
       clear HR
       have HR:=hcut
       clear hcut
       rename World=>wp
       obtain ⟨d2,hd2⟩:∃d2,d2=fixDown lt a i2 d1:=⟨_,rfl⟩
       rw [<-hd2] at E HR
       clear hd2 hrun c1 hl w2
       obtain ⟨m0,hm0⟩:∃m0,m0+1=gk:=⟨gk-1,by omega⟩
       by_cases h2a:2<=b-i2
       ·have h2z:(2:Int)<=(b:Int)-(i2:Int):=by omega
        have hgk:s+1+m0=5:=by omega
        have hgk2:m0<gk:=by omega
        obtain ⟨GK,hGK⟩:∃GK,GK=gk:=⟨_,rfl⟩
        go_wp2_with fail
        go_loopg [10] b (fun kx s9 wx=>∃(j:Nat) (dj:Array α),s9 = .int .i64 (j:Int)/\1<=j/\b-j<=kx/\j<=b/\Hid (shiftUp lt b j dj=fixUp lt b i2 d2)/\Hid (Srd enc k w0 blk off n (.func (.func g) #[] lb) (.func (.func sf) #[] sb) W (dj) wx))
        case atStart=>exact ⟨i2+1,d2,by go_num,by omega,by omega,by omega,hid (by rw [fixUp,if_pos h2a]),HR⟩
        case round=>
         clear HR
         obtain ⟨j,dj,rfl,j1,j2,j3,HJ,HR⟩:=hrel
         have c0:=HR.out.box.c0
         have hl:=HR.out.box.lt
         by_cases hj:j<b
         ·cases hv:lt dj[j]! dj[j-1]! with
          | true=>
           go_wp2_with (go_at_fn g;refine (HR.out.srt.less HL.out _ _ j (j-1) (by omega) (by omega) rfl (by omega)).mono ?_;rw [hv];rintro e w1 ⟨rfl,hS1,hT1⟩;have R1:=HR.out.next hS1 hT1;have e1:=R1.box.c1;have el:=R1.box.lt;obtain ⟨w3,hrun,hS3,hT3⟩:=R1.srt.swap HSW.out hk (j:Int) ((j:Int)-1) j (j-1) (by omega) (by omega) rfl (by omega);have R3:=hid (R1.next hS3 hT3);clear R1 hS1 hT1 hS3 hT3)
           go_roundg (b-(j+1))
           case measure=>omega
           case rel=>exact ⟨j+1,_,by go_num,by omega,by omega,by omega,hid ((shiftUp_go lt b j dj hj hv).symm.trans HJ.out),R3⟩
          | false=>
           have hd:dj=fixUp lt b i2 d2:=(shiftUp_stop lt b j dj (.inr hv)).symm.trans HJ.out
           rw [<-hd] at E
           clear hd
           go_wp2_with (go_at_fn g;refine (HR.out.srt.less HL.out _ _ j (j-1) (by omega) (by omega) rfl (by omega)).mono ?_;rw [hv];rintro e w1 ⟨rfl,hS1,hT1⟩;have R1:=hid (HR.out.next hS1 hT1);clear hS1 hT1)
           go_roundg m0
           case measure=>omega
           case rel=>exact ⟨i2,s+1,_,rfl,by go_num,u1,u2,hgk,E,R1⟩
         ·have hd:dj=fixUp lt b i2 d2:=(shiftUp_stop lt b j dj (.inl hj)).symm.trans HJ.out
          rw [<-hd] at E
          clear hd
          go_wp2_with fail
          go_roundg m0
          case measure=>omega
          case rel=>exact ⟨i2,s+1,_,rfl,by go_num,u1,u2,hgk,E,HR⟩
       ·have h2z:¬(2:Int)<=(b:Int)-(i2:Int):=by omega
        rw [show fixUp lt b i2 d2=d2 by rw [fixUp,if_neg h2a]] at E
        go_wp2_with fail
        go_roundg m0
        case measure=>omega
        case rel=>exact ⟨i2,s+1,_,rfl,by go_num,u1,u2,by omega,E,HR⟩
  ·have hsz:¬(s:Int)<5:=by omega
   obtain rfl:s=5:=by omega
   have e:=HE.out
   rw [pi_end] at e
   have E:=hid e
   clear e HE
   go_wp2
   go_ret
   rw [<-E.out]
   exact ⟨rfl,HR.out.srt,HR.out.touch⟩
end
end Go.Proofs.YtgfjmgebecmbiaaGreat
