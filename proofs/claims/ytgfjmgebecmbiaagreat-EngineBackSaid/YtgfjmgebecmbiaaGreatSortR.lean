/-
  Routes as elements of four cells, for the library's sorts. No condition but those that stand in each.
-/
import Derived.Test.YtgfjmgebecmbiaaGreatSort3
import Derived.Sort.WalkA6
import Derived.Deep.CutBlock
import Derived.Test.YtgfjmgebecmbiaaGreatSort5
import Derived.Test.YtgfjmgebecmbiaaGreatW12c
import Derived.Sort.Walk13a
import Derived.Sort.AssemblyPlain
import Derived.Test.YtgfjmgebecmbiaaGreatM12
import Derived.Shelf.GgSortFunc.Tiny
set_option linter.unusedSimpArgs false
set_option linter.unusedVariables false
namespace Go.Proofs.YtgfjmgebecmbiaaGreat
open Go.RowKit Go.Sort M
section
variable {α:Type} [Inhabited α] {enc:α->List Value} {k:Nat} {w0:World} {blk off n:Nat} {lt:α->α->Bool} {g:Nat} {lb:Array Value} {sf:Nat} {sb:Array Value}
set_option maxHeartbeats 2000000 in
set_option maxRecDepth 100000 in
theorem partIns_any (hk:∀x,(enc x).length=k) (eg:∀args w,(callFunc g args).run Tryz.prog w = .ok (.enter g args) w) (hL:LessB g lb enc k lt w0 blk off n) (hS:SwapSwapsK Tryz.prog sf sb enc k blk off n) (hn:n<4611686018427387904)
 (a b:Nat) (hab:a<b) (hb:b<=n) (d:Array α) (W:World) (S:Srt enc k w0 blk off n d W) :
 Calls Tryz.prog 163 #[.agg #[.func (.func g) #[] lb,.func (.func sf) #[] sb],.int .i64 (a:Int),.int .i64 (b:Int)] W fun e w'=>
  e = .returned (.bool (partialInsertionSort lt d a b).2)/\Srt enc k w0 blk off n (partialInsertionSort lt d a b).1 w'/\Touch (· = blk) W w':=by
 have HL:=Lib.hid hL
 have HSW:=Lib.hid hS
 clear hL hS
 have HE0:Hid (partialIns lt a b (5-0) (a+1) d=partialInsertionSort lt d a b):=rfl
 go_enter Tryz.func163,Tryz.ntmps163
 have R:=Srd.start (x := .func (.func g) #[] lb) (y := .func (.func sf) #[] sb) S 183
 clear S
 go_wp2_with fail
 go_loopg [7,8] 5 (fun kx s7 s8 wr=>∃(i s:Nat) (dk:Array α),s7 = .int .i64 (i:Int)/\s8 = .int .i64 (s:Int)/\a<i/\i<=b/\s+kx=5/\Hid (partialIns lt a b (5-s) i dk=partialInsertionSort lt d a b)/\Hid (Srd enc k w0 blk off n (.func (.func g) #[] lb) (.func (.func sf) #[] sb) W dk wr))
 case atStart=>exact ⟨a+1,0,d,by go_num,rfl,by omega,by omega,rfl,HE0,R⟩
 case round=>
  clear R HE0
  obtain ⟨i,s,dk,rfl,rfl,h1,h2,h3,HE,HR⟩:=hrel
  by_cases hs:s<5
  ·have hsz:(s:Int)<5:=by omega
   go_upto_block 2 with fail
   go_cut [7] (fun si wx=>∃i2:Nat,si = .int .i64 (i2:Int)/\a<i2/\i2<=b/\Hid (scanSorted lt dk b i=i2)/\Hid (Srd enc k w0 blk off n (.func (.func g) #[] lb) (.func (.func sf) #[] sb) W dk wx))
   case first=>
    go_wp2_with fail
    go_loopg [7] b (fun kx si wx=>∃j:Nat,si = .int .i64 (j:Int)/\a<j/\j<=b/\b-j<=kx/\Hid (scanSorted lt dk b i=scanSorted lt dk b j)/\Hid (Srd enc k w0 blk off n (.func (.func g) #[] lb) (.func (.func sf) #[] sb) W dk wx))
    case atStart=>exact ⟨i,rfl,h1,h2,by omega,rfl,HR⟩
    case round=>
     clear HR
     obtain ⟨j,rfl,u1,u2,u3,HU,HR⟩:=hrel
     have c0:=HR.out.box.c0
     have hl:=HR.out.box.lt
     by_cases hjb:j<b
     ·cases hv:lt dk[j]! dk[j-1]! with
      | false=>
       go_wp2_with (go_at_fn g;refine (HR.out.srt.less HL.out _ _ j (j-1) (by omega) (by omega) rfl (by omega)).mono ?_;rw [hv];rintro e w1 ⟨rfl,hS1,hT1⟩;have R1:=Lib.hid (HR.out.next hS1 hT1);clear hS1 hT1)
       go_roundg (b-(j+1))
       case measure=>omega
       case rel=>exact ⟨j+1,by go_num,by omega,by omega,by omega,Lib.hid (HU.out.trans (scanSorted_go lt dk b j hjb hv)),R1⟩
      | true=>
       go_wp2_with (go_at_fn g;refine (HR.out.srt.less HL.out _ _ j (j-1) (by omega) (by omega) rfl (by omega)).mono ?_;rw [hv];rintro e w1 ⟨rfl,hS1,hT1⟩;have R1:=Lib.hid (HR.out.next hS1 hT1);clear hS1 hT1)
       go_meet
       exact ⟨j,rfl,u1,u2,Lib.hid (HU.out.trans (scanSorted_stop lt dk b j (.inr hv))),R1⟩
     ·go_wp2_with fail
      go_meet
      exact ⟨j,rfl,u1,u2,Lib.hid (HU.out.trans (scanSorted_stop lt dk b j (.inl hjb))),HR⟩
   case rest=>
    clear HR
    obtain ⟨i2,rfl,u1,u2,HU,HR⟩:=hcut
    rename World=>wo
    have c1:=HR.out.box.c1
    have hl:=HR.out.box.lt
    by_cases hib:i2=b
    ·have hz:((i2:Int) == (b:Int))=true:=by simp;omega
     have E:=Lib.hid ((pi_true lt a b s i dk hs (HU.out.trans hib)).symm.trans HE.out)
     clear hib
     go_wp2
     go_ret
     rw [<-E.out]
     exact ⟨rfl,HR.out.srt,HR.out.touch⟩
    ·have hz:((i2:Int) == (b:Int))=false:=by simp;omega
     have HNB:=Lib.hid hib
     clear hib
     by_cases h50:b-a<50
     ·have h50z:(b:Int)-(a:Int)<50:=by omega
      have E:=Lib.hid ((pi_short lt a b s i dk hs (by rw [HU.out];exact HNB.out) h50).symm.trans HE.out)
      go_wp2
      go_ret
      rw [<-E.out]
      exact ⟨rfl,HR.out.srt,HR.out.touch⟩
     ·have h50z:¬(b:Int)-(a:Int)<50:=by omega
      have E:=Lib.hid ((pi_go lt a b s i i2 dk hs HU.out HNB.out h50).symm.trans HE.out)
      obtain ⟨w2,hrun,hS2,hT2⟩:=HR.out.srt.swap HSW.out hk (i2:Int) ((i2:Int)-1) i2 (i2-1) (by have:=HNB.out;omega) (by omega) rfl (by omega)
      have R2:=Lib.hid (HR.out.next hS2 hT2)
      clear hS2 hT2 HE HR
      obtain ⟨d1,hd1⟩:∃d1,d1=swp dk i2 (i2-1):=⟨_,rfl⟩
      rw [<-hd1] at E R2
      have HR:=R2
      clear R2 hd1 HU
      go_upto_if 47 with fail
      go_cut [9] (fun _ wx=>Hid (Srd enc k w0 blk off n (.func (.func g) #[] lb) (.func (.func sf) #[] sb) W (fixDown lt a i2 d1) wx))
      case first=>
       by_cases h2a:2<=i2-a
       ·have h2z:(2:Int)<=(i2:Int)-(a:Int):=by omega
        go_wp2_with fail
        go_loopg [9] i2 (fun kx s9 wx=>∃(j:Nat) (dj:Array α),s9 = .int .i64 (j:Int)/\j<i2/\j<=kx/\Hid (shiftDown lt j dj=fixDown lt a i2 d1)/\Hid (Srd enc k w0 blk off n (.func (.func g) #[] lb) (.func (.func sf) #[] sb) W (dj) wx))
        case atStart=>exact ⟨i2-1,d1,congrArg (Value.int .i64) (by omega),by omega,by omega,Lib.hid (by rw [fixDown,if_pos h2a]),HR⟩
        case round=>
         clear HR
         obtain ⟨j,dj,rfl,j1,j2,HJ,HR⟩:=hrel
         have c0:=HR.out.box.c0
         have hl:=HR.out.box.lt
         by_cases hj:1<=j
         ·have hjz:(1:Int)<=(j:Int):=by omega
          cases hv:lt dj[j]! dj[j-1]! with
          | true=>
           go_wp2_with (go_at_fn g;refine (HR.out.srt.less HL.out _ _ j (j-1) (by omega) (by omega) rfl (by omega)).mono ?_;rw [hv];rintro e w1 ⟨rfl,hS1,hT1⟩;have R1:=HR.out.next hS1 hT1;have e1:=R1.box.c1;have el:=R1.box.lt;obtain ⟨w3,hrun,hS3,hT3⟩:=R1.srt.swap HSW.out hk (j:Int) ((j:Int)-1) j (j-1) (by omega) (by omega) rfl (by omega);have R3:=Lib.hid (R1.next hS3 hT3);clear R1 hS1 hT1 hS3 hT3)
           go_roundg (j-1)
           case measure=>omega
           case rel=>exact ⟨j-1,_,congrArg (Value.int .i64) (by omega),by omega,Nat.le_refl _,Lib.hid ((shiftDown_go lt j dj hj hv).symm.trans HJ.out),R3⟩
          | false=>
           go_wp2_with (go_at_fn g;refine (HR.out.srt.less HL.out _ _ j (j-1) (by omega) (by omega) rfl (by omega)).mono ?_;rw [hv];rintro e w1 ⟨rfl,hS1,hT1⟩;have R1:=Lib.hid (HR.out.next hS1 hT1);clear hS1 hT1)
           go_meet
           have:=HJ.out
           rw [shiftDown_stop lt j dj (.inr hv)] at this
           rw [<-this]
           exact R1
         ·have hjz:¬(1:Int)<=(j:Int):=by omega
          go_wp2_with fail
          go_meet
          have:=HJ.out
          rw [shiftDown_stop lt j dj (.inl (by omega))] at this
          rw [<-this]
          exact HR
       ·have h2z:¬(2:Int)<=(i2:Int)-(a:Int):=by omega
        go_wp2_with fail
        go_meet
        rw [show fixDown lt a i2 d1=d1 by rw [fixDown,if_neg h2a]]
        exact HR
      case rest=>
       clear HR
       have HR:=hcut
       clear hcut
       rename World=>wp
       obtain ⟨d2,hd2⟩:∃d2,d2=fixDown lt a i2 d1:=⟨_,rfl⟩
       rw [<-hd2] at E HR
       clear hd2 hrun c1 hl w2
       obtain ⟨m0,hm0⟩:∃m0,m0+1=gk:=⟨gk-1,by omega⟩
       by_cases h2a:2<=b-i2
       ·have h2z:(2:Int)<=(b:Int)-(i2:Int):=by omega
        have hgk:s+1+m0=5:=by omega
        have hgk2:m0<gk:=by omega
        obtain ⟨GK,hGK⟩:∃GK,GK=gk:=⟨_,rfl⟩
        go_wp2_with fail
        go_loopg [10] b (fun kx s9 wx=>∃(j:Nat) (dj:Array α),s9 = .int .i64 (j:Int)/\1<=j/\b-j<=kx/\j<=b/\Hid (shiftUp lt b j dj=fixUp lt b i2 d2)/\Hid (Srd enc k w0 blk off n (.func (.func g) #[] lb) (.func (.func sf) #[] sb) W (dj) wx))
        case atStart=>exact ⟨i2+1,d2,by go_num,by omega,by omega,by omega,Lib.hid (by rw [fixUp,if_pos h2a]),HR⟩
        case round=>
         clear HR
         obtain ⟨j,dj,rfl,j1,j2,j3,HJ,HR⟩:=hrel
         have c0:=HR.out.box.c0
         have hl:=HR.out.box.lt
         by_cases hj:j<b
         ·cases hv:lt dj[j]! dj[j-1]! with
          | true=>
           go_wp2_with (go_at_fn g;refine (HR.out.srt.less HL.out _ _ j (j-1) (by omega) (by omega) rfl (by omega)).mono ?_;rw [hv];rintro e w1 ⟨rfl,hS1,hT1⟩;have R1:=HR.out.next hS1 hT1;have e1:=R1.box.c1;have el:=R1.box.lt;obtain ⟨w3,hrun,hS3,hT3⟩:=R1.srt.swap HSW.out hk (j:Int) ((j:Int)-1) j (j-1) (by omega) (by omega) rfl (by omega);have R3:=Lib.hid (R1.next hS3 hT3);clear R1 hS1 hT1 hS3 hT3)
           go_roundg (b-(j+1))
           case measure=>omega
           case rel=>exact ⟨j+1,_,by go_num,by omega,by omega,by omega,Lib.hid ((shiftUp_go lt b j dj hj hv).symm.trans HJ.out),R3⟩
          | false=>
           have hd:dj=fixUp lt b i2 d2:=(shiftUp_stop lt b j dj (.inr hv)).symm.trans HJ.out
           rw [<-hd] at E
           clear hd
           go_wp2_with (go_at_fn g;refine (HR.out.srt.less HL.out _ _ j (j-1) (by omega) (by omega) rfl (by omega)).mono ?_;rw [hv];rintro e w1 ⟨rfl,hS1,hT1⟩;have R1:=Lib.hid (HR.out.next hS1 hT1);clear hS1 hT1)
           go_roundg m0
           case measure=>omega
           case rel=>exact ⟨i2,s+1,_,rfl,by go_num,u1,u2,hgk,E,R1⟩
         ·have hd:dj=fixUp lt b i2 d2:=(shiftUp_stop lt b j dj (.inl hj)).symm.trans HJ.out
          rw [<-hd] at E
          clear hd
          go_wp2_with fail
          go_roundg m0
          case measure=>omega
          case rel=>exact ⟨i2,s+1,_,rfl,by go_num,u1,u2,hgk,E,HR⟩
       ·have h2z:¬(2:Int)<=(b:Int)-(i2:Int):=by omega
        rw [show fixUp lt b i2 d2=d2 by rw [fixUp,if_neg h2a]] at E
        go_wp2_with fail
        go_roundg m0
        case measure=>omega
        case rel=>exact ⟨i2,s+1,_,rfl,by go_num,u1,u2,by omega,E,HR⟩
  ·have hsz:¬(s:Int)<5:=by omega
   obtain rfl:s=5:=by omega
   have e:=HE.out
   rw [pi_end] at e
   have E:=Lib.hid e
   clear e HE
   go_wp2
   go_ret
   rw [<-E.out]
   exact ⟨rfl,HR.out.srt,HR.out.touch⟩
end
section
variable {α:Type} [Inhabited α] {enc:α->List Value} {k:Nat} {w0:World} {blk off n:Nat} {lt:α->α->Bool} {g:Nat} {lb:Array Value} {sf:Nat} {sb:Array Value}
theorem srt_world {W W':World} {d d':Array α} {m:Nat} {os:Array Obj} (S:Srt enc k w0 blk off n d W) (hs:d'.size=d.size) (h:W'=sortWorldK enc k W blk off m d' os):Srt enc k w0 blk off n d' W'/\Touch (· = blk) W W':=by
 subst h
 have hl:=S.lt2
 have t:Touch (· = blk) W (sortWorldK enc k W blk off m d' os):=by
  unfold sortWorldK
  refine Touch.trans (b:=putRowK enc k (Sort.ahead W m) blk off d') ?_ ?_
  ·have h:=putRowK_touch (enc:=enc) (k:=k) (blk:=blk) (off:=off) (Sort.ahead W m) d'
   exact ⟨h.os,h.tape,h.output,h.size,h.block⟩
  ·refine ⟨rfl,rfl,rfl,?_,fun j hj hn => ?_⟩
   ·rw [size_grow]
    omega
   ·show (_++os)[j]? = _
    rw [Array.getElem?_append_left hj]
 exact ⟨⟨hs.trans S.size,holdsK_sortWorldK enc k W blk off m d d' os hl S.holds hs,S.touch.trans t,S.lt⟩,t⟩
theorem rev_any (hk:∀x,(enc x).length=k) (hS:SwapSwapsK Tryz.prog sf sb enc k blk off n) (hn:n<4611686018427387904) (lf:Fn) (la lb:Array Value)
 (a b:Nat) (hab:a<=b) (hb:b<=n) (d:Array α) (W:World) (S:Srt enc k w0 blk off n d W) :
 Calls Tryz.prog 162 #[.agg #[.func lf la lb,.func (.func sf) #[] sb],.int .i64 (a:Int),.int .i64 (b:Int)] W fun e w'=>
  e = .returned (.tuple #[])/\Srt enc k w0 blk off n (reverseRange d a b) w'/\Touch (· = blk) W w':=by
 have hs:=S.size
 exact (Any.reverseRange_func_cells_w (P:=Tryz.prog) (ρ:=Tryz.laysGg6_ren) { Tryz.laysGg6 with } enc k hk lf la lb sf sb blk off a b d W (by rw [hs];exact hS) S.holds S.lt2 hab (by omega) (by omega)).mono fun e w' ⟨he,m,os,hw⟩=>⟨he,srt_world S (reverseRange_holds d a b hab (by omega)).1 hw⟩
theorem break_any (hk:∀x,(enc x).length=k) (hS:SwapSwapsK Tryz.prog sf sb enc k blk off n) (hn:n<4611686018427387904) (lf:Fn) (la lb:Array Value)
 (a b:Nat) (hab:a<=b) (hb:b<=n) (d:Array α) (W:World) (S:Srt enc k w0 blk off n d W) :
 Calls Tryz.prog 160 #[.agg #[.func lf la lb,.func (.func sf) #[] sb],.int .i64 (a:Int),.int .i64 (b:Int)] W fun e w'=>
  e = .returned (.tuple #[])/\Srt enc k w0 blk off n (breakPatterns d a b) w'/\Touch (· = blk) W w':=by
 have hs:=S.size
 exact (Any.breakPatterns_func_cells_w (P:=Tryz.prog) (ρ:=Tryz.laysGg6_ren) { Tryz.laysGg6 with } enc k hk lf la lb sf sb blk off a b d W (by rw [hs];exact hS) S.holds S.lt2 hab (by omega) (by omega)).mono fun e w' ⟨he,m,os,hw⟩=>⟨he,srt_world S (breakPatterns_holds d a b hab (by omega)).1 hw⟩
theorem eighth' {x y p q:Nat} (h1:q<=p) (h2:y<=x):decide (((x:Int)-(y:Int))/8<=(p:Int)-(q:Int))=decide (p-q≥(x-y)/8):=decide_eq_decide.2 (by omega)
theorem hintN_two {h:Hint}:((hintN h:Int) == 2)=decide (h = .decreasing):=by cases h<;>rfl
theorem hintN_one {h:Hint}:((hintN h:Int) == 1)=decide (h = .increasing):=by cases h<;>rfl
set_option maxHeartbeats 8000000 in
set_option maxRecDepth 100000 in
theorem pdq_any (hk:∀x,(enc x).length=k) (hO:SWO lt) (eg:∀args w,(callFunc g args).run Tryz.prog w = .ok (.enter g args) w) (hL:LessB g lb enc k lt w0 blk off n) (hS:SwapSwapsK Tryz.prog sf sb enc k blk off n) (hn:n<4611686018427387904) :
 ∀(m a b limit:Nat) (d:Array α) (W:World),b-a<m->a<=b->b<=n->limit<4611686018427387904->Sort.Below lt a b d->Srt enc k w0 blk off n d W ->
 Calls Tryz.prog 125 #[.agg #[.func (.func g) #[] lb,.func (.func sf) #[] sb],.int .i64 (a:Int),.int .i64 (b:Int),.int .i64 (limit:Int)] W fun e w'=>
  e = .returned (.tuple #[])/\Srt enc k w0 blk off n (pdq lt d a b limit true true) w'/\Touch (· = blk) W w':=by
 have HINS:=Lib.hid (fun a b ha hb d W S=>ins_any (a:=a) (b:=b) hk eg hL hS hn ha hb (d:=d) (W:=W) S)
 have HHEAP:=Lib.hid (fun a b ha hb d W S=>heap_any (a:=a) (b:=b) hk eg hL hS hn ha hb (d:=d) (W:=W) S)
 have HBRK:=Lib.hid (fun a b ha hb d W S=>break_any (w0:=w0) (lf := .func g) (la := #[]) (lb:=lb) (a:=a) (b:=b) hk hS hn ha hb (d:=d) (W:=W) S)
 have HREV:=Lib.hid (fun a b ha hb d W S=>rev_any (w0:=w0) (lf := .func g) (la := #[]) (lb:=lb) (a:=a) (b:=b) hk hS hn ha hb (d:=d) (W:=W) S)
 have HPIV:=Lib.hid (fun a b l h0 h1 hb d W S=>pivot_any (sfn := .func sf) (sa := #[]) (sb:=sb) (a:=a) (b:=b) (l:=l) eg hL hn h0 h1 hb (d:=d) (W:=W) S)
 have HPI:=Lib.hid (fun a b ha hb d W S=>partIns_any (a:=a) (b:=b) hk eg hL hS hn ha hb (d:=d) (W:=W) S)
 have HPE:=Lib.hid (fun a b p h1 h2 hb d W S=>partEq_any (a:=a) (b:=b) (p:=p) hk eg hL hS hn h1 h2 hb (d:=d) (W:=W) S)
 have HPT:=Lib.hid (fun a b p h1 h2 hb d W S=>part_any (a:=a) (b:=b) (p:=p) hk eg hL hS hn h1 h2 hb (d:=d) (W:=W) S)
 have HL:=Lib.hid hL
 clear hL hS
 intro m
 induction m with
 | zero=>intro a b limit d W h;exact absurd h (Nat.not_lt_zero _)
 | succ m ih=>
  intro a b limit d W hm hab hb hlimit hB0 S
  have IH:=Lib.hid ih
  have HB0:=Lib.hid hB0
  clear ih hB0
  go_enter Tryz.func125,Tryz.ntmps125
  have R:=Srd.start (x := .func (.func g) #[] lb) (y := .func (.func sf) #[] sb) S 183
  clear S
  go_wp2_with fail
  go_loopg [1,2,3,8,9] (b-a) (fun kx s1 s2 s3 s8 s9 wr=>∃(a' b' lim:Nat) (wb wp:Bool) (dk:Array α),s1 = .int .i64 (a':Int)/\s2 = .int .i64 (b':Int)/\s3 = .int .i64 (lim:Int)/\s8 = .bool wb/\s9 = .bool wp /\
   a'<=b'/\b'<=n/\b'-a'<=kx/\kx<=b-a/\lim<=limit/\Hid (Sort.Below lt a' b' dk)/\Hid (pdq lt dk a' b' lim wb wp=pdq lt d a b limit true true)/\Hid (Srd enc k w0 blk off n (.func (.func g) #[] lb) (.func (.func sf) #[] sb) W dk wr))
  case atStart=>exact ⟨a,b,limit,true,true,d,rfl,rfl,rfl,rfl,rfl,hab,hb,Nat.le_refl _,Nat.le_refl _,Nat.le_refl _,HB0,rfl,R⟩
  case round=>
   clear R
   obtain ⟨a',b',lim,wb,wp,dk,rfl,rfl,rfl,rfl,rfl,q1,q2,q3,q4,q5,HB,HE,HR⟩:=hrel
   have c0:=HR.out.box.c0
   have c1:=HR.out.box.c1
   have hl:=HR.out.box.lt
   by_cases h12:b'-a'<=12
   ·have h12z:(b':Int)-(a':Int)<=12:=by omega
    have E:=Lib.hid ((pdq_small h12).symm.trans HE.out)
    go_wp2_with fail
    refine (HINS.out a' b' (by omega) (by omega) dk _ HR.out.srt).mono ?_
    rintro e w2 ⟨rfl,hS2,hT2⟩
    go_wp2_with fail
    (try simp only [Exit.inBlock,Exit.then]);refine bodyPost_ret (results_none rfl _ _ _) rfl ?_
    rw [<-E.out]
    exact ⟨rfl,hS2,HR.out.touch.trans hT2⟩
   ·have h12z:¬(b':Int)-(a':Int)<=12:=by omega
    by_cases hl0:lim=0
    ·subst hl0
     have E:=Lib.hid ((pdq_heap h12 rfl).symm.trans HE.out)
     go_wp2_with fail
     refine (HHEAP.out a' b' (by omega) (by omega) dk _ HR.out.srt).mono ?_
     rintro e w2 ⟨rfl,hS2,hT2⟩
     go_wp2_with fail
     (try simp only [Exit.inBlock,Exit.then]);refine bodyPost_ret (results_none rfl _ _ _) rfl ?_
     rw [<-E.out]
     exact ⟨rfl,hS2,HR.out.touch.trans hT2⟩
    ·have hl0z:((lim:Int) == 0)=false:=by simp;omega
     have hds:=HR.out.srt.size
     have hF:=rd_facts (lt:=lt) (limit:=lim) (wb:=wb) (wp:=wp) hO partialInsertionSort_holds reverseRange_holds (show a'<b' by omega) (show b'<=dk.size by omega) HB.out
     have hdone:=pdq_done (lt:=lt) (d:=dk) (a:=a') (b:=b') (limit:=lim) (wb:=wb) (wp:=wp) h12 hl0
     have heq:=pdq_eq (lt:=lt) (d:=dk) (a:=a') (b:=b') (limit:=lim) (wb:=wb) (wp:=wp) h12 hl0
     have hleft:=pdq_left (lt:=lt) (d:=dk) (a:=a') (b:=b') (limit:=lim) (wb:=wb) (wp:=wp) h12 hl0
     have hright:=pdq_right (lt:=lt) (d:=dk) (a:=a') (b:=b') (limit:=lim) (wb:=wb) (wp:=wp) h12 hl0
     have hrl:=rd_lim_le (lt:=lt) (d:=dk) (a:=a') (b:=b') (limit:=lim) (wb:=wb) (wp:=wp)
     obtain ⟨r,hr⟩:∃r,r=rd lt dk a' b' lim wb wp:=⟨_,rfl⟩
     rw [<-hr] at hF hdone heq hleft hright hrl
     have HRD:=Lib.hid hr
     have HDONE:=Lib.hid hdone
     have HEQ:=Lib.hid heq
     have HLEFT:=Lib.hid hleft
     have HRIGHT:=Lib.hid hright
     obtain ⟨f1,f2,⟨f3,f4⟩,f5,f6,⟨f7,f8⟩,f9,f10⟩:=hF
     have HB3:=Lib.hid f10
     have HSZ:=Lib.hid (And.intro f1 (And.intro f5 f9))
     clear hr hdone heq hleft hright f1 f2 f5 f6 f9 f10 hl0
     go_upto_if 35 with fail
     go_cut [3] (fun s3 wx=>s3 = .int .i64 (r.lim:Int)/\Hid (Srd enc k w0 blk off n (.func (.func g) #[] lb) (.func (.func sf) #[] sb) W r.d1 wx))
     case first=>
      cases wb with
      | true=>
       have e1:r.lim=lim:=by rw [HRD.out];rfl
       have e2:r.d1=dk:=by rw [HRD.out];rfl
       have E12:=Lib.hid (And.intro e1 e2)
       clear e1 e2
       go_wp2_with fail
       go_meet
       exact ⟨by rw [E12.out.1],by rw [E12.out.2];exact HR⟩
      | false=>
       have e1:r.lim=lim-1:=by rw [HRD.out];rfl
       have e2:r.d1=breakPatterns dk a' b':=by rw [HRD.out];rfl
       have E12:=Lib.hid (And.intro e1 e2)
       have hlim1:1<=lim:=by
        have:lim≠0:=by intro h;rw [h] at hl0z;simp at hl0z
        omega
       clear e1 e2
       go_wp2_with fail
       refine (HBRK.out a' b' q1 (by omega) dk _ HR.out.srt).mono ?_
       rintro e w2 ⟨rfl,hS2,hT2⟩
       have R2:=Lib.hid (HR.out.next hS2 hT2)
       clear hS2 hT2
       go_wp2_with fail
       go_meet
       exact ⟨congrArg (Value.int .i64) (by rw [E12.out.1];omega),by rw [E12.out.2];exact R2⟩
     case rest=>
      clear HR c0 c1 hl
      obtain ⟨rfl,HR⟩:=hcut
      rename World=>wo
      have c0:=HR.out.box.c0
      have c1:=HR.out.box.c1
      have hl:=HR.out.box.lt
      go_wp2_with fail
      refine (HPIV.out a' b' (b'-a') (by omega) (by omega) (by omega) r.d1 _ HR.out.srt).mono ?_
      rintro e w2 ⟨rfl,hb2⟩
      have hc:choosePivot lt r.d1 a' b'=r.c:=by rw [HRD.out];rfl
      rw [hc]
      have hR2:=HR.out.next (HR.out.srt.below hb2) (Touch.quiet hb2)
      have c0:=hR2.box.c0
      have c1:=hR2.box.c1
      have hl:=hR2.box.lt
      have R2:=Lib.hid hR2
      clear HR hc hb2 hR2
      have HR:=R2
      clear R2
      have htwo:=hintN_two (h:=r.c.2)
      obtain ⟨bd,hbd⟩:∃bd,bd=decide (r.c.2=Hint.decreasing):=⟨_,rfl⟩
      rw [<-hbd] at htwo
      have HBD:=Lib.hid hbd
      clear hbd
      go_upto_if 50 with fail
      go_cut [11,12] (fun s11 s12 wx=>s11 = .int .i64 (r.pivot:Int)/\s12 = .int .i64 (hintN r.hint:Int)/\Hid (Srd enc k w0 blk off n (.func (.func g) #[] lb) (.func (.func sf) #[] sb) W r.d2 wx))
      case first=>
       cases bd with
       | true=>
        have hd:r.c.2 = .decreasing:=of_decide_eq_true HBD.out.symm
        have e:=rd_dec (lt:=lt) (d:=dk) (a:=a') (b:=b') (limit:=lim) (wb:=wb) (wp:=wp) (by rw [<-HRD.out];exact hd)
        rw [<-HRD.out] at e
        have E:=Lib.hid e
        clear e hd
        go_wp2_with fail
        refine (HREV.out a' b' q1 (by omega) r.d1 _ HR.out.srt).mono ?_
        rintro e w3 ⟨rfl,hS3,hT3⟩
        have R3:=Lib.hid (HR.out.next hS3 hT3)
        clear hS3 hT3
        go_wp2_with fail
        go_meet
        obtain ⟨e1,e2,e3⟩:=E.out
        exact ⟨congrArg (Value.int .i64) (by rw [e2];omega),by rw [e3];rfl,by rw [e1];exact R3⟩
       | false=>
        have hd:r.c.2 ≠ .decreasing:=of_decide_eq_false HBD.out.symm
        have e:=rd_not (lt:=lt) (d:=dk) (a:=a') (b:=b') (limit:=lim) (wb:=wb) (wp:=wp) (by rw [<-HRD.out];exact hd)
        rw [<-HRD.out] at e
        have E:=Lib.hid e
        clear e hd
        go_wp2_with fail
        go_meet
        obtain ⟨e1,e2,e3⟩:=E.out
        exact ⟨by rw [e2],by rw [e3],by rw [e1];exact HR⟩
      case rest=>
       clear HR c0 c1 hl htwo
       obtain ⟨rfl,rfl,HR⟩:=hcut
       rename World=>wp1
       have c0:=HR.out.box.c0
       have c1:=HR.out.box.c1
       have hl:=HR.out.box.lt
       have hone:=hintN_one (h:=r.hint)
       obtain ⟨bi,hbi⟩:∃bi,bi=decide (r.hint=Hint.increasing):=⟨_,rfl⟩
       rw [<-hbi] at hone
       have HBI:=Lib.hid hbi
       obtain ⟨cc,hcc⟩:∃cc,cc=(wb&&wp&&bi):=⟨_,rfl⟩
       have HCC:=Lib.hid hcc
       clear hbi hcc HBD
       go_upto_region 16 with fail
       go_cut [68] (fun s68 wx=>s68 = .bool cc/\Hid (Srd enc k w0 blk off n (.func (.func g) #[] lb) (.func (.func sf) #[] sb) W r.d2 wx))
       case first=>
        cases wb<;>cases wp<;>cases bi<;>(
         go_wp2_with fail
         go_meet
         exact ⟨by rw [HCC.out];rfl,HR⟩)
       case rest=>
        clear HR c0 c1 hl hone
        obtain ⟨rfl,HR⟩:=hcut
        rename World=>wp2
        have c0:=HR.out.box.c0
        have c1:=HR.out.box.c1
        have hl:=HR.out.box.lt
        go_upto_if 68 with fail
        go_cut [68] (fun _ wx=>Hid (r.pi.2=false)/\Hid (Srd enc k w0 blk off n (.func (.func g) #[] lb) (.func (.func sf) #[] sb) W r.pi.1 wx))
        case first=>
         cases cc with
         | false=>
          have e:=rd_pi_no (lt:=lt) (d:=dk) (a:=a') (b:=b') (limit:=lim) (wb:=wb) (wp:=wp) (by rw [<-HRD.out,<-HBI.out];exact HCC.out.symm)
          rw [<-HRD.out] at e
          have E:=Lib.hid e
          clear e
          go_wp2_with fail
          go_meet
          exact ⟨by rw [E.out];rfl,by rw [E.out];exact HR⟩
         | true=>
          have e:=rd_pi_yes (lt:=lt) (d:=dk) (a:=a') (b:=b') (limit:=lim) (wb:=wb) (wp:=wp) (by rw [<-HRD.out,<-HBI.out];exact HCC.out.symm)
          rw [<-HRD.out] at e
          have hpi:=HPI.out a' b' (by omega) (by omega) r.d2 _ HR.out.srt
          rw [<-e] at hpi
          have HPII:=Lib.hid hpi
          clear e hpi
          cases hp2:r.pi.2 with
          | true=>
           have E:=Lib.hid ((HDONE.out hp2).symm.trans HE.out)
           go_wp2_with fail
           refine HPII.out.mono ?_
           rw [hp2]
           rintro e w3 ⟨rfl,hS3,hT3⟩
           go_wp2_with fail
           (try simp only [Exit.inBlock,Exit.then]);refine bodyPost_ret (results_none rfl _ _ _) rfl ?_
           rw [<-E.out]
           exact ⟨rfl,hS3,HR.out.touch.trans hT3⟩
          | false=>
           have HP2:=Lib.hid hp2
           go_wp2_with fail
           refine HPII.out.mono ?_
           rw [hp2]
           rintro e w3 ⟨rfl,hS3,hT3⟩
           have R3:=Lib.hid (HR.out.next hS3 hT3)
           clear hS3 hT3 hp2
           go_wp2_with fail
           go_meet
           exact ⟨HP2.out,R3⟩
        case rest=>
         clear HR c0 c1 hl HDONE HCC HBI
         obtain ⟨HP2,HR⟩:=hcut
         rename World=>wp3
         have c0:=HR.out.box.c0
         have c1:=HR.out.box.c1
         have hl:=HR.out.box.lt
         obtain ⟨ce,hce⟩:∃ce,ce=(decide (a'>0) && !lt r.pi.1[a'-1]! r.pi.1[r.pivot]!):=⟨_,rfl⟩
         have HCE:=Lib.hid hce
         clear hce
         go_upto_region 18 with fail
         go_cut [83] (fun s83 wx=>s83 = .bool ce/\Hid (Srd enc k w0 blk off n (.func (.func g) #[] lb) (.func (.func sf) #[] sb) W r.pi.1 wx))
         case first=>
          by_cases ha0:a'=0
          ·have ha0z:decide ((a':Int)>0)=false:=decide_eq_false (by omega)
           have ha1z:¬(0<(a':Int)):=by omega
           have e:ce=false:=by rw [HCE.out];simp [ha0]
           subst e
           clear ha0
           go_wp2_with fail
           go_meet
           exact ⟨rfl,HR⟩
          ·have ha0z:(0:Int)<(a':Int):=by omega
           cases hv:lt r.pi.1[a'-1]! r.pi.1[r.pivot]! with
           | true=>
            have e:ce=false:=by rw [HCE.out,hv];simp
            subst e
            go_wp2_with (go_at_fn g;refine (HR.out.srt.less HL.out _ _ (a'-1) r.pivot (by omega) (by omega) (by omega) rfl).mono ?_;rw [hv];rintro e w1 ⟨rfl,hS1,hT1⟩;have R1:=Lib.hid (HR.out.next hS1 hT1);clear hS1 hT1)
            go_meet
            exact ⟨rfl,R1⟩
           | false=>
            have e:ce=true:=by rw [HCE.out,hv];simp;omega
            subst e
            go_wp2_with (go_at_fn g;refine (HR.out.srt.less HL.out _ _ (a'-1) r.pivot (by omega) (by omega) (by omega) rfl).mono ?_;rw [hv];rintro e w1 ⟨rfl,hS1,hT1⟩;have R1:=Lib.hid (HR.out.next hS1 hT1);clear hS1 hT1)
            go_meet
            exact ⟨rfl,R1⟩
         case rest=>
          clear HR c0 c1 hl
          obtain ⟨rfl,HR⟩:=hcut
          rename World=>wp4
          have c0:=HR.out.box.c0
          have c1:=HR.out.box.c1
          have hl:=HR.out.box.lt
          have hs3:=HSZ.out.2.2
          have hd3:=HR.out.srt.size
          cases ce with
          | true=>
           obtain ⟨v,hv⟩:∃v,v=partitionEqual lt r.pi.1 a' b' r.pivot:=⟨_,rfl⟩
           have h87:=HCE.out.symm
           simp only [Bool.and_eq_true,decide_eq_true_eq,Bool.not_eq_true'] at h87
           obtain ⟨r1,r2,r3,r4,-⟩:=round_eq hO (partitionEqual_holds lt) h87.1 f7 f8 (show b'<=r.pi.1.size by omega) HB3.out h87.2 (show partitionEqual lt r.pi.1 a' b' r.pivot=(v.1,v.2) by rw [hv])
           have e:=HEQ.out HP2.out HCE.out.symm (by rw [<-hv];exact ⟨r1,r2⟩)
           rw [<-hv] at e
           have E:=Lib.hid (e.symm.trans HE.out)
           have hcall:=HPE.out a' b' r.pivot f7 f8 (by omega) r.pi.1 _ HR.out.srt
           rw [<-hv] at hcall
           have HB4:=Lib.hid r4
           have HCALL:=Lib.hid hcall
           clear hv h87 e hcall r4 r3 hs3 hd3
           go_wp2_with fail
           refine HCALL.out.mono ?_
           rintro e w3 ⟨rfl,hS3,hT3⟩
           have R3:=Lib.hid (HR.out.next hS3 hT3)
           clear hS3 hT3
           go_wp2_with fail
           go_roundg (b'-v.1)
           case measure=>omega
           case rel=>exact ⟨v.1,b',r.lim,wb,wp,v.2,rfl,rfl,rfl,rfl,rfl,r2,q2,Nat.le_refl _,by omega,by omega,HB4,E,R3⟩
          | false=>
           obtain ⟨v,hv⟩:∃v,v=partition lt r.pi.1 a' b' r.pivot:=⟨_,rfl⟩
           obtain ⟨r1,r2,r3,r4,r5,r6,r7⟩:=round_part hO (partition_holds lt) f7 f8 (show b'<=r.pi.1.size by omega) HB3.out (show partition lt r.pi.1 a' b' r.pivot=(v.1,v.2.1,v.2.2) by rw [hv])
           have eL:=HLEFT.out HP2.out HCE.out.symm (by rw [<-hv];exact ⟨r1,r2⟩)
           have eR:=HRIGHT.out HP2.out HCE.out.symm (by rw [<-hv];exact ⟨r1,r2⟩)
           rw [<-hv] at eL eR
           have hcall:=HPT.out a' b' r.pivot f7 f8 (by omega) r.pi.1 _ HR.out.srt
           rw [<-hv] at hcall
           have HCALL:=Lib.hid hcall
           have HEL:=Lib.hid eL
           have HER:=Lib.hid eR
           have H4:=Lib.hid r4
           have H5:=Lib.hid r5
           have H6:=Lib.hid r6
           have H7:=Lib.hid r7
           obtain ⟨mid,ap,d4⟩:=v
           simp only at r1 r2 r3
           have hs4:d4.size=n:=by omega
           clear hv hcall eL eR r3 r4 r5 r6 r7 hs3 hd3
           go_wp2_with fail
           refine HCALL.out.mono ?_
           rintro e w3 ⟨rfl,hS3,hT3⟩
           have hR3:=HR.out.next hS3 hT3
           have c0:=hR3.box.c0
           have c1:=hR3.box.c1
           have hl:=hR3.box.lt
           have R3:=Lib.hid hR3
           clear hS3 hT3 hR3 HCALL HR
           by_cases h4:mid-a'<b'-mid
           ·have h4z:(mid:Int)-(a':Int)<(b':Int)-(mid:Int):=by omega
            have E:=Lib.hid ((HEL.out h4).symm.trans HE.out)
            have hpd:=pdq_sorts lt hO d4 a' mid r.lim true true r1 (by omega) H4.out
            have HB5:=Lib.hid (H6.out _ hpd.1 hpd.2).1
            have hih:=IH.out a' mid r.lim d4 w3 (by omega) r1 (by omega) (by omega) H4.out R3.out.srt
            have HIH:=Lib.hid hih
            clear hpd hih h4
            go_wp2_with fail
            refine HIH.out.mono ?_
            rintro e w4 ⟨rfl,hS4,hT4⟩
            have R4:=Lib.hid (R3.out.next hS4 hT4)
            clear hS4 hT4
            go_wp2_with fail
            go_roundg (b'-(mid+1))
            case measure=>omega
            case rel=>exact ⟨mid+1,b',r.lim,_,ap,_,by go_num,rfl,rfl,congrArg Value.bool (eighth' r1 q1),rfl,by omega,q2,Nat.le_refl _,by omega,by omega,HB5,E,R4⟩
           ·have h4z:¬(mid:Int)-(a':Int)<(b':Int)-(mid:Int):=by omega
            have E:=Lib.hid ((HER.out h4).symm.trans HE.out)
            have hpd:=pdq_sorts lt hO d4 (mid+1) b' r.lim true true (by omega) (by omega) H5.out
            have HB5:=Lib.hid (H7.out _ hpd.1 hpd.2).1
            have hih:=IH.out (mid+1) b' r.lim d4 w3 (by omega) (by omega) (by omega) (by omega) H5.out R3.out.srt
            rw [show ((mid+1:Nat):Int)=(mid:Int)+1 by omega] at hih
            have HIH:=Lib.hid hih
            clear hpd hih h4
            go_wp2_with fail
            refine HIH.out.mono ?_
            rintro e w4 ⟨rfl,hS4,hT4⟩
            have R4:=Lib.hid (R3.out.next hS4 hT4)
            clear hS4 hT4
            go_wp2_with fail
            go_roundg (mid-a')
            case measure=>omega
            case rel=>exact ⟨a',mid,r.lim,_,ap,_,rfl,rfl,rfl,congrArg Value.bool (eighth' (show mid<=b' by omega) q1),rfl,r1,by omega,Nat.le_refl _,by omega,by omega,HB5,E,R4⟩
end
instance:Inhabited Rt:=⟨⟨⟨0,0,0⟩,0⟩⟩
noncomputable def rtT:TypeInfo:=(Tryz.prog.info? 35).get (by kernel_rfl)
noncomputable def rtE:TypeInfo:=(Tryz.prog.info? 41).get (by kernel_rfl)
theorem rtK (n:Nat) (h2:2<=n):Lib.swapperK n rtE 25=9:=by
 have a:rtE.hasPointers=false:=by kernel_rfl
 have b:rtE.bytes=32:=by kernel_rfl
 have c:(n == 0)=false:=by simp;omega
 have d:(n == 1)=false:=by simp;omega
 unfold Lib.swapperK
 rw [c,d,a,b]
 rfl
theorem rt_one:∀x:Rt,∀v∈rcell x,v.oneCell'=true:=by
 intro x v hv
 simp only [rcell,List.mem_cons,List.not_mem_nil,or_false] at hv
 rcases hv with rfl | rfl | rfl | rfl<;>rfl
theorem perm_list {α:Type} [Inhabited α] {L:List α} {d:Array α} (h:PermIn 0 L.length L.toArray d):d.toList.Perm L:=by
 obtain ⟨h1,-,h3⟩:=h
 have e1:d.extract 0 L.length=d:=by
  have:L.length=d.size:=by rw [h1];simp
  rw [this]
  simp
 have e2:L.toArray.extract 0 L.length=L.toArray:=by
  have:L.length=L.toArray.size:=by simp
  rw [this]
  simp
 rw [e1,e2] at h3
 simpa using h3
theorem sorted_list {α:Type} [Inhabited α] {lt:α->α->Bool} {d:Array α} {n:Nat} (hn:d.size=n) (h:SortedIn lt 0 n d):d.toList.Pairwise fun a b=>lt b a=false:=by
 rw [List.pairwise_iff_getElem]
 intro i j hi hj hij
 simp only [Array.length_toList] at hi hj
 have:=h i j (Nat.zero_le _) hij (by omega)
 rw [getElem!_pos d j hj,getElem!_pos d i hi] at this
 simpa using this
theorem holds_own {w:World} {B c:Nat} {blk:Nat} {L:List Rt} (h:w.ownsRow B 41 4 (.slice (some ⟨blk,0,none⟩) L.length c) L.length (rcs L)):HoldsK rcell 4 w blk 0 L.toArray:=by
 intro j hj
 have hj2:j<L.length*4:=by simpa using hj
 have e:(rcs L)[j]? = some (flatK rcell 4 L.toArray)[j]! := by
  rw [get_flatK _ _ _ _ (by simpa using hj2)]
  have:=rcs_cell L (j/4) (j%4) (by omega) (Nat.mod_lt _ (by decide))
  rw [show j/4*4+j%4=j by omega] at this
  rw [this,getElem!_pos L.toArray (j/4) (by simp;omega)]
  have h4:j%4<(rcell L[j/4]).length:=Nat.mod_lt _ (by decide)
  simp only [List.getElem_toArray]
  rw [List.getElem?_eq_getElem h4,getElem!_pos (rcell L[j/4]) (j%4) h4]
 rw [Nat.zero_add]
 exact ⟨(h.cellAt j (by omega)).trans e,h.frozenAt j⟩
theorem row_holds {w:World} {blk:Nat} {L:List Rt} (h:HoldsK rcell 4 w blk 0 L.toArray) (hl:blk<w.heap.size):Row w (some ⟨blk,0,none⟩) (rcs L):=by
 refine .inr ⟨blk,0,rfl,hl,fun j u hu => ?_⟩
 have hj2:j<L.length*4:=by rw [<-rcs_len];exact (List.getElem?_eq_some_iff.1 hu).1
 have:=(h j (by simpa using hj2)).1
 rw [this]
 rw [get_flatK _ _ _ _ (by simpa using hj2)]
 have e:=rcs_cell L (j/4) (j%4) (by omega) (Nat.mod_lt _ (by decide))
 rw [show j/4*4+j%4=j by omega,hu] at e
 have h4:j%4<(rcell L[j/4]).length:=Nat.mod_lt _ (by decide)
 rw [getElem!_pos L.toArray (j/4) (by simp;omega)]
 simp only [List.getElem_toArray]
 rw [List.getElem?_eq_getElem h4] at e
 show some (rcell L[j/4])[j%4]! = _
 rw [getElem!_pos (rcell L[j/4]) (j%4) h4]
 exact e.symm
end Go.Proofs.YtgfjmgebecmbiaaGreat
