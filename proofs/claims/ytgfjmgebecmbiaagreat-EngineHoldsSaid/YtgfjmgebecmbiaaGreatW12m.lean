import Derived.Test.YtgfjmgebecmbiaaGreatSort2
import Derived.Test.YtgfjmgebecmbiaaGreatSort4
import Derived.Test.YtgfjmgebecmbiaaGreatSort6
import Derived.Test.YtgfjmgebecmbiaaGreatW12c
import Derived.Sort.AssemblyPlain
set_option linter.unusedSimpArgs false
set_option linter.unusedVariables false
set_option maxHeartbeats 8000000
namespace Go.Proofs.YtgfjmgebecmbiaaGreat
open Lib(hid)
open Go.RowKit Go.Sort M
section
variable {α:Type} [Inhabited α] {enc:α->List Value} {k:Nat} {w0:World} {blk off n:Nat} {lt:α->α->Bool} {g:Nat} {lb:Array Value} {sf:Nat} {sb:Array Value}
theorem Znu {W W':World} {d d':Array α} {m:Nat} {os:Array Obj} (S:Srt enc k w0 blk off n d W) (hs:d'.size=d.size) (h:W'=sortWorldK enc k W blk off m d' os):Srt enc k w0 blk off n d' W'/\Touch (· = blk) W W':=by
 subst h
 have hl:=S.lt2
 have t:Touch (· = blk) W (sortWorldK enc k W blk off m d' os):=by
  unfold sortWorldK
  refine Touch.trans (b:=putRowK enc k (Sort.ahead W m) blk off d') ?_ ?_
  ·have h:=Zd4 (enc:=enc) (k:=k) (blk:=blk) (off:=off) (Sort.ahead W m) d'
   exact ⟨h.os,h.tape,h.output,h.size,h.block⟩
  ·refine ⟨rfl,rfl,rfl,?_,fun j hj hn => ?_⟩
   ·rw [size_grow]
    omega
   ·show (_++os)[j]? = _
    rw [Array.getElem?_append_left hj]
 exact ⟨⟨hs.trans S.size,holdsK_sortWorldK enc k W blk off m d d' os hl S.holds hs,S.touch.trans t,S.lt⟩,t⟩
theorem Z5j (hk:∀x,(enc x).length=k) (hS:SwapSwapsK Tryz.prog sf sb enc k blk off n) (hn:n<4611686018427387904) (lf:Fn) (la lb:Array Value)
 (a b:Nat) (hab:a<=b) (hb:b<=n) (d:Array α) (W:World) (S:Srt enc k w0 blk off n d W) :
 Calls Tryz.prog 162 #[.agg #[.func lf la lb,.func (.func sf) #[] sb],.int .i64 (a:Int),.int .i64 (b:Int)] W fun e w'=>
  e = .returned (.tuple #[])/\Srt enc k w0 blk off n (reverseRange d a b) w'/\Touch (· = blk) W w':=by
 have hs:=S.size
 exact (Any.reverseRange_func_cells_w (P:=Tryz.prog) (ρ:=Tryz.laysGg6_ren) { Tryz.laysGg6 with } enc k hk lf la lb sf sb blk off a b d W (by rw [hs];exact hS) S.holds S.lt2 hab (by omega) (by omega)).mono fun e w' ⟨he,m,os,hw⟩=>⟨he,Znu S (reverseRange_holds d a b hab (by omega)).1 hw⟩
theorem Z0m (hk:∀x,(enc x).length=k) (hS:SwapSwapsK Tryz.prog sf sb enc k blk off n) (hn:n<4611686018427387904) (lf:Fn) (la lb:Array Value)
 (a b:Nat) (hab:a<=b) (hb:b<=n) (d:Array α) (W:World) (S:Srt enc k w0 blk off n d W) :
 Calls Tryz.prog 160 #[.agg #[.func lf la lb,.func (.func sf) #[] sb],.int .i64 (a:Int),.int .i64 (b:Int)] W fun e w'=>
  e = .returned (.tuple #[])/\Srt enc k w0 blk off n (breakPatterns d a b) w'/\Touch (· = blk) W w':=by
 have hs:=S.size
 exact (Any.breakPatterns_func_cells_w (P:=Tryz.prog) (ρ:=Tryz.laysGg6_ren) { Tryz.laysGg6 with } enc k hk lf la lb sf sb blk off a b d W (by rw [hs];exact hS) S.holds S.lt2 hab (by omega) (by omega)).mono fun e w' ⟨he,m,os,hw⟩=>⟨he,Znu S (breakPatterns_holds d a b hab (by omega)).1 hw⟩
theorem Zzv {x y p q:Nat} (h1:q<=p) (h2:y<=x):decide (((x:Int)-(y:Int))/8<=(p:Int)-(q:Int))=decide (p-q≥(x-y)/8):=decide_eq_decide.2 (by omega)
theorem Zze {h:Hint}:((Z24 h:Int) == 2)=decide (h = .decreasing):=by cases h<;>rfl
theorem Zzf {h:Hint}:((Z24 h:Int) == 1)=decide (h = .increasing):=by cases h<;>rfl
set_option maxRecDepth 100000 in
theorem Z5m (hk:∀x,(enc x).length=k) (hO:SWO lt) (eg:∀args w,(callFunc g args).run Tryz.prog w = .ok (.enter g args) w) (hL:Zdh g lb enc k lt w0 blk off n) (hS:SwapSwapsK Tryz.prog sf sb enc k blk off n) (hn:n<4611686018427387904) :
 ∀(m a b limit:Nat) (d:Array α) (W:World),b-a<m->a<=b->b<=n->limit<4611686018427387904->Sort.Below lt a b d->Srt enc k w0 blk off n d W ->
 Calls Tryz.prog 125 #[.agg #[.func (.func g) #[] lb,.func (.func sf) #[] sb],.int .i64 (a:Int),.int .i64 (b:Int),.int .i64 (limit:Int)] W fun e w'=>
  e = .returned (.tuple #[])/\Srt enc k w0 blk off n (pdq lt d a b limit true true) w'/\Touch (· = blk) W w':=by
 have HINS:=hid (fun a b ha hb d W S=>Zy9 (a:=a) (b:=b) hk eg hL hS hn ha hb (d:=d) (W:=W) S)
 have HHEAP:=hid (fun a b ha hb d W S=>Z25 (a:=a) (b:=b) hk eg hL hS hn ha hb (d:=d) (W:=W) S)
 have HBRK:=hid (fun a b ha hb d W S=>Z0m (w0:=w0) (lf := .func g) (la := #[]) (lb:=lb) (a:=a) (b:=b) hk hS hn ha hb (d:=d) (W:=W) S)
 have HREV:=hid (fun a b ha hb d W S=>Z5j (w0:=w0) (lf := .func g) (la := #[]) (lb:=lb) (a:=a) (b:=b) hk hS hn ha hb (d:=d) (W:=W) S)
 have HPIV:=hid (fun a b l h0 h1 hb d W S=>Zx1 (sfn := .func sf) (sa := #[]) (sb:=sb) (a:=a) (b:=b) (l:=l) eg hL hn h0 h1 hb (d:=d) (W:=W) S)
 have HPI:=hid (fun a b ha hb d W S=>Zqz (a:=a) (b:=b) hk eg hL hS hn ha hb (d:=d) (W:=W) S)
 have HPE:=hid (fun a b p h1 h2 hb d W S=>Zu8 (a:=a) (b:=b) (p:=p) hk eg hL hS hn h1 h2 hb (d:=d) (W:=W) S)
 have HPT:=hid (fun a b p h1 h2 hb d W S=>Z1z (a:=a) (b:=b) (p:=p) hk eg hL hS hn h1 h2 hb (d:=d) (W:=W) S)
 have HL:=hid hL
 clear hL hS
 intro m
 induction m with
 | zero=>intro a b limit d W h;exact absurd h (Nat.not_lt_zero _)
 | succ m ih=>
  intro a b limit d W hm hab hb hlimit hB0 S
  have IH:=hid ih
  have HB0:=hid hB0
  clear ih hB0
  go_enter Tryz.func125,Tryz.ntmps125
  have R:=Srd.start (x := .func (.func g) #[] lb) (y := .func (.func sf) #[] sb) S 183
  clear S
  go_wp2_with fail
  go_loopg [1,2,3,8,9] (b-a) (fun kx s1 s2 s3 s8 s9 wr=>∃(a' b' lim:Nat) (wb wp:Bool) (dk:Array α),s1 = .int .i64 (a':Int)/\s2 = .int .i64 (b':Int)/\s3 = .int .i64 (lim:Int)/\s8 = .bool wb/\s9 = .bool wp /\
   a'<=b'/\b'<=n/\b'-a'<=kx/\kx<=b-a/\lim<=limit/\Hid (Sort.Below lt a' b' dk)/\Hid (pdq lt dk a' b' lim wb wp=pdq lt d a b limit true true)/\Hid (Srd enc k w0 blk off n (.func (.func g) #[] lb) (.func (.func sf) #[] sb) W dk wr))
  case atStart=>exact ⟨a,b,limit,true,true,d,rfl,rfl,rfl,rfl,rfl,hab,hb,Nat.le_refl _,Nat.le_refl _,Nat.le_refl _,HB0,rfl,R⟩
  case round=>
   clear R
   obtain ⟨a',b',lim,wb,wp,dk,rfl,rfl,rfl,rfl,rfl,q1,q2,q3,q4,q5,HB,HE,HR⟩:=hrel
   have c0:=HR.out.box.c0
   have c1:=HR.out.box.c1
   have hl:=HR.out.box.lt
   by_cases h12:b'-a'<=12
   ·have h12z:(b':Int)-(a':Int)<=12:=by omega
    have E:=hid ((pdq_small h12).symm.trans HE.out)
    go_wp2_with fail
    refine (HINS.out a' b' (by omega) (by omega) dk _ HR.out.srt).mono ?_
    rintro e w2 ⟨rfl,hS2,hT2⟩
    go_wp2_with fail
    (try simp only [Exit.inBlock,Exit.then]);refine bodyPost_ret (results_none rfl _ _ _) rfl ?_
    rw [<-E.out]
    exact ⟨rfl,hS2,HR.out.touch.trans hT2⟩
   ·have h12z:¬(b':Int)-(a':Int)<=12:=by omega
    by_cases hl0:lim=0
    ·subst hl0
     have E:=hid ((pdq_heap h12 rfl).symm.trans HE.out)
     go_wp2_with fail
     refine (HHEAP.out a' b' (by omega) (by omega) dk _ HR.out.srt).mono ?_
     rintro e w2 ⟨rfl,hS2,hT2⟩
     go_wp2_with fail
     (try simp only [Exit.inBlock,Exit.then]);refine bodyPost_ret (results_none rfl _ _ _) rfl ?_
     rw [<-E.out]
     exact ⟨rfl,hS2,HR.out.touch.trans hT2⟩
    ·have hl0z:((lim:Int) == 0)=false:=by simp;omega
     have hds:=HR.out.srt.size
     have hF:=rd_facts (lt:=lt) (limit:=lim) (wb:=wb) (wp:=wp) hO partialInsertionSort_holds reverseRange_holds (show a'<b' by omega) (show b'<=dk.size by omega) HB.out
     have hdone:=pdq_done (lt:=lt) (d:=dk) (a:=a') (b:=b') (limit:=lim) (wb:=wb) (wp:=wp) h12 hl0
     have heq:=pdq_eq (lt:=lt) (d:=dk) (a:=a') (b:=b') (limit:=lim) (wb:=wb) (wp:=wp) h12 hl0
     have hleft:=pdq_left (lt:=lt) (d:=dk) (a:=a') (b:=b') (limit:=lim) (wb:=wb) (wp:=wp) h12 hl0
     have hright:=pdq_right (lt:=lt) (d:=dk) (a:=a') (b:=b') (limit:=lim) (wb:=wb) (wp:=wp) h12 hl0
     have hrl:=rd_lim_le (lt:=lt) (d:=dk) (a:=a') (b:=b') (limit:=lim) (wb:=wb) (wp:=wp)
     obtain ⟨r,hr⟩:∃r,r=rd lt dk a' b' lim wb wp:=⟨_,rfl⟩
     rw [<-hr] at hF hdone heq hleft hright hrl
     have HRD:=hid hr
     have HDONE:=hid hdone
     have HEQ:=hid heq
     have HLEFT:=hid hleft
     have HRIGHT:=hid hright
     obtain ⟨f1,f2,⟨f3,f4⟩,f5,f6,⟨f7,f8⟩,f9,f10⟩:=hF
     have HB3:=hid f10
     have HSZ:=hid (And.intro f1 (And.intro f5 f9))
     clear hr hdone heq hleft hright f1 f2 f5 f6 f9 f10 hl0
     go_upto_if 35 with fail
     go_cut [3] (fun s3 wx=>s3 = .int .i64 (r.lim:Int)/\Hid (Srd enc k w0 blk off n (.func (.func g) #[] lb) (.func (.func sf) #[] sb) W r.d1 wx))
     case first=>
      cases wb with
      | true=>
       have e1:r.lim=lim:=by rw [HRD.out];rfl
       have e2:r.d1=dk:=by rw [HRD.out];rfl
       have E12:=hid (And.intro e1 e2)
       clear e1 e2
       go_wp2_with fail
       go_meet
       exact ⟨by rw [E12.out.1],by rw [E12.out.2];exact HR⟩
      | false=>
       have e1:r.lim=lim-1:=by rw [HRD.out];rfl
       have e2:r.d1=breakPatterns dk a' b':=by rw [HRD.out];rfl
       have E12:=hid (And.intro e1 e2)
       have hlim1:1<=lim:=by
        have:lim≠0:=by intro h;rw [h] at hl0z;simp at hl0z
        omega
       clear e1 e2
       go_wp2_with fail
       refine (HBRK.out a' b' q1 (by omega) dk _ HR.out.srt).mono ?_
       rintro e w2 ⟨rfl,hS2,hT2⟩
       have R2:=hid (HR.out.next hS2 hT2)
       clear hS2 hT2
       go_wp2_with fail
       go_meet
       exact ⟨congrArg (Value.int .i64) (by rw [E12.out.1];omega),by rw [E12.out.2];exact R2⟩
     case rest=>
      clear HR c0 c1 hl
      obtain ⟨rfl,HR⟩:=hcut
      rename World=>wo
      have c0:=HR.out.box.c0
      have c1:=HR.out.box.c1
      have hl:=HR.out.box.lt
      go_wp2_with fail
      refine (HPIV.out a' b' (b'-a') (by omega) (by omega) (by omega) r.d1 _ HR.out.srt).mono ?_
      rintro e w2 ⟨rfl,hb2⟩
      have hc:choosePivot lt r.d1 a' b'=r.c:=by rw [HRD.out];rfl
      rw [hc]
      have hR2:=HR.out.next (HR.out.srt.below hb2) (Touch.quiet hb2)
      have c0:=hR2.box.c0
      have c1:=hR2.box.c1
      have hl:=hR2.box.lt
      have R2:=hid hR2
      clear HR hc hb2 hR2
      have HR:=R2
      clear R2
      have htwo:=Zze (h:=r.c.2)
      obtain ⟨bd,hbd⟩:∃bd,bd=decide (r.c.2=Hint.decreasing):=⟨_,rfl⟩
      rw [<-hbd] at htwo
      have HBD:=hid hbd
      clear hbd
      go_upto_if 50 with fail
      go_cut [11,12] (fun s11 s12 wx=>s11 = .int .i64 (r.pivot:Int)/\s12 = .int .i64 (Z24 r.hint:Int)/\Hid (Srd enc k w0 blk off n (.func (.func g) #[] lb) (.func (.func sf) #[] sb) W r.d2 wx))
      case first=>
       cases bd with
       | true=>
        have hd:r.c.2 = .decreasing:=of_decide_eq_true HBD.out.symm
        have e:=rd_dec (lt:=lt) (d:=dk) (a:=a') (b:=b') (limit:=lim) (wb:=wb) (wp:=wp) (by rw [<-HRD.out];exact hd)
        rw [<-HRD.out] at e
        have E:=hid e
        clear e hd
        go_wp2_with fail
        refine (HREV.out a' b' q1 (by omega) r.d1 _ HR.out.srt).mono ?_
        rintro e w3 ⟨rfl,hS3,hT3⟩
        have R3:=hid (HR.out.next hS3 hT3)
        clear hS3 hT3
        go_wp2_with fail
        go_meet
        obtain ⟨e1,e2,e3⟩:=E.out
        exact ⟨congrArg (Value.int .i64) (by rw [e2];omega),by rw [e3];rfl,by rw [e1];exact R3⟩
       | false=>
        have hd:r.c.2 ≠ .decreasing:=of_decide_eq_false HBD.out.symm
        have e:=rd_not (lt:=lt) (d:=dk) (a:=a') (b:=b') (limit:=lim) (wb:=wb) (wp:=wp) (by rw [<-HRD.out];exact hd)
        rw [<-HRD.out] at e
        have E:=hid e
        clear e hd
        go_wp2_with fail
        go_meet
        obtain ⟨e1,e2,e3⟩:=E.out
        exact ⟨by rw [e2],by rw [e3],by rw [e1];exact HR⟩
      case rest=>
       clear HR c0 c1 hl htwo
       obtain ⟨rfl,rfl,HR⟩:=hcut
       rename World=>wp1
       have c0:=HR.out.box.c0
       have c1:=HR.out.box.c1
       have hl:=HR.out.box.lt
       have hone:=Zzf (h:=r.hint)
       obtain ⟨bi,hbi⟩:∃bi,bi=decide (r.hint=Hint.increasing):=⟨_,rfl⟩
       rw [<-hbi] at hone
       have HBI:=hid hbi
       obtain ⟨cc,hcc⟩:∃cc,cc=(wb&&wp&&bi):=⟨_,rfl⟩
       have HCC:=hid hcc
       clear hbi hcc HBD
       go_upto_region 16 with fail
       go_cut [68] (fun s68 wx=>s68 = .bool cc/\Hid (Srd enc k w0 blk off n (.func (.func g) #[] lb) (.func (.func sf) #[] sb) W r.d2 wx))
       case first=>
        cases wb<;>cases wp<;>cases bi<;>(
         go_wp2_with fail
         go_meet
         exact ⟨by rw [HCC.out];rfl,HR⟩)
       case rest=>
        clear HR c0 c1 hl hone
        obtain ⟨rfl,HR⟩:=hcut
        rename World=>wp2
        have c0:=HR.out.box.c0
        have c1:=HR.out.box.c1
        have hl:=HR.out.box.lt
        go_upto_if 68 with fail
        go_cut [68] (fun _ wx=>Hid (r.pi.2=false)/\Hid (Srd enc k w0 blk off n (.func (.func g) #[] lb) (.func (.func sf) #[] sb) W r.pi.1 wx))
        case first=>
         cases cc with
         | false=>
          have e:=rd_pi_no (lt:=lt) (d:=dk) (a:=a') (b:=b') (limit:=lim) (wb:=wb) (wp:=wp) (by rw [<-HRD.out,<-HBI.out];exact HCC.out.symm)
          rw [<-HRD.out] at e
          have E:=hid e
          clear e
          go_wp2_with fail
          go_meet
          exact ⟨by rw [E.out];rfl,by rw [E.out];exact HR⟩
         | true=>
          have e:=rd_pi_yes (lt:=lt) (d:=dk) (a:=a') (b:=b') (limit:=lim) (wb:=wb) (wp:=wp) (by rw [<-HRD.out,<-HBI.out];exact HCC.out.symm)
          rw [<-HRD.out] at e
          have hpi:=HPI.out a' b' (by omega) (by omega) r.d2 _ HR.out.srt
          rw [<-e] at hpi
          have HPII:=hid hpi
          clear e hpi
          cases hp2:r.pi.2 with
          | true=>
           have E:=hid ((HDONE.out hp2).symm.trans HE.out)
           go_wp2_with fail
           refine HPII.out.mono ?_
           rw [hp2]
           rintro e w3 ⟨rfl,hS3,hT3⟩
           go_wp2_with fail
           (try simp only [Exit.inBlock,Exit.then]);refine bodyPost_ret (results_none rfl _ _ _) rfl ?_
           rw [<-E.out]
           exact ⟨rfl,hS3,HR.out.touch.trans hT3⟩
          | false=>
           have HP2:=hid hp2
           go_wp2_with fail
           refine HPII.out.mono ?_
           rw [hp2]
           rintro e w3 ⟨rfl,hS3,hT3⟩
           have R3:=hid (HR.out.next hS3 hT3)
           clear hS3 hT3 hp2
           go_wp2_with fail
           go_meet
           exact ⟨HP2.out,R3⟩
        case rest=>
         clear HR c0 c1 hl HDONE HCC HBI
         obtain ⟨HP2,HR⟩:=hcut
         rename World=>wp3
         have c0:=HR.out.box.c0
         have c1:=HR.out.box.c1
         have hl:=HR.out.box.lt
         obtain ⟨ce,hce⟩:∃ce,ce=(decide (a'>0) && !lt r.pi.1[a'-1]! r.pi.1[r.pivot]!):=⟨_,rfl⟩
         have HCE:=hid hce
         clear hce
         go_upto_region 18 with fail
         go_cut [83] (fun s83 wx=>s83 = .bool ce/\Hid (Srd enc k w0 blk off n (.func (.func g) #[] lb) (.func (.func sf) #[] sb) W r.pi.1 wx))
         case first=>
          by_cases ha0:a'=0
          ·have ha0z:decide ((a':Int)>0)=false:=decide_eq_false (by omega)
           have ha1z:¬(0<(a':Int)):=by omega
           have e:ce=false:=by rw [HCE.out];simp [ha0]
           subst e
           clear ha0
           go_wp2_with fail
           go_meet
           exact ⟨rfl,HR⟩
          ·have ha0z:(0:Int)<(a':Int):=by omega
           cases hv:lt r.pi.1[a'-1]! r.pi.1[r.pivot]! with
           | true=>
            have e:ce=false:=by rw [HCE.out,hv];simp
            subst e
            go_wp2_with (go_at_fn g;refine (HR.out.srt.less HL.out _ _ (a'-1) r.pivot (by omega) (by omega) (by omega) rfl).mono ?_;rw [hv];rintro e w1 ⟨rfl,hS1,hT1⟩;have R1:=hid (HR.out.next hS1 hT1);clear hS1 hT1)
            go_meet
            exact ⟨rfl,R1⟩
           | false=>
            have e:ce=true:=by rw [HCE.out,hv];simp;omega
            subst e
            go_wp2_with (go_at_fn g;refine (HR.out.srt.less HL.out _ _ (a'-1) r.pivot (by omega) (by omega) (by omega) rfl).mono ?_;rw [hv];rintro e w1 ⟨rfl,hS1,hT1⟩;have R1:=hid (HR.out.next hS1 hT1);clear hS1 hT1)
            go_meet
            exact ⟨rfl,R1⟩
         case rest=>
          clear HR c0 c1 hl
          obtain ⟨rfl,HR⟩:=hcut
          rename World=>wp4
          have c0:=HR.out.box.c0
          have c1:=HR.out.box.c1
          have hl:=HR.out.box.lt
          have hs3:=HSZ.out.2.2
          have hd3:=HR.out.srt.size
          cases ce with
          | true=>
           obtain ⟨v,hv⟩:∃v,v=partitionEqual lt r.pi.1 a' b' r.pivot:=⟨_,rfl⟩
           have h87:=HCE.out.symm
           simp only [Bool.and_eq_true,decide_eq_true_eq,Bool.not_eq_true'] at h87
           obtain ⟨r1,r2,r3,r4,-⟩:=round_eq hO (partitionEqual_holds lt) h87.1 f7 f8 (show b'<=r.pi.1.size by omega) HB3.out h87.2 (show partitionEqual lt r.pi.1 a' b' r.pivot=(v.1,v.2) by rw [hv])
           have e:=HEQ.out HP2.out HCE.out.symm (by rw [<-hv];exact ⟨r1,r2⟩)
           rw [<-hv] at e
           have E:=hid (e.symm.trans HE.out)
           have hcall:=HPE.out a' b' r.pivot f7 f8 (by omega) r.pi.1 _ HR.out.srt
           rw [<-hv] at hcall
           have HB4:=hid r4
           have HCALL:=hid hcall
           clear hv h87 e hcall r4 r3 hs3 hd3
           go_wp2_with fail
           refine HCALL.out.mono ?_
           rintro e w3 ⟨rfl,hS3,hT3⟩
           have R3:=hid (HR.out.next hS3 hT3)
           clear hS3 hT3
           go_wp2_with fail
           go_roundg (b'-v.1)
           case measure=>omega
           case rel=>exact ⟨v.1,b',r.lim,wb,wp,v.2,rfl,rfl,rfl,rfl,rfl,r2,q2,Nat.le_refl _,by omega,by omega,HB4,E,R3⟩
          | false=>
           obtain ⟨v,hv⟩:∃v,v=partition lt r.pi.1 a' b' r.pivot:=⟨_,rfl⟩
           obtain ⟨r1,r2,r3,r4,r5,r6,r7⟩:=round_part hO (partition_holds lt) f7 f8 (show b'<=r.pi.1.size by omega) HB3.out (show partition lt r.pi.1 a' b' r.pivot=(v.1,v.2.1,v.2.2) by rw [hv])
           have eL:=HLEFT.out HP2.out HCE.out.symm (by rw [<-hv];exact ⟨r1,r2⟩)
           have eR:=HRIGHT.out HP2.out HCE.out.symm (by rw [<-hv];exact ⟨r1,r2⟩)
           rw [<-hv] at eL eR
           have hcall:=HPT.out a' b' r.pivot f7 f8 (by omega) r.pi.1 _ HR.out.srt
           rw [<-hv] at hcall
           have HCALL:=hid hcall
           have HEL:=hid eL
           have HER:=hid eR
           have H4:=hid r4
           have H5:=hid r5
           have H6:=hid r6
           have H7:=hid r7
           obtain ⟨mid,ap,d4⟩:=v
           simp only at r1 r2 r3
           have hs4:d4.size=n:=by omega
           clear hv hcall eL eR r3 r4 r5 r6 r7 hs3 hd3
           go_wp2_with fail
           refine HCALL.out.mono ?_
           rintro e w3 ⟨rfl,hS3,hT3⟩
           have hR3:=HR.out.next hS3 hT3
           have c0:=hR3.box.c0
           have c1:=hR3.box.c1
           have hl:=hR3.box.lt
           have R3:=hid hR3
           clear hS3 hT3 hR3 HCALL HR
           by_cases h4:mid-a'<b'-mid
           ·have h4z:(mid:Int)-(a':Int)<(b':Int)-(mid:Int):=by omega
            have E:=hid ((HEL.out h4).symm.trans HE.out)
            have hpd:=pdq_sorts lt hO d4 a' mid r.lim true true r1 (by omega) H4.out
            have HB5:=hid (H6.out _ hpd.1 hpd.2).1
            have hih:=IH.out a' mid r.lim d4 w3 (by omega) r1 (by omega) (by omega) H4.out R3.out.srt
            have HIH:=hid hih
            clear hpd hih h4
            go_wp2_with fail
            refine HIH.out.mono ?_
            rintro e w4 ⟨rfl,hS4,hT4⟩
            have R4:=hid (R3.out.next hS4 hT4)
            clear hS4 hT4
            go_wp2_with fail
            go_roundg (b'-(mid+1))
            case measure=>omega
            case rel=>exact ⟨mid+1,b',r.lim,_,ap,_,by go_num,rfl,rfl,congrArg Value.bool (Zzv r1 q1),rfl,by omega,q2,Nat.le_refl _,by omega,by omega,HB5,E,R4⟩
           ·have h4z:¬(mid:Int)-(a':Int)<(b':Int)-(mid:Int):=by omega
            have E:=hid ((HER.out h4).symm.trans HE.out)
            have hpd:=pdq_sorts lt hO d4 (mid+1) b' r.lim true true (by omega) (by omega) H5.out
            have HB5:=hid (H7.out _ hpd.1 hpd.2).1
            have hih:=IH.out (mid+1) b' r.lim d4 w3 (by omega) (by omega) (by omega) (by omega) H5.out R3.out.srt
            rw [show ((mid+1:Nat):Int)=(mid:Int)+1 by omega] at hih
            have HIH:=hid hih
            clear hpd hih h4
            go_wp2_with fail
            refine HIH.out.mono ?_
            rintro e w4 ⟨rfl,hS4,hT4⟩
            have R4:=hid (R3.out.next hS4 hT4)
            clear hS4 hT4
            go_wp2_with fail
            go_roundg (mid-a')
            case measure=>omega
            case rel=>exact ⟨a',mid,r.lim,_,ap,_,rfl,rfl,rfl,congrArg Value.bool (Zzv (show mid<=b' by omega) q1),rfl,r1,by omega,Nat.le_refl _,by omega,by omega,HB5,E,R4⟩
end
instance:Inhabited Rt:=⟨⟨⟨0,0,0⟩,0⟩⟩
noncomputable def rtT:TypeInfo:=(Tryz.prog.info? 35).get (by kernel_rfl)
noncomputable def rtE:TypeInfo:=(Tryz.prog.info? 41).get (by kernel_rfl)
theorem rtK (n:Nat) (h2:2<=n):Lib.swapperK n rtE 25=9:=by
 have a:rtE.hasPointers=false:=by kernel_rfl
 have b:rtE.bytes=32:=by kernel_rfl
 have c:(n == 0)=false:=by simp;omega
 have d:(n == 1)=false:=by simp;omega
 unfold Lib.swapperK
 rw [c,d,a,b]
 rfl
theorem Z4i:∀x:Rt,∀v∈Zac x,v.oneCell'=true:=by
 intro x v hv
 simp only [Zac,List.mem_cons,List.not_mem_nil,or_false] at hv
 rcases hv with rfl | rfl | rfl | rfl<;>rfl
theorem Zx2 {α:Type} [Inhabited α] {L:List α} {d:Array α} (h:PermIn 0 L.length L.toArray d):d.toList.Perm L:=by
 obtain ⟨h1,-,h3⟩:=h
 have e1:d.extract 0 L.length=d:=by
  have:L.length=d.size:=by rw [h1];simp
  rw [this]
  simp
 have e2:L.toArray.extract 0 L.length=L.toArray:=by
  have:L.length=L.toArray.size:=by simp
  rw [this]
  simp
 rw [e1,e2] at h3
 simpa using h3
theorem Zqi {α:Type} [Inhabited α] {lt:α->α->Bool} {d:Array α} {n:Nat} (hn:d.size=n) (h:SortedIn lt 0 n d):d.toList.Pairwise fun a b=>lt b a=false:=by
 rw [List.pairwise_iff_getElem]
 intro i j hi hj hij
 simp only [Array.length_toList] at hi hj
 have:=h i j (Nat.zero_le _) hij (by omega)
 rw [getElem!_pos d j hj,getElem!_pos d i hi] at this
 simpa using this
theorem Zo3 {w:World} {B c:Nat} {blk:Nat} {L:List Rt} (h:w.ownsRow B 41 4 (.slice (some ⟨blk,0,none⟩) L.length c) L.length (rcs L)):HoldsK Zac 4 w blk 0 L.toArray:=by
 intro j hj
 have hj2:j<L.length*4:=by simpa using hj
 have e:(rcs L)[j]? = some (flatK Zac 4 L.toArray)[j]! := by
  rw [get_flatK _ _ _ _ (by simpa using hj2)]
  have:=Zcc L (j/4) (j%4) (by omega) (Nat.mod_lt _ (by decide))
  rw [show j/4*4+j%4=j by omega] at this
  rw [this,getElem!_pos L.toArray (j/4) (by simp;omega)]
  have h4:j%4<(Zac L[j/4]).length:=Nat.mod_lt _ (by decide)
  simp only [List.getElem_toArray]
  rw [List.getElem?_eq_getElem h4,getElem!_pos (Zac L[j/4]) (j%4) h4]
 rw [Nat.zero_add]
 exact ⟨(h.cellAt j (by omega)).trans e,h.frozenAt j⟩
theorem Zn0 {w:World} {blk:Nat} {L:List Rt} (h:HoldsK Zac 4 w blk 0 L.toArray) (hl:blk<w.heap.size):Row w (some ⟨blk,0,none⟩) (rcs L):=by
 refine .inr ⟨blk,0,rfl,hl,fun j u hu => ?_⟩
 have hj2:j<L.length*4:=by rw [<-Zaz];exact (List.getElem?_eq_some_iff.1 hu).1
 have:=(h j (by simpa using hj2)).1
 rw [this]
 rw [get_flatK _ _ _ _ (by simpa using hj2)]
 have e:=Zcc L (j/4) (j%4) (by omega) (Nat.mod_lt _ (by decide))
 rw [show j/4*4+j%4=j by omega,hu] at e
 have h4:j%4<(Zac L[j/4]).length:=Nat.mod_lt _ (by decide)
 rw [getElem!_pos L.toArray (j/4) (by simp;omega)]
 simp only [List.getElem_toArray]
 rw [List.getElem?_eq_getElem h4] at e
 show some (Zac L[j/4])[j%4]! = _
 rw [getElem!_pos (Zac L[j/4]) (j%4) h4]
 exact e.symm
theorem Zuo (g:Nat) (lb:Array Value) (lt:Rt->Rt->Bool) (hO:SWO lt) (eg:∀args w,(callFunc g args).run Tryz.prog w = .ok (.enter g args) w) (blk c:Nat) (L:List Rt) (h2:2<=L.length) (hn:L.length<4611686018427387904) (w:World)
 (hH:HoldsK Zac 4 w blk 0 L.toArray) (hl:blk<w.heap.size) (hL:Zdh g lb Zac 4 lt w blk 0 L.length) :
 Calls Tryz.prog 95 #[.iface 35 (.slice (some ⟨blk,0,none⟩) L.length c),.func (.func g) #[] lb] w fun e w'=>e = .returned (.tuple #[]) /\
  ∃M:List Rt,M.Perm L/\M.Pairwise (fun a b=>lt b a=false)/\HoldsK Zac 4 w' blk 0 M.toArray/\Touch (· = blk) w w':=by
 refine Any.sort_Slice_of_pdq (P:=Tryz.prog) (ρ:=Tryz.laysGg6_ren) Tryz.laysGg6 35 41 rtT rtE (by kernel_rfl) (by kernel_rfl) (by kernel_rfl) (by kernel_rfl) 25 (fun _=>by kernel_rfl) (some ⟨blk,0,none⟩) L.length c hn 155 (by rw [rtK _ h2];kernel_rfl) (.func g) #[] lb w _ ?_
 have hB:sliceBound Tryz.prog 41 rtE 25 (some ⟨blk,0,none⟩) L.length c = #[.slice (some ⟨blk,0,none⟩) L.length c,typeHandle Tryz.prog 41]:=by
  unfold sliceBound;rw [if_neg (swapperK_gt _ _ _ h2)]
 rw [hB]
 have hlim:Lib.bitLen L.length<4611686018427387904:=Nat.lt_of_le_of_lt (Lib.bitLen_le L.length 62 (by omega) (by omega)) (by omega)
 have hsw:=swapSwapsK_of_literal (P:=Tryz.prog) (α:=Rt) false 155 (fun args W=>run_callFunc_extern Tryz.func155 (by kernel_rfl) (by kernel_rfl) (by kernel_rfl) (e:=Extern.ReflectliteSwapper.swap false) (by kernel_rfl) args W)
  41 rtE (by kernel_rfl) Zac 4 (fun _=>rfl) (by kernel_rfl) (fun _=>by kernel_rfl) Z4i blk 0 L.length c
 have hw1:RowKit.Below w.heap.size w (sliceWorld Tryz.prog Tryz.laysGg6_ren 35 (some ⟨blk,0,none⟩) L.length c w):=by unfold sliceWorld;go_grown
 have S:=(Srt.start (n:=L.length) hH hl (by simp)).below hw1
 refine (Z5m (enc:=Zac) (k:=4) (fun _=>rfl) hO eg hL hsw hn (L.length+1) 0 L.length (Lib.bitLen L.length) L.toArray _ (by omega) (Nat.zero_le _) (Nat.le_refl _) hlim (.inl rfl) S).mono ?_
 rintro e w' ⟨rfl,hS,hT⟩
 have h:=pdq_sorts lt hO L.toArray 0 L.length (Lib.bitLen L.length) true true (Nat.zero_le _) (by simp) (.inl rfl)
 exact ⟨rfl,_,Zx2 h.1,Zqi (by rw [h.1.1];simp) h.2,hS.holds,hS.touch⟩
theorem Zqk (g:Nat) (lb:Array Value) (p:Option Addr) (c n:Nat) (h1:n<=1) (w:World) :
 Calls Tryz.prog 95 #[.iface 35 (.slice p n c),.func (.func g) #[] lb] w fun e w'=>e = .returned (.tuple #[])/\RowKit.Below w.heap.size w w':=by
 have hgrow:∀w' os,w'=grow w os->RowKit.Below w.heap.size w w':=by
  rintro w' os rfl
  refine ⟨rfl,rfl,rfl,by rw [size_grow];omega,fun j hj => ?_⟩
  show (_++os)[j]? = _
  rw [Array.getElem?_append_left hj]
 rcases (show n=0\/n=1 by omega) with rfl | rfl
 ·refine (Any.sort_Slice_tiny (P:=Tryz.prog) (ρ:=Tryz.laysGg6_ren) Tryz.laysGg6 35 41 rtT rtE (by kernel_rfl) (by kernel_rfl) (by kernel_rfl) (by kernel_rfl) 25 (fun _=>by kernel_rfl) p 0 c h1 147 (by kernel_rfl) (.func g) #[] lb w).mono ?_
  rintro e w' ⟨rfl,os,h⟩
  exact ⟨rfl,hgrow w' os h⟩
 ·refine (Any.sort_Slice_tiny (P:=Tryz.prog) (ρ:=Tryz.laysGg6_ren) Tryz.laysGg6 35 41 rtT rtE (by kernel_rfl) (by kernel_rfl) (by kernel_rfl) (by kernel_rfl) 25 (fun _=>by kernel_rfl) p 1 c h1 148 (by kernel_rfl) (.func g) #[] lb w).mono ?_
  rintro e w' ⟨rfl,os,h⟩
  exact ⟨rfl,hgrow w' os h⟩
set_option maxRecDepth 100000 in
theorem Zr0 (bx blk c n:Nat) (hn:n<1000000000) (w0:World) (hc:w0.cell? ⟨bx,0,none⟩=some (.slice (some ⟨blk,0,none⟩) n c)) (hne:bx≠blk) :
 Zdh 96 #[.pointer (some ⟨bx,0,none⟩)] Zac 4 ltR w0 blk 0 n:=by
 intro W d S i j hi hj
 have hb0:bx<w0.heap.size:=World.block_lt_of_cell? w0 _ hc
 have b0:=S.touch.cell hc hne
 have hbl:bx<W.heap.size:=Nat.lt_of_lt_of_le hb0 S.touch.size
 have hl:=S.lt2
 have hs:=S.size
 have x0:=(S.holds.cell (i:=i) (c:=0) (by omega) (by decide)).1
 have x1:=(S.holds.cell (i:=i) (c:=1) (by omega) (by decide)).1
 have x2:=(S.holds.cell (i:=i) (c:=2) (by omega) (by decide)).1
 have y0:=(S.holds.cell (i:=j) (c:=0) (by omega) (by decide)).1
 have y1:=(S.holds.cell (i:=j) (c:=1) (by omega) (by decide)).1
 have y2:=(S.holds.cell (i:=j) (c:=2) (by omega) (by decide)).1
 have HL:=Zfg d[i]!.k.h d[i]!.k.l d[i]!.k.n d[j]!.k.h d[j]!.k.l d[j]!.k.n
 change Zak _ _ _ (.bool (ltR d[i]! d[j]!)) at HL
 generalize ltR d[i]! d[j]! = ls at *
 change W.cell? _=some (.int .u64 (d[i]!.k.h:Int)) at x0
 change W.cell? _=some (.int .u64 (d[i]!.k.l:Int)) at x1
 change W.cell? _=some (.int .i64 d[i]!.k.n) at x2
 change W.cell? _=some (.int .u64 (d[j]!.k.h:Int)) at y0
 change W.cell? _=some (.int .u64 (d[j]!.k.l:Int)) at y1
 change W.cell? _=some (.int .i64 d[j]!.k.n) at y2
 generalize d[i]!.k=q at *
 generalize d[j]!.k=r at *
 rw [Nat.zero_add] at x0 x1 x2 y0 y1 y2
 rw [Nat.add_zero] at x0 y0
 have HL:=hid HL
 have i1:(0:Int)<=(i:Int):=by omega
 have i2:(i:Int)<(n:Int):=by omega
 have j1:(0:Int)<=(j:Int):=by omega
 have j2:(j:Int)<(n:Int):=by omega
 clear S hc hb0
 show Calls _ _ #[.int .i64 (i:Int),.int .i64 (j:Int),.pointer (some ⟨bx,0,none⟩)] _ _
 obtain ⟨w,hw⟩:∃w,w=W:=⟨_,rfl⟩
 subst hw
 go_enter Tryz.func96,Tryz.ntmps96
 go_wp2_with fail
 have kg:=Zaa
 refine Zab (by kernel_rfl) (by kernel_rfl) ?_
 repeat (any_goals (first|go_big_quiet_step ((exact HL.out.at _ _ _))|quiet_step ((exact HL.out.at _ _ _))))
 refine wpQuiet_nil ?_
 clear kg
 intro w1 hb1
 obtain ⟨hc1,hf1⟩:=Zaf hb1
 have hw1:Below w.heap.size w w1:=by
  refine Below.trans ?_ (hb1.mono ?_)
  ·go_grown
  ·first|omega|go_size
 go_wp2
 go_ret
 exact ⟨rfl,hw1⟩
set_option maxRecDepth 100000 in
theorem Z0q (t g:Nat) (v:Value) (T:Tab) (m:Int) (w:World) (H:CT w t g v T m) (h:Num T) (hf:T.st.length<1048576) (hk:(Zad (Zae T)).Nodup) :
 Calls Tryz.prog 72 #[.pointer (some ⟨t,0,none⟩)] w fun e w'=>∃p c M,e = .returned (.slice p M.length c)/\Row w' p (rcs M)/\M.Perm (Zae T)/\Sorted M/\RowKit.Below w.heap.size w w':=by
 have hl:=H.tb.tlt
 have HLI:=hid (Zs5 t g v T m w H h hf)
 have hLn:(Zae T).length<1000000000:=by
  have h1:=Zrn T (fun i hi=>(H.tb.bk i hi).four) T.B.length (Nat.le_refl _)
  rw [List.take_length] at h1
  have h2:=h.hi
  unfold Zae
  rw [List.length_append]
  omega
 obtain ⟨L,hL⟩:∃L,L=Zae T:=⟨_,rfl⟩
 rw [<-hL] at HLI hk hLn ⊢
 clear H h hf hL
 have HK:=hid hk
 clear hk
 go_enter Tryz.func72,Tryz.ntmps72
 go_wp2_with fail
 refine HLI.out.mono ?_
 rintro e w1 ⟨p,c,rfl,hown,hb1⟩
 have eg:=enters_of Tryz.func96 (by kernel_rfl) rfl
 have hz1:=hb1.size
 have hS:∀W,RowKit.Below w1.heap.size w1 W->w1.heap.size<W.heap.size->W.cell? ⟨w1.heap.size,0,none⟩=some (.slice p L.length c) ->
  Calls Tryz.prog 95 #[.iface 35 (.slice p L.length c),.func (.func 96) #[] #[.pointer (some ⟨w1.heap.size,0,none⟩)]] W fun e w'=>e = .returned (.tuple #[])/\∃M:List Rt,M.length=L.length/\M.Perm L/\Sorted M/\Row w' p (rcs M)/\RowKit.Below w.heap.size W w'/\w'.cell? ⟨w1.heap.size,0,none⟩=some (.slice p L.length c):=by
  intro W hW hz hc
  have hownW:=own_below hown hW
  by_cases h2:2<=L.length
  ·rcases hown.2 with ⟨e,h0⟩ | ⟨blk,cap',cur,e,hB,-,-,-,-,-⟩
   ·omega
   ·injection e with e1 e2 e3
    subst e1
    have hbk:blk<w1.heap.size:=(hown.lt blk rfl).2
    refine (Zuo _ _ ltR Zq4 eg blk c L h2 (by omega) W (Zo3 hownW) (by omega) (Zr0 w1.heap.size blk c L.length hLn W hc (by omega))).mono ?_
    rintro e w' ⟨rfl,M,m1,m2,m3,m4⟩
    refine ⟨rfl,M,m1.length_eq,m1,Zl9 ((Za6 m1).nodup_iff.2 HK.out) m2,Zn0 m3 (by have:=m4.size;omega),m4.below (by omega) (fun j hj=>by omega),m4.cell hc (by show w1.heap.size≠blk;omega)⟩
  ·refine (Zqk _ _ p c L.length (by omega) W).mono ?_
   rintro e w' ⟨rfl,hb⟩
   have hs:Sorted L:=by
    rcases L with _ | ⟨a,_ | ⟨b,L⟩⟩
    ·exact List.Pairwise.nil
    ·exact List.pairwise_singleton _ _
    ·simp at h2
   exact ⟨rfl,L,rfl,List.Perm.refl _,hs,(Row.of_own hownW).below hb,hb.mono (by have:=hW.size;omega),(hb.cell (p:=⟨w1.heap.size,0,none⟩) hz).trans hc⟩
 have HS:=hid hS
 have HOWN:=hid hown
 clear hS hown eg
 go_wp2_with fail
 refine (HS.out _ (by go_grown) (by simp) (by simp [go_sem])).mono ?_
 rintro e w2 ⟨rfl,M,m1,m2,m3,m4,hb2,b0⟩
 have hbl:w1.heap.size<w2.heap.size:=World.block_lt_of_cell? w2 _ b0
 have HM:=hid (And.intro m1 (And.intro m2 (And.intro m3 m4)))
 have hw2:RowKit.Below w.heap.size w w2:=by
  refine RowKit.Below.trans ?_ hb2
  exact hb1.trans (by go_grown)
 clear m1 m2 m3 m4 hb2
 go_wp2
 go_ret
 obtain ⟨m1,m2,m3,m4⟩:=HM.out
 exact ⟨p,c,M,by rw [m1];rfl,m4,m2,m3,hw2⟩
end Go.Proofs.YtgfjmgebecmbiaaGreat
