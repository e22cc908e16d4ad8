import Derived.Test.YtgfjmgebecmbiaaGreatStb4
import Derived.Test.YtgfjmgebecmbiaaGreatW12m
set_option linter.unusedSimpArgs false
set_option linter.unusedVariables false
set_option maxHeartbeats 4000000
namespace Go.Proofs.YtgfjmgebecmbiaaGreat
open Lib(hid)
section
open Go.RowKit Go.Sort M
section
variable {α:Type} [Inhabited α] {enc:α->List Value} {k:Nat} {w0:World} {blk off n:Nat} {lt:α->α->Bool} {g:Nat} {lb:Array Value} {sf:Nat} {sb:Array Value}
def Z8z (enc:α->List Value) (k:Nat) (w0:World) (blk off n:Nat) (lt:α->α->Bool) (g:Nat) (lb:Array Value) (sf:Nat) (sb:Array Value) (f:Nat):Prop:=
 ∀(A U V B:List α) (a m b:Nat),b-a<=f->a=A.length->m=A.length+U.length->b=m+V.length->0<U.length->0<V.length->A.length+U.length+V.length+B.length=n->Asc lt U->Asc lt V ->
  ∀W:World,Srt enc k w0 blk off n (A++(U++(V++B))).toArray W ->
  Calls Tryz.prog 187 #[.agg #[.func (.func g) #[] lb,.func (.func sf) #[] sb],.int .i64 (a:Int),.int .i64 (m:Int),.int .i64 (b:Int)] W fun e w'=>
   e = .returned (.tuple #[])/\∃R,Asc lt R/\Stb lt (U++V) R/\Srt enc k w0 blk off n (A++(R++B)).toArray w'/\Touch (· = blk) W w'
set_option maxRecDepth 100000 in
theorem Z1d (hO:SWO lt) (hk:∀x,(enc x).length=k) (eg:∀args w,(callFunc g args).run Tryz.prog w = .ok (.enter g args) w) (hL:Zdh g lb enc k lt w0 blk off n) (hS:SwapSwapsK Tryz.prog sf sb enc k blk off n) (hn:n<2305843009213693952)
 (f:Nat) (IH:Z8z enc k w0 blk off n lt g lb sf sb f)
 (A U V B:List α) (a m b:Nat) (hf:b-a<=f+1) (ha:a=A.length) (hm:m=A.length+U.length) (hb:b=m+V.length) (hu2:2<=U.length) (hv2:2<=V.length) (hl:A.length+U.length+V.length+B.length=n) (hU:Asc lt U) (hV:Asc lt V) (W:World) (H:Srt enc k w0 blk off n (A++(U++(V++B))).toArray W) :
 Calls Tryz.prog 187 #[.agg #[.func (.func g) #[] lb,.func (.func sf) #[] sb],.int .i64 (a:Int),.int .i64 (m:Int),.int .i64 (b:Int)] W fun e w'=>
  e = .returned (.tuple #[])/\∃R,Asc lt R/\Stb lt (U++V) R/\Srt enc k w0 blk off n (A++(R++B)).toArray w'/\Touch (· = blk) W w':=by
 have HSW:=hid hS
 have HL:=hid hL
 have HIH:=hid IH
 clear hS hL IH
 obtain ⟨L,hLe⟩:∃L,L=A++(U++(V++B)):=⟨_,rfl⟩
 rw [<-hLe] at H
 obtain ⟨mid,hmid⟩:∃mid,mid=(a+b)/2:=⟨_,rfl⟩
 obtain ⟨lo,r0,hw⟩:∃lo r0,(mid<m/\lo=mid+m-b/\r0=mid)\/(m<=mid/\lo=a/\r0=m):=by
  by_cases h:mid<m
  ·exact ⟨_,_,.inl ⟨h,rfl,rfl⟩⟩
  ·exact ⟨_,_,.inr ⟨by omega,rfl,rfl⟩⟩
 obtain ⟨nn,hnn⟩:∃nn,nn=mid+m:=⟨_,rfl⟩
 have Y:Sy a m b mid lo r0:=⟨by omega,by omega,hmid,hw⟩
 have mono:=hid (Z6i hO hLe hU hV Y ha hm hb)
 have b1:a+2<=m:=by omega
 have b2:m+2<=b:=by omega
 have b3:b<=n:=by omega
 have b4:nn<2*n:=by omega
 have b5:lo<=r0:=by omega
 have b6:r0<=n:=by omega
 have b8:mid<n:=by omega
 have t1:(((m:Int)-(a:Int)) == 1)=false:=by
  rw [beq_eq_false_iff_ne]
  omega
 have t2:(((b:Int)-(m:Int)) == 1)=false:=by
  rw [beq_eq_false_iff_ne]
  omega
 have HF:=hid (And.intro hLe (And.intro ha (And.intro hm (And.intro hb (And.intro hl (And.intro hU (And.intro hV (And.intro hmid (And.intro hw (And.intro hnn hf))))))))))
 have HB:=hid (Bs.start (f3 lt L (mid+m-1)) b5)
 have HY:=hid Y
 clear hLe ha hm hb hl hU hV hmid hw hnn hf Y hu2 hv2
 go_enter Tryz.func187,Tryz.ntmps187
 go_upto_if 106 with fail
 have R:=hid (Srd.start (x := .func (.func g) #[] lb) (y := .func (.func sf) #[] sb) H 183)
 clear H
 go_cut [16,17,18,19] (fun s16 s17 s18 s19 wx=>s16 = .int .i64 (mid:Int)/\s17 = .int .i64 (nn:Int)/\s18 = .int .i64 (lo:Int)/\s19 = .int .i64 (r0:Int)/\Hid (Srd enc k w0 blk off n (.func (.func g) #[] lb) (.func (.func sf) #[] sb) W L.toArray wx))
 case first=>
  obtain ⟨-,-,-,-,-,-,-,e1,e2,e3,-⟩:=HF.out
  by_cases h:mid<m
  ·have hi:((a:Int)+(b:Int))/2<(m:Int):=by omega
   go_wp2_with fail
   go_meet
   exact ⟨congrArg (Value.int .i64) (by omega),congrArg (Value.int .i64) (by omega),congrArg (Value.int .i64) (by omega),congrArg (Value.int .i64) (by omega),R⟩
  ·have hi:¬((a:Int)+(b:Int))/2<(m:Int):=by omega
   go_wp2_with fail
   go_meet
   exact ⟨congrArg (Value.int .i64) (by omega),congrArg (Value.int .i64) (by omega),congrArg (Value.int .i64) (by omega),congrArg (Value.int .i64) (by omega),R⟩
 case rest=>
  clear R
  obtain ⟨rfl,rfl,rfl,rfl,HR⟩:=hcut
  rename World=>wo
  go_wp2_with fail
  go_loopg [18,19] (r0-lo) (fun kx s18 s19 wr=>∃(i j:Nat),s18 = .int .i64 (i:Int)/\s19 = .int .i64 (j:Int)/\j-i<=kx/\lo<=i/\i<=j/\j<=r0/\Hid (Bs (f3 lt L (mid+m-1)) lo r0 i j)/\Hid (Srd enc k w0 blk off n (.func (.func g) #[] lb) (.func (.func sf) #[] sb) W L.toArray wr))
  case atStart=>exact ⟨lo,r0,rfl,rfl,by omega,by omega,by omega,by omega,HB,HR⟩
  case round=>
   clear HR HB
   obtain ⟨i,j,rfl,rfl,h1,h2,h3,h4,HB,HR⟩:=hrel
   have c0:=HR.out.box.c0
   have c1:=HR.out.box.c1
   have hlt:=HR.out.box.lt
   by_cases hi:i<j
   ·obtain ⟨hl1,z1,z2⟩:Hid (Calls Tryz.prog g (#[.int .i64 ((nn:Int)-1-((i:Int)+(j:Int))/2),.int .i64 (((i:Int)+(j:Int))/2)]++lb) wr fun e w'=>e = .returned (.bool (!f3 lt L (mid+m-1) ((i+j)/2)))/\Srt enc k w0 blk off n L.toArray w'/\Touch (· = blk) wr w')/\(i+j)/2<nn/\1<=nn:=by
     obtain ⟨-,-,-,-,-,-,-,e1,e2,e3,-⟩:=HF.out
     have q:=HY.out.in1 (c:=(i+j)/2) (by omega) (by omega)
     refine ⟨?_,by omega,by omega⟩
     unfold f3
     rw [Bool.not_not]
     exact hid (HR.out.srt.less HL.out _ _ (mid+m-1-(i+j)/2) ((i+j)/2) (by omega) (by omega) (by omega) (by omega))
    cases hv:f3 lt L (mid+m-1) ((i+j)/2) with
    | true=>
     rw [hv] at hl1
     have HB2:=hid (HB.out.up mono.out (h:=(i+j)/2) (by omega) (by omega) hv)
     go_wp2_with fail
     refine hl1.out.mono ?_
     rintro e w1 ⟨rfl,hS1,hT1⟩
     have R1:=hid (HR.out.next hS1 hT1)
     clear hS1 hT1
     go_wp2
     go_roundg (j-((i+j)/2+1))
     case measure=>omega
     case rel=>exact ⟨(i+j)/2+1,j,by go_num,rfl,by omega,by omega,by omega,by omega,HB2,R1⟩
    | false=>
     rw [hv] at hl1
     have HB2:=hid (HB.out.down mono.out (h:=(i+j)/2) (by omega) (by omega) hv)
     go_wp2_with fail
     refine hl1.out.mono ?_
     rintro e w1 ⟨rfl,hS1,hT1⟩
     have R1:=hid (HR.out.next hS1 hT1)
     clear hS1 hT1
     go_wp2
     go_roundg ((i+j)/2-i)
     case measure=>omega
     case rel=>exact ⟨i,(i+j)/2,rfl,by go_num,by omega,by omega,by omega,by omega,HB2,R1⟩
   ·obtain rfl:j=i:=by omega
    obtain ⟨en,U1,U2,V1,V2,g1,g2,g3,g4,g5,g6,HG⟩:∃(en:Nat) (U1 U2 V1 V2:List α),j<=nn/\a<=j/\j<=m/\m<=en/\en<=b/\j<=mid/\Hid (en=nn-j/\U=U1++U2/\V=V1++V2/\a+U1.length=j/\j+U2.length=m/\m+V1.length=en/\en+V2.length=b/\(∀u∈U1,∀v∈V2,lt v u=false)/\(∀u∈U2,∀v∈V1,lt v u=true)/\mid+U2.length=en):=by
     obtain ⟨p1,p2,p3,p4,p5,p6,p7,e1,e2,e3,-⟩:=HF.out
     obtain ⟨⟨q1,q2,q3,q4,q5⟩,q6,q7⟩:=Zwx hO p1 p6 p7 HY.out p2 p3 p4 HB.out
     refine ⟨nn-j,U.take (j-a),U.drop (j-a),V.take (mid+m-j-m),V.drop (mid+m-j-m),by omega,by omega,by omega,by omega,by omega,by omega,hid ⟨rfl,(List.take_append_drop _ _).symm,(List.take_append_drop _ _).symm,?_,?_,?_,?_,q6,q7,?_⟩⟩<;>simp only [List.length_take,List.length_drop]<;>omega
    clear mono HB hi h1 h2 h3 h4
    rename World=>wo
    obtain ⟨q1,hq1⟩:∃q1:Bool,q1=(decide (j<m)&&decide (m<en)):=⟨_,rfl⟩
    have Q1:=hid hq1
    clear hq1
    go_upto_region 40 with fail
    go_cut [22,145] (fun s22 s145 wx=>s22 = .int .i64 (en:Int)/\s145 = .bool q1/\Hid (Srd enc k w0 blk off n (.func (.func g) #[] lb) (.func (.func sf) #[] sb) W L.toArray wx))
    case first=>
     have e1:(nn:Int)-(j:Int)=(en:Int):=by have:=HG.out.1;omega
     have hd:((q1:Bool)=(decide (j<m)&&decide (m<en))):=Q1.out
     by_cases h1:j<m
     ·by_cases h2:m<en
      ·have hq:q1=true:=by rw [hd];simp [h1,h2]
       clear hd
       go_wp2_with fail
       go_meet
       exact ⟨congrArg (Value.int .i64) e1,congrArg Value.bool hq.symm,HR⟩
      ·have hq:q1=false:=by rw [hd];simp [h2]
       clear hd
       go_wp2_with fail
       go_meet
       exact ⟨congrArg (Value.int .i64) e1,congrArg Value.bool hq.symm,HR⟩
     ·have hq:q1=false:=by rw [hd];simp [h1]
      clear hd
      go_wp2_with fail
      go_meet
      exact ⟨congrArg (Value.int .i64) e1,congrArg Value.bool hq.symm,HR⟩
    case rest=>
     clear HR
     obtain ⟨rfl,rfl,HR⟩:=hcut
     rename World=>wc
     go_upto_if 145 with fail
     go_cut [] (fun wx=>Hid (Srd enc k w0 blk off n (.func (.func g) #[] lb) (.func (.func sf) #[] sb) W (A++(U1++(V1++(U2++(V2++B))))).toArray wx))
     case first=>
      have c0:=HR.out.box.c0
      have c1:=HR.out.box.c1
      have hlt:=HR.out.box.lt
      obtain ⟨e1,e2,e3,e4,e5,e6,e7,-,-,-⟩:=HG.out
      obtain ⟨p1,p2,p3,p4,p5,-⟩:=HF.out
      have hd:((q1:Bool)=(decide (j<m)&&decide (m<en))):=Q1.out
      have eL:L=(A++U1)++(U2++(V1++(V2++B))):=by rw [p1,e2,e3];simp
      have eG:A++(U1++(V1++(U2++(V2++B))))=(A++U1)++(V1++(U2++(V2++B))):=by simp
      have lU:U.length=U1.length+U2.length:=by rw [e2];simp
      have lV:V.length=V1.length+V2.length:=by rw [e3];simp
      cases q1 with
      | true=>
       have hh:j<m/\m<en:=by
        have:=hd.symm
        simpa using this
       have hr:=HR.out.srt
       rw [eL] at hr
       have hc:=Zuv (g:=g) (lb:=lb) hk HSW.out (by omega) (A++U1) U2 V1 (V2++B) j m en (by simp only [List.length_append];omega) (by simp only [List.length_append];omega) (by omega) (by omega) (by omega) (by simp only [List.length_append];omega) wc hr
       rw [<-eG] at hc
       have hc:=hid hc
       clear e1 e2 e3 e4 e5 e6 e7 p1 p2 p3 p4 p5 hd eL eG hr hh lU lV
       go_wp2_with fail
       refine hc.out.mono ?_
       rintro e w1 ⟨rfl,hS1,hT1⟩
       have R1:=hid (HR.out.next hS1 hT1)
       clear hS1 hT1
       go_wp2
       go_meet
       exact R1
      | false=>
       have hh:¬j<m\/¬m<en:=by
        have:=hd.symm
        simp only [Bool.and_eq_false_iff,decide_eq_false_iff_not] at this
        exact this
       have eq:L=(A++U1)++(V1++(U2++(V2++B))):=by
        rw [eL]
        rcases hh with hh | hh
        ·obtain rfl:=List.eq_nil_of_length_eq_zero (l:=U2) (by omega)
         simp
        ·obtain rfl:=List.eq_nil_of_length_eq_zero (l:=V1) (by omega)
         simp
       have hr:=HR.out
       rw [eq,<-eG] at hr
       have HR2:=hid hr
       clear e1 e2 e3 e4 e5 e6 e7 p1 p2 p3 p4 p5 hd eL eG hr hh lU lV eq
       go_wp2_with fail
       go_meet
       exact HR2
     case rest=>
      clear HR Q1
      have HR:=hcut
      clear hcut
      rename World=>wd
      obtain ⟨q2,hq2⟩:∃q2:Bool,q2=(decide (a<j)&&decide (j<mid)):=⟨_,rfl⟩
      have Q2:=hid hq2
      clear hq2
      go_upto_region 42 with fail
      go_cut [158] (fun s158 wx=>s158 = .bool q2/\Hid (Srd enc k w0 blk off n (.func (.func g) #[] lb) (.func (.func sf) #[] sb) W (A++(U1++(V1++(U2++(V2++B))))).toArray wx))
      case first=>
       have hd:((q2:Bool)=(decide (a<j)&&decide (j<mid))):=Q2.out
       by_cases h1:a<j
       ·by_cases h2:j<mid
        ·have hq:q2=true:=by rw [hd];simp [h1,h2]
         clear hd
         go_wp2_with fail
         go_meet
         exact ⟨congrArg Value.bool hq.symm,HR⟩
        ·have hq:q2=false:=by rw [hd];simp [h2]
         clear hd
         go_wp2_with fail
         go_meet
         exact ⟨congrArg Value.bool hq.symm,HR⟩
       ·have hq:q2=false:=by rw [hd];simp [h1]
        clear hd
        go_wp2_with fail
        go_meet
        exact ⟨congrArg Value.bool hq.symm,HR⟩
      case rest=>
       clear HR
       obtain ⟨rfl,HR⟩:=hcut
       rename World=>wc
       go_upto_if 158 with fail
       go_cut [] (fun wx=>∃R1,Hid (Asc lt R1/\Stb lt (U1++V1) R1)/\Hid (Srd enc k w0 blk off n (.func (.func g) #[] lb) (.func (.func sf) #[] sb) W (A++(R1++(U2++(V2++B)))).toArray wx))
       case first=>
        have c0:=HR.out.box.c0
        have c1:=HR.out.box.c1
        have hlt:=HR.out.box.lt
        obtain ⟨e1,e2,e3,e4,e5,e6,e7,-,-,e8⟩:=HG.out
        obtain ⟨p1,p2,p3,p4,p5,p6,p7,p8,p9,p10,p11⟩:=HF.out
        have hd:((q2:Bool)=(decide (a<j)&&decide (j<mid))):=Q2.out
        have lU:U.length=U1.length+U2.length:=by rw [e2];simp
        have lV:V.length=V1.length+V2.length:=by rw [e3];simp
        rw [e2] at p6
        rw [e3] at p7
        have s1:=(Zax.1 p6).1
        have s2:=(Zax.1 p7).1
        cases q2 with
        | true=>
         have hh:a<j/\j<mid:=by
          have:=hd.symm
          simpa using this
         have hc:=hid (HIH.out A U1 V1 (U2++(V2++B)) a j mid (by omega) p2 (by omega) (by omega) (by omega) (by omega) (by simp only [List.length_append];omega) s1 s2 wc HR.out.srt)
         clear e1 e2 e3 e4 e5 e6 e7 e8 p1 p2 p3 p4 p5 p6 p7 p8 p9 p10 p11 hd hh lU lV s1 s2
         go_wp2_with fail
         refine hc.out.mono ?_
         rintro e w1 ⟨rfl,R1,a1,a2,hS1,hT1⟩
         have HA:=hid (And.intro a1 a2)
         have HR1:=hid (HR.out.next hS1 hT1)
         clear hS1 hT1 a1 a2
         go_wp2
         go_meet
         exact ⟨R1,HA,HR1⟩
        | false=>
         have hh:¬a<j\/¬j<mid:=by
          have:=hd.symm
          simp only [Bool.and_eq_false_iff,decide_eq_false_iff_not] at this
          exact this
         have eq:∃R1,Hid (Asc lt R1/\Stb lt (U1++V1) R1)/\Hid (Srd enc k w0 blk off n (.func (.func g) #[] lb) (.func (.func sf) #[] sb) W (A++(R1++(U2++(V2++B)))).toArray wc):=by
          have hr:=HR.out
          rcases hh with hh | hh
          ·obtain rfl:=List.eq_nil_of_length_eq_zero (l:=U1) (by omega)
           exact ⟨V1,hid ⟨s2,by simpa using Stb.refl _⟩,hid (by simpa using hr)⟩
          ·obtain rfl:=List.eq_nil_of_length_eq_zero (l:=V1) (by omega)
           exact ⟨U1,hid ⟨s1,by simpa using Stb.refl _⟩,hid (by simpa using hr)⟩
         clear e1 e2 e3 e4 e5 e6 e7 e8 p1 p2 p3 p4 p5 p6 p7 p8 p9 p10 p11 hd hh lU lV s1 s2
         go_wp2_with fail
         go_meet
         exact eq
       case rest=>
        clear HR Q2
        obtain ⟨R1,HA,HR⟩:=hcut
        rename World=>wd
        obtain ⟨q3,hq3⟩:∃q3:Bool,q3=(decide (mid<en)&&decide (en<b)):=⟨_,rfl⟩
        have Q3:=hid hq3
        clear hq3
        go_upto_region 44 with fail
        go_cut [171] (fun s171 wx=>s171 = .bool q3/\Hid (Srd enc k w0 blk off n (.func (.func g) #[] lb) (.func (.func sf) #[] sb) W (A++(R1++(U2++(V2++B)))).toArray wx))
        case first=>
         have hd:((q3:Bool)=(decide (mid<en)&&decide (en<b))):=Q3.out
         by_cases h1:mid<en
         ·by_cases h2:en<b
          ·have hq:q3=true:=by rw [hd];simp [h1,h2]
           clear hd
           go_wp2_with fail
           go_meet
           exact ⟨congrArg Value.bool hq.symm,HR⟩
          ·have hq:q3=false:=by rw [hd];simp [h2]
           clear hd
           go_wp2_with fail
           go_meet
           exact ⟨congrArg Value.bool hq.symm,HR⟩
         ·have hq:q3=false:=by rw [hd];simp [h1]
          clear hd
          go_wp2_with fail
          go_meet
          exact ⟨congrArg Value.bool hq.symm,HR⟩
        case rest=>
         clear HR
         obtain ⟨rfl,HR⟩:=hcut
         rename World=>wc
         have c0:=HR.out.box.c0
         have c1:=HR.out.box.c1
         have hlt:=HR.out.box.lt
         obtain ⟨e1,e2,e3,e4,e5,e6,e7,e8,e9,e10⟩:=HG.out
         obtain ⟨p1,p2,p3,p4,p5,p6,p7,p8,p9,p10,p11⟩:=HF.out
         have hd:((q3:Bool)=(decide (mid<en)&&decide (en<b))):=Q3.out
         have lU:U.length=U1.length+U2.length:=by rw [e2];simp
         have lV:V.length=V1.length+V2.length:=by rw [e3];simp
         have lR:U1.length+V1.length=R1.length:=by have:=HA.out.2.len;simpa using this
         rw [e2] at p6
         rw [e3] at p7
         have s1:=(Zax.1 p6).2.1
         have s2:=(Zax.1 p7).2.1
         have fin:Hid (∀R2,Asc lt R2->Stb lt (U2++V2) R2->Asc lt (R1++R2)/\Stb lt (U++V) (R1++R2)):=hid fun R2 a2 b2=>by
          rw [e2,e3]
          exact Zl6 hO p6 p7 e8 e9 HA.out.2 b2 HA.out.1 a2
         cases q3 with
         | true=>
          have hh:mid<en/\en<b:=by
           have:=hd.symm
           simpa using this
          have hr:=HR.out.srt
          rw [<-List.append_assoc] at hr
          have hc:=hid (HIH.out (A++R1) U2 V2 B mid en b (by omega) (by simp only [List.length_append];omega) (by simp only [List.length_append];omega) (by omega) (by omega) (by omega) (by simp only [List.length_append];omega) s1 s2 wc hr)
          clear e1 e2 e3 e4 e5 e6 e7 e8 e9 e10 p1 p2 p3 p4 p5 p6 p7 p8 p9 p10 p11 hd hh lU lV lR s1 s2 hr
          go_wp2_with fail
          refine hc.out.mono ?_
          rintro e w1 ⟨rfl,R2,a1,a2,hS1,hT1⟩
          have HR1:=hid (HR.out.next hS1 hT1)
          have HF2:=hid (fin.out R2 a1 a2)
          clear hS1 hT1 a1 a2
          go_wp2
          go_end0
          have hs:=HR1.out.srt
          rw [List.append_assoc,<-List.append_assoc R1] at hs
          exact ⟨rfl,R1++R2,HF2.out.1,HF2.out.2,hs,HR1.out.touch⟩
         | false=>
          have hh:¬mid<en\/¬en<b:=by
           have:=hd.symm
           simp only [Bool.and_eq_false_iff,decide_eq_false_iff_not] at this
           exact this
          have eq:∃R2,Hid (Asc lt (R1++R2)/\Stb lt (U++V) (R1++R2))/\Hid (Srd enc k w0 blk off n (.func (.func g) #[] lb) (.func (.func sf) #[] sb) W (A++((R1++R2)++B)).toArray wc):=by
           have hr:=HR.out
           have hf:=fin.out
           rcases hh with hh | hh
           ·obtain rfl:=List.eq_nil_of_length_eq_zero (l:=U2) (by omega)
            exact ⟨V2,hid (hf V2 s2 (by simpa using Stb.refl _)),hid (by simpa using hr)⟩
           ·obtain rfl:=List.eq_nil_of_length_eq_zero (l:=V2) (by omega)
            exact ⟨U2,hid (hf U2 s1 (by simpa using Stb.refl _)),hid (by simpa using hr)⟩
          clear e1 e2 e3 e4 e5 e6 e7 e8 e9 e10 p1 p2 p3 p4 p5 p6 p7 p8 p9 p10 p11 hd hh lU lV lR s1 s2
          obtain ⟨R2,HF2,HR1⟩:=eq
          go_wp2_with fail
          go_end0
          exact ⟨rfl,R1++R2,HF2.out.1,HF2.out.2,HR1.out.srt,HR1.out.touch⟩
end
end
section
set_option linter.unusedSectionVars false
open Go.RowKit Go.Sort M
section
variable {α:Type} [Inhabited α] {enc:α->List Value} {k:Nat} {w0:World} {blk off n:Nat} {lt:α->α->Bool} {g:Nat} {lb:Array Value} {sf:Nat} {sb:Array Value}
theorem Zwy (hO:SWO lt) (hk:∀x,(enc x).length=k) (eg:∀args w,(callFunc g args).run Tryz.prog w = .ok (.enter g args) w) (hL:Zdh g lb enc k lt w0 blk off n) (hS:SwapSwapsK Tryz.prog sf sb enc k blk off n) (hn:n<2305843009213693952):∀f,Z8z enc k w0 blk off n lt g lb sf sb f
 | 0=>fun A U V B a m b hf ha hm hb hu hv=>by omega
 | f+1=>fun A U V B a m b hf ha hm hb hu hv hl hU hV W H=>by
  by_cases h1:U.length=1
  ·obtain ⟨u,rfl⟩:=List.length_eq_one_iff.1 h1
   exact Z1f hO hk eg hL hS (by omega) A V B u a m b ha (by simpa using hm) hb (by simp at hl;omega) hV W H
  ·by_cases h2:V.length=1
   ·obtain ⟨v,rfl⟩:=List.length_eq_one_iff.1 h2
    exact Z1e hO hk eg hL hS (by omega) A U B v a m b ha hm (by simpa using hb) (by omega) (by simp at hl;omega) hU W H
   ·exact Z1d hO hk eg hL hS hn f (Zwy hO hk eg hL hS hn f) A U V B a m b hf ha hm hb (by omega) (by omega) hl hU hV W H
structure Dn (lt:α->α->Bool) (L:List α) (n a:Nat) (P R:List α):Prop where
 p:P.length=a
 l:P.length+R.length=n
 s:Stb lt L (P++R)
theorem Dn.le {L P R:List α} {a:Nat} (h:Dn lt L n a P R):a<=n:=by have:=h.p;have:=h.l;omega
set_option maxRecDepth 100000 in
theorem Zuk (hO:SWO lt) (hk:∀x,(enc x).length=k) (eg:∀args w,(callFunc g args).run Tryz.prog w = .ok (.enter g args) w) (hL:Zdh g lb enc k lt w0 blk off n) (hS:SwapSwapsK Tryz.prog sf sb enc k blk off n) (hn:n<1152921504606846976)
 (L:List α) (hl:L.length=n) (W:World) (H:Srt enc k w0 blk off n L.toArray W) :
 Calls Tryz.prog 174 #[.agg #[.func (.func g) #[] lb,.func (.func sf) #[] sb],.int .i64 (n:Int)] W fun e w'=>
  e = .returned (.tuple #[])/\∃M,Asc lt M/\Stb lt L M/\Srt enc k w0 blk off n M.toArray w'/\Touch (· = blk) W w':=by
 have HSY:=hid (Zwy hO hk eg hL hS (by omega) n)
 have HIN:=hid (fun a b ha hb d W S=>Zy9 hk eg hL hS (by omega) a b ha hb d W S)
 clear hS hL
 have H0:=hid (show Dn lt L n 0 [] L from ⟨rfl,by simpa using hl,Stb.refl _⟩)
 clear hl
 go_enter Tryz.func174,Tryz.ntmps174
 go_wp2_with fail
 have R:=hid (Srd.start (x := .func (.func g) #[] lb) (y := .func (.func sf) #[] sb) H 183)
 clear H
 go_loopg [5,6] n (fun kx s5 s6 wr=>∃(a:Nat) (P Q:List α),s5 = .int .i64 (a:Int)/\s6 = .int .i64 ((a:Int)+20)/\n-a<=kx/\a<=n/\Hid (Dn lt L n a P Q/\Pre lt 20 P)/\Hid (Srd enc k w0 blk off n (.func (.func g) #[] lb) (.func (.func sf) #[] sb) W (P++Q).toArray wr))
 case atStart=>exact ⟨0,[],L,rfl,by go_num,by omega,by omega,hid ⟨H0.out,Pre.nil 20⟩,R⟩
 case round=>
  clear R H0
  obtain ⟨a,P,Q,rfl,rfl,h1,h2,HN,HR⟩:=hrel
  have c0:=HR.out.box.c0
  have c1:=HR.out.box.c1
  have hlt:=HR.out.box.lt
  by_cases hi:a+20<=n
  ·obtain ⟨Q1,HC,HN2⟩:∃Q1,Hid (Calls Tryz.prog 158 #[.agg #[.func (.func g) #[] lb,.func (.func sf) #[] sb],.int .i64 (a:Int),.int .i64 ((a:Int)+20)] wr fun e w'=>e = .returned (.tuple #[])/\Srt enc k w0 blk off n ((P++Q1)++Q.drop 20).toArray w'/\Touch (· = blk) wr w')/\Hid (Dn lt L n (a+20) (P++Q1) (Q.drop 20)/\Pre lt 20 (P++Q1)):=by
    obtain ⟨⟨n1,n2,n3⟩,n4⟩:=HN.out
    have e1:Q.take 20++Q.drop 20=Q:=List.take_append_drop _ _
    have l1:(Q.take 20).length=20:=by rw [List.length_take];omega
    have l2:(Q.drop 20).length+20=Q.length:=by rw [List.length_drop];omega
    obtain ⟨Q1,q1,q2,q3⟩:=Ztc hO P (Q.take 20) (Q.drop 20) a (a+20) n1.symm (by omega)
    have l3:=q3.len
    rw [e1] at q1
    have:=HIN.out a (a+20) h2 hi _ wr HR.out.srt
    rw [q1] at this
    rw [<-List.append_assoc] at this
    refine ⟨Q1,hid this,hid ⟨⟨by simp;omega,by simp only [List.length_append];omega,?_⟩,n4.next (by omega) q2⟩⟩
    refine n3.trans ?_
    rw [List.append_assoc]
    have:=(Stb.refl (lt:=lt) P).append (q3.append (Stb.refl (lt:=lt) (Q.drop 20)))
    rwa [e1] at this
   go_wp2_with fail
   refine HC.out.mono ?_
   rintro e w1 ⟨rfl,hS1,hT1⟩
   have R1:=hid (HR.out.next hS1 hT1)
   clear hS1 hT1 HC
   go_wp2
   go_roundg (n-(a+20))
   case measure=>omega
   case rel=>exact ⟨a+20,_,_,by go_num,by go_num,by omega,by omega,HN2,R1⟩
  ·obtain ⟨M0,HC,HM⟩:∃M0,Hid (Calls Tryz.prog 158 #[.agg #[.func (.func g) #[] lb,.func (.func sf) #[] sb],.int .i64 (a:Int),.int .i64 (n:Int)] wr fun e w'=>e = .returned (.tuple #[])/\Srt enc k w0 blk off n M0.toArray w'/\Touch (· = blk) wr w')/\Hid (Bl lt 20 M0/\Stb lt L M0/\M0.length=n):=by
    obtain ⟨⟨n1,n2,n3⟩,n4⟩:=HN.out
    obtain ⟨Q1,q1,q2,q3⟩:=Ztc hO P Q [] a n n1.symm (by omega)
    have l3:=q3.len
    have:=HIN.out a n h2 (Nat.le_refl _) _ wr HR.out.srt
    simp only [List.append_nil] at q1
    rw [q1] at this
    exact ⟨P++Q1,hid this,hid ⟨n4 Q1 (.last (by omega) q2),n3.trans ((Stb.refl P).append q3),by simp only [List.length_append];omega⟩⟩
   go_wp2_with fail
   refine HC.out.mono ?_
   rintro e w1 ⟨rfl,hS1,hT1⟩
   have R1:=hid (HR.out.next hS1 hT1)
   clear hS1 hT1 HC HR HN hi h1 h2 c0 c1 hlt
   rename World=>wo
   go_wp2
   go_loopg [4,5,6] n (fun kx s4 s5 s6 wr=>∃(bs:Nat) (M:List α),s4 = .int .i64 (bs:Int)/\n-bs<=kx/\20<=bs/\bs<=2*n+20/\Hid (Bl lt bs M/\Stb lt L M/\M.length=n)/\Hid (Srd enc k w0 blk off n (.func (.func g) #[] lb) (.func (.func sf) #[] sb) W M.toArray wr))
   case atStart=>exact ⟨20,M0,rfl,by omega,by omega,by omega,HM,R1⟩
   case round=>
    clear R1 HM
    obtain ⟨bs,M,rfl,h1,h2,h3,HM,HR⟩:=hrel
    have c0:=HR.out.box.c0
    have c1:=HR.out.box.c1
    have hlt:=HR.out.box.lt
    by_cases hb:bs<n
    ·have H0:Hid (Dn lt L n 0 [] M/\Pre lt (2*bs) []/\Bl lt bs M):=hid ⟨⟨rfl,by simpa using HM.out.2.2,by simpa using HM.out.2.1⟩,Pre.nil _,HM.out.1⟩
     clear HM
     go_wp2_with fail
     rename World=>wo
     go_loopg [5,6] n (fun kx s5 s6 wr=>∃(a:Nat) (P Q:List α),s5 = .int .i64 (a:Int)/\s6 = .int .i64 ((a:Int)+2*(bs:Int))/\n-a<=kx/\a<=n/\Hid (Dn lt L n a P Q/\Pre lt (2*bs) P/\Bl lt bs Q)/\Hid (Srd enc k w0 blk off n (.func (.func g) #[] lb) (.func (.func sf) #[] sb) W (P++Q).toArray wr))
     case atStart=>exact ⟨0,[],M,rfl,by go_num,by omega,by omega,H0,HR⟩
     case round=>
      clear HR H0 c0 c1 hlt
      obtain ⟨a,P,Q,rfl,rfl,g1,g2,HN,HR⟩:=hrel
      have c0:=HR.out.box.c0
      have c1:=HR.out.box.c1
      have hlt:=HR.out.box.lt
      by_cases hi:a+2*bs<=n
      ·obtain ⟨Q2,HC,HX⟩:∃Q2,Hid (Calls Tryz.prog 187 #[.agg #[.func (.func g) #[] lb,.func (.func sf) #[] sb],.int .i64 (a:Int),.int .i64 ((a:Int)+(bs:Int)),.int .i64 ((a:Int)+2*(bs:Int))] wr fun e w'=>e = .returned (.tuple #[])/\∃R1,Hid (Dn lt L n (a+2*bs) (P++R1) Q2/\Pre lt (2*bs) (P++R1))/\Srt enc k w0 blk off n ((P++R1)++Q2).toArray w'/\Touch (· = blk) wr w')/\Hid (Bl lt bs Q2):=by
        obtain ⟨⟨n1,n2,n3⟩,n4,n5⟩:=HN.out
        obtain ⟨X,Q',rfl,x1,x2,x3⟩:=n5.one (by omega)
        simp only [List.length_append] at n2
        obtain ⟨Y,Q2,rfl,y1,y2,y3⟩:=x3.one (by omega)
        simp only [List.length_append] at n2
        have hc:=HSY.out P X Y Q2 a (a+bs) (a+2*bs) (by omega) n1.symm (by omega) (by omega) (by omega) (by omega) (by omega) x2 y2 wr (by simpa using HR.out.srt)
        rw [show ((a+bs:Nat):Int)=(a:Int)+(bs:Int) from by omega,show ((a+2*bs:Nat):Int)=(a:Int)+2*(bs:Int) from by omega] at hc
        refine ⟨Q2,hid (hc.mono ?_),hid y3⟩
        rintro e w1 ⟨rfl,R1,a1,a2,hS1,hT1⟩
        have l1:=a2.len
        simp only [List.length_append] at l1
        refine ⟨rfl,R1,hid ⟨⟨by simp only [List.length_append];omega,by simp only [List.length_append];omega,?_⟩,n4.next (by omega) a1⟩,by rw [List.append_assoc];exact hS1,hT1⟩
        refine n3.trans ?_
        rw [<-List.append_assoc X,List.append_assoc P]
        exact (Stb.refl P).append (a2.append (Stb.refl Q2))
       go_wp2_with fail
       refine HC.out.mono ?_
       rintro e w1 ⟨rfl,R1,HD,hS1,hT1⟩
       have HN2:=hid (And.intro HD.out.1 (And.intro HD.out.2 HX.out))
       have R1:=hid (HR.out.next hS1 hT1)
       clear hS1 hT1 HC HD HX
       go_wp2
       go_roundg (n-(a+2*bs))
       case measure=>omega
       case rel=>exact ⟨a+2*bs,_,_,by go_num,by go_num,by omega,by omega,HN2,R1⟩
      ·by_cases hm:a+bs<n
       ·have HC:Hid (Calls Tryz.prog 187 #[.agg #[.func (.func g) #[] lb,.func (.func sf) #[] sb],.int .i64 (a:Int),.int .i64 ((a:Int)+(bs:Int)),.int .i64 (n:Int)] wr fun e w'=>e = .returned (.tuple #[])/\∃M2,Hid (Bl lt (2*bs) M2/\Stb lt L M2/\M2.length=n)/\Srt enc k w0 blk off n M2.toArray w'/\Touch (· = blk) wr w'):=by
         obtain ⟨⟨n1,n2,n3⟩,n4,n5⟩:=HN.out
         obtain ⟨X,Y,rfl,x1,x2,x3⟩:=n5.one (by omega)
         simp only [List.length_append] at n2
         have y2:=x3.asc (by omega)
         have hc:=HSY.out P X Y [] a (a+bs) n (by omega) n1.symm (by omega) (by omega) (by omega) (by omega) (by simp;omega) x2 y2 wr (by simpa using HR.out.srt)
         rw [show ((a+bs:Nat):Int)=(a:Int)+(bs:Int) from by omega] at hc
         refine hid (hc.mono ?_)
         rintro e w1 ⟨rfl,R1,a1,a2,hS1,hT1⟩
         have l1:=a2.len
         simp only [List.length_append] at l1
         simp only [List.append_nil] at hS1
         exact ⟨rfl,P++R1,hid ⟨n4 R1 (.last (by omega) a1),n3.trans ((Stb.refl P).append a2),by simp only [List.length_append];omega⟩,hS1,hT1⟩
        go_wp2_with fail
        refine HC.out.mono ?_
        rintro e w1 ⟨rfl,M2,HM,hS1,hT1⟩
        have R1:=hid (HR.out.next hS1 hT1)
        clear hS1 hT1 HC
        go_wp2
        go_roundg (n-2*bs)
        case measure=>omega
        case rel=>exact ⟨2*bs,M2,by go_num,by omega,by omega,by omega,HM,R1⟩
       ·have HM:Hid (Bl lt (2*bs) (P++Q)/\Stb lt L (P++Q)/\(P++Q).length=n):=by
         obtain ⟨⟨n1,n2,n3⟩,n4,n5⟩:=HN.out
         exact hid ⟨n4 Q (.last (by omega) (n5.asc (by omega))),n3,by simp only [List.length_append];omega⟩
        go_wp2
        go_roundg (n-2*bs)
        case measure=>omega
        case rel=>exact ⟨2*bs,_,by go_num,by omega,by omega,by omega,HM,HR⟩
    ·go_wp2
     go_end0
     obtain ⟨n1,n2,n3⟩:=HM.out
     exact ⟨rfl,M,n1.asc (by omega),n2,HR.out.srt,HR.out.touch⟩
end
end
section
open Go.RowKit Go.Sort M
theorem Zqg (g:Nat) (lb:Array Value) (lt:Rt->Rt->Bool) (hO:SWO lt) (eg:∀args w,(callFunc g args).run Tryz.prog w = .ok (.enter g args) w) (blk c:Nat) (L:List Rt) (h2:2<=L.length) (hn:L.length<1152921504606846976) (w:World)
 (hH:HoldsK Zac 4 w blk 0 L.toArray) (hl:blk<w.heap.size) (hL:Zdh g lb Zac 4 lt w blk 0 L.length) :
 Calls Tryz.prog 140 #[.iface 35 (.slice (some ⟨blk,0,none⟩) L.length c),.func (.func g) #[] lb] w fun e w'=>e = .returned (.tuple #[]) /\
  ∃M:List Rt,Asc lt M/\Stb lt L M/\HoldsK Zac 4 w' blk 0 M.toArray/\Touch (· = blk) w w':=by
 refine Any.sort_SliceStable_of_stable (P:=Tryz.prog) (ρ:=Tryz.laysStb_ren) Tryz.laysStb 35 41 rtT rtE (by kernel_rfl) (by kernel_rfl) (by kernel_rfl) (by kernel_rfl) 25 (fun _=>by kernel_rfl) (some ⟨blk,0,none⟩) L.length c (by omega) 155 (by rw [rtK _ h2];kernel_rfl) (.func g) #[] lb w _ ?_
 have hB:sliceBound Tryz.prog 41 rtE 25 (some ⟨blk,0,none⟩) L.length c = #[.slice (some ⟨blk,0,none⟩) L.length c,typeHandle Tryz.prog 41]:=by
  unfold sliceBound;rw [if_neg (swapperK_gt _ _ _ h2)]
 rw [hB]
 have hsw:=swapSwapsK_of_literal (P:=Tryz.prog) (α:=Rt) false 155 (fun args W=>run_callFunc_extern Tryz.func155 (by kernel_rfl) (by kernel_rfl) (by kernel_rfl) (e:=Extern.ReflectliteSwapper.swap false) (by kernel_rfl) args W)
  41 rtE (by kernel_rfl) Zac 4 (fun _=>rfl) (by kernel_rfl) (fun _=>by kernel_rfl) Z4i blk 0 L.length c
 have hw1:RowKit.Below w.heap.size w (stableWorld Tryz.prog Tryz.laysStb_ren 35 (some ⟨blk,0,none⟩) L.length c w):=by unfold stableWorld;go_grown
 have S:=(Srt.start (n:=L.length) hH hl (by simp)).below hw1
 refine (Zuk (enc:=Zac) (k:=4) hO (fun _=>rfl) eg hL hsw hn L rfl _ S).mono ?_
 rintro e w' ⟨rfl,M,h1,h2,hS,hT⟩
 exact ⟨rfl,M,h1,h2,hS.holds,hS.touch⟩
theorem Znt (g:Nat) (lb:Array Value) (p:Option Addr) (c n:Nat) (h1:n<=1) (w:World) :
 Calls Tryz.prog 140 #[.iface 35 (.slice p n c),.func (.func g) #[] lb] w fun e w'=>e = .returned (.tuple #[])/\RowKit.Below w.heap.size w w':=by
 have hgrow:∀w' os,w'=grow w os->RowKit.Below w.heap.size w w':=by
  rintro w' os rfl
  refine ⟨rfl,rfl,rfl,by rw [size_grow];omega,fun j hj => ?_⟩
  show (_++os)[j]? = _
  rw [Array.getElem?_append_left hj]
 rcases (show n=0\/n=1 by omega) with rfl | rfl
 ·refine (Any.sort_SliceStable_tiny (P:=Tryz.prog) (ρ:=Tryz.laysStb_ren) Tryz.laysStb 35 41 rtT rtE (by kernel_rfl) (by kernel_rfl) (by kernel_rfl) (by kernel_rfl) 25 (fun _=>by kernel_rfl) p 0 c h1 147 (by kernel_rfl) (.func g) #[] lb w).mono ?_
  rintro e w' ⟨rfl,os,h⟩
  exact ⟨rfl,hgrow w' os h⟩
 ·refine (Any.sort_SliceStable_tiny (P:=Tryz.prog) (ρ:=Tryz.laysStb_ren) Tryz.laysStb 35 41 rtT rtE (by kernel_rfl) (by kernel_rfl) (by kernel_rfl) (by kernel_rfl) 25 (fun _=>by kernel_rfl) p 1 c h1 148 (by kernel_rfl) (.func g) #[] lb w).mono ?_
  rintro e w' ⟨rfl,os,h⟩
  exact ⟨rfl,hgrow w' os h⟩
end
end Go.Proofs.YtgfjmgebecmbiaaGreat
