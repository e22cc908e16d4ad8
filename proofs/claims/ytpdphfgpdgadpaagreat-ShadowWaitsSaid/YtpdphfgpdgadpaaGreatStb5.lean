import Derived.Test.YtpdphfgpdgadpaaGreatStb3
set_option linter.unusedSimpArgs false
set_option linter.unusedVariables false
set_option maxHeartbeats 4000000
set_option maxRecDepth 100000
open Go.Proofs.Tryz
namespace Go.Proofs.YtpdphfgpdgadpaaGreat
open Lib(hid)
open Go.RowKit Go.Sort M
section
variable {α:Type} [Inhabited α] {enc:α->List Value} {k:Nat} {w0:World} {blk off n:Nat} {lt:α->α->Bool} {g:Nat} {lb:Array Value} {sf:Nat} {sb:Array Value}
theorem Z1i (hO:SWO lt) (hk:∀x,(enc x).length=k) (eg:∀args w,(callFunc g args).run prog w = .ok (.enter g args) w) (hL:Ea g lb enc k lt w0 blk off n) (hS:SwapSwapsK prog sf sb enc k blk off n) (hn:n<4611686018427387904)
 (A V B:List α) (u:α) (a m b:Nat) (ha:a=A.length) (J:m=A.length+1) (N:b=m+V.length) (hl:A.length+1+V.length+B.length=n) (O:Asc lt V) (W:World) (H:Srt enc k w0 blk off n (A++([u]++(V++B))).toArray W) :
 Calls prog 66 #[.agg #[.func (.func g) #[] lb,.func (.func sf) #[] sb],.int .i64 (a:Int),.int .i64 (m:Int),.int .i64 (b:Int)] W λe w'=>
  e = .returned (.tuple #[])/\∃R,Asc lt R/\Stb lt ([u]++V) R/\Srt enc k w0 blk off n (A++(R++B)).toArray w'/\Touch (· = blk) W w':=by
 have a1:=hid hS;have HL:=hid hL;clear hS hL;obtain ⟨L,p⟩:=Q' (A++([u]++(V++B)));rw [<-p] at H;have mono:=hid (Z6o hO (U:=[u]) p O a m b (by simpa using J) N);have b1:m=a+1:=Qa;have b2:m<=b:=Qa;have b3:b<=n:=Qa;have HF:=hid (And.intro p (And.intro ha (And.intro J (And.intro N (And.intro hl O)))));clear p ha J N hl O;have a3:(m:Int)-(a:Int)=1:=Qa;have B1:=hid b1;clear b1;have t:=hid (Bs.start (f1 lt L a) b2);go_enter func66,ntmps66;go_wp2_with fail;have R:=hid (Srd.start (x := .func (.func g) #[] lb) (y := .func (.func sf) #[] sb) H 95);clear H;go_loopg [8,9] (b-m) (λI s8 s9 wr=>∃(i j:Nat),s8 = .int .i64 (i:Int)/\s9 = .int .i64 (j:Int)/\j-i<=I/\m<=i/\i<=j/\j<=b/\Hid (Bs (f1 lt L a) m b i j)/\Hid (Srd enc k w0 blk off n (.func (.func g) #[] lb) (.func (.func sf) #[] sb) W L.toArray wr))
 case atStart=>exact ⟨m,b,rfl,rfl,Qa,Qa,Qa,Qa,t,R⟩
 case round=>
  clear R t;obtain ⟨i,j,rfl,rfl,h1,h2,h3,h4,t,c⟩:=hrel;have c0:=c.o.box.c0;have c1:=c.o.box.c1;have K:=c.o.box.lt;by_cases hi:i<j
  ·have o:Calls prog g (#[.int .i64 (((i:Int)+(j:Int))/2),.int .i64 (a:Int)]++lb) wr λe w'=>e = .returned (.bool (f1 lt L a ((i+j)/2)))/\Srt enc k w0 blk off n L.toArray w'/\Touch (· = blk) wr w':=
    c.o.srt.less HL.o (((i:Int)+(j:Int))/2) (a:Int) ((i+j)/2) a Qa (by have:=B1.o;omega) Qa rfl
   cases D:f1 lt L a ((i+j)/2) with
   | true=>
    rw [D] at o;have s:=hid (t.o.up mono.o (h:=(i+j)/2) Qa Qa D);go_wp2_with fail;refine o.mono ?_;rintro e w1 ⟨rfl,f,d⟩;have R1:=hid (c.o.next f d);clear f d;go_wp2;go_roundg (j-((i+j)/2+1))
    case measure=>omega
    case rel=>exact ⟨(i+j)/2+1,j,Qj,rfl,Qa,Qa,Qa,Qa,s,R1⟩
   | false=>
    rw [D] at o;have s:=hid (t.o.down mono.o (h:=(i+j)/2) Qa Qa D);go_wp2_with fail;refine o.mono ?_;rintro e w1 ⟨rfl,f,d⟩;have R1:=hid (c.o.next f d);clear f d;go_wp2;go_roundg ((i+j)/2-i)
    case measure=>omega
    case rel=>exact ⟨i,(i+j)/2,rfl,Qj,Qa,Qa,Qa,Qa,s,R1⟩
  ·go_wp2;obtain rfl:j=i:=Qa;obtain ⟨G,X,Y,hR,HG⟩:∃(G R Y:List α),(∃R,Asc lt R/\Stb lt ([u]++V) R/\G=A++(R++B))/\Hid (A.length=a/\a+1+R.length=j/\L=A++(u::(R++Y))/\A++(R++(u::Y))=G):=by
    obtain ⟨f1,f2,f3,f4,f5,E⟩:=HF.o;obtain ⟨g1,g2⟩:=Z19 hO f1 a m b j f2 f3 f4 t.o;have e1:V.take (j-m)++V.drop (j-m)=V:=List.take_append_drop _ _;have l1:(V.take (j-m)).length=j-m:=by rw [Qs];omega
    rw [<-e1] at E;obtain ⟨q1,q2⟩:=Nr hO (U1:=[]) (U2:=[u]) (R1:=V.take (j-m)) (R2:=u::V.drop (j-m)) (by unfold Asc;simp) E Qf (by simpa using g1) (by simpa using Stb.refl _) (by simpa using Stb.refl _) (Bw.1 E).1 (V3 (Bw.1 E).2.1 g2);refine ⟨_,V.take (j-m),V.drop (j-m)++B,⟨_,q1,?_,rfl⟩,hid ⟨f2.symm,by have:=B1.o;omega,?_,Qf⟩⟩
    ·rw [e1] at q2;simpa using q2
    ·rw [f1,<-Qu (V.take (j-m)),e1];rfl
   clear HF hi h1 mono HL t
   rename World=>wo
   go_loopg [11] (j-a) (λI F wr=>∃(i:Nat) (P Q:List α),F = .int .i64 (i:Int)/\j-1-i<=I/\a<=i/\i+1<=j/\Hid (P.length=i/\i+1+Q.length=j/\P++(Q++(u::Y))=G)/\Hid (Srd enc k w0 blk off n (.func (.func g) #[] lb) (.func (.func sf) #[] sb) W (P++(u::(Q++Y))).toArray wr))
   case atStart=>obtain ⟨g1,g2,g3,g4⟩:=HG.o;have z:=c.o;rw [g3] at z;have:=B1.o;exact ⟨a,A,X,rfl,Qa,Qa,Qa,hid ⟨g1,g2,g4⟩,hid z⟩
   case round=>
    clear c HG;obtain ⟨i,P,Q,rfl,h1,h2,h3,HN,c⟩:=hrel;have c1:=c.o.box.c1;have K:=c.o.box.lt;by_cases hi:i+1<j
    ·obtain ⟨v,Q,rfl⟩:=List.exists_cons_of_length_pos (l:=Q) (by have:=HN.o.2.1;omega);obtain ⟨w2,q,R2,a2⟩:∃w2,(callFunc sf (#[.int .i64 (i:Int),.int .i64 ((i:Int)+1)]++sb)).run prog wr = .ok (.value (.tuple #[])) w2/\Hid (Srd enc k w0 blk off n (.func (.func g) #[] lb) (.func (.func sf) #[] sb) W ((P++[v])++(u::(Q++Y))).toArray w2)
      /\ Hid ((P++[v]).length=i+1/\i+1+1+Q.length=j/\(P++[v])++(Q++(u::Y))=G):=by
      obtain ⟨n1,n2,C⟩:=HN.o;simp only [Qt] at n2;obtain ⟨w2,q,r,Z⟩:=c.o.srt.swap a1.o hk (i:Int) ((i:Int)+1) i (i+1) Qa Qa Qa Qa;have e2:=Zx6 (P:=P) (S:=Q++Y) (x:=u) (y:=v) i (i+1) n1.symm Qa;rw [show v::Q++Y=v::(Q++Y) from rfl,e2] at r;rw [show P++(v::u::(Q++Y))=(P++[v])++(u::(Q++Y)) from by simp] at r;exact ⟨w2,q,hid (c.o.next r Z),hid ⟨Qe,Qa,by simpa using C⟩⟩
     go_wp2_with fail;go_roundg (j-1-(i+1))
     case measure=>omega
     case rel=>exact ⟨i+1,_,_,Qj,Qa,Qa,Qa,a2,R2⟩
    ·go_wp2
     (try simp only [Exit.inBlock,Exit.then])
     refine bodyPost_ret (results_none rfl _ _ _) rfl ?_;obtain ⟨n1,n2,C⟩:=HN.o;obtain rfl:=List.eq_nil_of_length_eq_zero (l:=Q) Qa;have z:=c.o.srt;simp only [List.nil_append] at C z;obtain ⟨R,r1,r2,r3⟩:=hR;rw [C,r3] at z;exact ⟨rfl,R,r1,r2,z,c.o.touch⟩
theorem Z1h (hO:SWO lt) (hk:∀x,(enc x).length=k) (eg:∀args w,(callFunc g args).run prog w = .ok (.enter g args) w) (hL:Ea g lb enc k lt w0 blk off n) (hS:SwapSwapsK prog sf sb enc k blk off n) (hn:n<4611686018427387904)
 (A U B:List α) (u:α) (a m b:Nat) (ha:a=A.length) (J:m=A.length+U.length) (hb:b=m+1) (Z:2<=U.length) (hl:A.length+U.length+1+B.length=n) (N:Asc lt U) (W:World) (H:Srt enc k w0 blk off n (A++(U++([u]++B))).toArray W) :
 Calls prog 66 #[.agg #[.func (.func g) #[] lb,.func (.func sf) #[] sb],.int .i64 (a:Int),.int .i64 (m:Int),.int .i64 (b:Int)] W λe w'=>
  e = .returned (.tuple #[])/\∃R,Asc lt R/\Stb lt (U++[u]) R/\Srt enc k w0 blk off n (A++(R++B)).toArray w'/\Touch (· = blk) W w':=by
 have a1:=hid hS;have HL:=hid hL;clear hS hL;obtain ⟨L,p⟩:=Q' (A++(U++([u]++B)));rw [<-p] at H;have mono:=hid (Z6n hO p N a m ha J);have b1:b=m+1:=Qa;have b2:a<=m:=Qa;have b4:a+2<=m:=Qa;have b3:b<=n:=Qa;have HF:=hid (And.intro p (And.intro ha (And.intro J (And.intro hb (And.intro hl N)))));clear p ha J hb hl N Z;have a3:(b:Int)-(m:Int)=1:=Qa;have a4:(((m:Int)-(a:Int)) == 1)=false:=by rw [beq_eq_false_iff_ne];omega
 have B1:=hid b1;clear b1;have t:=hid (Bs.start (f2 lt L m) b2);go_enter func66,ntmps66;go_wp2_with fail;have R:=hid (Srd.start (x := .func (.func g) #[] lb) (y := .func (.func sf) #[] sb) H 95);clear H;go_loopg [12,13] (m-a) (λI s8 s9 wr=>∃(i j:Nat),s8 = .int .i64 (i:Int)/\s9 = .int .i64 (j:Int)/\j-i<=I/\a<=i/\i<=j/\j<=m/\Hid (Bs (f2 lt L m) a m i j)/\Hid (Srd enc k w0 blk off n (.func (.func g) #[] lb) (.func (.func sf) #[] sb) W L.toArray wr))
 case atStart=>exact ⟨a,m,rfl,rfl,Qa,Qa,Qa,Qa,t,R⟩
 case round=>
  clear R t;obtain ⟨i,j,rfl,rfl,h1,Z,h3,h4,t,c⟩:=hrel;have c0:=c.o.box.c0;have c1:=c.o.box.c1;have K:=c.o.box.lt;by_cases hi:i<j
  ·have o:Calls prog g (#[.int .i64 (m:Int),.int .i64 (((i:Int)+(j:Int))/2)]++lb) wr λe w'=>e = .returned (.bool (!f2 lt L m ((i+j)/2)))/\Srt enc k w0 blk off n L.toArray w'/\Touch (· = blk) wr w':=
    by unfold f2;rw [Bool.not_not];exact c.o.srt.less HL.o (m:Int) (((i:Int)+(j:Int))/2) m ((i+j)/2) (by have:=B1.o;omega) Qa rfl Qa
   cases D:f2 lt L m ((i+j)/2) with
   | true=>
    rw [D] at o;have s:=hid (t.o.up mono.o (h:=(i+j)/2) Qa Qa D);go_wp2_with fail;refine o.mono ?_;rintro e w1 ⟨rfl,f,d⟩;have R1:=hid (c.o.next f d);clear f d;go_wp2;go_roundg (j-((i+j)/2+1))
    case measure=>omega
    case rel=>exact ⟨(i+j)/2+1,j,Qj,rfl,Qa,Qa,Qa,Qa,s,R1⟩
   | false=>
    rw [D] at o;have s:=hid (t.o.down mono.o (h:=(i+j)/2) Qa Qa D);go_wp2_with fail;refine o.mono ?_;rintro e w1 ⟨rfl,f,d⟩;have R1:=hid (c.o.next f d);clear f d;go_wp2;go_roundg ((i+j)/2-i)
    case measure=>omega
    case rel=>exact ⟨i,(i+j)/2,rfl,Qj,Qa,Qa,Qa,Qa,s,R1⟩
  ·go_wp2;obtain rfl:j=i:=Qa;obtain ⟨G,A,X,Y,hR,HG⟩:∃(G A' R Y:List α),(∃R,Asc lt R/\Stb lt (U++[u]) R/\G=A++(R++B))/\Hid (A'.length=j/\j+R.length=m/\L=A'++(R++(u::Y))/\A'++(u::(R++Y))=G):=by
    obtain ⟨f1,f2,f3,f4,f5,E⟩:=HF.o;obtain ⟨g1,g2⟩:=Z79 f1 a m j f2 f3 t.o;have e1:U.take (j-a)++U.drop (j-a)=U:=List.take_append_drop _ _;have l1:(U.take (j-a)).length=j-a:=by rw [Qs];omega
    have l2:(U.drop (j-a)).length=m-j:=by rw [List.length_drop];omega
    rw [<-e1] at E;obtain ⟨q1,q2⟩:=Nr hO (V1:=[u]) (V2:=[]) (R1:=U.take (j-a)++[u]) (R2:=U.drop (j-a)) E (by unfold Asc;simp) Qf (by simpa using g2) (Stb.refl _) (by simpa using Stb.refl _) (Bw.2 ⟨(Bw.1 E).1,by unfold Asc;simp,λx hx y hy=>by simp at hy;subst hy;exact g1 x hx⟩) (Bw.1 E).2.1;refine ⟨_,A++U.take (j-a),U.drop (j-a),B,⟨_,q1,?_,rfl⟩,hid ⟨by simp only [Qo];omega,Qa,?_,Qf⟩⟩
    ·rw [e1] at q2;simpa using q2
    ·rw [f1,Qu,<-Qu (U.take (j-a)),e1];rfl
   clear HF hi h1 mono HL t
   rename World=>wo
   go_loopg [15] (m-j) (λI F wr=>∃(i:Nat) (Q Y:List α),F = .int .i64 (i:Int)/\i-j<=I/\j<=i/\i<=m/\Hid (A.length=j/\j+Q.length=i/\A++(u::(Q++Y))=G)/\Hid (Srd enc k w0 blk off n (.func (.func g) #[] lb) (.func (.func sf) #[] sb) W (A++(Q++(u::Y))).toArray wr))
   case atStart=>obtain ⟨g1,g2,g3,g4⟩:=HG.o;have z:=c.o;rw [g3] at z;exact ⟨m,X,Y,rfl,Qa,Qa,Qa,hid ⟨g1,g2,g4⟩,hid z⟩
   case round=>
    clear c HG;obtain ⟨i,Q,Y,rfl,h1,Z,h3,HN,c⟩:=hrel;have c1:=c.o.box.c1;have K:=c.o.box.lt;by_cases hi:j<i
    ·obtain ⟨Q,v,rfl⟩:∃Q' v,Q=Q'++[v]:=⟨Q.dropLast,Q.getLast (by intro e;have:=HN.o.2.1;simp [e] at this;omega),(List.dropLast_concat_getLast _).symm⟩;obtain ⟨w2,q,R2,a2⟩:∃w2,(callFunc sf (#[.int .i64 (i:Int),.int .i64 ((i:Int)-1)]++sb)).run prog wr = .ok (.value (.tuple #[])) w2/\Hid (Srd enc k w0 blk off n (.func (.func g) #[] lb) (.func (.func sf) #[] sb) W (A++(Q++(u::(v::Y)))).toArray w2)
      /\ Hid (A.length=j/\j+Q.length=i-1/\A++(u::(Q++(v::Y)))=G):=by
      obtain ⟨n1,n2,C⟩:=HN.o;simp only [Qo,List.length_singleton] at n2;have:=B1.o;obtain ⟨w2,q,r,O⟩:=c.o.srt.swap a1.o hk (i:Int) ((i:Int)-1) i (i-1) Qa Qa Qa Qa;have e2:=Zvg (P:=A++Q) (S:=Y) (x:=v) (y:=u) (i-1) i Qe Qe;rw [show A++((Q++[v])++(u::Y))=(A++Q)++(v::u::Y) from by simp,e2] at r;rw [show (A++Q)++(u::v::Y)=A++(Q++(u::(v::Y))) from by simp] at r;exact ⟨w2,q,hid (c.o.next r O),hid ⟨n1,Qa,by simpa using C⟩⟩
     go_wp2_with fail;go_roundg (i-1-j)
     case measure=>omega
     case rel=>exact ⟨i-1,_,_,Qj,Qa,Qa,Qa,a2,R2⟩
    ·go_wp2
     (try simp only [Exit.inBlock,Exit.then])
     refine bodyPost_ret (results_none rfl _ _ _) rfl ?_;obtain ⟨n1,n2,C⟩:=HN.o;obtain rfl:=List.eq_nil_of_length_eq_zero (l:=Q) Qa;have z:=c.o.srt;simp only [List.nil_append] at C z;obtain ⟨R,r1,r2,r3⟩:=hR;rw [C,r3] at z;exact ⟨rfl,R,r1,r2,z,c.o.touch⟩
end
section
variable {α:Type} [Inhabited α] {enc:α->List Value} {k:Nat} {w0:World} {blk off n:Nat} {lt:α->α->Bool} {g:Nat} {lb:Array Value} {sf:Nat} {sb:Array Value}
def Yt (enc:α->List Value) (k:Nat) (w0:World) (blk off n:Nat) (lt:α->α->Bool) (g:Nat) (lb:Array Value) (sf:Nat) (sb:Array Value) (f:Nat):Prop:=
 ∀(A U V B:List α) (a m b:Nat),b-a<=f->a=A.length->m=A.length+U.length->b=m+V.length->0<U.length->0<V.length->A.length+U.length+V.length+B.length=n->Asc lt U->Asc lt V ->
  ∀W:World,Srt enc k w0 blk off n (A++(U++(V++B))).toArray W ->
  Calls prog 66 #[.agg #[.func (.func g) #[] lb,.func (.func sf) #[] sb],.int .i64 (a:Int),.int .i64 (m:Int),.int .i64 (b:Int)] W λe w'=>
   e = .returned (.tuple #[])/\∃R,Asc lt R/\Stb lt (U++V) R/\Srt enc k w0 blk off n (A++(R++B)).toArray w'/\Touch (· = blk) W w'
theorem Z1g (hO:SWO lt) (hk:∀x,(enc x).length=k) (eg:∀args w,(callFunc g args).run prog w = .ok (.enter g args) w) (hL:Ea g lb enc k lt w0 blk off n) (hS:SwapSwapsK prog sf sb enc k blk off n) (hn:n<2305843009213693952)
 (f:Nat) (IH:Yt enc k w0 blk off n lt g lb sf sb f)
 (A U V B:List α) (a m b:Nat) (hf:b-a<=f+1) (ha:a=A.length) (hm:m=A.length+U.length) (hb:b=m+V.length) (an:2<=U.length) (am:2<=V.length) (hl:A.length+U.length+V.length+B.length=n) (hU:Asc lt U) (hV:Asc lt V) (W:World) (H:Srt enc k w0 blk off n (A++(U++(V++B))).toArray W) :
 Calls prog 66 #[.agg #[.func (.func g) #[] lb,.func (.func sf) #[] sb],.int .i64 (a:Int),.int .i64 (m:Int),.int .i64 (b:Int)] W λe w'=>
  e = .returned (.tuple #[])/\∃R,Asc lt R/\Stb lt (U++V) R/\Srt enc k w0 blk off n (A++(R++B)).toArray w'/\Touch (· = blk) W w':=by
 have ao:=hid hS;have HL:=hid hL;have ai:=hid IH;clear hS hL IH;obtain ⟨L,a5⟩:=Q' (A++(U++(V++B)));rw [<-a5] at H;obtain ⟨d,Z⟩:=Q' ((a+b)/2);obtain ⟨lo,r0,hw⟩:∃lo r0,(d<m/\lo=d+m-b/\r0=d)\/(m<=d/\lo=a/\r0=m):=by
  by_cases h:d<m
  ·exact ⟨_,_,.inl ⟨h,rfl,rfl⟩⟩
  ·exact ⟨_,_,.inr ⟨Qa,rfl,rfl⟩⟩
 obtain ⟨X,ag⟩:=Q' (d+m);have Y:Sy a m b d lo r0:=⟨Qa,Qa,Z,hw⟩;have mono:=hid (Z6m hO a5 hU hV Y ha hm hb);have b1:a+2<=m:=Qa;have b2:m+2<=b:=Qa;have b3:b<=n:=Qa;have b4:X<2*n:=Qa;have b5:lo<=r0:=Qa;have b6:r0<=n:=Qa;have b8:d<n:=Qa;have t1:(((m:Int)-(a:Int)) == 1)=false:=by rw [beq_eq_false_iff_ne];omega
 have t2:(((b:Int)-(m:Int)) == 1)=false:=by rw [beq_eq_false_iff_ne];omega
 have HF:=hid (And.intro a5 (And.intro ha (And.intro hm (And.intro hb (And.intro hl (And.intro hU (And.intro hV (And.intro Z (And.intro hw (And.intro ag hf))))))))));have HB:=hid (Bs.start (f3 lt L (d+m-1)) b5);have HY:=hid Y;clear a5 ha hm hb hl hU hV Z hw ag hf Y an am;go_enter func66,ntmps66;go_upto_if 106 with fail;have R:=hid (Srd.start (x := .func (.func g) #[] lb) (y := .func (.func sf) #[] sb) H 95);clear H;go_cut [16,17,18,19] (λal ak a7 a6 N=>al = .int .i64 (d:Int)/\ak = .int .i64 (X:Int)/\a7 = .int .i64 (lo:Int)/\a6 = .int .i64 (r0:Int)/\Hid (Srd enc k w0 blk off n (.func (.func g) #[] lb) (.func (.func sf) #[] sb) W L.toArray N))
 case first=>
  obtain ⟨-,-,-,-,-,-,-,F,C,z,-⟩:=HF.o;by_cases h:d<m
  ·have hi:((a:Int)+(b:Int))/2<(m:Int):=Qa;go_wp2_with fail;go_meet;exact ⟨congrArg (Value.int .i64) Qa,congrArg (Value.int .i64) Qa,congrArg (Value.int .i64) Qa,congrArg (Value.int .i64) Qa,R⟩
  ·have hi:¬((a:Int)+(b:Int))/2<(m:Int):=Qa;go_wp2_with fail;go_meet;exact ⟨congrArg (Value.int .i64) Qa,congrArg (Value.int .i64) Qa,congrArg (Value.int .i64) Qa,congrArg (Value.int .i64) Qa,R⟩
 case rest=>
  clear R;obtain ⟨rfl,rfl,rfl,rfl,o⟩:=hcut
  rename World=>wo
  go_wp2_with fail;go_loopg [18,19] (r0-lo) (λkx a7 a6 wr=>∃(i j:Nat),a7 = .int .i64 (i:Int)/\a6 = .int .i64 (j:Int)/\j-i<=kx/\lo<=i/\i<=j/\j<=r0/\Hid (Bs (f3 lt L (d+m-1)) lo r0 i j)/\Hid (Srd enc k w0 blk off n (.func (.func g) #[] lb) (.func (.func sf) #[] sb) W L.toArray wr))
  case atStart=>exact ⟨lo,r0,rfl,rfl,Qa,Qa,Qa,Qa,HB,o⟩
  case round=>
   clear o HB;obtain ⟨i,j,rfl,rfl,h1,h2,h3,h4,HB,o⟩:=hrel;have c0:=o.o.box.c0;have c1:=o.o.box.c1;have a8:=o.o.box.lt;by_cases hi:i<j
   ·obtain ⟨a4,z1,z2⟩:Hid (Calls prog g (#[.int .i64 ((X:Int)-1-((i:Int)+(j:Int))/2),.int .i64 (((i:Int)+(j:Int))/2)]++lb) wr λe w'=>e = .returned (.bool (!f3 lt L (d+m-1) ((i+j)/2)))/\Srt enc k w0 blk off n L.toArray w'/\Touch (· = blk) wr w')/\(i+j)/2<X/\1<=X:=by obtain ⟨-,-,-,-,-,-,-,F,C,z,-⟩:=HF.o;have q:=HY.o.in1 (c:=(i+j)/2) Qa Qa;refine ⟨?_,Qa,Qa⟩;unfold f3;rw [Bool.not_not];exact hid (o.o.srt.less HL.o _ _ (d+m-1-(i+j)/2) ((i+j)/2) Qa Qa Qa Qa)
    cases hv:f3 lt L (d+m-1) ((i+j)/2) with
    | true=>
     rw [hv] at a4;have a9:=hid (HB.o.up mono.o (h:=(i+j)/2) Qa Qa hv);go_wp2_with fail;refine a4.o.mono ?_;rintro e w1 ⟨rfl,r,p⟩;have R1:=hid (o.o.next r p);clear r p;go_wp2;go_roundg (j-((i+j)/2+1))
     case measure=>omega
     case rel=>exact ⟨(i+j)/2+1,j,Qj,rfl,Qa,Qa,Qa,Qa,a9,R1⟩
    | false=>
     rw [hv] at a4;have a9:=hid (HB.o.down mono.o (h:=(i+j)/2) Qa Qa hv);go_wp2_with fail;refine a4.o.mono ?_;rintro e w1 ⟨rfl,r,p⟩;have R1:=hid (o.o.next r p);clear r p;go_wp2;go_roundg ((i+j)/2-i)
     case measure=>omega
     case rel=>exact ⟨i,(i+j)/2,rfl,Qj,Qa,Qa,Qa,Qa,a9,R1⟩
   ·obtain rfl:j=i:=Qa;obtain ⟨s,U1,U2,V1,V2,g1,g2,g3,g4,g5,g6,HG⟩:∃(s:Nat) (U1 U2 V1 V2:List α),j<=X/\a<=j/\j<=m/\m<=s/\s<=b/\j<=d/\Hid (s=X-j/\U=U1++U2/\V=V1++V2/\a+U1.length=j/\j+U2.length=m/\m+V1.length=s/\s+V2.length=b/\(∀u∈U1,∀v∈V2,lt v u=false)/\(∀u∈U2,∀v∈V1,lt v u=true)/\d+U2.length=s):=by obtain ⟨S,p2,p3,p4,p5,K,J,F,C,z,-⟩:=HF.o;obtain ⟨⟨q1,q2,q3,q4,q5⟩,q6,q7⟩:=Zwv hO S K J HY.o p2 p3 p4 HB.o;refine ⟨X-j,U.take (j-a),U.drop (j-a),V.take (d+m-j-m),V.drop (d+m-j-m),Qa,Qa,Qa,Qa,Qa,Qa,hid ⟨rfl,(List.take_append_drop _ _).symm,(List.take_append_drop _ _).symm,?_,?_,?_,?_,q6,q7,?_⟩⟩<;>simp only [Qs,List.length_drop]<;>omega
    clear mono HB hi h1 h2 h3 h4
    rename World=>wo
    obtain ⟨q1,af⟩:∃q1:Bool,q1=(decide (j<m)&&decide (m<s)):=⟨_,rfl⟩;have Q1:=hid af;clear af;go_upto_region 40 with fail;go_cut [22,145] (λaj ac N=>aj = .int .i64 (s:Int)/\ac = .bool q1/\Hid (Srd enc k w0 blk off n (.func (.func g) #[] lb) (.func (.func sf) #[] sb) W L.toArray N))
    case first=>
     have F:(X:Int)-(j:Int)=(s:Int):=by have:=HG.o.1;omega
     have hd:((q1:Bool)=(decide (j<m)&&decide (m<s))):=Q1.o;by_cases h1:j<m
     ·by_cases h2:m<s
      ·have E:q1=true:=by rw [hd];simp [h1,h2]
       clear hd;go_wp2_with fail;go_meet;exact ⟨congrArg (Value.int .i64) F,congrArg Value.bool E.symm,o⟩
      ·have E:q1=false:=by rw [hd];simp [h2]
       clear hd;go_wp2_with fail;go_meet;exact ⟨congrArg (Value.int .i64) F,congrArg Value.bool E.symm,o⟩
     ·have E:q1=false:=by rw [hd];simp [h1]
      clear hd;go_wp2_with fail;go_meet;exact ⟨congrArg (Value.int .i64) F,congrArg Value.bool E.symm,o⟩
    case rest=>
     clear o;obtain ⟨rfl,rfl,o⟩:=hcut
     rename World=>wc
     go_upto_if 145 with fail;go_cut [] (λN=>Hid (Srd enc k w0 blk off n (.func (.func g) #[] lb) (.func (.func sf) #[] sb) W (A++(U1++(V1++(U2++(V2++B))))).toArray N))
     case first=>
      have c0:=o.o.box.c0;have c1:=o.o.box.c1;have a8:=o.o.box.lt;obtain ⟨F,C,z,e4,e5,e6,e7,-,-,-⟩:=HG.o;obtain ⟨S,p2,p3,p4,p5,-⟩:=HF.o;have hd:((q1:Bool)=(decide (j<m)&&decide (m<s))):=Q1.o;have eL:L=(A++U1)++(U2++(V1++(V2++B))):=by rw [S,C,z];simp
      have eG:A++(U1++(V1++(U2++(V2++B))))=(A++U1)++(V1++(U2++(V2++B))):=Qf;have lU:U.length=U1.length+U2.length:=by rw [C];simp
      have lV:V.length=V1.length+V2.length:=by rw [z];simp
      cases q1 with
      | true=>
       have t:j<m/\m<s:=by have:=hd.symm;simpa using this
       have D:=o.o.srt;rw [eL] at D;have hc:=Zu2 (g:=g) (lb:=lb) hk ao.o Qa (A++U1) U2 V1 (V2++B) j m s (by simp only [Qo];omega) (by simp only [Qo];omega) Qa Qa Qa (by simp only [Qo];omega) wc D;rw [<-eG] at hc;have hc:=hid hc;clear F C z e4 e5 e6 e7 S p2 p3 p4 p5 hd eL eG D t lU lV;go_wp2_with fail;refine hc.o.mono ?_;rintro e w1 ⟨rfl,r,p⟩;have R1:=hid (o.o.next r p);clear r p;go_wp2;go_meet;exact R1
      | false=>
       have t:¬j<m\/¬m<s:=by have:=hd.symm;simp only [Bool.and_eq_false_iff,decide_eq_false_iff_not] at this;exact this
       have eq:L=(A++U1)++(V1++(U2++(V2++B))):=by
        rw [eL];rcases t with t | t
        ·obtain rfl:=List.eq_nil_of_length_eq_zero (l:=U2) Qa;simp
        ·obtain rfl:=List.eq_nil_of_length_eq_zero (l:=V1) Qa;simp
       have D:=o.o;rw [eq,<-eG] at D;have ap:=hid D;clear F C z e4 e5 e6 e7 S p2 p3 p4 p5 hd eL eG D t lU lV eq;go_wp2_with fail;go_meet;exact ap
     case rest=>
      clear o Q1;have o:=hcut;clear hcut
      rename World=>wd
      obtain ⟨q2,ae⟩:∃q2:Bool,q2=(decide (a<j)&&decide (j<d)):=⟨_,rfl⟩;have Q2:=hid ae;clear ae;go_upto_region 42 with fail;go_cut [158] (λab N=>ab = .bool q2/\Hid (Srd enc k w0 blk off n (.func (.func g) #[] lb) (.func (.func sf) #[] sb) W (A++(U1++(V1++(U2++(V2++B))))).toArray N))
      case first=>
       have hd:((q2:Bool)=(decide (a<j)&&decide (j<d))):=Q2.o;by_cases h1:a<j
       ·by_cases h2:j<d
        ·have E:q2=true:=by rw [hd];simp [h1,h2]
         clear hd;go_wp2_with fail;go_meet;exact ⟨congrArg Value.bool E.symm,o⟩
        ·have E:q2=false:=by rw [hd];simp [h2]
         clear hd;go_wp2_with fail;go_meet;exact ⟨congrArg Value.bool E.symm,o⟩
       ·have E:q2=false:=by rw [hd];simp [h1]
        clear hd;go_wp2_with fail;go_meet;exact ⟨congrArg Value.bool E.symm,o⟩
      case rest=>
       clear o;obtain ⟨rfl,o⟩:=hcut
       rename World=>wc
       go_upto_if 158 with fail;go_cut [] (λN=>∃R1,Hid (Asc lt R1/\Stb lt (U1++V1) R1)/\Hid (Srd enc k w0 blk off n (.func (.func g) #[] lb) (.func (.func sf) #[] sb) W (A++(R1++(U2++(V2++B)))).toArray N))
       case first=>
        have c0:=o.o.box.c0;have c1:=o.o.box.c1;have a8:=o.o.box.lt;obtain ⟨F,C,z,e4,e5,e6,e7,-,-,e8⟩:=HG.o;obtain ⟨S,p2,p3,p4,p5,K,J,p8,p9,Q,O⟩:=HF.o;have hd:((q2:Bool)=(decide (a<j)&&decide (j<d))):=Q2.o;have lU:U.length=U1.length+U2.length:=by rw [C];simp
        have lV:V.length=V1.length+V2.length:=by rw [z];simp
        rw [C] at K;rw [z] at J;have s1:=(Bw.1 K).1;have s2:=(Bw.1 J).1;cases q2 with
        | true=>
         have t:a<j/\j<d:=by have:=hd.symm;simpa using this
         have hc:=hid (ai.o A U1 V1 (U2++(V2++B)) a j d Qa p2 Qa Qa Qa Qa (by simp only [Qo];omega) s1 s2 wc o.o.srt);clear F C z e4 e5 e6 e7 e8 S p2 p3 p4 p5 K J p8 p9 Q O hd t lU lV s1 s2;go_wp2_with fail;refine hc.o.mono ?_;rintro e w1 ⟨rfl,R1,a1,a2,r,p⟩;have HA:=hid (And.intro a1 a2);have I:=hid (o.o.next r p);clear r p a1 a2;go_wp2;go_meet;exact ⟨R1,HA,I⟩
        | false=>
         have t:¬a<j\/¬j<d:=by have:=hd.symm;simp only [Bool.and_eq_false_iff,decide_eq_false_iff_not] at this;exact this
         have eq:∃R1,Hid (Asc lt R1/\Stb lt (U1++V1) R1)/\Hid (Srd enc k w0 blk off n (.func (.func g) #[] lb) (.func (.func sf) #[] sb) W (A++(R1++(U2++(V2++B)))).toArray wc):=by
          have D:=o.o;rcases t with t | t
          ·obtain rfl:=List.eq_nil_of_length_eq_zero (l:=U1) Qa;exact ⟨V1,hid ⟨s2,by simpa using Stb.refl _⟩,hid (by simpa using D)⟩
          ·obtain rfl:=List.eq_nil_of_length_eq_zero (l:=V1) Qa;exact ⟨U1,hid ⟨s1,by simpa using Stb.refl _⟩,hid (by simpa using D)⟩
         clear F C z e4 e5 e6 e7 e8 S p2 p3 p4 p5 K J p8 p9 Q O hd t lU lV s1 s2;go_wp2_with fail;go_meet;exact eq
       case rest=>
        clear o Q2;obtain ⟨R1,HA,o⟩:=hcut
        rename World=>wd
        obtain ⟨q3,ad⟩:∃q3:Bool,q3=(decide (d<s)&&decide (s<b)):=⟨_,rfl⟩;have Q3:=hid ad;clear ad;go_upto_region 44 with fail;go_cut [171] (λaa N=>aa = .bool q3/\Hid (Srd enc k w0 blk off n (.func (.func g) #[] lb) (.func (.func sf) #[] sb) W (A++(R1++(U2++(V2++B)))).toArray N))
        case first=>
         have hd:((q3:Bool)=(decide (d<s)&&decide (s<b))):=Q3.o;by_cases h1:d<s
         ·by_cases h2:s<b
          ·have E:q3=true:=by rw [hd];simp [h1,h2]
           clear hd;go_wp2_with fail;go_meet;exact ⟨congrArg Value.bool E.symm,o⟩
          ·have E:q3=false:=by rw [hd];simp [h2]
           clear hd;go_wp2_with fail;go_meet;exact ⟨congrArg Value.bool E.symm,o⟩
         ·have E:q3=false:=by rw [hd];simp [h1]
          clear hd;go_wp2_with fail;go_meet;exact ⟨congrArg Value.bool E.symm,o⟩
        case rest=>
         clear o;obtain ⟨rfl,o⟩:=hcut
         rename World=>wc
         have c0:=o.o.box.c0;have c1:=o.o.box.c1;have a8:=o.o.box.lt;obtain ⟨F,C,z,e4,e5,e6,e7,e8,e9,ah⟩:=HG.o;obtain ⟨S,p2,p3,p4,p5,K,J,p8,p9,Q,O⟩:=HF.o;have hd:((q3:Bool)=(decide (d<s)&&decide (s<b))):=Q3.o;have lU:U.length=U1.length+U2.length:=by rw [C];simp
         have lV:V.length=V1.length+V2.length:=by rw [z];simp
         have lR:U1.length+V1.length=R1.length:=by have:=HA.o.2.len;simpa using this
         rw [C] at K;rw [z] at J;have s1:=(Bw.1 K).2.1;have s2:=(Bw.1 J).2.1;have fin:Hid (∀R2,Asc lt R2->Stb lt (U2++V2) R2->Asc lt (R1++R2)/\Stb lt (U++V) (R1++R2)):=hid λR2 a2 b2=>by rw [C,z];exact Nr hO K J e8 e9 HA.o.2 b2 HA.o.1 a2
         cases q3 with
         | true=>
          have t:d<s/\s<b:=by have:=hd.symm;simpa using this
          have D:=o.o.srt;rw [<-Qu] at D;have hc:=hid (ai.o (A++R1) U2 V2 B d s b Qa (by simp only [Qo];omega) (by simp only [Qo];omega) Qa Qa Qa (by simp only [Qo];omega) s1 s2 wc D);clear F C z e4 e5 e6 e7 e8 e9 ah S p2 p3 p4 p5 K J p8 p9 Q O hd t lU lV lR s1 s2 D;go_wp2_with fail;refine hc.o.mono ?_;rintro e w1 ⟨rfl,R2,a1,a2,r,p⟩;have I:=hid (o.o.next r p);have a3:=hid (fin.o R2 a1 a2);clear r p a1 a2;go_wp2;go_end0;have hs:=I.o.srt;rw [Qu,<-Qu R1] at hs;exact ⟨rfl,R1++R2,a3.o.1,a3.o.2,hs,I.o.touch⟩
         | false=>
          have t:¬d<s\/¬s<b:=by have:=hd.symm;simp only [Bool.and_eq_false_iff,decide_eq_false_iff_not] at this;exact this
          have eq:∃R2,Hid (Asc lt (R1++R2)/\Stb lt (U++V) (R1++R2))/\Hid (Srd enc k w0 blk off n (.func (.func g) #[] lb) (.func (.func sf) #[] sb) W (A++((R1++R2)++B)).toArray wc):=by
           have D:=o.o;have hf:=fin.o;rcases t with t | t
           ·obtain rfl:=List.eq_nil_of_length_eq_zero (l:=U2) Qa;exact ⟨V2,hid (hf V2 s2 (by simpa using Stb.refl _)),hid (by simpa using D)⟩
           ·obtain rfl:=List.eq_nil_of_length_eq_zero (l:=V2) Qa;exact ⟨U2,hid (hf U2 s1 (by simpa using Stb.refl _)),hid (by simpa using D)⟩
          clear F C z e4 e5 e6 e7 e8 e9 ah S p2 p3 p4 p5 K J p8 p9 Q O hd t lU lV lR s1 s2;obtain ⟨R2,a3,I⟩:=eq;go_wp2_with fail;go_end0;exact ⟨rfl,R1++R2,a3.o.1,a3.o.2,I.o.srt,I.o.touch⟩
end
end Go.Proofs.YtpdphfgpdgadpaaGreat
