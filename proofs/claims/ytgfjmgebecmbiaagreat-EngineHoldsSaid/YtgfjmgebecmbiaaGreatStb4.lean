import Derived.Test.YtgfjmgebecmbiaaGreatSort2
set_option linter.unusedSimpArgs false
set_option linter.unusedVariables false
set_option maxHeartbeats 1000000
namespace Go.Proofs.YtgfjmgebecmbiaaGreat
open Lib(hid)
open Go.RowKit Go.Sort M
section
variable {α:Type} [Inhabited α] {enc:α->List Value} {k:Nat} {w0:World} {blk off n:Nat} {lt:α->α->Bool} {g:Nat} {lb:Array Value} {sf:Nat} {sb:Array Value}
set_option maxRecDepth 100000 in
theorem Zhv (hk:∀x,(enc x).length=k) (hS:SwapSwapsK Tryz.prog sf sb enc k blk off n) (hn:n<4611686018427387904)
 (P X Q Y S:List α) (a b m:Nat) (ha:a=P.length) (hm:m=X.length) (hm2:m=Y.length) (hb:b=P.length+X.length+Q.length) (hl:P.length+X.length+Q.length+Y.length+S.length=n) (W:World) (H:Srt enc k w0 blk off n (P++(X++(Q++(Y++S)))).toArray W) :
 Calls Tryz.prog 197 #[.agg #[.func (.func g) #[] lb,.func (.func sf) #[] sb],.int .i64 (a:Int),.int .i64 (b:Int),.int .i64 (m:Int)] W fun e w'=>
  e = .returned (.tuple #[])/\Srt enc k w0 blk off n (P++(Y++(Q++(X++S)))).toArray w'/\Touch (· = blk) W w':=by
 have HSW:=hid hS
 clear hS
 obtain ⟨G,hG⟩:∃G,G=P++(Y++(Q++(X++S))):=⟨_,rfl⟩
 rw [<-hG]
 have R0:∃(P' X' Q' Y' S':List α),Hid (a=P'.length/\X'.length=m/\Y'.length=m/\b=P'.length+X'.length+Q'.length/\P'++(Y'++(Q'++(X'++S')))=G/\P'.length+X'.length+Q'.length+Y'.length+S'.length=n/\Srt enc k w0 blk off n (P'++(X'++(Q'++(Y'++S')))).toArray W):=
  ⟨P,X,Q,Y,S,ha,hm.symm,hm2.symm,hb,hG.symm,hl,H⟩
 clear H hG hl hb hm2 hm ha P X Q Y S
 obtain ⟨P,X,Q,Y,S,HI⟩:=R0
 go_enter Tryz.func197,Tryz.ntmps197
 go_wp2_with fail
 have R:=Srd.start (x := .func (.func g) #[] lb) (y := .func (.func sf) #[] sb) HI.out.2.2.2.2.2.2 183
 go_loopg [8] m (fun kx s8 wr=>∃(i:Nat) (P' X' Q' Y' S':List α),s8 = .int .i64 (i:Int)/\m-i<=kx/\i<=m/\Hid (a+i=P'.length/\X'.length=m-i/\Y'.length=m-i/\b+i=P'.length+X'.length+Q'.length/\P'++(Y'++(Q'++(X'++S')))=G/\P'.length+X'.length+Q'.length+Y'.length+S'.length=n)/\Hid (Srd enc k w0 blk off n (.func (.func g) #[] lb) (.func (.func sf) #[] sb) W (P'++(X'++(Q'++(Y'++S')))).toArray wr))
 case atStart=>
  obtain ⟨i1,i2,i3,i4,i5,i6,-⟩:=HI.out
  exact ⟨0,P,X,Q,Y,S,rfl,by omega,by omega,hid ⟨by omega,by omega,by omega,by omega,i5,i6⟩,hid R⟩
 case round=>
  clear R HI P X Q Y S
  obtain ⟨i,P',X',Q',Y',S',rfl,h1,h2,HN,HR⟩:=hrel
  have c1:=HR.out.box.c1
  have hlt:=HR.out.box.lt
  by_cases hi:i<m
  ·obtain ⟨x,X'',rfl⟩:=List.exists_cons_of_length_pos (l:=X') (by have:=HN.out.2.1;omega)
   obtain ⟨y,Y'',rfl⟩:=List.exists_cons_of_length_pos (l:=Y') (by have:=HN.out.2.2.1;omega)
   obtain ⟨w2,hrun,R2,HN2,ha,hb⟩:∃w2,(callFunc sf (#[.int .i64 ((a:Int)+(i:Int)),.int .i64 ((b:Int)+(i:Int))]++sb)).run Tryz.prog wr = .ok (.value (.tuple #[])) w2/\Hid (Srd enc k w0 blk off n (.func (.func g) #[] lb) (.func (.func sf) #[] sb) W ((P'++[y])++(X''++((Q'++[x])++(Y''++S')))).toArray w2)
    /\ Hid (a+(i+1)=(P'++[y]).length/\X''.length=m-(i+1)/\Y''.length=m-(i+1)/\b+(i+1)=(P'++[y]).length+X''.length+(Q'++[x]).length/\(P'++[y])++(Y''++((Q'++[x])++(X''++S')))=G/\(P'++[y]).length+X''.length+(Q'++[x]).length+Y''.length+S'.length=n)/\a+i<n/\b+i<n:=by
    obtain ⟨n1,n2,n3,n4,n5,n6⟩:=HN.out
    simp only [List.length_cons] at n2 n3 n4 n6
    obtain ⟨w2,hrun,hS2,hT2⟩:=HR.out.srt.swap HSW.out hk ((a:Int)+(i:Int)) ((b:Int)+(i:Int)) (a+i) (b+i) (by omega) (by omega) (by omega) (by omega)
    have e2:=Zuz (X:=X'') (Q:=Q') (Y:=Y'') (S:=S') (x:=x) (y:=y) (a+i) (b+i) n1 (by omega)
    rw [e2] at hS2
    exact ⟨w2,hrun,hid (HR.out.next hS2 hT2),hid ⟨by simp;omega,by omega,by omega,by simp;omega,by simpa using n5,by simp;omega⟩,by omega,by omega⟩
   go_wp2_with fail
   go_roundg (m-(i+1))
   case measure=>omega
   case rel=>exact ⟨i+1,_,_,_,_,_,by go_num,by omega,by omega,HN2,R2⟩
  ·go_wp2
   go_end0
   obtain ⟨n1,n2,n3,n4,n5,n6⟩:=HN.out
   obtain rfl:=List.eq_nil_of_length_eq_zero (l:=X') (by omega)
   obtain rfl:=List.eq_nil_of_length_eq_zero (l:=Y') (by omega)
   have hr:=HR.out.srt
   simp only [List.nil_append] at n5 hr
   rw [n5] at hr
   exact ⟨rfl,hr,HR.out.touch⟩
structure Rot (G:List α) (n m i j:Nat) (P U V S:List α):Prop where
 p:P.length+i=m
 u:U.length=i
 v:V.length=j
 i0:0<i
 j0:0<j
 e:P++(V++(U++S))=G
 l:P.length+U.length+V.length+S.length=n
set_option maxRecDepth 100000 in
theorem Zuv (hk:∀x,(enc x).length=k) (hS:SwapSwapsK Tryz.prog sf sb enc k blk off n) (hn:n<4611686018427387904)
 (P U V S:List α) (a m b:Nat) (ha:a=P.length) (hm:m=P.length+U.length) (hb:b=m+V.length) (hu:0<U.length) (hv:0<V.length) (hl:P.length+U.length+V.length+S.length=n) (W:World) (H:Srt enc k w0 blk off n (P++(U++(V++S))).toArray W) :
 Calls Tryz.prog 192 #[.agg #[.func (.func g) #[] lb,.func (.func sf) #[] sb],.int .i64 (a:Int),.int .i64 (m:Int),.int .i64 (b:Int)] W fun e w'=>
  e = .returned (.tuple #[])/\Srt enc k w0 blk off n (P++(V++(U++S))).toArray w'/\Touch (· = blk) W w':=by
 have HSW:=hid hS
 clear hS
 obtain ⟨G,hG⟩:∃G,G=P++(V++(U++S)):=⟨_,rfl⟩
 rw [<-hG]
 have R0:∃(P U V S:List α),Hid (Rot G n m (m-a) (b-m) P U V S/\Srt enc k w0 blk off n (P++(U++(V++S))).toArray W):=
  ⟨P,U,V,S,⟨by omega,by omega,by omega,by omega,by omega,hG.symm,hl⟩,H⟩
 have b1:a<=m:=by omega
 have b2:m<=b:=by omega
 have b3:b<=n:=by omega
 clear H hG hl hb hm hu hv ha P U V S
 obtain ⟨P,U,V,S,HI⟩:=R0
 go_enter Tryz.func192,Tryz.ntmps192
 go_wp2_with fail
 have R:=Srd.start (x := .func (.func g) #[] lb) (y := .func (.func sf) #[] sb) HI.out.2 183
 go_loopg [8,9] (b-a) (fun kx s8 s9 wr=>∃(i j:Nat) (P' U' V' S':List α),s8 = .int .i64 (i:Int)/\s9 = .int .i64 (j:Int)/\i+j<=kx/\i<=m/\m+j<=n/\Hid (Rot G n m i j P' U' V' S')/\Hid (Srd enc k w0 blk off n (.func (.func g) #[] lb) (.func (.func sf) #[] sb) W (P'++(U'++(V'++S'))).toArray wr))
 case atStart=>
  exact ⟨m-a,b-m,P,U,V,S,by go_num,by go_num,by omega,by omega,by omega,hid HI.out.1,hid R⟩
 case round=>
  clear R HI P U V S
  obtain ⟨i,j,P,U,V,S,rfl,rfl,h1,h2,h3,HN,HR⟩:=hrel
  have c0:=HR.out.box.c0
  have c1:=HR.out.box.c1
  have hlt:=HR.out.box.lt
  rcases Nat.lt_trichotomy i j with hij | hij | hij
  ·have hne:i≠j:=by omega
   have hng:¬j<i:=by omega
   obtain ⟨hc,HN2,i0⟩:Hid (Calls Tryz.prog 197 #[.agg #[.func (.func g) #[] lb,.func (.func sf) #[] sb],.int .i64 ((m:Int)-(i:Int)),.int .i64 ((m:Int)+(j:Int)-(i:Int)),.int .i64 (i:Int)] wr fun e w'=>
    e = .returned (.tuple #[])/\Srt enc k w0 blk off n (P++(V.drop (j-i)++(V.take (j-i)++(U++S)))).toArray w'/\Touch (· = blk) wr w')/\Hid (Rot G n m i (j-i) P (V.drop (j-i)) (V.take (j-i)) (U++S))/\0<i:=by
    obtain ⟨n1,n2,n3,n4,n5,n6,n7⟩:=HN.out
    have l1:(V.drop (j-i)).length=i:=by rw [List.length_drop];omega
    have l2:(V.take (j-i)).length=j-i:=by rw [List.length_take];omega
    have e1:V.take (j-i)++V.drop (j-i)=V:=List.take_append_drop _ _
    have e2:P++(U++(V++S))=P++(U++(V.take (j-i)++(V.drop (j-i)++S))):=by rw [<-List.append_assoc (V.take (j-i)),e1]
    have hr:=HR.out.srt
    rw [e2] at hr
    have:=Zhv (g:=g) (lb:=lb) hk HSW.out hn P U (V.take (j-i)) (V.drop (j-i)) S (m-i) (m+j-i) i (by omega) n2.symm l1.symm (by omega) (by omega) wr hr
    rw [show ((m-i:Nat):Int)=(m:Int)-(i:Int) from by omega,show ((m+j-i:Nat):Int)=(m:Int)+(j:Int)-(i:Int) from by omega] at this
    refine ⟨hid this,hid ⟨n1,l1,l2,n4,by omega,?_,by simp only [List.length_append];omega⟩,n4⟩
    rw [<-n6,<-List.append_assoc (V.take (j-i)),e1]
   go_wp2_with fail
   refine hc.out.mono ?_
   rintro e w1 ⟨rfl,hS1,hT1⟩
   have R1:=hid (HR.out.next hS1 hT1)
   clear hS1 hT1
   go_wp2
   go_roundg (i+(j-i))
   case measure=>omega
   case rel=>exact ⟨i,j-i,_,_,_,_,by go_num,by go_num,by omega,by omega,by omega,HN2,R1⟩
  ·subst hij
   have hc:Hid (Calls Tryz.prog 197 #[.agg #[.func (.func g) #[] lb,.func (.func sf) #[] sb],.int .i64 ((m:Int)-(i:Int)),.int .i64 (m:Int),.int .i64 (i:Int)] wr fun e w'=>
    e = .returned (.tuple #[])/\Srt enc k w0 blk off n G.toArray w'/\Touch (· = blk) wr w'):=by
    obtain ⟨n1,n2,n3,n4,n5,n6,n7⟩:=HN.out
    have:=Zhv (g:=g) (lb:=lb) hk HSW.out hn P U [] V S (m-i) m i (by omega) n2.symm n3.symm (by simp;omega) (by simp;omega) wr (by simpa using HR.out.srt)
    rw [show ((m-i:Nat):Int)=(m:Int)-(i:Int) from by omega] at this
    simp only [List.nil_append] at this
    rw [n6] at this
    exact hid this
   go_wp2_with fail
   refine hc.out.mono ?_
   rintro e w1 ⟨rfl,hS1,hT1⟩
   have R1:=hid (HR.out.next hS1 hT1)
   clear hS1 hT1
   go_wp2
   go_end0
   exact ⟨rfl,R1.out.srt,R1.out.touch⟩
  ·have hne:i≠j:=by omega
   obtain ⟨hc,HN2,i0⟩:Hid (Calls Tryz.prog 197 #[.agg #[.func (.func g) #[] lb,.func (.func sf) #[] sb],.int .i64 ((m:Int)-(i:Int)),.int .i64 (m:Int),.int .i64 (j:Int)] wr fun e w'=>
    e = .returned (.tuple #[])/\Srt enc k w0 blk off n ((P++V)++(U.drop j++(U.take j++S))).toArray w'/\Touch (· = blk) wr w')/\Hid (Rot G n m (i-j) j (P++V) (U.drop j) (U.take j) S)/\0<j:=by
    obtain ⟨n1,n2,n3,n4,n5,n6,n7⟩:=HN.out
    have l1:(U.drop j).length=i-j:=by rw [List.length_drop];omega
    have l2:(U.take j).length=j:=by rw [List.length_take];omega
    have e1:U.take j++U.drop j=U:=List.take_append_drop _ _
    have e2:P++(U++(V++S))=P++(U.take j++(U.drop j++(V++S))):=by rw [<-List.append_assoc (U.take j),e1]
    have hr:=HR.out.srt
    rw [e2] at hr
    have:=Zhv (g:=g) (lb:=lb) hk HSW.out hn P (U.take j) (U.drop j) V S (m-i) m j (by omega) l2.symm n3.symm (by omega) (by omega) wr hr
    rw [show ((m-i:Nat):Int)=(m:Int)-(i:Int) from by omega,<-List.append_assoc P] at this
    refine ⟨hid this,hid ⟨by simp only [List.length_append];omega,l1,l2,by omega,n5,?_,by simp only [List.length_append];omega⟩,n5⟩
    rw [<-n6,<-List.append_assoc (U.take j),e1,List.append_assoc]
   go_wp2_with fail
   refine hc.out.mono ?_
   rintro e w1 ⟨rfl,hS1,hT1⟩
   have R1:=hid (HR.out.next hS1 hT1)
   clear hS1 hT1
   go_wp2
   go_roundg (i-j+j)
   case measure=>omega
   case rel=>exact ⟨i-j,j,_,_,_,_,by go_num,by go_num,by omega,by omega,by omega,HN2,R1⟩
end
section
variable {α:Type} [Inhabited α] {enc:α->List Value} {k:Nat} {w0:World} {blk off n:Nat} {lt:α->α->Bool} {g:Nat} {lb:Array Value} {sf:Nat} {sb:Array Value}
set_option maxRecDepth 100000 in
theorem Z1f (hO:SWO lt) (hk:∀x,(enc x).length=k) (eg:∀args w,(callFunc g args).run Tryz.prog w = .ok (.enter g args) w) (hL:Zdh g lb enc k lt w0 blk off n) (hS:SwapSwapsK Tryz.prog sf sb enc k blk off n) (hn:n<4611686018427387904)
 (A V B:List α) (u:α) (a m b:Nat) (ha:a=A.length) (hm:m=A.length+1) (hb:b=m+V.length) (hl:A.length+1+V.length+B.length=n) (hV:Asc lt V) (W:World) (H:Srt enc k w0 blk off n (A++([u]++(V++B))).toArray W) :
 Calls Tryz.prog 187 #[.agg #[.func (.func g) #[] lb,.func (.func sf) #[] sb],.int .i64 (a:Int),.int .i64 (m:Int),.int .i64 (b:Int)] W fun e w'=>
  e = .returned (.tuple #[])/\∃R,Asc lt R/\Stb lt ([u]++V) R/\Srt enc k w0 blk off n (A++(R++B)).toArray w'/\Touch (· = blk) W w':=by
 have HSW:=hid hS
 have HL:=hid hL
 clear hS hL
 obtain ⟨L,hLe⟩:∃L,L=A++([u]++(V++B)):=⟨_,rfl⟩
 rw [<-hLe] at H
 have mono:=hid (Z6k hO (U:=[u]) hLe hV a m b (by simpa using hm) hb)
 have b1:m=a+1:=by omega
 have b2:m<=b:=by omega
 have b3:b<=n:=by omega
 have HF:=hid (And.intro hLe (And.intro ha (And.intro hm (And.intro hb (And.intro hl hV)))))
 clear hLe ha hm hb hl hV
 have hone:(m:Int)-(a:Int)=1:=by omega
 have B1:=hid b1
 clear b1
 have HB:=hid (Bs.start (f1 lt L a) b2)
 go_enter Tryz.func187,Tryz.ntmps187
 go_wp2_with fail
 have R:=hid (Srd.start (x := .func (.func g) #[] lb) (y := .func (.func sf) #[] sb) H 183)
 clear H
 go_loopg [8,9] (b-m) (fun kx s8 s9 wr=>∃(i j:Nat),s8 = .int .i64 (i:Int)/\s9 = .int .i64 (j:Int)/\j-i<=kx/\m<=i/\i<=j/\j<=b/\Hid (Bs (f1 lt L a) m b i j)/\Hid (Srd enc k w0 blk off n (.func (.func g) #[] lb) (.func (.func sf) #[] sb) W L.toArray wr))
 case atStart=>exact ⟨m,b,rfl,rfl,by omega,by omega,by omega,by omega,HB,R⟩
 case round=>
  clear R HB
  obtain ⟨i,j,rfl,rfl,h1,h2,h3,h4,HB,HR⟩:=hrel
  have c0:=HR.out.box.c0
  have c1:=HR.out.box.c1
  have hlt:=HR.out.box.lt
  by_cases hi:i<j
  ·have hl1:Calls Tryz.prog g (#[.int .i64 (((i:Int)+(j:Int))/2),.int .i64 (a:Int)]++lb) wr fun e w'=>e = .returned (.bool (f1 lt L a ((i+j)/2)))/\Srt enc k w0 blk off n L.toArray w'/\Touch (· = blk) wr w':=
    HR.out.srt.less HL.out (((i:Int)+(j:Int))/2) (a:Int) ((i+j)/2) a (by omega) (by have:=B1.out;omega) (by omega) rfl
   cases hv:f1 lt L a ((i+j)/2) with
   | true=>
    rw [hv] at hl1
    have HB2:=hid (HB.out.up mono.out (h:=(i+j)/2) (by omega) (by omega) hv)
    go_wp2_with fail
    refine hl1.mono ?_
    rintro e w1 ⟨rfl,hS1,hT1⟩
    have R1:=hid (HR.out.next hS1 hT1)
    clear hS1 hT1
    go_wp2
    go_roundg (j-((i+j)/2+1))
    case measure=>omega
    case rel=>exact ⟨(i+j)/2+1,j,by go_num,rfl,by omega,by omega,by omega,by omega,HB2,R1⟩
   | false=>
    rw [hv] at hl1
    have HB2:=hid (HB.out.down mono.out (h:=(i+j)/2) (by omega) (by omega) hv)
    go_wp2_with fail
    refine hl1.mono ?_
    rintro e w1 ⟨rfl,hS1,hT1⟩
    have R1:=hid (HR.out.next hS1 hT1)
    clear hS1 hT1
    go_wp2
    go_roundg ((i+j)/2-i)
    case measure=>omega
    case rel=>exact ⟨i,(i+j)/2,rfl,by go_num,by omega,by omega,by omega,by omega,HB2,R1⟩
  ·go_wp2
   obtain rfl:j=i:=by omega
   obtain ⟨G,X,Y,hR,HG⟩:∃(G R Y:List α),(∃R,Asc lt R/\Stb lt ([u]++V) R/\G=A++(R++B))/\Hid (A.length=a/\a+1+R.length=j/\L=A++(u::(R++Y))/\A++(R++(u::Y))=G):=by
    obtain ⟨f1,f2,f3,f4,f5,f6⟩:=HF.out
    obtain ⟨g1,g2⟩:=Z15 hO f1 a m b j f2 f3 f4 HB.out
    have e1:V.take (j-m)++V.drop (j-m)=V:=List.take_append_drop _ _
    have l1:(V.take (j-m)).length=j-m:=by rw [List.length_take];omega
    rw [<-e1] at f6
    obtain ⟨q1,q2⟩:=Zl6 hO (U1:=[]) (U2:=[u]) (R1:=V.take (j-m)) (R2:=u::V.drop (j-m)) (by unfold Asc;simp) f6 (by simp) (by simpa using g1) (by simpa using Stb.refl _) (by simpa using Stb.refl _) (Zax.1 f6).1 (Zt9 (Zax.1 f6).2.1 g2)
    refine ⟨_,V.take (j-m),V.drop (j-m)++B,⟨_,q1,?_,rfl⟩,hid ⟨f2.symm,by have:=B1.out;omega,?_,by simp⟩⟩
    ·rw [e1] at q2
     simpa using q2
    ·rw [f1,<-List.append_assoc (V.take (j-m)),e1]
     rfl
   clear HF hi h1 mono HL HB
   rename World=>wo
   go_loopg [11] (j-a) (fun kx s11 wr=>∃(i:Nat) (P Q:List α),s11 = .int .i64 (i:Int)/\j-1-i<=kx/\a<=i/\i+1<=j/\Hid (P.length=i/\i+1+Q.length=j/\P++(Q++(u::Y))=G)/\Hid (Srd enc k w0 blk off n (.func (.func g) #[] lb) (.func (.func sf) #[] sb) W (P++(u::(Q++Y))).toArray wr))
   case atStart=>
    obtain ⟨g1,g2,g3,g4⟩:=HG.out
    have hr:=HR.out
    rw [g3] at hr
    have:=B1.out
    exact ⟨a,A,X,rfl,by omega,by omega,by omega,hid ⟨g1,g2,g4⟩,hid hr⟩
   case round=>
    clear HR HG
    obtain ⟨i,P,Q,rfl,h1,h2,h3,HN,HR⟩:=hrel
    have c1:=HR.out.box.c1
    have hlt:=HR.out.box.lt
    by_cases hi:i+1<j
    ·obtain ⟨v,Q,rfl⟩:=List.exists_cons_of_length_pos (l:=Q) (by have:=HN.out.2.1;omega)
     obtain ⟨w2,hrun,R2,HN2⟩:∃w2,(callFunc sf (#[.int .i64 (i:Int),.int .i64 ((i:Int)+1)]++sb)).run Tryz.prog wr = .ok (.value (.tuple #[])) w2/\Hid (Srd enc k w0 blk off n (.func (.func g) #[] lb) (.func (.func sf) #[] sb) W ((P++[v])++(u::(Q++Y))).toArray w2)
      /\ Hid ((P++[v]).length=i+1/\i+1+1+Q.length=j/\(P++[v])++(Q++(u::Y))=G):=by
      obtain ⟨n1,n2,n3⟩:=HN.out
      simp only [List.length_cons] at n2
      obtain ⟨w2,hrun,hS2,hT2⟩:=HR.out.srt.swap HSW.out hk (i:Int) ((i:Int)+1) i (i+1) (by omega) (by omega) (by omega) (by omega)
      have e2:=Zx3 (P:=P) (S:=Q++Y) (x:=u) (y:=v) i (i+1) n1.symm (by omega)
      rw [show v::Q++Y=v::(Q++Y) from rfl,e2] at hS2
      rw [show P++(v::u::(Q++Y))=(P++[v])++(u::(Q++Y)) from by simp] at hS2
      exact ⟨w2,hrun,hid (HR.out.next hS2 hT2),hid ⟨by simp;omega,by omega,by simpa using n3⟩⟩
     go_wp2_with fail
     go_roundg (j-1-(i+1))
     case measure=>omega
     case rel=>exact ⟨i+1,_,_,by go_num,by omega,by omega,by omega,HN2,R2⟩
    ·go_wp2
     (try simp only [Exit.inBlock,Exit.then])
     refine bodyPost_ret (results_none rfl _ _ _) rfl ?_
     obtain ⟨n1,n2,n3⟩:=HN.out
     obtain rfl:=List.eq_nil_of_length_eq_zero (l:=Q) (by omega)
     have hr:=HR.out.srt
     simp only [List.nil_append] at n3 hr
     obtain ⟨R,r1,r2,r3⟩:=hR
     rw [n3,r3] at hr
     exact ⟨rfl,R,r1,r2,hr,HR.out.touch⟩
set_option maxRecDepth 100000 in
theorem Z1e (hO:SWO lt) (hk:∀x,(enc x).length=k) (eg:∀args w,(callFunc g args).run Tryz.prog w = .ok (.enter g args) w) (hL:Zdh g lb enc k lt w0 blk off n) (hS:SwapSwapsK Tryz.prog sf sb enc k blk off n) (hn:n<4611686018427387904)
 (A U B:List α) (u:α) (a m b:Nat) (ha:a=A.length) (hm:m=A.length+U.length) (hb:b=m+1) (h2:2<=U.length) (hl:A.length+U.length+1+B.length=n) (hU:Asc lt U) (W:World) (H:Srt enc k w0 blk off n (A++(U++([u]++B))).toArray W) :
 Calls Tryz.prog 187 #[.agg #[.func (.func g) #[] lb,.func (.func sf) #[] sb],.int .i64 (a:Int),.int .i64 (m:Int),.int .i64 (b:Int)] W fun e w'=>
  e = .returned (.tuple #[])/\∃R,Asc lt R/\Stb lt (U++[u]) R/\Srt enc k w0 blk off n (A++(R++B)).toArray w'/\Touch (· = blk) W w':=by
 have HSW:=hid hS
 have HL:=hid hL
 clear hS hL
 obtain ⟨L,hLe⟩:∃L,L=A++(U++([u]++B)):=⟨_,rfl⟩
 rw [<-hLe] at H
 have mono:=hid (Z6j hO hLe hU a m ha hm)
 have b1:b=m+1:=by omega
 have b2:a<=m:=by omega
 have b4:a+2<=m:=by omega
 have b3:b<=n:=by omega
 have HF:=hid (And.intro hLe (And.intro ha (And.intro hm (And.intro hb (And.intro hl hU)))))
 clear hLe ha hm hb hl hU h2
 have hone:(b:Int)-(m:Int)=1:=by omega
 have hnot:(((m:Int)-(a:Int)) == 1)=false:=by
  rw [beq_eq_false_iff_ne]
  omega
 have B1:=hid b1
 clear b1
 have HB:=hid (Bs.start (f2 lt L m) b2)
 go_enter Tryz.func187,Tryz.ntmps187
 go_wp2_with fail
 have R:=hid (Srd.start (x := .func (.func g) #[] lb) (y := .func (.func sf) #[] sb) H 183)
 clear H
 go_loopg [12,13] (m-a) (fun kx s8 s9 wr=>∃(i j:Nat),s8 = .int .i64 (i:Int)/\s9 = .int .i64 (j:Int)/\j-i<=kx/\a<=i/\i<=j/\j<=m/\Hid (Bs (f2 lt L m) a m i j)/\Hid (Srd enc k w0 blk off n (.func (.func g) #[] lb) (.func (.func sf) #[] sb) W L.toArray wr))
 case atStart=>exact ⟨a,m,rfl,rfl,by omega,by omega,by omega,by omega,HB,R⟩
 case round=>
  clear R HB
  obtain ⟨i,j,rfl,rfl,h1,h2,h3,h4,HB,HR⟩:=hrel
  have c0:=HR.out.box.c0
  have c1:=HR.out.box.c1
  have hlt:=HR.out.box.lt
  by_cases hi:i<j
  ·have hl1:Calls Tryz.prog g (#[.int .i64 (m:Int),.int .i64 (((i:Int)+(j:Int))/2)]++lb) wr fun e w'=>e = .returned (.bool (!f2 lt L m ((i+j)/2)))/\Srt enc k w0 blk off n L.toArray w'/\Touch (· = blk) wr w':=
    by
     unfold f2
     rw [Bool.not_not]
     exact HR.out.srt.less HL.out (m:Int) (((i:Int)+(j:Int))/2) m ((i+j)/2) (by have:=B1.out;omega) (by omega) rfl (by omega)
   cases hv:f2 lt L m ((i+j)/2) with
   | true=>
    rw [hv] at hl1
    have HB2:=hid (HB.out.up mono.out (h:=(i+j)/2) (by omega) (by omega) hv)
    go_wp2_with fail
    refine hl1.mono ?_
    rintro e w1 ⟨rfl,hS1,hT1⟩
    have R1:=hid (HR.out.next hS1 hT1)
    clear hS1 hT1
    go_wp2
    go_roundg (j-((i+j)/2+1))
    case measure=>omega
    case rel=>exact ⟨(i+j)/2+1,j,by go_num,rfl,by omega,by omega,by omega,by omega,HB2,R1⟩
   | false=>
    rw [hv] at hl1
    have HB2:=hid (HB.out.down mono.out (h:=(i+j)/2) (by omega) (by omega) hv)
    go_wp2_with fail
    refine hl1.mono ?_
    rintro e w1 ⟨rfl,hS1,hT1⟩
    have R1:=hid (HR.out.next hS1 hT1)
    clear hS1 hT1
    go_wp2
    go_roundg ((i+j)/2-i)
    case measure=>omega
    case rel=>exact ⟨i,(i+j)/2,rfl,by go_num,by omega,by omega,by omega,by omega,HB2,R1⟩
  ·go_wp2
   obtain rfl:j=i:=by omega
   obtain ⟨G,A,X,Y,hR,HG⟩:∃(G A' R Y:List α),(∃R,Asc lt R/\Stb lt (U++[u]) R/\G=A++(R++B))/\Hid (A'.length=j/\j+R.length=m/\L=A'++(R++(u::Y))/\A'++(u::(R++Y))=G):=by
    obtain ⟨f1,f2,f3,f4,f5,f6⟩:=HF.out
    obtain ⟨g1,g2⟩:=Z73 f1 a m j f2 f3 HB.out
    have e1:U.take (j-a)++U.drop (j-a)=U:=List.take_append_drop _ _
    have l1:(U.take (j-a)).length=j-a:=by rw [List.length_take];omega
    have l2:(U.drop (j-a)).length=m-j:=by rw [List.length_drop];omega
    rw [<-e1] at f6
    obtain ⟨q1,q2⟩:=Zl6 hO (V1:=[u]) (V2:=[]) (R1:=U.take (j-a)++[u]) (R2:=U.drop (j-a)) f6 (by unfold Asc;simp) (by simp) (by simpa using g2) (Stb.refl _) (by simpa using Stb.refl _) (Zax.2 ⟨(Zax.1 f6).1,by unfold Asc;simp,fun x hx y hy=>by simp at hy;subst hy;exact g1 x hx⟩) (Zax.1 f6).2.1
    refine ⟨_,A++U.take (j-a),U.drop (j-a),B,⟨_,q1,?_,rfl⟩,hid ⟨by simp only [List.length_append];omega,by omega,?_,by simp⟩⟩
    ·rw [e1] at q2
     simpa using q2
    ·rw [f1,List.append_assoc,<-List.append_assoc (U.take (j-a)),e1]
     rfl
   clear HF hi h1 mono HL HB
   rename World=>wo
   go_loopg [15] (m-j) (fun kx s11 wr=>∃(i:Nat) (Q Y:List α),s11 = .int .i64 (i:Int)/\i-j<=kx/\j<=i/\i<=m/\Hid (A.length=j/\j+Q.length=i/\A++(u::(Q++Y))=G)/\Hid (Srd enc k w0 blk off n (.func (.func g) #[] lb) (.func (.func sf) #[] sb) W (A++(Q++(u::Y))).toArray wr))
   case atStart=>
    obtain ⟨g1,g2,g3,g4⟩:=HG.out
    have hr:=HR.out
    rw [g3] at hr
    exact ⟨m,X,Y,rfl,by omega,by omega,by omega,hid ⟨g1,g2,g4⟩,hid hr⟩
   case round=>
    clear HR HG
    obtain ⟨i,Q,Y,rfl,h1,h2,h3,HN,HR⟩:=hrel
    have c1:=HR.out.box.c1
    have hlt:=HR.out.box.lt
    by_cases hi:j<i
    ·obtain ⟨Q,v,rfl⟩:∃Q' v,Q=Q'++[v]:=⟨Q.dropLast,Q.getLast (by intro e;have:=HN.out.2.1;simp [e] at this;omega),(List.dropLast_concat_getLast _).symm⟩
     obtain ⟨w2,hrun,R2,HN2⟩:∃w2,(callFunc sf (#[.int .i64 (i:Int),.int .i64 ((i:Int)-1)]++sb)).run Tryz.prog wr = .ok (.value (.tuple #[])) w2/\Hid (Srd enc k w0 blk off n (.func (.func g) #[] lb) (.func (.func sf) #[] sb) W (A++(Q++(u::(v::Y)))).toArray w2)
      /\ Hid (A.length=j/\j+Q.length=i-1/\A++(u::(Q++(v::Y)))=G):=by
      obtain ⟨n1,n2,n3⟩:=HN.out
      simp only [List.length_append,List.length_singleton] at n2
      have:=B1.out
      obtain ⟨w2,hrun,hS2,hT2⟩:=HR.out.srt.swap HSW.out hk (i:Int) ((i:Int)-1) i (i-1) (by omega) (by omega) (by omega) (by omega)
      have e2:=Zu9 (P:=A++Q) (S:=Y) (x:=v) (y:=u) (i-1) i (by simp;omega) (by simp;omega)
      rw [show A++((Q++[v])++(u::Y))=(A++Q)++(v::u::Y) from by simp,e2] at hS2
      rw [show (A++Q)++(u::v::Y)=A++(Q++(u::(v::Y))) from by simp] at hS2
      exact ⟨w2,hrun,hid (HR.out.next hS2 hT2),hid ⟨n1,by omega,by simpa using n3⟩⟩
     go_wp2_with fail
     go_roundg (i-1-j)
     case measure=>omega
     case rel=>exact ⟨i-1,_,_,by go_num,by omega,by omega,by omega,HN2,R2⟩
    ·go_wp2
     (try simp only [Exit.inBlock,Exit.then])
     refine bodyPost_ret (results_none rfl _ _ _) rfl ?_
     obtain ⟨n1,n2,n3⟩:=HN.out
     obtain rfl:=List.eq_nil_of_length_eq_zero (l:=Q) (by omega)
     have hr:=HR.out.srt
     simp only [List.nil_append] at n3 hr
     obtain ⟨R,r1,r2,r3⟩:=hR
     rw [n3,r3] at hr
     exact ⟨rfl,R,r1,r2,hr,HR.out.touch⟩
end
end Go.Proofs.YtgfjmgebecmbiaaGreat
