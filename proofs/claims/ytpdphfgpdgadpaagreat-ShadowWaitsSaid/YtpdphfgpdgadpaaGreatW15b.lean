import Derived.Test.YtpdphfgpdgadpaaGreatStb5
set_option linter.unusedSimpArgs false
set_option linter.unusedVariables false
set_option maxHeartbeats 4000000
set_option maxRecDepth 100000
open Go.Proofs.Tryz
namespace Go.Proofs.YtpdphfgpdgadpaaGreat
open Lib(hid)
section
set_option linter.unusedSectionVars false
open Go.RowKit Go.Sort M
section
variable {α:Type} [Inhabited α] {enc:α->List Value} {k:Nat} {w0:World} {blk off n:Nat} {lt:α->α->Bool} {g:Nat} {lb:Array Value} {sf:Nat} {sb:Array Value}
theorem Yu (i:SWO lt) (d:∀x,(enc x).length=k) (l:∀args w,(callFunc g args).run prog w = .ok (.enter g args) w) (j:Ea g lb enc k lt w0 blk off n) (h:SwapSwapsK prog sf sb enc k blk off n) (p:n<2305843009213693952):∀f,Yt enc k w0 blk off n lt g lb sf sb f
 | 0=>λA U V B a m b q ha c e y t=>Qa
 | f+1=>λA U V B a m b q ha c e y t o s r W H=>by
  by_cases C:U.length=1
  ·obtain ⟨u,rfl⟩:=List.length_eq_one_iff.1 C;exact Z1i i d l j h Qa A V B u a m b ha (by simpa using c) e (by simp at o;omega) r W H
  ·by_cases z:V.length=1
   ·obtain ⟨v,rfl⟩:=List.length_eq_one_iff.1 z;exact Z1h i d l j h Qa A U B v a m b ha c (by simpa using e) Qa (by simp at o;omega) s W H
   ·exact Z1g i d l j h p f (Yu i d l j h p f) A U V B a m b q ha c e Qa Qa o s r W H
structure Dn (lt:α->α->Bool) (L:List α) (n a:Nat) (P R:List α):Prop where
 p:P.length=a
 l:P.length+R.length=n
 s:Stb lt L (P++R)
theorem Dn.le {L P R:List α} {a:Nat} (h:Dn lt L n a P R):a<=n:=by have:=h.p;have:=h.l;omega
theorem Zuu (hO:SWO lt) (hk:∀x,(enc x).length=k) (eg:∀args w,(callFunc g args).run prog w = .ok (.enter g args) w) (hL:Ea g lb enc k lt w0 blk off n) (hS:SwapSwapsK prog sf sb enc k blk off n) (hn:n<1152921504606846976)
 (L:List α) (hl:L.length=n) (W:World) (H:Srt enc k w0 blk off n L.toArray W) :
 Calls prog 41 #[.agg #[.func (.func g) #[] lb,.func (.func sf) #[] sb],.int .i64 (n:Int)] W λe w'=>
  e = .returned (.tuple #[])/\∃M,Asc lt M/\Stb lt L M/\Srt enc k w0 blk off n M.toArray w'/\Touch (· = blk) W w':=by
 have J:=hid (Yu hO hk eg hL hS Qa n);have K:=hid (λa b ha hb d W S=>Z6c hk eg hL hS Qa a b ha hb d W S);clear hS hL;have N:=hid (show Dn lt L n 0 [] L from ⟨rfl,by simpa using hl,Stb.refl _⟩);clear hl;go_enter func41,ntmps41;go_wp2_with fail;have R:=hid (Srd.start (x := .func (.func g) #[] lb) (y := .func (.func sf) #[] sb) H 95);clear H;go_loopg [5,6] n (λE U O wr=>∃(a:Nat) (P Q:List α),U = .int .i64 (a:Int)/\O = .int .i64 ((a:Int)+20)/\n-a<=E/\a<=n/\Hid (Dn lt L n a P Q/\Pre lt 20 P)/\Hid (Srd enc k w0 blk off n (.func (.func g) #[] lb) (.func (.func sf) #[] sb) W (P++Q).toArray wr))
 case atStart=>exact ⟨0,[],L,rfl,Qj,Qa,Qa,hid ⟨N.o,Pre.nil 20⟩,R⟩
 case round=>
  clear R N;obtain ⟨a,P,Q,rfl,rfl,h1,h2,u,i⟩:=hrel;have c0:=i.o.box.c0;have c1:=i.o.box.c1;have q:=i.o.box.lt;by_cases hi:a+20<=n
  ·obtain ⟨r,l,t⟩:∃r,Hid (Calls prog 65 #[.agg #[.func (.func g) #[] lb,.func (.func sf) #[] sb],.int .i64 (a:Int),.int .i64 ((a:Int)+20)] wr λe w'=>e = .returned (.tuple #[])/\Srt enc k w0 blk off n ((P++r)++Q.drop 20).toArray w'/\Touch (· = blk) wr w')/\Hid (Dn lt L n (a+20) (P++r) (Q.drop 20)/\Pre lt 20 (P++r)):=by
    obtain ⟨⟨o,n2,m⟩,p⟩:=u.o;have e1:Q.take 20++Q.drop 20=Q:=List.take_append_drop _ _;have Z:(Q.take 20).length=20:=by rw [Qs];omega
    have l2:(Q.drop 20).length+20=Q.length:=by rw [List.length_drop];omega
    obtain ⟨r,C,q2,B⟩:=V5 hO P (Q.take 20) (Q.drop 20) a (a+20) o.symm Qa;have l3:=B.len;rw [e1] at C;have:=K.o a (a+20) h2 hi _ wr i.o.srt;rw [C] at this;rw [<-Qu] at this;refine ⟨r,hid this,hid ⟨⟨Qe,by simp only [Qo];omega,?_⟩,p.next Qa q2⟩⟩;refine m.trans ?_;rw [Qu];have:=(Stb.refl (lt:=lt) P).append (B.append (Stb.refl (lt:=lt) (Q.drop 20)))
    rwa [e1] at this
   go_wp2_with fail;refine l.o.mono ?_;rintro e w1 ⟨rfl,f,h⟩;have R1:=hid (i.o.next f h);clear f h l;go_wp2;go_roundg (n-(a+20))
   case measure=>omega
   case rel=>exact ⟨a+20,_,_,Qj,Qj,Qa,Qa,t,R1⟩
  ·obtain ⟨A,l,j⟩:∃A,Hid (Calls prog 65 #[.agg #[.func (.func g) #[] lb,.func (.func sf) #[] sb],.int .i64 (a:Int),.int .i64 (n:Int)] wr λe w'=>e = .returned (.tuple #[])/\Srt enc k w0 blk off n A.toArray w'/\Touch (· = blk) wr w')/\Hid (Bl lt 20 A/\Stb lt L A/\A.length=n):=by obtain ⟨⟨o,n2,m⟩,p⟩:=u.o;obtain ⟨r,C,q2,B⟩:=V5 hO P Q [] a n o.symm Qa;have l3:=B.len;have:=K.o a n h2 (Qn _) _ wr i.o.srt;simp only [List.append_nil] at C;rw [C] at this;exact ⟨P++r,hid this,hid ⟨p r (.last Qa q2),m.trans ((Stb.refl P).append B),by simp only [Qo];omega⟩⟩
   go_wp2_with fail;refine l.o.mono ?_;rintro e w1 ⟨rfl,f,h⟩;have R1:=hid (i.o.next f h);clear f h l i u hi h1 h2 c0 c1 q
   rename World=>wo
   go_wp2;go_loopg [4,5,6] n (λE s4 U O wr=>∃(c:Nat) (M:List α),s4 = .int .i64 (c:Int)/\n-c<=E/\20<=c/\c<=2*n+20/\Hid (Bl lt c M/\Stb lt L M/\M.length=n)/\Hid (Srd enc k w0 blk off n (.func (.func g) #[] lb) (.func (.func sf) #[] sb) W M.toArray wr))
   case atStart=>exact ⟨20,A,rfl,Qa,Qa,Qa,j,R1⟩
   case round=>
    clear R1 j;obtain ⟨c,M,rfl,h1,h2,h3,j,i⟩:=hrel;have c0:=i.o.box.c0;have c1:=i.o.box.c1;have q:=i.o.box.lt;by_cases hb:c<n
    ·have N:Hid (Dn lt L n 0 [] M/\Pre lt (2*c) []/\Bl lt c M):=hid ⟨⟨rfl,by simpa using j.o.2.2,by simpa using j.o.2.1⟩,Pre.nil _,j.o.1⟩;clear j;go_wp2_with fail
     rename World=>wo
     go_loopg [5,6] n (λE U O wr=>∃(a:Nat) (P Q:List α),U = .int .i64 (a:Int)/\O = .int .i64 ((a:Int)+2*(c:Int))/\n-a<=E/\a<=n/\Hid (Dn lt L n a P Q/\Pre lt (2*c) P/\Bl lt c Q)/\Hid (Srd enc k w0 blk off n (.func (.func g) #[] lb) (.func (.func sf) #[] sb) W (P++Q).toArray wr))
     case atStart=>exact ⟨0,[],M,rfl,Qj,Qa,Qa,N,i⟩
     case round=>
      clear i N c0 c1 q;obtain ⟨a,P,Q,rfl,rfl,g1,g2,u,i⟩:=hrel;have c0:=i.o.box.c0;have c1:=i.o.box.c1;have q:=i.o.box.lt;by_cases hi:a+2*c<=n
      ·obtain ⟨s,l,HX⟩:∃s,Hid (Calls prog 66 #[.agg #[.func (.func g) #[] lb,.func (.func sf) #[] sb],.int .i64 (a:Int),.int .i64 ((a:Int)+(c:Int)),.int .i64 ((a:Int)+2*(c:Int))] wr λe w'=>e = .returned (.tuple #[])/\∃R1,Hid (Dn lt L n (a+2*c) (P++R1) s/\Pre lt (2*c) (P++R1))/\Srt enc k w0 blk off n ((P++R1)++s).toArray w'/\Touch (· = blk) wr w')/\Hid (Bl lt c s):=by obtain ⟨⟨o,n2,m⟩,p,D⟩:=u.o;obtain ⟨X,Q',rfl,x1,x2,x3⟩:=D.one Qa;simp only [Qo] at n2;obtain ⟨Y,s,rfl,y1,y2,y3⟩:=x3.one Qa;simp only [Qo] at n2;have F:=J.o P X Y s a (a+c) (a+2*c) Qa o.symm Qa Qa Qa Qa Qa x2 y2 wr (by simpa using i.o.srt);rw [show ((a+c:Nat):Int)=(a:Int)+(c:Int) from by omega,show ((a+2*c:Nat):Int)=(a:Int)+2*(c:Int) from by omega] at F;refine ⟨s,hid (F.mono ?_),hid y3⟩;rintro e w1 ⟨rfl,R1,a1,I,f,h⟩;have Z:=I.len;simp only [Qo] at Z;refine ⟨rfl,R1,hid ⟨⟨by simp only [Qo];omega,by simp only [Qo];omega,?_⟩,p.next Qa a1⟩,by rw [Qu];exact f,h⟩;refine m.trans ?_;rw [<-Qu X,Qu P];exact (Stb.refl P).append (I.append (Stb.refl s))
       go_wp2_with fail;refine l.o.mono ?_;rintro e w1 ⟨rfl,R1,HD,f,h⟩;have t:=hid (And.intro HD.o.1 (And.intro HD.o.2 HX.o));have R1:=hid (i.o.next f h);clear f h l HD HX;go_wp2;go_roundg (n-(a+2*c))
       case measure=>omega
       case rel=>exact ⟨a+2*c,_,_,Qj,Qj,Qa,Qa,t,R1⟩
      ·by_cases hm:a+c<n
       ·have l:Hid (Calls prog 66 #[.agg #[.func (.func g) #[] lb,.func (.func sf) #[] sb],.int .i64 (a:Int),.int .i64 ((a:Int)+(c:Int)),.int .i64 (n:Int)] wr λe w'=>e = .returned (.tuple #[])/\∃z,Hid (Bl lt (2*c) z/\Stb lt L z/\z.length=n)/\Srt enc k w0 blk off n z.toArray w'/\Touch (· = blk) wr w'):=by obtain ⟨⟨o,n2,m⟩,p,D⟩:=u.o;obtain ⟨X,Y,rfl,x1,x2,x3⟩:=D.one Qa;simp only [Qo] at n2;have y2:=x3.asc Qa;have F:=J.o P X Y [] a (a+c) n Qa o.symm Qa Qa Qa Qa Qe x2 y2 wr (by simpa using i.o.srt);rw [show ((a+c:Nat):Int)=(a:Int)+(c:Int) from by omega] at F;refine hid (F.mono ?_);rintro e w1 ⟨rfl,R1,a1,I,f,h⟩;have Z:=I.len;simp only [Qo] at Z;simp only [List.append_nil] at f;exact ⟨rfl,P++R1,hid ⟨p R1 (.last Qa a1),m.trans ((Stb.refl P).append I),by simp only [Qo];omega⟩,f,h⟩
        go_wp2_with fail;refine l.o.mono ?_;rintro e w1 ⟨rfl,z,j,f,h⟩;have R1:=hid (i.o.next f h);clear f h l;go_wp2;go_roundg (n-2*c)
        case measure=>omega
        case rel=>exact ⟨2*c,z,Qj,Qa,Qa,Qa,j,R1⟩
       ·have j:Hid (Bl lt (2*c) (P++Q)/\Stb lt L (P++Q)/\(P++Q).length=n):=by obtain ⟨⟨o,n2,m⟩,p,D⟩:=u.o;exact hid ⟨p Q (.last Qa (D.asc Qa)),m,by simp only [Qo];omega⟩
        go_wp2;go_roundg (n-2*c)
        case measure=>omega
        case rel=>exact ⟨2*c,_,Qj,Qa,Qa,Qa,j,i⟩
    ·go_wp2;go_end0;obtain ⟨o,n2,m⟩:=j.o;exact ⟨rfl,M,o.asc Qa,n2,i.o.srt,i.o.touch⟩
end
end
section
open Go.RowKit Go.Sort M
theorem Zqs (g:Nat) (lb:Array Value) (lt:Rt->Rt->Bool) (j:SWO lt) (q:∀args w,(callFunc g args).run prog w = .ok (.enter g args) w) (blk c:Nat) (L:List Rt) (a:2<=L.length) (h:L.length<1152921504606846976) (w:World)
 (m:HoldsK Ae 4 w blk 0 L.toArray) (i:blk<w.heap.size) (l:Ea g lb Ae 4 lt w blk 0 L.length) :
 Calls prog 26 #[.iface 27 (.slice (some ⟨blk,0,none⟩) L.length c),.func (.func g) #[] lb] w λe w'=>e = .returned (.tuple #[]) /\
  ∃M:List Rt,Asc lt M/\Stb lt L M/\HoldsK Ae 4 w' blk 0 M.toArray/\Touch (· = blk) w w':=by
 refine Any.sort_SliceStable_of_stable (P:=prog) (ρ:=Tryz.laysStb_ren) Tryz.laysStb 27 34 rtT rtE Qb Qb Qb Qb 25 (λ_=>Qb) (some ⟨blk,0,none⟩) L.length c Qa 64 (by rw [rtK _ a];kernel_rfl) (.func g) #[] lb w _ ?_;have o:sliceBound prog 34 rtE 25 (some ⟨blk,0,none⟩) L.length c = #[.slice (some ⟨blk,0,none⟩) L.length c,typeHandle prog 34]:=by unfold sliceBound;rw [if_neg (swapperK_gt _ _ _ a)]
 rw [o];have d:=swapSwapsK_of_literal (P:=prog) (α:=Rt) false 64 (λargs W=>run_callFunc_extern func64 Qb Qb Qb (e:=Extern.ReflectliteSwapper.swap false) Qb args W)
  34 rtE Qb Ae 4 (λ_=>rfl) Qb (λ_=>Qb) Z7w blk 0 L.length c
 have b:RowKit.Below w.heap.size w (stableWorld prog Tryz.laysStb_ren 27 (some ⟨blk,0,none⟩) L.length c w):=by unfold stableWorld;go_grown
 have S:=(Srt.start (n:=L.length) m i Qf).below b;refine (Zuu (enc:=Ae) (k:=4) j (λ_=>rfl) q l d h L rfl _ S).mono ?_;rintro e w' ⟨rfl,M,p,a,f,r⟩;exact ⟨rfl,M,p,a,f.holds,f.touch⟩
theorem Zny (g:Nat) (lb:Array Value) (p:Option Addr) (c n:Nat) (d:n<=1) (w:World) :
 Calls prog 26 #[.iface 27 (.slice p n c),.func (.func g) #[] lb] w λe w'=>e = .returned (.tuple #[])/\RowKit.Below w.heap.size w w':=by
 have a:∀w' b,w'=grow w b->RowKit.Below w.heap.size w w':=by rintro w' b rfl;refine ⟨rfl,rfl,rfl,by rw [size_grow];omega,λj f => ?_⟩;show (_++b)[j]? = _;rw [Array.getElem?_append_left f]
 rcases (show n=0\/n=1 by omega) with rfl | rfl
 ·refine (Any.sort_SliceStable_tiny (P:=prog) (ρ:=Tryz.laysStb_ren) Tryz.laysStb 27 34 rtT rtE Qb Qb Qb Qb 25 (λ_=>Qb) p 0 c d 56 Qb (.func g) #[] lb w).mono ?_;rintro e w' ⟨rfl,b,h⟩;exact ⟨rfl,a w' b h⟩
 ·refine (Any.sort_SliceStable_tiny (P:=prog) (ρ:=Tryz.laysStb_ren) Tryz.laysStb 27 34 rtT rtE Qb Qb Qb Qb 25 (λ_=>Qb) p 1 c d 57 Qb (.func g) #[] lb w).mono ?_;rintro e w' ⟨rfl,b,h⟩;exact ⟨rfl,a w' b h⟩
end
section
open Go Go.RowKit Go.Sort M
theorem Ib {ops:Array Oper} {rest:List Oper} {o:Oper} {a:Act} {w:World} {Q:Exit->Act->World->Prop} (l:o.guard=none) (s x:Operand)
 (t:o.op = .call { callee := .builtin .append,args := #[s,x],argTypes := #[27,27] }) (B:Nat) (v:Value) (L M N:List Rt) (y:N=L++M) (r:a.eval s=v) (m:Addr) (c:Nat) (q:a.eval x = .slice (some m) M.length c)
 (d:w.ownsRow B 34 4 v L.length (rcs L)) (b:∀j u,(rcs M)[j]? = some u->w.cell? (m.add j)=some u) (n:L.length+M.length<=1099511627776) (z:B<=w.heap.size)
 (h:∀v' w',w'.ownsRow B 34 4 v' N.length (rcs N)->w.grownBy w' v.ownBlock->(v'.ownBlock=v.ownBlock\/v'.ownBlock=some w.heap.size)->wpList prog ops Q rest (a.put o.dst v') w'):wpList prog ops Q (o::rest) a w:=by
 subst y;obtain ⟨p,k,i,f,e⟩:=info_parts D3;refine wpList_append_own_at w l s x 27 t B 34 p _ 4 32 underlying27 k i f e rfl Qd v _ _ r d m M.length c (rcs M) q (Bd M) b (Io M) Qk Qa z ?_;intro v' w' D C _ A;refine h v' w' ?_ C A;rw [C9,Qo];exact D
theorem Z4a (g o i:Nat):(⟨g,o,none⟩:Addr).add i=⟨g,o+i,none⟩:=by unfold Addr.add;split<;>simp_all
theorem Z15 (w:World):(w.alloc (.cells #[] 34)).ownsRow w.heap.size 34 4 (.slice (some ⟨w.heap.size,0,none⟩) 0 0) 0 []:=
 Do (Qn _) (heap_alloc_new w _) (Qn _) Qk Qf Qf
theorem Ol (p:Option Addr) (c:Nat) (L:List Rt) (w:World) (m:Row w p (rcs L)) (x:p=none->c=0) (D:L.length<1099511627776) :
 Calls prog 23 #[.slice p L.length c] w λe w'=>Cw w w' e L:=by
 have q:∀(w:World) (a:Option Addr) (n c:Nat),(binOp .eql 27 (.slice a n c) (.slice none 0 0)).run prog w = .ok (.bool a.isNone) w:=λw a n c=>Lib.run_eql_slice_nil w _ _ a n c 0 0 underlying27;cases p with
 | none=>
  obtain rfl:=x rfl;have q:=q w none 0 0;have B:L=[]:=by
   rcases m with h | ⟨g,o,h,-⟩
   ·rw [<-List.length_eq_zero_iff];have:=congrArg List.length h;rw [Bd] at this;simp at this;omega
   ·cases h
  subst B;go_enter func23,ntmps23;go_wp2;go_ret;exact ⟨none,0,rfl,World.ownsRow_nil _ _ _ _,Qg⟩
 | some a=>
  have q:=q w (some a) L.length c;go_enter func23,ntmps23;have A:=hid (Z15 w);have b:Hid (∀j u,(rcs L)[j]? = some u->(w.alloc (.cells #[] 34)).cell? (a.add j)=some u):=hid λj u f=>by
   rcases m with h | ⟨g,o,h,y,z⟩
   ·rw [h] at f;cases f
   ·injection h with h;subst h;rw [Z4a];have:=z j u f;rw [<-this];exact ((show Below w.heap.size w (w.alloc (.cells #[] 34)) from by go_grown).cell (p:=⟨g,o+j,none⟩) y)
  go_wp2_with (at_builtin;go_loud (refine Ib rfl (.tmp 5) (.tmp 6) rfl w.heap.size _ [] L L rfl rfl a c rfl A.o b.o Qe Qf ?_));intro v' w' l r _;obtain ⟨t,C,rfl⟩:=Aq l;have i:Below w.heap.size w (w.alloc (.cells #[] 34)):=Qg;have d:Below w.heap.size w w':=i.grown r i.size (λk e=>by simp [Value.ownBlock] at e;omega);clear i r q;have s:=hid (And.intro l d);clear l d;go_wp2;go_ret;exact ⟨t,C,rfl,s.o.1,s.o.2⟩
theorem Znk (a blk c n:Nat) (K:n<1000000000) (w0:World) (t:w0.cell? ⟨a,0,none⟩=some (.slice (some ⟨blk,0,none⟩) n c)) (s:a≠blk) :
 Ea 27 #[.pointer (some ⟨a,0,none⟩)] Ae 4 ltR w0 blk 0 n:=by
 intro W d S i j hi N;have e:a<w0.heap.size:=World.block_lt_of_cell? w0 _ t;have O:=S.touch.cell t s;have C:a<W.heap.size:=Qm e S.touch.size;have L:=S.lt2;have J:=S.size;have o:=(S.holds.cell (i:=i) (c:=0) Qa Qd).1;have x1:=(S.holds.cell (i:=i) (c:=1) Qa Qd).1;have x2:=(S.holds.cell (i:=i) (c:=2) Qa Qd).1;have m:=(S.holds.cell (i:=j) (c:=0) Qa Qd).1;have x:=(S.holds.cell (i:=j) (c:=1) Qa Qd).1;have u:=(S.holds.cell (i:=j) (c:=2) Qa Qd).1;have f:=Hq d[i]!.k.h d[i]!.k.l d[i]!.k.n d[j]!.k.h d[j]!.k.l d[j]!.k.n;change Aj _ _ _ (.bool (ltR d[i]! d[j]!)) at f;generalize ltR d[i]! d[j]! = ls at *
 change W.cell? _=some (.int .u64 (d[i]!.k.h:Int)) at o;change W.cell? _=some (.int .u64 (d[i]!.k.l:Int)) at x1;change W.cell? _=some (.int .i64 d[i]!.k.n) at x2;change W.cell? _=some (.int .u64 (d[j]!.k.h:Int)) at m;change W.cell? _=some (.int .u64 (d[j]!.k.l:Int)) at x;change W.cell? _=some (.int .i64 d[j]!.k.n) at u;generalize d[i]!.k=q at *
 generalize d[j]!.k=r at *
 rw [Nat.zero_add] at o x1 x2 m x u;rw [Nat.add_zero] at o m;have f:=hid f;have I:(0:Int)<=(i:Int):=Qa;have F:(i:Int)<(n:Int):=Qa;have E:(0:Int)<=(j:Int):=Qa;have D:(j:Int)<(n:Int):=Qa;clear S t e;show Calls _ _ #[.int .i64 (i:Int),.int .i64 (j:Int),.pointer (some ⟨a,0,none⟩)] _ _;obtain ⟨w,z⟩:=Q' W;subst z;go_enter func27,ntmps27;go_wp2_with fail;have y:=Ad;refine Am Qb Qb ?_;repeat (any_goals (first|go_big_quiet_step ((exact f.o.at _ _ _))|quiet_step ((exact f.o.at _ _ _))))
 refine wpQuiet_nil ?_;clear y;intro w1 b;obtain ⟨B,A⟩:=Ac b;have p:Below w.heap.size w w1:=by
  refine Below.trans ?_ (b.mono ?_)
  ·go_grown
  ·first|omega|go_size
 go_wp2;go_ret;exact ⟨rfl,p⟩
theorem Yv (a b:Nat) (n:Int) (c d:Nat) (m:Int) (w:World):(binOp .neq 32 (.agg #[.int .u64 a,.int .u64 b,.int .i64 n]) (.agg #[.int .u64 c,.int .u64 d,.int .i64 m])).run prog w =
 .ok (.bool (!decide (a=c/\b=d/\n=m))) w:=by
 have i:decide (a=c/\b=d/\n=m)=(decide ((a:Int)=c)&&(decide ((b:Int)=d)&&decide (n=m))):=by rw [<-Bool.decide_and,<-Bool.decide_and,decide_eq_decide];omega
 rw [i];by_cases h:(a:Int)=c<;>by_cases f:(b:Int)=d<;>by_cases e:n=m<;>simp [go_sem,h,f,e]
theorem Yw (p:Option Addr) (c:Nat) (L:List Rt) (w:World) (hR:Row w p (rcs L)) (hp:p=none->c=0) (hl:L.length<1048576) :
 Calls prog 15 #[.slice p L.length c] w λe w'=>Cw w w' e (Af L):=by
 have HC:=hid (Ol p c L w hR hp Qa);have a7:=hid hl;clear hR hp hl;go_enter func15,ntmps15;go_wp2_with fail;refine HC.o.mono ?_;rintro e w1 ⟨p,c,rfl,B,ac⟩;have eg:=enters_of func27 Qb rfl;have a9:=ac.size;have hS:∀W,RowKit.Below w1.heap.size w1 W->w1.heap.size<W.heap.size->W.cell? ⟨w1.heap.size,0,none⟩=some (.slice p L.length c) ->
  Calls prog 26 #[.iface 27 (.slice p L.length c),.func (.func 27) #[] #[.pointer (some ⟨w1.heap.size,0,none⟩)]] W λe w'=>e = .returned (.tuple #[])/\∃M:List Rt,M.length=L.length/\Asc ltR M/\Stb ltR L M/\Row w' p (rcs M)/\RowKit.Below w.heap.size w1 w'/\w'.cell? ⟨w1.heap.size,0,none⟩=some (.slice p L.length c):=by
  intro W hW hz hc;have ap:=a7.o;have I:=own_below B hW;by_cases h2:2<=L.length
  ·rcases B.2 with ⟨e,h0⟩ | ⟨blk,ad,al,e,hB,-,-,-,-,-⟩
   ·omega
   ·injection e with Z e2 e3;subst Z;have an:blk<w1.heap.size:=(B.lt blk rfl).2;refine (Zqs _ _ ltR Vy eg blk c L h2 Qa W (Zzh I) Qa (Znk w1.heap.size blk c L.length Qa W hc Qa)).mono ?_;rintro e w' ⟨rfl,M,m1,m2,m3,m4⟩;have ml:=m2.len;refine ⟨rfl,M,ml.symm,m1,m2,Zxj m3 (by have:=m4.size;omega),?_,m4.cell hc (by show w1.heap.size≠blk;omega)⟩;exact (hW.mono a9).trans (m4.below (by have:=hW.size;omega) (λj hj=>Qa))
  ·refine (Zny _ _ p c L.length Qa W).mono ?_;rintro e w' ⟨rfl,E⟩;have hs:Asc ltR L:=by
    rcases L with _ | ⟨a,_ | ⟨b,L⟩⟩
    ·exact List.Pairwise.nil
    ·exact List.pairwise_singleton _ _
    ·simp at h2
   exact ⟨rfl,L,rfl,hs,Stb.refl _,(Row.of_own I).below E,(hW.trans (E.mono (by have:=hW.size;omega))).mono a9,(E.cell (p:=⟨w1.heap.size,0,none⟩) hz).trans hc⟩
 have HS:=hid hS;have HP:Hid (p=none->L.length=0):=hid λe=>by
  subst e;rcases B.2 with ⟨-,h0⟩ | ⟨blk,ad,al,e,-⟩
  ·exact h0
  ·cases e
 clear hS B eg HC;go_wp2_with fail;refine (HS.o _ Qg Qf Qi).mono ?_;rintro e w2 ⟨rfl,M,m0,m1,m2,m3,m4,b0⟩;have C:w1.heap.size<w2.heap.size:=World.block_lt_of_cell? w2 _ b0;have HE:=hid (Z2x m1 m2);have x:RowKit.Below w.heap.size w w2:=ac.trans m4;have HM:=hid m3;have Y:=hid m0;have ao:M.length<1048576:=by have:=a7.o;omega
 rw [<-Y.o];rw [<-Y.o] at b0;clear m0 m1 m2 m3 m4 HS a7 Y;go_wp2;go_loopg [4,15] M.length (λkx s4 af wr=>∃(i:Nat) (N:List Rt) (p4:Option Addr) (c4:Nat),af = .int .i64 (i:Int)/\M.length-i<=kx/\i<=M.length/\s4 = .slice p4 N.length c4/\Hid (N++Ay (M.drop i)=Ay M)/\Hid (wr.ownsRow w2.heap.size 34 4 (.slice p4 N.length c4) N.length (rcs N))/\Below w2.heap.size w2 wr)
 case atStart=>exact ⟨0,[],none,0,rfl,Qa,Qa,rfl,hid rfl,hid (World.ownsRow_nil _ _ _ _),Qg⟩
 case round=>
  obtain ⟨i,N,p4,c4,rfl,h1,h2,rfl,Y,HO,E⟩:=hrel;by_cases hi:i<M.length
  ·obtain ⟨g,o,rfl,K,x0,x1,x2,x3⟩:=HM.o.rt hi;have x0:=(E.cell (p:=⟨g,o+i*4,none⟩) K).trans x0;have x1:=(E.cell (p:=⟨g,o+i*4+1,none⟩) K).trans x1;have x2:=(E.cell (p:=⟨g,o+i*4+2,none⟩) K).trans x2;have x3:=(E.cell (p:=⟨g,o+i*4+3,none⟩) K).trans x3;have d0:=(E.cell (p:=⟨w1.heap.size,0,none⟩) C).trans b0;have a3:=Qm K E.size;have Q:=Qm C E.size;have am:=E.size;have i1:(0:Int)<=(i:Int):=Qa;have i2:(i:Int)<(M.length:Int):=Qa;obtain ⟨r,hr⟩:=Q' (M[i]);rw [<-hr] at x0 x1 x2 x3;have ae:=hid hr;clear hr;have a4:=hid (HO.o.alloc (.cells #[.int .u64 (r.k.h:Int),.int .u64 (r.k.l:Int),.int .i64 r.k.n,.int .i64 r.v] 34));have d:Below w2.heap.size w2 (wr.alloc (.cells #[.int .u64 (r.k.h:Int),.int .u64 (r.k.l:Int),.int .i64 r.k.n,.int .i64 r.v] 34)):=Qg;have e0:(wr.alloc (.cells #[.int .u64 (r.k.h:Int),.int .u64 (r.k.l:Int),.int .i64 r.k.n,.int .i64 r.v] 34)).cell? ⟨wr.heap.size,0,none⟩=some (.int .u64 (r.k.h:Int)):=Qi;have Z:(wr.alloc (.cells #[.int .u64 (r.k.h:Int),.int .u64 (r.k.l:Int),.int .i64 r.k.n,.int .i64 r.v] 34)).cell? ⟨wr.heap.size,1,none⟩=some (.int .u64 (r.k.l:Int)):=Qi;have e2:(wr.alloc (.cells #[.int .u64 (r.k.h:Int),.int .u64 (r.k.l:Int),.int .i64 r.k.n,.int .i64 r.v] 34)).cell? ⟨wr.heap.size,2,none⟩=some (.int .i64 r.k.n):=Qi;have e3:(wr.alloc (.cells #[.int .u64 (r.k.h:Int),.int .u64 (r.k.l:Int),.int .i64 r.k.n,.int .i64 r.v] 34)).cell? ⟨wr.heap.size,3,none⟩=some (.int .i64 r.v):=Qi;have z:wr.heap.size<(wr.alloc (.cells #[.int .u64 (r.k.h:Int),.int .u64 (r.k.l:Int),.int .i64 r.k.n,.int .i64 r.v] 34)).heap.size:=Qf;by_cases hn:i+1<M.length
   ·obtain ⟨g',o',a2,-,y0,y1,y2,-⟩:=HM.o.rt hn;injection a2 with a2;injection a2 with ak ai;subst ak;subst ai;have y0:=(d.cell (p:=⟨g,o+(i+1)*4,none⟩) K).trans y0;have y1:=(d.cell (p:=⟨g,o+(i+1)*4+1,none⟩) K).trans y1;have y2:=(d.cell (p:=⟨g,o+(i+1)*4+2,none⟩) K).trans y2;have aj:((i:Int)+1 == (M.length:Int))=false:=by rw [beq_eq_false_iff_ne];omega
    have i3:(i:Int)+1<(M.length:Int):=Qa;have hE:=Yv M[i+1].k.h M[i+1].k.l M[i+1].k.n r.k.h r.k.l r.k.n;have A:=Y.o;rw [V8 M i hi,dif_pos hn,<-ae.o] at A;obtain ⟨y,hy⟩:=Q' (M[i+1]);rw [<-hy] at y0 y1 y2 hE A;clear hy;by_cases hk:y.k=r.k
    ·rw [if_pos hk] at A;have X:Hid (N++Ay (M.drop (i+1))=Ay M):=hid (by simpa using A);rw [decide_eq_true (show y.k.h=r.k.h/\y.k.l=r.k.l/\y.k.n=r.k.n from by rw [hk];exact ⟨rfl,rfl,rfl⟩)] at hE;clear A hk;go_wp2_with fail;have d0:=(d.cell (p:=⟨w1.heap.size,0,none⟩) C).trans b0;have a3:=Qm K d.size;have Q:=Qm C d.size;generalize World.alloc wr _=w5 at *
     have a8:=d.size;have aa:=x.trans (d.mono x.size);have kg:=Ad;refine Am Qb Qb ?_;repeat (any_goals (first|go_big_quiet_step (fail)|quiet_step (fail)))
     refine wpQuiet_nil ?_;clear kg;intro D f;obtain ⟨m,O⟩:=Ac f;have s:Below w.heap.size w D:=by
      refine Below.trans ?_ (f.mono ?_)
      ·go_grown
      ·first|omega|go_size
     have s:=d.trans (f.mono d.size);have U:=hid (own_below a4.o f);have e0:=(m _ _ z).trans e0;have Z:=(m _ _ z).trans Z;have e2:=(m _ _ z).trans e2;have e3:=(m _ _ z).trans e3;have z:=Qm z f.size;clear m O f;go_wp2;go_roundg (M.length-(i+1))
     case measure=>omega
     case rel=>exact ⟨i+1,N,p4,c4,Qj,Qa,Qa,rfl,X,U,s⟩
    ·rw [if_neg hk] at A;have X:Hid ((N++[r])++Ay (M.drop (i+1))=Ay M):=hid (by simpa using A);have ab:¬(y.k.h=r.k.h/\y.k.l=r.k.l/\y.k.n=r.k.n):=λ⟨q1,q2,q3⟩=>hk (by
      cases ag:y.k
      cases ah:r.k
      rw [ag,ah] at q1 q2 q3
      simp_all)
     rw [decide_eq_false ab] at hE;clear A hk ab;go_wp2_with fail;have d0:=(d.cell (p:=⟨w1.heap.size,0,none⟩) C).trans b0;have a3:=Qm K d.size;have Q:=Qm C d.size;generalize World.alloc wr _=w5 at *
     have a8:=d.size;have aa:=x.trans (d.mono x.size);have kg:=Ad;refine Am Qb Qb ?_;repeat (any_goals (first|go_big_quiet_step (fail)|quiet_step (fail)))
     refine wpQuiet_nil ?_;clear kg;intro D f;obtain ⟨m,O⟩:=Ac f;have s:Below w.heap.size w D:=by
      refine Below.trans ?_ (f.mono ?_)
      ·go_grown
      ·first|omega|go_size
     have s:=d.trans (f.mono d.size);have U:=hid (own_below a4.o f);have e0:=(m _ _ z).trans e0;have Z:=(m _ _ z).trans Z;have e2:=(m _ _ z).trans e2;have e3:=(m _ _ z).trans e3;have z:=Qm z f.size;clear m O f;have S:=hid (U.o.alloc (.cells #[.int .u64 (r.k.h:Int),.int .u64 (r.k.l:Int),.int .i64 r.k.n,.int .i64 r.v] 34));have F:Hid (∀j u,(rcs [r])[j]? = some u->(D.alloc (.cells #[.int .u64 (r.k.h:Int),.int .u64 (r.k.l:Int),.int .i64 r.k.n,.int .i64 r.v] 34)).cell? ((⟨D.heap.size,0,none⟩:Addr).add j)=some u):=by rw [Fo];exact hid (Fp Qi Qi Qi Qi)
     have R:N.length<=M.length:=by have h1:=congrArg List.length Y.o;have h2:=Nu M;simp only [Qo] at h1;omega
     have a6:=hid R;clear R;have t:Below w2.heap.size w2 (D.alloc (.cells #[.int .u64 (r.k.h:Int),.int .u64 (r.k.l:Int),.int .i64 r.k.n,.int .i64 r.v] 34)):=s.alloc s.size _;go_wp2_with (at_builtin;go_loud (refine Ib rfl (.tmp 36) (.tmp 38) rfl w2.heap.size _ N [r] (N++[r]) rfl rfl ⟨D.heap.size,0,none⟩ 1 rfl S.o F.o (by have:=a6.o;simp;omega) t.size ?_));intro v9 w9 q J _;obtain ⟨p9,c9,rfl⟩:=Aq q;have a1:Below w2.heap.size w2 w9:=t.grown J t.size (λk e=>(S.o.lt k e).1);have a5:=hid q;clear q J t;go_wp2;go_roundg (M.length-(i+1))
     case measure=>omega
     case rel=>exact ⟨i+1,N++[r],p9,c9,Qj,Qa,Qa,by rw [Qo];rfl,X,by rw [Qo];exact a5,a1⟩
   ·have aj:((i:Int)+1 == (M.length:Int))=true:=by rw [beq_iff_eq];omega
    have X:Hid ((N++[r])++Ay (M.drop (i+1))=Ay M):=by have:=Y.o;rw [V8 M i hi,dif_neg hn,<-ae.o] at this;exact hid (by simpa using this)
    go_wp2_with fail;have d0:=(d.cell (p:=⟨w1.heap.size,0,none⟩) C).trans b0;have a3:=Qm K d.size;have Q:=Qm C d.size;generalize World.alloc wr _=w5 at *
    have a8:=d.size;have aa:=x.trans (d.mono x.size);have kg:=Ad;refine Am Qb Qb ?_;repeat (any_goals (first|go_big_quiet_step (fail)|quiet_step (fail)))
    refine wpQuiet_nil ?_;clear kg;intro D f;obtain ⟨m,O⟩:=Ac f;have s:Below w.heap.size w D:=by
     refine Below.trans ?_ (f.mono ?_)
     ·go_grown
     ·first|omega|go_size
    have s:=d.trans (f.mono d.size);have U:=hid (own_below a4.o f);have e0:=(m _ _ z).trans e0;have Z:=(m _ _ z).trans Z;have e2:=(m _ _ z).trans e2;have e3:=(m _ _ z).trans e3;have z:=Qm z f.size;clear m O f;have S:=hid (U.o.alloc (.cells #[.int .u64 (r.k.h:Int),.int .u64 (r.k.l:Int),.int .i64 r.k.n,.int .i64 r.v] 34));have F:Hid (∀j u,(rcs [r])[j]? = some u->(D.alloc (.cells #[.int .u64 (r.k.h:Int),.int .u64 (r.k.l:Int),.int .i64 r.k.n,.int .i64 r.v] 34)).cell? ((⟨D.heap.size,0,none⟩:Addr).add j)=some u):=by rw [Fo];exact hid (Fp Qi Qi Qi Qi)
    have R:N.length<=M.length:=by have h1:=congrArg List.length Y.o;have h2:=Nu M;simp only [Qo] at h1;omega
    have a6:=hid R;clear R;have t:Below w2.heap.size w2 (D.alloc (.cells #[.int .u64 (r.k.h:Int),.int .u64 (r.k.l:Int),.int .i64 r.k.n,.int .i64 r.v] 34)):=s.alloc s.size _;go_wp2_with (at_builtin;go_loud (refine Ib rfl (.tmp 36) (.tmp 38) rfl w2.heap.size _ N [r] (N++[r]) rfl rfl ⟨D.heap.size,0,none⟩ 1 rfl S.o F.o (by have:=a6.o;simp;omega) t.size ?_));intro v9 w9 q J _;obtain ⟨p9,c9,rfl⟩:=Aq q;have a1:Below w2.heap.size w2 w9:=t.grown J t.size (λk e=>(S.o.lt k e).1);have a5:=hid q;clear q J t;go_wp2;go_roundg (M.length-(i+1))
    case measure=>omega
    case rel=>exact ⟨i+1,N++[r],p9,c9,Qj,Qa,Qa,by rw [Qo];rfl,X,by rw [Qo];exact a5,a1⟩
  ·go_wp2;go_ret;have:=Y.o;rw [List.drop_eq_nil_of_le Qa] at this;simp only [Ay,List.append_nil] at this;rw [<-HE.o,<-this];exact ⟨p4,c4,rfl,A7 HO.o x.size,x.trans (E.mono x.size)⟩
end
end Go.Proofs.YtpdphfgpdgadpaaGreat
