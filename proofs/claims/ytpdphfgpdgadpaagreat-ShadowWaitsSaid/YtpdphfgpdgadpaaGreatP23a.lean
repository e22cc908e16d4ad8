import Derived.Test.YtpdphfgpdgadpaaGreatW23b
set_option linter.unusedSimpArgs false
set_option linter.unusedVariables false
set_option maxHeartbeats 8000000
set_option maxRecDepth 100000
open Go.Proofs.Tryz
namespace Go.Proofs.YtpdphfgpdgadpaaGreat
open Lib(hid)
section
open Go Go.RowKit Go.Sort M
def B8 (w wr:World) (K:Nat->Prop) (t:Nat) (S:Sh) (e:Nat) (v:Value) (i:Nat):Prop:=
 ∃K' a,ShdB wr K' t ⟨opsE S.E (S.W.take i),S.W,S.sl⟩ e v a/\Touch K w wr/\∀g,K' g->K g\/In w.heap.size wr.heap.size g
theorem B8.next {w wr W1 w2:World} {K K' f KE':Nat->Prop} {t:Nat} {S:Sh} {e:Nat} {v:Value} {i:Nat} (hi:i<S.W.length) (H:ShdB wr K' t ⟨opsE S.E (S.W.take i),S.W,S.sl⟩ e v f) (k:Touch K w wr) (l:∀g,K' g->K g\/In w.heap.size wr.heap.size g) (d:Below wr.heap.size wr W1)
 (m:EngP w2 KE' e (opE (opsE S.E (S.W.take i)) S.W[i])) (b:Touch f W1 w2) (c:∀j,KE' j->f j\/In W1.heap.size w2.heap.size j):B8 w w2 K t S e v (i+1):=by
 have h:=(H.below d).eng_step b m c;have n:opE (opsE S.E (S.W.take i)) S.W[i]=opsE S.E (S.W.take (i+1)):=by rw [List.take_succ_eq_append_getElem hi,Gf,Kk]
 rw [n] at h;have q:=d.size;have p:=b.size;have o:=k.size;refine ⟨_,_,h,Bq (k.trans (Touch.quiet d)) (λg a=>(l g (H.ke g a).1).imp id λh=>h.1) b,λg a => ?_⟩;rcases a with a | a
 ·exact (l g a).imp id λh=>⟨h.1,by have:=h.2;omega⟩
 ·exact .inr ⟨by have:=a.1;omega,a.2⟩
theorem B8.grow {w wr w':World} {K:Nat->Prop} {t:Nat} {S:Sh} {e:Nat} {v:Value} {i:Nat} (h:B8 w wr K t S e v i) (a:Below wr.heap.size wr w'):B8 w w' K t S e v i:=by obtain ⟨K',j,f,d,c⟩:=h;exact ⟨K',j,f.below a,d.trans (Touch.quiet a),λg b=>(c g b).imp id λh=>⟨h.1,Qm h.2 a.size⟩⟩
theorem B8.last {w wr:World} {K:Nat->Prop} {t:Nat} {S:Sh} {e n c:Nat} {p:Option Addr} {v':Value} (h:B8 w wr K t S e (.slice p S.W.length c) n) (r:n<=S.W.length) (b:S.W.take n=S.W.take S.sl/\S.W.drop n=S.W.drop S.sl) (o:v'=sliced p n S.W.length c 5) :
 ∃K',ShdP (wr.setCell ⟨t,2,none⟩ v') K' t S.step/\Touch K w (wr.setCell ⟨t,2,none⟩ v')/\∀g,K' g->K g\/In w.heap.size (wr.setCell ⟨t,2,none⟩ v').heap.size g:=by
 obtain ⟨u,i,m,k,l⟩:=h;subst o;obtain ⟨d,f⟩:=m.que_step (w1:=wr) (v':=sliced p n S.W.length c 5) (W':=S.W.drop n) (Touch.refl _ _) (((m.que.mono λj d b=>⟨d,b⟩).drop r).mono λj h _ => .inl h);have q:(wr.setCell ⟨t,2,none⟩ (sliced p n S.W.length c 5)).heap.size=wr.heap.size:=World.size_setCell _ _ _;have s:(⟨opsE S.E (S.W.take n),S.W.drop n,S.sl⟩:Sh)=S.step:=by rw [b.1,b.2];rfl
 rw [s] at d;refine ⟨_,⟨e,_,i,d⟩,Bq k (λg a=>(l g a).imp id λh=>h.1) f,λg a => ?_⟩;have z:=k.size;rcases a with a | a
 ·rw [q];exact l g a
 ·exact .inr ⟨by have:=a.1;omega,a.2⟩
theorem Zur (w:World) (K:Nat->Prop) (t:Nat) (S:Sh) (HP:ShdP w K t S) (F:S.ok) :
 Calls prog 10 #[.pointer (some ⟨t,0,none⟩)] w λe w'=>e = .returned (.int .i64 (S.step.W.length:Int))/\∃K',ShdP w' K' t S.step/\Touch K w w'/\∀g,K' g->K g\/In w.heap.size w'.heap.size g:=by
 obtain ⟨e,v,KE,H⟩:=HP;obtain ⟨p,c,rfl,af⟩:=H.que.form;obtain ⟨n,hn⟩:=Q' (min S.sl S.W.length);have a9:n<=S.W.length:=Qa;have O:S.W.take n=S.W.take S.sl/\S.W.drop n=S.W.drop S.sl:=by
  by_cases h:S.sl<=S.W.length
  ·rw [hn,Nat.min_eq_left h];exact ⟨rfl,rfl⟩
  ·rw [hn,Nat.min_eq_right Qa,List.take_of_length_le (Qn _),List.take_of_length_le Qa,List.drop_eq_nil_of_le (Qn _),List.drop_eq_nil_of_le Qa];exact ⟨rfl,rfl⟩
 have a7:S.step.W.length=S.W.length-n:=by show (S.W.drop S.sl).length=_;rw [<-O.2,List.length_drop]
 have D:min (S.sl:Int) (S.W.length:Int)=(n:Int):=Qa;have HN:=hid (And.intro a9 O);have HL:=hid a7;have u:=hid F;have HU:=hid (Kt t e w H.lt H.c0);have HH:=hid H;have ae:=F.sl.2;have ag:=F.cnt;clear a7;by_cases ac:c=0
 ·have a8:S.W.length=0:=Qa;have aa:n=0:=Qa;have HM:Hid (min (S.sl:Int) 0=0):=hid Qa;clear hn O D H F;subst aa ac;go_enter func10,ntmps10;go_wp2_with fail;refine HU.o.mono ?_;rintro e1 w1 ⟨rfl,q⟩;have y:=HH.o.below q;have c1:=y.c1;have c2:=y.c2;have l:=y.lt;have d:Hid (B8 w w1 K t S e (.slice p S.W.length 0) 0):=hid ⟨K,KE,by rw [List.take_zero,Gg];exact y,Touch.quiet q,λg hg => .inl hg⟩;clear y HU HH q;go_wp2_with fail;have kg:=Ad;refine Am Qb Qb ?_;repeat (any_goals (first|go_big_quiet_step (fail)|quiet_step (fail)))
  refine wpQuiet_nil ?_;clear kg;intro w3 j;obtain ⟨s,R⟩:=Ac j;have c2:=(s _ _ l).trans c2;have l:=Qm l j.size;have d:=hid (d.o.grow j);clear s R j c1;rw [HM.o];go_wp2;go_loopg [25] 1 (λkx J wx=>J = .int .i64 0/\Hid (B8 w wx K t S e (.slice p S.W.length 0) 0))
  case atStart=>exact ⟨rfl,d⟩
  case round=>
   clear d c2 l;obtain ⟨rfl,d⟩:=hrel;have HF:=hid (λv' hv=>d.o.last HN.o.1 HN.o.2 (v':=v') hv);obtain ⟨K1,I,k,-,-⟩:=d.o;have c2:=k.c2;have f2:=k.f 2;have l:=k.lt;clear k d;go_wp2;go_ret;refine ⟨?_,HF.o _ ?_⟩
   ·rw [HL.o,a8];rfl
   ·unfold sliced;rw [if_pos rfl,a8]
 ·obtain ⟨g,o,rfl⟩:∃g o,p=some ⟨g,o,none⟩:=by
   rcases H.que with ⟨h,-⟩ | ⟨g,o,c',h,-⟩
   ·simp only [Value.slice.injEq] at h;omega
   ·simp only [Value.slice.injEq] at h;exact ⟨g,o,h.1⟩
  by_cases r:c=n
  ·have a2:S.W.length=n:=Qa;have HM:Hid (min (S.sl:Int) (n:Int)=(n:Int)):=hid Qa;clear hn O D H F;go_enter func10,ntmps10;go_wp2_with fail;refine HU.o.mono ?_;rintro e1 w1 ⟨rfl,q⟩;have y:=HH.o.below q;have c1:=y.c1;have c2:=y.c2;have l:=y.lt;have d:Hid (B8 w w1 K t S e (.slice (some ⟨g,o,none⟩) S.W.length c) 0):=hid ⟨K,KE,by rw [List.take_zero,Gg];exact y,Touch.quiet q,λg hg => .inl hg⟩;clear y HU HH q;go_wp2_with fail;have kg:=Ad;refine Am Qb Qb ?_;repeat (any_goals (first|go_big_quiet_step (fail)|quiet_step (fail)))
   refine wpQuiet_nil ?_;clear kg;intro w3 j;obtain ⟨s,R⟩:=Ac j;have c2:=(s _ _ l).trans c2;have l:=Qm l j.size;have d:=hid (d.o.grow j);clear s R j c1;rw [HM.o];go_wp2;go_loopg [25] n (λkx J wx=>∃i:Nat,J = .int .i64 (i:Int)/\n-i<=kx/\i<=n/\Hid (B8 w wx K t S e (.slice (some ⟨g,o,none⟩) S.W.length c) i))
   case atStart=>exact ⟨0,rfl,Qa,Qa,d⟩
   case round=>
    clear d c2 l;obtain ⟨i,rfl,k1,k2,d⟩:=hrel;by_cases hi:i<n
    ·obtain ⟨K1,I,k,hT,hK⟩:=d.o;have hiW:i<S.W.length:=Qa;obtain ⟨g',o',N,ab,x0,x1,x2,x3,x4⟩:=k.que.row.upd hiW;obtain ⟨rfl,rfl⟩:g=g'/\o=o':=by simpa using N
     have A:=u.o.good _ (Qp hiW);have U:=(Ge (S.W.take i) u.o.eng (λx hx=>u.o.good x (List.mem_of_mem_take hx))).1;have Q:=u.o.few i;have m:=λW (h:Below wr.heap.size wr W)=>Zl W I e (opsE S.E (S.W.take i)) S.W[i] (k.eng.touched (S:=λ_=>False) (Touch.quiet h) (λ_ _ x=>x)) U A Q;have z:=λ(W1 w2:World) (KE':Nat->Prop) h1 h2 h3 h4=>B8.next (w:=w) (wr:=wr) (W1:=W1) (w2:=w2) (KE':=KE') hiW k hT hK h1 h2 h3 h4;have c0:=k.c0;have l:=k.lt;have i1:(0:Int)<=(i:Int):=Qa;have i2:(i:Int)<(n:Int):=Qa;have i3:(i:Int)<(S.W.length:Int):=Qa;clear N;generalize S.W[i]=x at m z x0 x1 x2 x3 x4 A;obtain ⟨b,⟨kh,kl,kn⟩,rv⟩:=x;unfold updA at m;simp only at m x0 x1 x2 x3 x4;have Z:=hid m;have a1:=hid z;clear m z A U Q k hT hK d;go_wp2_with fail;obtain ⟨W1,a⟩:=Q' (wr.alloc (.cells #[.int .u64 (kh:Int),.int .u64 (kl:Int),.int .i64 kn,.int .i64 rv,.bool b] 58));rw [<-a];have L:Below wr.heap.size wr W1:=by rw [a];go_grown
     have u0:W1.cell? ⟨wr.heap.size,0,none⟩=some (.int .u64 (kh:Int)):=by rw [a];simp [go_sem]
     have u1:W1.cell? ⟨wr.heap.size,1,none⟩=some (.int .u64 (kl:Int)):=by rw [a];simp [go_sem]
     have u2:W1.cell? ⟨wr.heap.size,2,none⟩=some (.int .i64 kn):=by rw [a];simp [go_sem]
     have u3:W1.cell? ⟨wr.heap.size,3,none⟩=some (.int .i64 rv):=by rw [a];simp [go_sem]
     have u4:W1.cell? ⟨wr.heap.size,4,none⟩=some (.bool b):=by rw [a];simp [go_sem]
     have a5:wr.heap.size<W1.heap.size:=by rw [a];simp
     have c0:=(L.cell (p:=⟨t,0,none⟩) l).trans c0;have l:=Qm l L.size;clear a x0 x1 x2 x3 x4;have kg:=Ad;refine A1 5 Qb Qb ?_;simp only [List.take_succ_cons,List.take_zero,List.drop_succ_cons,List.drop_zero];repeat (any_goals (first|go_big_quiet_step (fail)|quiet_step (fail)))
     refine wpQuiet_nil ?_;clear kg;intro w7 B;obtain ⟨a4,a3⟩:=Ac B;have C:=hid (L.trans (B.mono L.size));clear a4 a3 B L u0 u1 u2 u3 u4 c0 l a5;go_wp2_with fail;refine (Z.o _ C.o).mono ?_;rintro e2 w8 ⟨rfl,ad,hE,X,Y⟩;have a6:=hid (a1.o _ _ _ C.o hE X Y);clear hE X Y C a1 Z;go_wp2;go_roundg (n-(i+1))
     case measure=>omega
     case rel=>exact ⟨i+1,Qj,Qa,Qa,a6⟩
    ·obtain rfl:i=n:=Qa;have HF:=hid (λv' hv=>d.o.last HN.o.1 HN.o.2 (v':=v') hv);obtain ⟨K1,I,k,-,-⟩:=d.o;have c2:=k.c2;have f2:=k.f 2;have l:=k.lt;clear k d;go_wp2;go_ret;refine ⟨?_,HF.o _ ?_⟩
     ·rw [HL.o]
      first
       | rfl
       | (rw [a2,Nat.sub_self];rfl)
     ·unfold sliced
      first
       | (rw [if_neg r,Option.map_some,Ig];done)
       | (rw [if_pos r,a2,r,Nat.sub_self];done)
  ·have HM:=hid D;clear hn O D H F;go_enter func10,ntmps10;go_wp2_with fail;refine HU.o.mono ?_;rintro e1 w1 ⟨rfl,q⟩;have y:=HH.o.below q;have c1:=y.c1;have c2:=y.c2;have l:=y.lt;have d:Hid (B8 w w1 K t S e (.slice (some ⟨g,o,none⟩) S.W.length c) 0):=hid ⟨K,KE,by rw [List.take_zero,Gg];exact y,Touch.quiet q,λg hg => .inl hg⟩;clear y HU HH q;go_wp2_with fail;have kg:=Ad;refine Am Qb Qb ?_;repeat (any_goals (first|go_big_quiet_step (fail)|quiet_step (fail)))
   refine wpQuiet_nil ?_;clear kg;intro w3 j;obtain ⟨s,R⟩:=Ac j;have c2:=(s _ _ l).trans c2;have l:=Qm l j.size;have d:=hid (d.o.grow j);clear s R j c1;rw [HM.o];go_wp2;go_loopg [25] n (λkx J wx=>∃i:Nat,J = .int .i64 (i:Int)/\n-i<=kx/\i<=n/\Hid (B8 w wx K t S e (.slice (some ⟨g,o,none⟩) S.W.length c) i))
   case atStart=>exact ⟨0,rfl,Qa,Qa,d⟩
   case round=>
    clear d c2 l;obtain ⟨i,rfl,k1,k2,d⟩:=hrel;by_cases hi:i<n
    ·obtain ⟨K1,I,k,hT,hK⟩:=d.o;have hiW:i<S.W.length:=Qa;obtain ⟨g',o',N,ab,x0,x1,x2,x3,x4⟩:=k.que.row.upd hiW;obtain ⟨rfl,rfl⟩:g=g'/\o=o':=by simpa using N
     have A:=u.o.good _ (Qp hiW);have U:=(Ge (S.W.take i) u.o.eng (λx hx=>u.o.good x (List.mem_of_mem_take hx))).1;have Q:=u.o.few i;have m:=λW (h:Below wr.heap.size wr W)=>Zl W I e (opsE S.E (S.W.take i)) S.W[i] (k.eng.touched (S:=λ_=>False) (Touch.quiet h) (λ_ _ x=>x)) U A Q;have z:=λ(W1 w2:World) (KE':Nat->Prop) h1 h2 h3 h4=>B8.next (w:=w) (wr:=wr) (W1:=W1) (w2:=w2) (KE':=KE') hiW k hT hK h1 h2 h3 h4;have c0:=k.c0;have l:=k.lt;have i1:(0:Int)<=(i:Int):=Qa;have i2:(i:Int)<(n:Int):=Qa;have i3:(i:Int)<(S.W.length:Int):=Qa;clear N;generalize S.W[i]=x at m z x0 x1 x2 x3 x4 A;obtain ⟨b,⟨kh,kl,kn⟩,rv⟩:=x;unfold updA at m;simp only at m x0 x1 x2 x3 x4;have Z:=hid m;have a1:=hid z;clear m z A U Q k hT hK d;go_wp2_with fail;obtain ⟨W1,a⟩:=Q' (wr.alloc (.cells #[.int .u64 (kh:Int),.int .u64 (kl:Int),.int .i64 kn,.int .i64 rv,.bool b] 58));rw [<-a];have L:Below wr.heap.size wr W1:=by rw [a];go_grown
     have u0:W1.cell? ⟨wr.heap.size,0,none⟩=some (.int .u64 (kh:Int)):=by rw [a];simp [go_sem]
     have u1:W1.cell? ⟨wr.heap.size,1,none⟩=some (.int .u64 (kl:Int)):=by rw [a];simp [go_sem]
     have u2:W1.cell? ⟨wr.heap.size,2,none⟩=some (.int .i64 kn):=by rw [a];simp [go_sem]
     have u3:W1.cell? ⟨wr.heap.size,3,none⟩=some (.int .i64 rv):=by rw [a];simp [go_sem]
     have u4:W1.cell? ⟨wr.heap.size,4,none⟩=some (.bool b):=by rw [a];simp [go_sem]
     have a5:wr.heap.size<W1.heap.size:=by rw [a];simp
     have c0:=(L.cell (p:=⟨t,0,none⟩) l).trans c0;have l:=Qm l L.size;clear a x0 x1 x2 x3 x4;have kg:=Ad;refine A1 5 Qb Qb ?_;simp only [List.take_succ_cons,List.take_zero,List.drop_succ_cons,List.drop_zero];repeat (any_goals (first|go_big_quiet_step (fail)|quiet_step (fail)))
     refine wpQuiet_nil ?_;clear kg;intro w7 B;obtain ⟨a4,a3⟩:=Ac B;have C:=hid (L.trans (B.mono L.size));clear a4 a3 B L u0 u1 u2 u3 u4 c0 l a5;go_wp2_with fail;refine (Z.o _ C.o).mono ?_;rintro e2 w8 ⟨rfl,ad,hE,X,Y⟩;have a6:=hid (a1.o _ _ _ C.o hE X Y);clear hE X Y C a1 Z;go_wp2;go_roundg (n-(i+1))
     case measure=>omega
     case rel=>exact ⟨i+1,Qj,Qa,Qa,a6⟩
    ·obtain rfl:i=n:=Qa;have HF:=hid (λv' hv=>d.o.last HN.o.1 HN.o.2 (v':=v') hv);obtain ⟨K1,I,k,-,-⟩:=d.o;have c2:=k.c2;have f2:=k.f 2;have l:=k.lt;clear k d;go_wp2;go_ret;refine ⟨?_,HF.o _ ?_⟩
     ·rw [HL.o]
      first
       | rfl
       | (rw [a2,Nat.sub_self];rfl)
     ·unfold sliced
      first
       | (rw [if_neg r,Option.map_some,Ig];done)
       | (rw [if_pos r,a2,r,Nat.sub_self];done)
theorem ShdP.old {w:World} {K:Nat->Prop} {t:Nat} {S:Sh} (H:ShdP w K t S):ShdP w (λj=>K j/\j<w.heap.size) t S:=by obtain ⟨e,v,d,H⟩:=H;exact ⟨e,v,d,H.lt,H.c0,H.c1,H.c2,H.f,H.eng,H.que.mono λj b c=>⟨⟨b.1,c⟩,b.2⟩,⟨H.kt,H.lt⟩,λj a=>⟨⟨(H.ke j a).1,(H.ke j a).2.2⟩,(H.ke j a).2⟩⟩
theorem ShdP.mono {w:World} {K K':Nat->Prop} {t:Nat} {S:Sh} (H:ShdP w K t S) (h:∀j,K j->K' j):ShdP w K' t S:=by obtain ⟨e,v,c,H⟩:=H;exact ⟨e,v,c,H.lt,H.c0,H.c1,H.c2,H.f,H.eng,H.que.mono λj b _=>⟨h _ b.1,b.2⟩,h _ H.kt,λj a=>⟨h _ (H.ke j a).1,(H.ke j a).2⟩⟩
theorem ShdP.born {w:World} {K:Nat->Prop} {e:Nat} {E:Eg} {sl:Nat} (H:EngP w K e E) :
 ShdP (w.alloc (.cells #[.pointer (some ⟨e,0,none⟩),.int .i64 (sl:Int),.slice none 0 0] 56)) (λj=>K j\/w.heap.size<=j) w.heap.size ⟨E,[],sl⟩:=by
 have b:Below w.heap.size w (w.alloc (.cells #[.pointer (some ⟨e,0,none⟩),.int .i64 (sl:Int),.slice none 0 0] 56)):=Qg;refine ⟨e,.slice none 0 0,λj=>K j/\j<w.heap.size,Qf,Qi,Qi,Qi,λj => ?_,H.old.touched (S:=λ_=>False) (Touch.quiet b) (λ_ _ x=>x),.inl ⟨rfl,rfl⟩,.inr (Qn _),λj a=>⟨.inl a.1,by have:=a.2;omega,by have:=a.2;simp;omega⟩⟩;exact frozen_of_row _ _ _ _ _ (heap_alloc_new w _)
def Ih (w wr:World) (t:Nat) (E:Eg) (M:List Rt) (sl i:Nat):Prop:=
 ∃K',ShdP wr K' t ⟨E,(M.take i).map λr=>(false,r),sl⟩/\(∀g,K' g->w.heap.size<=g)/\Below w.heap.size w wr
theorem Ih.next {w wr w1 w2:World} {c K2:Nat->Prop} {t:Nat} {E:Eg} {M:List Rt} {sl i:Nat} (hi:i<M.length) (e:∀g,c g->w.heap.size<=g) (d:Below w.heap.size w wr) (b:Below wr.heap.size wr w1)
 (k:ShdP w2 K2 t (Sh.add ⟨E,(M.take i).map λr=>(false,r),sl⟩ (false,M[i]))) (j:Touch c w1 w2) (l:∀g,K2 g->c g\/In w1.heap.size w2.heap.size g):Ih w w2 t E M sl (i+1):=by
 have a:=d.trans (b.mono d.size);refine ⟨K2,?_,λg f => ?_,a.trans (j.below a.size e)⟩
 ·rw [List.take_succ_eq_append_getElem hi,List.map_append];exact k
 ·rcases l g f with h | h
  ·exact e g h
  ·exact Qw a.size h.1
theorem Z58 {c:Cf} (h:okCf c=true) (C:List Int):(lvC c C).length<=128:=by
 have a:=(N9 h C).2;have b:c.lv<=128:=by unfold okCf at h;exact (of_decide_eq_true h).2.2.1.2
 unfold Bg at a;simp only [Qq,decide_eq_true_eq] at a;omega
theorem Zqq (c:Cf) (s:Nat) (L:List Rt) (p:Option Addr) (k:Nat) (sl:Int) (w:World) (d:okCf c=true) (q:sl<1) :
 Calls prog 7 #[cfgA c,.int .u64 (s:Int),.slice p L.length k,.int .i64 sl] w λe w'=>e = .returned (.tuple #[.pointer none,.int .i64 1])/\Below w.heap.size w w':=by
 have a:=λW=>Ks.right c W;rw [d] at a;obtain ⟨wd,r,n,st,o,bt,le,bk,rt,l⟩:=c;unfold cfgA at *
 simp only at *
 have i:=hid a;clear a d;go_enter func7,ntmps7;go_wp2_with fail;generalize b:World.alloc w _=j;have h:Below w.heap.size w j:=by rw [<-b];go_grown
 refine (i.o _).mono ?_;rintro e w1 ⟨rfl,f⟩;have m:=hid (h.trans (f.mono h.size));clear f h b;go_wp2;go_ret2;exact ⟨rfl,m.o⟩
theorem Zqr (c:Cf) (s:Nat) (L:List Rt) (p:Option Addr) (k sl:Nat) (w:World) (ws:W64 s) (hR:Row w p (rcs L)) (hp:p=none->k=0) (hl:L.length<=300) (z:okCf c=true) (h1:1<=sl) (h2:sl<=9223372036854775807) :
 Calls prog 7 #[cfgA c,.int .u64 (s:Int),.slice p L.length k,.int .i64 (sl:Int)] w λe w'=>
  ∃t,e = .returned (.tuple #[.pointer (some ⟨t,0,none⟩),.int .i64 0])/\ShdP w' (In w.heap.size w'.heap.size) t (C5 c s (Af L) sl)/\Below w.heap.size w w':=by
 have Q:=λW=>Ks.right c W;rw [z] at Q;have O:=λW (h:Below w.heap.size w W)=>Yw p k L W (hR.below h) hp Qa;obtain ⟨M,hM⟩:=Q' (Af L);have b6:M.length<=300:=by rw [hM];exact Qw (Gh L) hl
 rw [<-hM] at O ⊢;have U:=λW q d (h:Row W q (rcs M))=>Z3u q d M W h Qa;obtain ⟨C,hC⟩:=Q' (cntR M);have ak:C.length=129:=by rw [hC];exact Je M
 have ag:C5 c s M sl=⟨newE c s (lvC c C) C,M.map λr=>(false,r),sl⟩:=by rw [hC];rfl
 rw [ag];rw [<-hC] at U;obtain ⟨⟨V,hV⟩,a9⟩:=N9 z C;have Z:lvC c C=toI V:=by unfold lvC;rw [hV];rfl
 have ab:=Z58 z C;have I:okE c (lvC c C)=true:=by unfold okE;rw [z,a9];rfl
 have n:=λW q d (h:IRow W q C) (h2:129<=d)=>Zv8 q d C c.wd c.di c.lv c.st W h Qa Qa;rw [hV] at n;have m:=λW q1 d1 q2 d2 (g1:IRow W q1 (lvC c C)) (g2:IRow W q2 C) (g3:(lvC c C).length<=d1) (g4:129<=d2)=>Ks.new c s (lvC c C) C q1 q2 d1 d2 W ws g1 g2 Qa Qa g3 Qa I;have J:(lvC c C).length=V.length:=by rw [Z,Jc]
 rw [ak] at n m;rw [J] at m;unfold ChoE at n;simp only at n;obtain ⟨E,hE⟩:=Q' (newE c s (lvC c C) C);rw [<-hE] at m ⊢;rw [Z] at m;obtain ⟨wd,di,lv,st,hs,bt,le,bk,rt,R⟩:=c;unfold cfgA at *
 simp only at *
 have an:=hid Q;have al:=hid O;have av:=hid U;have aw:=hid n;have ar:=hid m;have n1:¬(sl:Int)<1:=Qa;clear Q O U n m hM hC ak ag hV a9 Z ab I J hE z hR hp;obtain ⟨l,a⟩:∃W:World,W=w.alloc (.cells #[.int .i64 wd,.int .i64 di,.int .i64 lv,.int .i64 st,.int .i64 hs,.int .i64 bt,.int .i64 le,.int .i64 bk,.int .i64 rt,.int .i64 R] 23):=⟨_,rfl⟩;have ae:Below w.heap.size w l:=by rw [a];go_grown
 have b:w.heap.size<l.heap.size:=by rw [a];simp
 have y0:l.cell? ⟨w.heap.size,0,none⟩=some (.int .i64 wd):=by rw [a];simp [go_sem]
 have y1:l.cell? ⟨w.heap.size,1,none⟩=some (.int .i64 di):=by rw [a];simp [go_sem]
 have y2:l.cell? ⟨w.heap.size,2,none⟩=some (.int .i64 lv):=by rw [a];simp [go_sem]
 have y3:l.cell? ⟨w.heap.size,3,none⟩=some (.int .i64 st):=by rw [a];simp [go_sem]
 have y4:l.cell? ⟨w.heap.size,4,none⟩=some (.int .i64 hs):=by rw [a];simp [go_sem]
 have y5:l.cell? ⟨w.heap.size,5,none⟩=some (.int .i64 bt):=by rw [a];simp [go_sem]
 have y6:l.cell? ⟨w.heap.size,6,none⟩=some (.int .i64 le):=by rw [a];simp [go_sem]
 have y7:l.cell? ⟨w.heap.size,7,none⟩=some (.int .i64 bk):=by rw [a];simp [go_sem]
 have y8:l.cell? ⟨w.heap.size,8,none⟩=some (.int .i64 rt):=by rw [a];simp [go_sem]
 have y9:l.cell? ⟨w.heap.size,9,none⟩=some (.int .i64 R):=by rw [a];simp [go_sem]
 have a4:Hid (∀f,Below l.heap.size l f->(f.cell? ⟨w.heap.size,0,none⟩=some (.int .i64 wd)/\f.cell? ⟨w.heap.size,1,none⟩=some (.int .i64 di)/\f.cell? ⟨w.heap.size,2,none⟩=some (.int .i64 lv)/\f.cell? ⟨w.heap.size,3,none⟩=some (.int .i64 st)/\f.cell? ⟨w.heap.size,4,none⟩=some (.int .i64 hs)) /\
  (f.cell? ⟨w.heap.size,5,none⟩=some (.int .i64 bt)/\f.cell? ⟨w.heap.size,6,none⟩=some (.int .i64 le)/\f.cell? ⟨w.heap.size,7,none⟩=some (.int .i64 bk)/\f.cell? ⟨w.heap.size,8,none⟩=some (.int .i64 rt)/\f.cell? ⟨w.heap.size,9,none⟩=some (.int .i64 R))/\w.heap.size<f.heap.size):=by
  refine hid λf h=>⟨⟨(h.cell (p:=⟨w.heap.size,0,none⟩) b).trans y0,(h.cell (p:=⟨w.heap.size,1,none⟩) b).trans y1,(h.cell (p:=⟨w.heap.size,2,none⟩) b).trans y2,(h.cell (p:=⟨w.heap.size,3,none⟩) b).trans y3,(h.cell (p:=⟨w.heap.size,4,none⟩) b).trans y4⟩,⟨(h.cell (p:=⟨w.heap.size,5,none⟩) b).trans y5,(h.cell (p:=⟨w.heap.size,6,none⟩) b).trans y6,(h.cell (p:=⟨w.heap.size,7,none⟩) b).trans y7,(h.cell (p:=⟨w.heap.size,8,none⟩) b).trans y8,(h.cell (p:=⟨w.heap.size,9,none⟩) b).trans y9⟩,Qm b h.size⟩
 have A:=hid ae;clear ae;go_enter func7,ntmps7;go_upto_region 1 with fail;rw [<-a];clear a;go_wp2_with fail;refine (an.o _).mono ?_;rintro e1 w1 ⟨rfl,Y⟩;have a7:=hid Y;have am:=hid (al.o w1 (A.o.trans (Y.mono A.o.size)));clear Y an al y0 y1 y2 y3 y4 y5 y6 y7 y8 y9 b;go_wp2_with fail;refine am.o.mono ?_;rintro e2 w2 ⟨p2,c2,rfl,y,ad⟩;have a6:=hid (a7.o.trans (ad.mono a7.o.size));have a2:=hid (Row.of_own y);clear y ad a7 am;go_wp2_with fail;refine (av.o _ _ _ a2.o).mono ?_;rintro e3 w3 ⟨q3,d3,rfl,ac,x,X⟩;have a3:=hid (IRow.of_own x);have ao:=hid (a2.o.below X);have F:=hid (a6.o.trans (X.mono a6.o.size));have N:=hid (aw.o _ _ _ a3.o ac);obtain ⟨⟨y0,y1,y2,y3,-⟩,-,az⟩:=a4.o _ F.o;clear x X a6 a2 av aw;go_wp2_with fail;refine N.o.mono ?_;rintro e4 w4 ⟨⟨q4,d4,rfl,aa,b0⟩,D⟩;have au:=hid (a3.o.below D);have b3:=hid (ao.o.below D);have a5:=hid (F.o.trans (D.mono F.o.size));have K:=hid (ar.o _ _ _ _ _ aa au.o b0 ac);clear aa D F ao a3 N ar y0 y1 y2 y3 az;obtain ⟨⟨y0,y1,y2,y3,y4⟩,⟨y5,y6,y7,y8,y9⟩,ay⟩:=a4.o _ a5.o;go_wp2_with fail;refine K.o.mono ?_;rintro e5 o ⟨t5,rfl,ah,B⟩;have HI:Hid (Ih w4 (o.alloc (.cells #[.pointer (some ⟨t5,0,none⟩),.int .i64 (sl:Int),.slice none 0 0] 56)) o.heap.size E M sl 0):=
  hid ⟨λj=>In w4.heap.size o.heap.size j\/o.heap.size<=j,by rw [List.take_zero];exact ShdP.born ah,λg hg=>hg.elim (λh=>h.1) (λh=>Qw B.size h),B.trans ((by go_grown:Below o.heap.size o (o.alloc (.cells #[.pointer (some ⟨t5,0,none⟩),.int .i64 (sl:Int),.slice none 0 0] 56))).mono B.size)⟩
 have a1:=hid (A.o.trans (a5.o.mono A.o.size));clear ah B a5 au K a4 A y0 y1 y2 y3 y4 y5 y6 y7 y8 y9 ay;go_wp2;go_loopg [56] M.length (λkx ax f=>∃(i:Nat),ax = .int .i64 (i:Int)/\M.length-i<=kx/\i<=M.length/\Hid (Ih w4 f o.heap.size E M sl i))
 case atStart=>exact ⟨0,rfl,Qa,Qa,HI⟩
 case round=>
  clear HI;obtain ⟨i,rfl,l1,l2,HI⟩:=hrel;by_cases hi:i<M.length
  ·obtain ⟨K1,hP,hK,hb⟩:=HI.o;obtain ⟨g0,o0,rfl,b5,x0,x1,x2,x3⟩:=(b3.o.below hb).rt hi;have u:=λW (h:Below wr.heap.size wr W)=>Zn W K1 o.heap.size ⟨E,(M.take i).map λr=>(false,r),sl⟩ M[i] (hP.below h) (by show ((M.take i).map _).length<=_;rw [List.length_map,Qs];omega);have S:=λ(w1 w2:World) (K2:Nat->Prop) h1 h2 h3 h4=>Ih.next (w:=w4) (wr:=wr) (w1:=w1) (w2:=w2) (K2:=K2) (t:=o.heap.size) (E:=E) (sl:=sl) hi hK hb h1 h2 h3 h4;have i1:(0:Int)<=(i:Int):=Qa;have i2:(i:Int)<(M.length:Int):=Qa;generalize M[i]=r at u S x0 x1 x2 x3;obtain ⟨⟨kh,kl,kn⟩,rv⟩:=r;unfold rtA at u;simp only at u x0 x1 x2 x3;have ap:=hid u;have aq:=hid S;clear u S hP hK hb HI;go_wp2_with fail;generalize a8:World.alloc wr _=wA;have hA:Below wr.heap.size wr wA:=by rw [<-a8];go_grown
   refine (ap.o _ hA).mono ?_;rintro e6 w6 ⟨rfl,K2,ai,af,aj⟩;have b4:=hid (aq.o _ _ _ hA ai af aj);clear ai af aj hA a8 ap aq;go_wp2;go_roundg (M.length-(i+1))
   case measure=>omega
   case rel=>exact ⟨i+1,Qj,Qa,Qa,b4⟩
  ·obtain rfl:i=M.length:=Qa;obtain ⟨K1,hP,hK,hb⟩:=HI.o;rw [List.take_length] at hP;have HF:=hid (And.intro (hP.old.mono (K':=In w.heap.size wr.heap.size) λj hj=>⟨Qw a1.o.size (hK j hj.1),hj.2⟩) (a1.o.trans (hb.mono a1.o.size)));clear HI hP hK hb;go_wp2;go_ret2;exact ⟨o.heap.size,rfl,HF.o.1,HF.o.2⟩
theorem Z7r:ShdC EngP ShdP where
 start:=λc s L p k sl w f i o h n l b e q=>Zqr c s L p k sl w f i l h b e q
 bad:=λc s L p k sl w f i o h n b e=>Zqq c s L p k sl w b e
 put:=λw K t S r H a ha=>Zn w K t S r H (by have:=a.cnt;omega)
 del:=λw K t S k H a ha=>Z0c w K t S k H (by have:=a.cnt;omega)
 step:=λw K t S H a=>Zur w K t S H a
 wait:=λw K t S H a d=>Zru w K t S H d
 done:=λw K t S H a d=>Zrv w K t S H d
 touched:=λw w' K U t S H j m=>H.touched j m
end
section
open Go.ChangeShapes Go.WideShapes Go.ChangeAt Go.RowKit Go.Joins M
namespace lawShadowWaits
theorem lifted (m:Os) (started:m.Started) (H:Type) (enc:TypeId×Value->H) :
 ReturnsInHanded {} Tryz.checked m 3 .any (Rows.shadowWaitsSpec.pre6 enc prog Tryz.f3 Rows.shadowWaitsRow.domain false) (Rows.shadowWaitsSpec.post enc prog Tryz.f3 false true false false):=by
 refine returnsInHanded_of_change (C:=Tryz.checked) (show ownKnob prog.godebug=none by kernel_rfl) started Qb func3
  (ChangeSpec.witness6 (enc:=enc) (C:=Tryz.checked) false ⟨#[],#[.agg #[.int .i64 0,.int .i64 0,.int .i64 0,.int .i64 0,.int .i64 0,.int .i64 0,.int .i64 0,.int .i64 0,.int .i64 0,.int .i64 0],.int .u64 0,.int .i64 0,.int .i64 0,.int .i64 0],[]⟩ 8 Qb Qb Qb Qb) ?_
 intro W base args X gs before b o n _;have a:∀(j:Nat) t v,Tryz.f3.params[j]? = some t->args[j]? = some v->Value.okWide prog W .any base t v:=b;have d:=o;obtain ⟨p,q,hA0,N,-,-,-⟩:=o;have r:DataW.TrodAll enc prog W 0 (λ_=>true) true Tryz.f3.params.toList args.toList X p:=hA0;rw [Tryz.params3] at r a;obtain ⟨l,y,d0,U,p0,q0,c,rfl,rfl,t0,r0⟩:=trodAll_cons r;obtain ⟨k,x,d1,S,p1,q1,rfl,rfl,rfl,t1,D⟩:=trodAll_cons r0;obtain ⟨i,w,d2,R,p2,q2,rfl,rfl,rfl,t2,B⟩:=trodAll_cons D;obtain ⟨h,u,d3,Q,p3,q3,rfl,rfl,rfl,t3,A⟩:=trodAll_cons B;obtain ⟨f,s,d4,O,p4,Z,rfl,rfl,rfl,t4,z⟩:=trodAll_cons A;obtain ⟨rfl,rfl,rfl⟩:=trodAll_nil z;obtain rfl:args = #[l,k,i,h,f]:=by cases args;simp_all
 obtain ⟨J,rfl⟩:=Z17 (a 0 23 l rfl rfl) t0;obtain ⟨m1,rfl,-,-,w1⟩:=open_int underlying24 (a 1 24 k rfl rfl) t1;obtain ⟨I,rfl,Y⟩:=wf_u64 w1;obtain ⟨n2,rfl,-,-,w2⟩:=open_int underlying3 (a 2 3 i rfl rfl) t2;obtain ⟨F,rfl,-,-,w3⟩:=open_int underlying3 (a 3 3 h rfl rfl) t3;obtain ⟨E,rfl,-,-,w4⟩:=open_int underlying3 (a 4 3 f rfl rfl) t4;obtain ⟨rfl,-⟩:=trodVars_none N;refine (Zqn Ks Z7r J I n2 F E W Y).mono λe W' ⟨L,K⟩ => ?_;subst L;exact ⟨_,rfl,law_post Qb Qb rfl underlying4 rfl d rfl K⟩
theorem holds:Rows.ShadowWaitsSaid:=
 OpenClaim.holds_of_wide 3 Tryz.f3 rfl rfl rfl rfl rfl rfl rfl ⟨rfl,rfl,rfl,rfl,rfl⟩ rfl rfl rfl rfl rfl Qb func3 Qb
  (of_decide_eq_true Qb) (by unfold Func.isWrapper;first|(rw [if_pos (by decide +kernel)];kernel_rfl)|(rw [if_neg (by decide +kernel)];exact ⟨rfl,rfl⟩))
  (λa started H enc _=>lifted a started H enc)
#print axioms holds
end lawShadowWaits
end
end Go.Proofs.YtpdphfgpdgadpaaGreat
