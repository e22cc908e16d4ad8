import Derived.Test.YtpdphfgpdgadpaaGreatL22d
import Derived.Test.YtpdphfgpdgadpaaGreatM22d
import Derived.Test.YtpdphfgpdgadpaaGreatStb3
import Derived.Test.YtpdphfgpdgadpaaGreatW20
import Derived.Test.YtpdphfgpdgadpaaGreatW19
set_option linter.unusedSimpArgs false
set_option linter.unusedVariables false
set_option maxHeartbeats 4000000
set_option maxRecDepth 100000
open Go.Proofs.Tryz
namespace Go.Proofs.YtpdphfgpdgadpaaGreat
open Lib(hid)
open Go Go.RowKit Go.Sort M
theorem LevB.mono {w:World} {K K':Nat->Prop} {t:Nat} {V:Lv} {lo hi f u:Nat} (H:LevB w K t V lo hi f u) (h:∀j,K j->K' j):LevB w K' t V lo hi f u:=
 ⟨H.lt,H.c0,H.c1,H.c2,H.fil,H.tab.mono λ_ _ a=>⟨h _ a.1,a.2⟩,h _ H.kt,λj a=>h _ (H.kf j a),H.tf,H.pos⟩
theorem LevP.mono {w:World} {K K':Nat->Prop} {t:Nat} {V:Lv} (H:LevP w K t V) (h:∀j,K j->K' j):LevP w K' t V:=by obtain ⟨lo,hi,f,u,H⟩:=H;exact ⟨lo,hi,f,u,H.mono h⟩
theorem LevP.old {w:World} {K:Nat->Prop} {t:Nat} {V:Lv} (H:LevP w K t V):LevP w (λj=>K j/\j<w.heap.size) t V:=by obtain ⟨lo,hi,f,u,H⟩:=H;exact ⟨lo,hi,f,u,H.old⟩
theorem DirP.mono {w:World} {K K':Nat->Prop} {t m:Nat} {L:List Rt} (H:DirP w K t m L) (h:∀j,K j->K' j):DirP w K' t m L:=by obtain ⟨g,k1,k⟩:=H.row;exact ⟨h _ H.kt,H.lt,H.le,H.bits,H.f,g,h _ k1,k⟩
theorem DirP.old {w:World} {K:Nat->Prop} {t m:Nat} {L:List Rt} (H:DirP w K t m L):DirP w (λj=>K j/\j<w.heap.size) t m L:=by obtain ⟨g,k1,a,b⟩:=H.row;exact ⟨⟨H.kt,H.lt⟩,H.lt,H.le,H.bits,H.f,g,⟨k1,a⟩,a,b⟩
def tcs:List (Nat×Nat)->List Value
 | []=>[]
 | (q,n)::X => .pointer (some ⟨q,0,none⟩) :: .int .i64 (n:Int)::tcs X
theorem Y5:∀X Y:List (Nat×Nat),tcs (X++Y)=tcs X++tcs Y
 | [],_=>rfl
 | (q,n)::X,Y=>by rw [List.cons_append,tcs,tcs,Y5 X Y];rfl
theorem Y6:∀(X:List (Nat×Nat)) (i:Nat) (h:i<X.length),(tcs X)[i*2]? = some (.pointer (some ⟨X[i].1,0,none⟩))/\(tcs X)[i*2+1]? = some (.int .i64 (X[i].2:Int))
 | (q,n)::X,0,_=>⟨rfl,rfl⟩
 | (q,n)::X,i+1,h=>by have:=Y6 X i (by simpa using h);rw [show (i+1)*2=i*2+2 by omega];exact this
theorem Row.tier {w:World} {p:Option Addr} {X:List (Nat×Nat)} (h:Row w p (tcs X)) {i:Nat} (hi:i<X.length) :
 ∃g o,p=some ⟨g,o,none⟩/\g<w.heap.size/\w.cell? ⟨g,o+i*2,none⟩=some (.pointer (some ⟨X[i].1,0,none⟩))/\w.cell? ⟨g,o+i*2+1,none⟩=some (.int .i64 (X[i].2:Int)):=by
 have a:=Y6 X i hi;rcases h with h | ⟨g,o,rfl,c,b⟩
 ·rw [h] at a;simp at a
 ·exact ⟨g,o,rfl,c,b _ _ a.1,b _ _ a.2⟩
theorem Row.touched22 {S:Nat->Prop} {w w':World} {p:Option Addr} {xs:List Value} (h:Row w p xs) (b:Touch S w w') (c:∀a,p=some a->¬S a.block):Row w' p xs:=by
 rcases h with h | ⟨g,o,rfl,e,f⟩
 ·exact .inl h
 ·exact .inr ⟨g,o,rfl,Qm e b.size,λj u d=>b.cell (f j u d) (c ⟨g,o,none⟩ rfl)⟩
structure EngB (w:World) (K:Nat->Prop) (t:Nat) (E:Eg) (col:Nat->Nat) (v:Value) (d:Nat) (L0:List Rt) (X:List (Nat×Nat)) (p:Option Addr) (c:Nat):Prop where
 lt:t<w.heap.size
 c0:w.cell? ⟨t,0,none⟩=some (.int .i64 E.wd)
 c1:w.cell? ⟨t,1,none⟩=some (.int .i64 E.di)
 c2:w.cell? ⟨t,2,none⟩=some v
 c3:w.cell? ⟨t,3,none⟩=some (.pointer (some ⟨d,0,none⟩))
 c4:w.cell? ⟨t,4,none⟩=some (.slice p E.L.length c)
 f:∀j,w.frozen? ⟨t,j,none⟩=false
 own:w.ownsRow 0 34 4 v E.R.length (rcs E.R)
 ts:Row w p (tcs X)
 xl:X.length=E.L.length
 xc:∀i (h:i<X.length) (h2:i<E.L.length),X[i].2=E.L[i].C.length
 cap:E.L.length<=c
 lev:∀i (h:i<X.length) (h2:i<E.L.length),LevP w (λj=>col j=i+4/\K j) X[i].1 E.L[i]
 dir:DirP w (λj=>col j=3/\K j) d E.di.toNat L0
 kt:col t=0/\K t
 kv:∀j,v.ownBlock=some j->col j=1/\K j
 kp:∀a,p=some a->(col a.block=2/\K a.block)/\a.block<w.heap.size
def DirE (E:Eg) (L0:List Rt):Prop:=∀b a,W64 b->W64 a->dirK L0 b a E.di.toNat=E.dir22 b a
def EngP (w:World) (K:Nat->Prop) (t:Nat) (E:Eg):Prop:=∃col v d L0 X p c,EngB w K t E col v d L0 X p c/\DirE E L0
section
variable {w w':World} {K S:Nat->Prop} {t:Nat} {E:Eg} {col:Nat->Nat} {v:Value} {d:Nat} {L0:List Rt} {X:List (Nat×Nat)} {p:Option Addr} {c:Nat}
theorem EngB.touched (H:EngB w K t E col v d L0 X p c) (b:Touch S w w') (e:∀j,K j->¬S j):EngB w' K t E col v d L0 X p c:=
 ⟨Qm H.lt b.size,b.cell H.c0 (e _ H.kt.2),b.cell H.c1 (e _ H.kt.2),b.cell H.c2 (e _ H.kt.2),b.cell H.c3 (e _ H.kt.2),b.cell H.c4 (e _ H.kt.2),
  λj=>(World.frozen?_of_block (a:=⟨t,j,none⟩) (b.block t H.lt (e _ H.kt.2))).trans (H.f j),Touch.own H.own b (λj k=>e _ (H.kv j k).2),H.ts.touched22 b (λa ha=>e _ (H.kp a ha).1.2),H.xl,H.xc,H.cap,
  λi h l=>(H.lev i h l).touched b (λj k=>e _ k.2),H.dir.touched b (λj k=>e _ k.2),H.kt,H.kv,λa ha=>⟨(H.kp a ha).1,Qm (H.kp a ha).2 b.size⟩⟩
theorem EngB.below (H:EngB w K t E col v d L0 X p c) (a:Below w.heap.size w w'):EngB w' K t E col v d L0 X p c:=H.touched (S:=λ_=>False) (Touch.quiet a) (λ_ _ x=>x)
theorem EngB.vlt (H:EngB w K t E col v d L0 X p c):∀j,v.ownBlock=some j->j<w.heap.size:=λj a=>(H.own.lt j a).2
theorem EngB.old (H:EngB w K t E col v d L0 X p c):EngB w (λj=>K j/\j<w.heap.size) t E col v d L0 X p c:=
 ⟨H.lt,H.c0,H.c1,H.c2,H.c3,H.c4,H.f,H.own,H.ts,H.xl,H.xc,H.cap,λi h e=>(H.lev i h e).old.mono λj b=>⟨b.1.1,b.1.2,b.2⟩,H.dir.old.mono λj b=>⟨b.1.1,b.1.2,b.2⟩,⟨H.kt.1,H.kt.2,H.lt⟩,
  λj b=>⟨(H.kv j b).1,(H.kv j b).2,H.vlt j b⟩,λa ha=>⟨⟨(H.kp a ha).1.1,(H.kp a ha).1.2,(H.kp a ha).2⟩,(H.kp a ha).2⟩⟩
def colN (w:World) (col:Nat->Nat) (i:Nat) (j:Nat):Nat:=if w.heap.size<=j then i else col j
theorem Br {w:World} {col:Nat->Nat} {i j:Nat} (h:j<w.heap.size):colN w col i j=col j:=if_neg Qa
theorem Ic {w:World} {col:Nat->Nat} {i j:Nat} (h:w.heap.size<=j):colN w col i j=i:=if_pos h
theorem EngB.lev_step {D:Nat->Prop} {y:Lv} {i:Nat} (H:EngB w K t E col v d L0 X p c) (h:i<X.length) (I:LevP w' D X[i].1 y) (J:∀j,D j->(col j=i+4/\K j)\/In w.heap.size w'.heap.size j)
 (m:Touch (λj=>col j=i+4/\K j) w w') (F:∀B:i<E.L.length,y.C.length=E.L[i].C.length) :
 EngB w' (λj=>K j\/In w.heap.size w'.heap.size j) t { E with L:=E.L.set i y } (colN w col (i+4)) v d L0 X p c:=by
 have q:=H.kt;have n:(E.L.set i y).length=E.L.length:=List.length_set;have l:∀k,¬(col t=k+4/\K t):=λk x=>by rw [q.1] at x;omega
 have z:=H.vlt;refine ⟨Qm H.lt m.size,m.cell H.c0 (l i),m.cell H.c1 (l i),m.cell H.c2 (l i),m.cell H.c3 (l i),?_,λj=>(World.frozen?_of_block (a:=⟨t,j,none⟩) (m.block t H.lt (l i))).trans (H.f j),
  Touch.own H.own m (λj b x=>by have:=(H.kv j b).1;omega),H.ts.touched22 m (λa ha x=>by have:=(H.kp a ha).1.1;omega),?_,λk s r => ?_,?_,λk s r => ?_,?_,⟨(Br H.lt).trans q.1,.inl q.2⟩,λj b=>⟨(Br (z j b)).trans (H.kv j b).1,.inl (H.kv j b).2⟩,
  λa ha=>⟨⟨(Br (H.kp a ha).2).trans (H.kp a ha).1.1,.inl (H.kp a ha).1.2⟩,Qm (H.kp a ha).2 m.size⟩⟩
 ·rw [n];exact m.cell H.c4 (l i)
 ·rw [n];exact H.xl
 ·have o:k<E.L.length:=by rw [<-n];exact r
  by_cases e:k=i
  ·subst e;simp only [List.getElem_set_self];rw [F o];exact H.xc k s o
  ·simp only [List.getElem_set_ne (Ne.symm e)];exact H.xc k s o
 ·rw [n];exact H.cap
 ·have o:k<E.L.length:=by rw [<-n];exact r
  by_cases e:k=i
  ·subst e;simp only [List.getElem_set_self];have:=I.old;refine this.mono λj b => ?_;rcases J j b.1 with ⟨u,B⟩ | u
   ·by_cases A:j<w.heap.size
    ·exact ⟨(Br A).trans u,.inl B⟩
    ·exact ⟨Ic Qa,.inl B⟩
   ·exact ⟨Ic u.1,.inr u⟩
  ·simp only [List.getElem_set_ne (Ne.symm e)];refine ((H.lev k s o).old.touched m (λj b x=>by have:=b.1.1;have:=x.1;omega)).mono λj b=>⟨(Br b.2).trans b.1.1,.inl b.1.2⟩
 ·exact (H.dir.old.touched m (λj b x=>by have:=b.1.1;have:=x.1;omega)).mono λj b=>⟨(Br b.2).trans b.1.1,.inl b.1.2⟩
theorem EngB.dir_step {s:Nat->Prop} {r:List Rt} (H:EngB w K t E col v d L0 X p c) (z:DirP w' s d E.di.toNat r) (y:∀j,s j->(col j=3/\K j)\/In w.heap.size w'.heap.size j)
 (h:Touch (λj=>col j=3/\K j) w w') :
 EngB w' (λj=>K j\/In w.heap.size w'.heap.size j) t E (colN w col 3) v d r X p c:=by
 have i:=H.kt;have e:¬(col t=3/\K t):=λx=>by rw [i.1] at x;omega
 have m:=H.vlt;refine ⟨Qm H.lt h.size,h.cell H.c0 e,h.cell H.c1 e,h.cell H.c2 e,h.cell H.c3 e,h.cell H.c4 e,λj=>(World.frozen?_of_block (a:=⟨t,j,none⟩) (h.block t H.lt e)).trans (H.f j),
  Touch.own H.own h (λj b x=>by have:=(H.kv j b).1;omega),H.ts.touched22 h (λa ha x=>by have:=(H.kp a ha).1.1;omega),H.xl,H.xc,H.cap,λk u n => ?_,?_,⟨(Br H.lt).trans i.1,.inl i.2⟩,λj b=>⟨(Br (m j b)).trans (H.kv j b).1,.inl (H.kv j b).2⟩,
  λa ha=>⟨⟨(Br (H.kp a ha).2).trans (H.kp a ha).1.1,.inl (H.kp a ha).1.2⟩,Qm (H.kp a ha).2 h.size⟩⟩
 ·exact ((H.lev k u n).old.touched h (λj b x=>by have:=b.1.1;have:=x.1;omega)).mono λj b=>⟨(Br b.2).trans b.1.1,.inl b.1.2⟩
 ·refine z.old.mono λj b => ?_;rcases y j b.1 with ⟨l,q⟩ | l
  ·by_cases o:j<w.heap.size
   ·exact ⟨(Br o).trans l,.inl q⟩
   ·exact ⟨Ic Qa,.inl q⟩
  ·exact ⟨Ic l.1,.inr l⟩
theorem EngB.rts_step {v':Value} {R':List Rt} (H:EngB w K t E col v d L0 X p c) (f:Touch (λj=>j=t\/v.ownBlock=some j) w w')
 (y:w'.cell? ⟨t,0,none⟩=w.cell? ⟨t,0,none⟩) (u:w'.cell? ⟨t,1,none⟩=w.cell? ⟨t,1,none⟩) (c2:w'.cell? ⟨t,2,none⟩=some v') (c3:w'.cell? ⟨t,3,none⟩=w.cell? ⟨t,3,none⟩) (c4:w'.cell? ⟨t,4,none⟩=w.cell? ⟨t,4,none⟩)
 (r:∀j,w'.frozen? ⟨t,j,none⟩=false) (q:w'.ownsRow 0 34 4 v' R'.length (rcs R')) (s:v'.ownBlock=v.ownBlock\/∃k,v'.ownBlock=some k/\w.heap.size<=k) :
 EngB w' (λj=>K j\/In w.heap.size w'.heap.size j) t { E with R:=R' } (colN w col 1) v' d L0 X p c:=by
 have h:=H.kt;have l:=H.vlt;have m:∀j,col j=2\/col j=3\/4<=col j->¬(j=t\/v.ownBlock=some j):=λj b x=>by
  rcases x with rfl | x
  ·omega
  ·have:=(H.kv j x).1;omega
 refine ⟨Qm H.lt f.size,y.trans H.c0,u.trans H.c1,c2,c3.trans H.c3,c4.trans H.c4,r,q,H.ts.touched22 f (λa ha=>m _ (.inl (H.kp a ha).1.1)),H.xl,H.xc,H.cap,λk i n => ?_,?_,⟨(Br H.lt).trans h.1,.inl h.2⟩,λj b => ?_,
  λa ha=>⟨⟨(Br (H.kp a ha).2).trans (H.kp a ha).1.1,.inl (H.kp a ha).1.2⟩,Qm (H.kp a ha).2 f.size⟩⟩
 ·exact ((H.lev k i n).old.touched f (λj b=>m _ (.inr (.inr (by have:=b.1.1;omega))))).mono λj b=>⟨(Br b.2).trans b.1.1,.inl b.1.2⟩
 ·exact (H.dir.old.touched f (λj b=>m _ (.inr (.inl b.1.1)))).mono λj b=>⟨(Br b.2).trans b.1.1,.inl b.1.2⟩
 ·have o:=(q.lt j b).2;rcases s with e | ⟨k,e,i⟩
  ·rw [e] at b;exact ⟨(Br (l j b)).trans (H.kv j b).1,.inl (H.kv j b).2⟩
  ·rw [e] at b;injection b with b;subst b;exact ⟨Ic i,.inr ⟨i,o⟩⟩
end
theorem EngP.touched {w w':World} {K S:Nat->Prop} {t:Nat} {E:Eg} (H:EngP w K t E) (a:Touch S w w') (b:∀j,K j->¬S j):EngP w' K t E:=by obtain ⟨col,v,d,L0,X,p,c,H,e⟩:=H;exact ⟨col,v,d,L0,X,p,c,H.touched a b,e⟩
theorem Dy (n lo hi:Int):Aj prog 25 #[.int .i64 n,.int .i64 lo,.int .i64 hi] (.bool (decide (lo<=n/\n<=hi))):=by
 intro w;by_cases b:lo<=n
 ·by_cases a:n<=hi
  ·go_enter func25,ntmps25;go_wp2;go_ret;exact ⟨Au (decide_eq_true Qa).symm,Qg⟩
  ·go_enter func25,ntmps25;go_wp2;go_ret;exact ⟨Au (decide_eq_false (λh=>Qa)).symm,Qg⟩
 ·go_enter func25,ntmps25;go_wp2;go_ret;exact ⟨Au Qe,Qg⟩
theorem Oq (t d:Nat) (w:World) (a:t<w.heap.size) (c3:w.cell? ⟨t,3,none⟩=some (.pointer (some ⟨d,0,none⟩))) :
 Calls prog 22 #[.pointer (some ⟨t,0,none⟩)] w λe w'=>e = .returned (.bool false)/\Below w.heap.size w w':=by
 go_enter func22,ntmps22;go_wp2;go_ret;exact ⟨rfl,Qg⟩
theorem Y7 (c:Cf) (q:Option Addr) (d:Nat) (L:List Int) (w:World) (j:IRow w q L) (hd:L.length<=1000000) (b:∀x∈L,x<=9223372036854775807) :
 Calls prog 32 #[cfgA c,.slice q L.length d] w λe w'=>e = .returned (.bool (Bg c.wd c.di c.lv c.st L))/\Below w.heap.size w w':=by
 have i:=λW (h:Below w.heap.size w W)=>Zu4 q d L c.wd c.di c.lv c.st W (j.below h) hd b;have k:=hid i;clear i j;obtain ⟨wd,o,l,st,m,bt,le,bk,rt,n⟩:=c;unfold cfgA;simp only at k ⊢;go_enter func32,ntmps32;go_wp2_with fail;refine (k.o _ Qg).mono ?_;rintro e w1 ⟨rfl,f⟩;have a:Below w.heap.size w w1:=Below.trans Qg (f.mono Qf);go_wp2;go_ret;exact ⟨rfl,a⟩
theorem Zz0 (a b:Nat) (n:Int) (c d:Nat) (m:Int) (w:World):(binOp .eql 32 (.agg #[.int .u64 a,.int .u64 b,.int .i64 n]) (.agg #[.int .u64 c,.int .u64 d,.int .i64 m])).run prog w =
 .ok (.bool (decide (a=c/\b=d/\n=m))) w:=by
 have i:decide (a=c/\b=d/\n=m)=(decide ((a:Int)=c)&&(decide ((b:Int)=d)&&decide (n=m))):=by rw [<-Bool.decide_and,<-Bool.decide_and,decide_eq_decide];omega
 rw [i];by_cases h:(a:Int)=c<;>by_cases f:(b:Int)=d<;>by_cases e:n=m<;>simp [go_sem,h,f,e]
theorem Ot {R:List Rt} (a:Sorted R) (k:Ky):k∈Aa R↔∃h:bh R k<R.length,R[bh R k].k=k:=by
 constructor
 ·intro h;cases e:Al R k with
  | none=>exact absurd h (Iw (by rw [e];rfl))
  | some i=>obtain ⟨rfl,c,b⟩:=(D6 R k a).1 i e;exact ⟨c,b⟩
 ·rintro ⟨h,e⟩;rw [<-e];exact Db (Qp h)
theorem Y8 {R:List Rt} (a:Sorted R) {k:Ky} (h:k∈Aa R):Al R k=some (bh R k):=by
 cases e:Al R k with
 | none=>exact absurd h (Iw (by rw [e];rfl))
 | some i=>rw [((D6 R k a).1 i e).1]
theorem Zzv {R:List Rt} (a:Sorted R) {k:Ky} (h:k∉Aa R):Al R k=none:=by
 cases e:Al R k with
 | none=>rfl
 | some i=>obtain ⟨-,c,b⟩:=(D6 R k a).1 i e;exact absurd (by rw [<-b];exact Db (Qp c)) h
theorem Zk1 (j b t:Nat) (p:Option Addr) (c:Nat) (R:List Rt) (u:Ky) (i:Nat) (w:World) (r:Row w p (rcs R)) (m:Sorted R) (hi:i<R.length)
 (I:j<w.heap.size) (F:b<w.heap.size) (E:t<w.heap.size) (N:w.cell? ⟨j,0,none⟩=some (.pointer (some ⟨t,0,none⟩))) (c2:w.cell? ⟨t,2,none⟩=some (.slice p R.length c))
 (u0:w.cell? ⟨b,0,none⟩=some (.int .u64 (u.h:Int))) (u1:w.cell? ⟨b,1,none⟩=some (.int .u64 (u.l:Int))) (u2:w.cell? ⟨b,2,none⟩=some (.int .i64 u.n)) :
 Calls prog 73 #[.int .i64 (i:Int),.pointer (some ⟨j,0,none⟩),.pointer (some ⟨b,0,none⟩)] w λe w'=>e = .returned (.bool (decide (bh R u<=i)))/\Below w.heap.size w w':=by
 obtain ⟨L,o,rfl,x,r0,C,B,-⟩:=r.rt hi;have A:=Mb R u m i hi;have d:=Hq R[i].k.h R[i].k.l R[i].k.n u.h u.l u.n;rw [show A5 R[i].k.h R[i].k.l R[i].k.n u.h u.l u.n=An R[i].k u from rfl] at d;have d:=hid d;have K:(0:Int)<=(i:Int):=Qa;have J:(i:Int)<(R.length:Int):=Qa;generalize An R[i].k u=D at *
 generalize decide (bh R u<=i)=ds at *
 subst A;generalize R[i].k=q at *
 generalize R.length=n at *
 clear r m;go_enter func73,ntmps73;go_wp2_with fail;have s:=Ad;refine Am Qb Qb ?_;repeat (any_goals (first|go_big_quiet_step ((exact d.o.at _ _ _))|quiet_step ((exact d.o.at _ _ _))))
 refine wpQuiet_nil ?_;clear s;intro w1 a;obtain ⟨z,y⟩:=Ac a;have f:Below w.heap.size w w1:=by
  refine Below.trans ?_ (a.mono ?_)
  ·go_grown
  ·first|omega|go_size
 go_wp2;go_ret;exact ⟨rfl,f⟩
theorem Ou (t:Nat) (R:List Rt) (k:Ky) (p:Option Addr) (c:Nat) (w:World) (hR:Row w p (rcs R)) (S:Sorted R) (hl:R.length<1048576) (I:t<w.heap.size) (c2:w.cell? ⟨t,2,none⟩=some (.slice p R.length c)) :
 Calls prog 50 #[.pointer (some ⟨t,0,none⟩),kyV k] w λe w'=>e = .returned (.tuple #[.int .i64 (bh R k:Int),.bool (decide (k∈Aa R))])/\Below w.heap.size w w':=by
 have A:=Eo R k;have r:=Ot S k;obtain ⟨m,d⟩:∃W:World,W=(w.alloc (.cells #[.pointer (some ⟨t,0,none⟩)] 40)).alloc (.cells #[.int .u64 (k.h:Int),.int .u64 (k.l:Int),.int .i64 k.n] 32):=⟨_,rfl⟩;have z:Below w.heap.size w m:=by rw [d];go_grown
 have Q:m.heap.size=w.heap.size+2:=by rw [d];simp
 have Y:m.cell? ⟨w.heap.size,0,none⟩=some (.pointer (some ⟨t,0,none⟩)):=by rw [d];simp [go_sem]
 have u0:m.cell? ⟨w.heap.size+1,0,none⟩=some (.int .u64 (k.h:Int)):=by rw [d];simp [go_sem]
 have u1:m.cell? ⟨w.heap.size+1,1,none⟩=some (.int .u64 (k.l:Int)):=by rw [d];simp [go_sem]
 have u2:m.cell? ⟨w.heap.size+1,2,none⟩=some (.int .i64 k.n):=by rw [d];simp [go_sem]
 have C:=hR.below z;have D:=(z.cell (p:=⟨t,2,none⟩) I).trans c2;have f:t<m.heap.size:=Qa;have F:w.heap.size<m.heap.size:=Qa;have u:w.heap.size+1<m.heap.size:=Qa;have eg:∀args w,(callFunc 73 args).run prog w = .ok (.enter 73 args) w:=enters_of func73 Qb rfl;have hS:Calls prog 72 #[.int .i64 (R.length:Int),.func (.func 73) #[] #[.pointer (some ⟨w.heap.size,0,none⟩),.pointer (some ⟨w.heap.size+1,0,none⟩)]] m λe w'=>e = .returned (.int .i64 (bh R k:Int))/\Below m.heap.size m w':=by
  refine Np _ _ _ _ _ A Qa m eg λwx i x hi => ?_;exact Zk1 w.heap.size (w.heap.size+1) t p c R k i wx (C.below x) S hi (Qm F x.size) (Qm u x.size) (Qm f x.size) ((x.cell (p:=⟨w.heap.size,0,none⟩) F).trans Y) ((x.cell (p:=⟨t,2,none⟩) f).trans D)
   ((x.cell (p:=⟨w.heap.size+1,0,none⟩) u).trans u0) ((x.cell (p:=⟨w.heap.size+1,1,none⟩) u).trans u1) ((x.cell (p:=⟨w.heap.size+1,2,none⟩) u).trans u2)
 have Z:=hid hS;have HR:=hid C;have HB:=hid z;clear hS eg S hR C z;obtain ⟨N,L,K⟩:=k;unfold kyV;simp only at u0 u1 u2 ⊢;generalize bh R ⟨N,L,K⟩=b at r A Z ⊢;generalize j:decide ((⟨N,L,K⟩:Ky)∈Aa R)=E;go_enter func50,ntmps50;go_wp2_with fail;rw [<-d];clear d;refine Z.o.mono ?_;rintro e w1 ⟨rfl,a⟩;have a3:Below w.heap.size w w1:=HB.o.trans (a.mono HB.o.size);have a1:=hid (HR.o.below a);have a4:=(a.cell (p:=⟨t,2,none⟩) f).trans D;have e1:=(a.cell (p:=⟨w.heap.size,0,none⟩) F).trans Y;have u0:=(a.cell (p:=⟨w.heap.size+1,0,none⟩) u).trans u0;have u1:=(a.cell (p:=⟨w.heap.size+1,1,none⟩) u).trans u1;have u2:=(a.cell (p:=⟨w.heap.size+1,2,none⟩) u).trans u2;have F:=Qm F a.size;have u:=Qm u a.size;have a2:=Qm f a.size;clear Z HR HB a D c2 f I Y Q;by_cases J:b<R.length
 ·obtain ⟨g,o,rfl,hg,x0,x1,x2,x3⟩:=a1.o.rt J;have hE:=λW=>Zz0 R[b].k.h R[b].k.l R[b].k.n N L K W;have hd:decide (R[b].k.h=N/\R[b].k.l=L/\R[b].k.n=K)=E:=by
   rw [<-j,decide_eq_decide,r];constructor
   ·rintro ⟨q1,q2,q3⟩;refine ⟨J,?_⟩;generalize R[b].k=y at *
    obtain ⟨yh,yl,yn⟩:=y;simp only at q1 q2 q3;subst q1 q2 q3;rfl
   ·rintro ⟨_,q⟩;rw [q];exact ⟨rfl,rfl,rfl⟩
  rw [hd] at hE;have i1:(0:Int)<=(b:Int):=Qa;have i2:(b:Int)<(R.length:Int):=Qa;have i3:decide (b<R.length)=true:=decide_eq_true J;generalize R[b].k=y at *
  clear hd r j;go_wp2_with fail;have O:=Ad;refine Am Qb Qb ?_;repeat (any_goals (first|go_big_quiet_step (fail)|quiet_step (fail)))
  refine wpQuiet_nil ?_;clear O;intro w2 s;obtain ⟨X,U⟩:=Ac s;have B:Below w.heap.size w w2:=by
   refine Below.trans ?_ (s.mono ?_)
   ·go_grown
   ·first|omega|go_size
  go_wp2;go_ret2;exact ⟨rfl,B⟩
 ·have hd:E=false:=by rw [<-j];exact decide_eq_false (λh=>J (r.1 h).1)
  subst hd;have i3:decide (b<R.length)=false:=decide_eq_false J;have i2:¬(b:Int)<(R.length:Int):=Qa;clear r j;go_wp2_with fail;have O:=Ad;refine Am Qb Qb ?_;repeat (any_goals (first|go_big_quiet_step (fail)|quiet_step (fail)))
  refine wpQuiet_nil ?_;clear O;intro w2 s;obtain ⟨X,U⟩:=Ac s;have B:Below w.heap.size w w2:=by
   refine Below.trans ?_ (s.mono ?_)
   ·go_grown
   ·first|omega|go_size
  go_wp2;go_ret2;exact ⟨rfl,B⟩
def inB (n lo hi:Int):Bool:=decide (lo<=n/\n<=hi)
def Ie (c:Cf):Bool:=inB c.wd 1 128&&(inB c.di 0 (min c.wd 8)&&(inB c.lv 0 128&&(inB c.st 1 6&&decide (wrap64 (c.wd-c.di)<=wrap64 (c.lv*c.st)))))
def Ov (c:Cf):Bool:=Ie c&&(inB c.hs 1 16&&(inB c.le 1 65536&&(inB c.bt (wrap64 (c.le*max c.lv 1)) 1073741824&&(inB c.bk 1 1000&&(inB c.rt 0 300&&inB c.hp 0 60)))))
theorem Zxk (c:Cf):Ov c=okCf c:=by
 obtain ⟨wd,x,l,st,u,bt,le,bk,rt,w⟩:=c;have r:∀a b:Int,0<=a->a<=128->1<=b->b<=6->0<=a*b/\a*b<=768:=λa b k h e d=>by refine ⟨Int.mul_nonneg k Qa,?_⟩;have:a*b<=128*6:=Int.mul_le_mul h d Qa Qa;omega
 have q:∀a b:Int,1<=a->a<=65536->1<=b->b<=128->0<=a*b/\a*b<=8388608:=λa b k h e d=>by refine ⟨Int.mul_nonneg Qa Qa,?_⟩;have:a*b<=65536*128:=Int.mul_le_mul h d Qa Qa;omega
 rw [Bool.eq_iff_iff];unfold Ov Ie okCf inB;simp only [Qq,decide_eq_true_eq];constructor
 ·rintro ⟨⟨k,h,e,d,n⟩,p,f,m,o,j,i⟩;have t:=r l st e.1 e.2 d.1 d.2;have s:=q le (max l 1) f.1 f.2 Qa Qa;rw [IntWalk.wrap64_in _ Qa,IntWalk.wrap64_in _ Qa] at n;rw [IntWalk.wrap64_in _ Qa] at m;exact ⟨k,⟨h.1,Qa,Qa⟩,e,d,p,f,m,o,j,i,n⟩
 ·rintro ⟨k,h,e,d,p,f,m,o,j,i,n⟩;have t:=r l st e.1 e.2 d.1 d.2;have s:=q le (max l 1) f.1 f.2 Qa Qa;rw [IntWalk.wrap64_in _ Qa,IntWalk.wrap64_in _ Qa,IntWalk.wrap64_in _ Qa];exact ⟨⟨k,⟨h.1,Qa⟩,e,d,n⟩,p,f,m,o,j,i⟩
theorem Zmh (c:Cf):Aj prog 24 #[cfgA c] (.bool (Ie c)):=by
 intro w;obtain ⟨wd,C,B,st,O,bt,le,bk,rt,Q⟩:=c;unfold cfgA Ie inB;simp only;have N:=Dy wd 1 128;have L:=Dy C 0 (min wd 8);have K:=Dy B 0 128;have J:=Dy st 1 6;obtain ⟨b1,X⟩:=Q' (decide (1<=wd/\wd<=128));obtain ⟨b2,U⟩:=Q' (decide (0<=C/\C<=min wd 8));obtain ⟨Z,S⟩:=Q' (decide (0<=B/\B<=128));obtain ⟨Y,R⟩:=Q' (decide (1<=st/\st<=6));rw [<-X] at N ⊢;rw [<-U] at L ⊢;rw [<-S] at K ⊢;rw [<-R] at J ⊢;have H1:=hid N;have H2:=hid L;have H3:=hid K;have H4:=hid J;clear N L K J X U S R;obtain ⟨l,d⟩:∃W:World,W=w.alloc (.cells #[.int .i64 wd,.int .i64 C,.int .i64 B,.int .i64 st,.int .i64 O,.int .i64 bt,.int .i64 le,.int .i64 bk,.int .i64 rt,.int .i64 Q] 23):=⟨_,rfl⟩;have k:Below w.heap.size w l:=by rw [d];go_grown
 have a:w.heap.size<l.heap.size:=by rw [d];simp
 have A:l.cell? ⟨w.heap.size,0,none⟩=some (.int .i64 wd):=by rw [d];simp [go_sem]
 have k1:l.cell? ⟨w.heap.size,1,none⟩=some (.int .i64 C):=by rw [d];simp [go_sem]
 have z:l.cell? ⟨w.heap.size,2,none⟩=some (.int .i64 B):=by rw [d];simp [go_sem]
 have y:l.cell? ⟨w.heap.size,3,none⟩=some (.int .i64 st):=by rw [d];simp [go_sem]
 have x:l.cell? ⟨w.heap.size,4,none⟩=some (.int .i64 O):=by rw [d];simp [go_sem]
 have u:l.cell? ⟨w.heap.size,5,none⟩=some (.int .i64 bt):=by rw [d];simp [go_sem]
 have t:l.cell? ⟨w.heap.size,6,none⟩=some (.int .i64 le):=by rw [d];simp [go_sem]
 have s:l.cell? ⟨w.heap.size,7,none⟩=some (.int .i64 bk):=by rw [d];simp [go_sem]
 have r:l.cell? ⟨w.heap.size,8,none⟩=some (.int .i64 rt):=by rw [d];simp [go_sem]
 have q:l.cell? ⟨w.heap.size,9,none⟩=some (.int .i64 Q):=by rw [d];simp [go_sem]
 go_enter func24,ntmps24;go_wp2_with fail;rw [<-d];clear d;refine (H1.o _).mono ?_;rintro e w1 ⟨rfl,p⟩;obtain ⟨j,I⟩:=Ac p;have A:=(j _ _ a).trans A;have k1:=(j _ _ a).trans k1;have z:=(j _ _ a).trans z;have y:=(j _ _ a).trans y;have x:=(j _ _ a).trans x;have u:=(j _ _ a).trans u;have t:=(j _ _ a).trans t;have s:=(j _ _ a).trans s;have r:=(j _ _ a).trans r;have q:=(j _ _ a).trans q;have k:=k.trans (p.mono k.size);have a:=Qm a p.size;clear j I p;cases b1 with
 | false=>go_wp2;go_ret;exact ⟨rfl,k⟩
 | true=>
  go_wp2_with fail;refine (H2.o _).mono ?_;rintro e w2 ⟨rfl,o⟩;obtain ⟨i,F⟩:=Ac o;have A:=(i _ _ a).trans A;have k1:=(i _ _ a).trans k1;have z:=(i _ _ a).trans z;have y:=(i _ _ a).trans y;have x:=(i _ _ a).trans x;have u:=(i _ _ a).trans u;have t:=(i _ _ a).trans t;have s:=(i _ _ a).trans s;have r:=(i _ _ a).trans r;have q:=(i _ _ a).trans q;have k:=k.trans (o.mono k.size);have a:=Qm a o.size;clear i F o;cases b2 with
  | false=>go_wp2;go_ret;exact ⟨rfl,k⟩
  | true=>
   skip;go_wp2_with fail;refine (H3.o _).mono ?_;rintro e w3 ⟨rfl,n⟩;obtain ⟨h,E⟩:=Ac n;have A:=(h _ _ a).trans A;have k1:=(h _ _ a).trans k1;have z:=(h _ _ a).trans z;have y:=(h _ _ a).trans y;have x:=(h _ _ a).trans x;have u:=(h _ _ a).trans u;have t:=(h _ _ a).trans t;have s:=(h _ _ a).trans s;have r:=(h _ _ a).trans r;have q:=(h _ _ a).trans q;have k:=k.trans (n.mono k.size);have a:=Qm a n.size;clear h E n;cases Z with
   | false=>go_wp2;go_ret;exact ⟨rfl,k⟩
   | true=>
    skip;go_wp2_with fail;refine (H4.o _).mono ?_;rintro e w4 ⟨rfl,m⟩;obtain ⟨f,D⟩:=Ac m;have A:=(f _ _ a).trans A;have k1:=(f _ _ a).trans k1;have z:=(f _ _ a).trans z;have y:=(f _ _ a).trans y;have x:=(f _ _ a).trans x;have u:=(f _ _ a).trans u;have t:=(f _ _ a).trans t;have s:=(f _ _ a).trans s;have r:=(f _ _ a).trans r;have q:=(f _ _ a).trans q;have k:=k.trans (m.mono k.size);have a:=Qm a m.size;clear f D m;cases Y with
    | false=>go_wp2;go_ret;exact ⟨rfl,k⟩
    | true=>skip;go_wp2;go_ret;exact ⟨Au Qf,k⟩
theorem Ow (c:Cf) (w:World):Calls prog 14 #[cfgA c] w λe w'=>e = .returned (.bool (okCf c))/\Below w.heap.size w w':=by
 rw [<-Zxk];have K:=Zmh c;obtain ⟨wd,di,J,st,F,bt,le,bk,rt,I⟩:=c;unfold Ov;unfold cfgA at K ⊢;simp only at K ⊢;unfold inB;have h1:=Dy F 1 16;have h2:=Dy le 1 65536;have h3:=Dy bt (wrap64 (le*max J 1)) 1073741824;have Z:=Dy bk 1 1000;have Y:=Dy rt 0 300;have X:=Dy I 0 60;obtain ⟨b0,e0⟩:=Q' (Ie ⟨wd,di,J,st,F,bt,le,bk,rt,I⟩);obtain ⟨b1,e1⟩:=Q' (decide (1<=F/\F<=16));obtain ⟨b2,e2⟩:=Q' (decide (1<=le/\le<=65536));obtain ⟨b3,e3⟩:=Q' (decide (wrap64 (le*max J 1)<=bt/\bt<=1073741824));obtain ⟨b4,e4⟩:=Q' (decide (1<=bk/\bk<=1000));obtain ⟨b5,e5⟩:=Q' (decide (0<=rt/\rt<=300));obtain ⟨b6,e6⟩:=Q' (decide (0<=I/\I<=60));rw [<-e0] at K ⊢;rw [<-e1] at h1 ⊢;rw [<-e2] at h2 ⊢;rw [<-e3] at h3 ⊢;rw [<-e4] at Z ⊢;rw [<-e5] at Y ⊢;rw [<-e6] at X ⊢;have H0:=hid K;have H1:=hid h1;have H2:=hid h2;have H3:=hid h3;have H4:=hid Z;have H5:=hid Y;have H6:=hid X;clear K h1 h2 h3 Z Y X e0 e1 e2 e3 e4 e5 e6;obtain ⟨y,d⟩:∃W:World,W=w.alloc (.cells #[.int .i64 wd,.int .i64 di,.int .i64 J,.int .i64 st,.int .i64 F,.int .i64 bt,.int .i64 le,.int .i64 bk,.int .i64 rt,.int .i64 I] 23):=⟨_,rfl⟩;have f:Below w.heap.size w y:=by rw [d];go_grown
 have a:w.heap.size<y.heap.size:=by rw [d];simp
 have x:y.cell? ⟨w.heap.size,0,none⟩=some (.int .i64 wd):=by rw [d];simp [go_sem]
 have k1:y.cell? ⟨w.heap.size,1,none⟩=some (.int .i64 di):=by rw [d];simp [go_sem]
 have u:y.cell? ⟨w.heap.size,2,none⟩=some (.int .i64 J):=by rw [d];simp [go_sem]
 have t:y.cell? ⟨w.heap.size,3,none⟩=some (.int .i64 st):=by rw [d];simp [go_sem]
 have s:y.cell? ⟨w.heap.size,4,none⟩=some (.int .i64 F):=by rw [d];simp [go_sem]
 have r:y.cell? ⟨w.heap.size,5,none⟩=some (.int .i64 bt):=by rw [d];simp [go_sem]
 have q:y.cell? ⟨w.heap.size,6,none⟩=some (.int .i64 le):=by rw [d];simp [go_sem]
 have p:y.cell? ⟨w.heap.size,7,none⟩=some (.int .i64 bk):=by rw [d];simp [go_sem]
 have o:y.cell? ⟨w.heap.size,8,none⟩=some (.int .i64 rt):=by rw [d];simp [go_sem]
 have n:y.cell? ⟨w.heap.size,9,none⟩=some (.int .i64 I):=by rw [d];simp [go_sem]
 go_enter func14,ntmps14;go_wp2_with fail;rw [<-d];clear d;refine (H0.o _).mono ?_;rintro e w9 ⟨rfl,z⟩;obtain ⟨h,L⟩:=Ac z;have x:=(h _ _ a).trans x;have k1:=(h _ _ a).trans k1;have u:=(h _ _ a).trans u;have t:=(h _ _ a).trans t;have s:=(h _ _ a).trans s;have r:=(h _ _ a).trans r;have q:=(h _ _ a).trans q;have p:=(h _ _ a).trans p;have o:=(h _ _ a).trans o;have n:=(h _ _ a).trans n;have f:=f.trans (z.mono f.size);have a:=Qm a z.size;clear h L z;cases b0 with
 | false=>go_wp2;go_ret;exact ⟨rfl,f⟩
 | true=>
  go_wp2_with fail;refine (H1.o _).mono ?_;rintro e w1 ⟨rfl,E⟩;obtain ⟨m,S⟩:=Ac E;have x:=(m _ _ a).trans x;have k1:=(m _ _ a).trans k1;have u:=(m _ _ a).trans u;have t:=(m _ _ a).trans t;have s:=(m _ _ a).trans s;have r:=(m _ _ a).trans r;have q:=(m _ _ a).trans q;have p:=(m _ _ a).trans p;have o:=(m _ _ a).trans o;have n:=(m _ _ a).trans n;have f:=f.trans (E.mono f.size);have a:=Qm a E.size;clear m S E;cases b1 with
  | false=>go_wp2;go_ret;exact ⟨rfl,f⟩
  | true=>
   skip;go_wp2_with fail;refine (H2.o _).mono ?_;rintro e w2 ⟨rfl,D⟩;obtain ⟨l,R⟩:=Ac D;have x:=(l _ _ a).trans x;have k1:=(l _ _ a).trans k1;have u:=(l _ _ a).trans u;have t:=(l _ _ a).trans t;have s:=(l _ _ a).trans s;have r:=(l _ _ a).trans r;have q:=(l _ _ a).trans q;have p:=(l _ _ a).trans p;have o:=(l _ _ a).trans o;have n:=(l _ _ a).trans n;have f:=f.trans (D.mono f.size);have a:=Qm a D.size;clear l R D;cases b2 with
   | false=>go_wp2;go_ret;exact ⟨rfl,f⟩
   | true=>
    skip;go_wp2_with fail;refine (H3.o _).mono ?_;rintro e w3 ⟨rfl,C⟩;obtain ⟨k,Q⟩:=Ac C;have x:=(k _ _ a).trans x;have k1:=(k _ _ a).trans k1;have u:=(k _ _ a).trans u;have t:=(k _ _ a).trans t;have s:=(k _ _ a).trans s;have r:=(k _ _ a).trans r;have q:=(k _ _ a).trans q;have p:=(k _ _ a).trans p;have o:=(k _ _ a).trans o;have n:=(k _ _ a).trans n;have f:=f.trans (C.mono f.size);have a:=Qm a C.size;clear k Q C;cases b3 with
    | false=>go_wp2;go_ret;exact ⟨rfl,f⟩
    | true=>
     skip;go_wp2_with fail;refine (H4.o _).mono ?_;rintro e w4 ⟨rfl,B⟩;obtain ⟨j,O⟩:=Ac B;have x:=(j _ _ a).trans x;have k1:=(j _ _ a).trans k1;have u:=(j _ _ a).trans u;have t:=(j _ _ a).trans t;have s:=(j _ _ a).trans s;have r:=(j _ _ a).trans r;have q:=(j _ _ a).trans q;have p:=(j _ _ a).trans p;have o:=(j _ _ a).trans o;have n:=(j _ _ a).trans n;have f:=f.trans (B.mono f.size);have a:=Qm a B.size;clear j O B;cases b4 with
     | false=>go_wp2;go_ret;exact ⟨rfl,f⟩
     | true=>
      skip;go_wp2_with fail;refine (H5.o _).mono ?_;rintro e w5 ⟨rfl,A⟩;obtain ⟨i,N⟩:=Ac A;have x:=(i _ _ a).trans x;have k1:=(i _ _ a).trans k1;have u:=(i _ _ a).trans u;have t:=(i _ _ a).trans t;have s:=(i _ _ a).trans s;have r:=(i _ _ a).trans r;have q:=(i _ _ a).trans q;have p:=(i _ _ a).trans p;have o:=(i _ _ a).trans o;have n:=(i _ _ a).trans n;have f:=f.trans (A.mono f.size);have a:=Qm a A.size;clear i N A;cases b5 with
      | false=>go_wp2;go_ret;exact ⟨rfl,f⟩
      | true=>skip;go_wp2_with fail;refine (H6.o _).mono ?_;rintro e w6 ⟨rfl,U⟩;have f:=f.trans (U.mono f.size);go_wp2;go_ret;exact ⟨rfl,f⟩
end Go.Proofs.YtpdphfgpdgadpaaGreat
