import Derived.Test.YtgfjmgebecmbiaaGreatL21c
import Derived.Test.YtgfjmgebecmbiaaGreatW21a
import Derived.Test.YtgfjmgebecmbiaaGreatW18a
import Derived.Test.YtgfjmgebecmbiaaGreatW20
import Derived.Test.YtgfjmgebecmbiaaGreatW19
set_option linter.unusedSimpArgs false
set_option linter.unusedVariables false
set_option maxHeartbeats 4000000
namespace Go.Proofs.YtgfjmgebecmbiaaGreat
open Lib(hid)
open Go Go.RowKit Go.Sort M
theorem LevB.mono {w:World} {K K':Nat->Prop} {t:Nat} {V:Lv} {lo hi f u:Nat} (H:LevB w K t V lo hi f u) (h:∀j,K j->K' j):LevB w K' t V lo hi f u:=
 ⟨H.lt,H.c0,H.c1,H.c2,H.fil,H.tab.mono fun _ _ hj=>⟨h _ hj.1,hj.2⟩,h _ H.kt,fun j hj=>h _ (H.kf j hj),H.tf,H.pos⟩
theorem LevP.mono {w:World} {K K':Nat->Prop} {t:Nat} {V:Lv} (H:LevP w K t V) (h:∀j,K j->K' j):LevP w K' t V:=by
 obtain ⟨lo,hi,f,u,H⟩:=H
 exact ⟨lo,hi,f,u,H.mono h⟩
theorem LevP.old {w:World} {K:Nat->Prop} {t:Nat} {V:Lv} (H:LevP w K t V):LevP w (fun j=>K j/\j<w.heap.size) t V:=by
 obtain ⟨lo,hi,f,u,H⟩:=H
 exact ⟨lo,hi,f,u,H.old⟩
theorem DirP.mono {w:World} {K K':Nat->Prop} {t m:Nat} {L:List Rt} (H:DirP w K t m L) (h:∀j,K j->K' j):DirP w K' t m L:=by
 obtain ⟨g,k1,k⟩:=H.row
 exact ⟨h _ H.kt,H.lt,H.le,H.bits,H.f,g,h _ k1,k⟩
theorem DirP.old {w:World} {K:Nat->Prop} {t m:Nat} {L:List Rt} (H:DirP w K t m L):DirP w (fun j=>K j/\j<w.heap.size) t m L:=by
 obtain ⟨g,k1,k2,k3⟩:=H.row
 exact ⟨⟨H.kt,H.lt⟩,H.lt,H.le,H.bits,H.f,g,⟨k1,k2⟩,k2,k3⟩
def tcs:List (Nat×Nat)->List Value
 | []=>[]
 | (q,n)::X => .pointer (some ⟨q,0,none⟩) :: .int .i64 (n:Int)::tcs X
theorem Zky:∀X Y:List (Nat×Nat),tcs (X++Y)=tcs X++tcs Y
 | [],_=>rfl
 | (q,n)::X,Y=>by rw [List.cons_append,tcs,tcs,Zky X Y];rfl
theorem Z4g:∀(X:List (Nat×Nat)) (i:Nat) (h:i<X.length),(tcs X)[i*2]? = some (.pointer (some ⟨X[i].1,0,none⟩))/\(tcs X)[i*2+1]? = some (.int .i64 (X[i].2:Int))
 | (q,n)::X,0,_=>⟨rfl,rfl⟩
 | (q,n)::X,i+1,h=>by
  have:=Z4g X i (by simpa using h)
  rw [show (i+1)*2=i*2+2 by omega]
  exact this
theorem Row.tier {w:World} {p:Option Addr} {X:List (Nat×Nat)} (h:Row w p (tcs X)) {i:Nat} (hi:i<X.length) :
 ∃g o,p=some ⟨g,o,none⟩/\g<w.heap.size/\w.cell? ⟨g,o+i*2,none⟩=some (.pointer (some ⟨X[i].1,0,none⟩))/\w.cell? ⟨g,o+i*2+1,none⟩=some (.int .i64 (X[i].2:Int)):=by
 have ht:=Z4g X i hi
 rcases h with h | ⟨g,o,rfl,hg,hc⟩
 ·rw [h] at ht
  simp at ht
 ·exact ⟨g,o,rfl,hg,hc _ _ ht.1,hc _ _ ht.2⟩
theorem Row.touched22 {S:Nat->Prop} {w w':World} {p:Option Addr} {xs:List Value} (h:Row w p xs) (ht:Touch S w w') (hn:∀a,p=some a->¬S a.block):Row w' p xs:=by
 rcases h with h | ⟨g,o,rfl,hg,hc⟩
 ·exact .inl h
 ·exact .inr ⟨g,o,rfl,Nat.lt_of_lt_of_le hg ht.size,fun j u hj=>ht.cell (hc j u hj) (hn ⟨g,o,none⟩ rfl)⟩
structure EngB (w:World) (K:Nat->Prop) (t:Nat) (E:Eg) (col:Nat->Nat) (v:Value) (d:Nat) (L0:List Rt) (X:List (Nat×Nat)) (p:Option Addr) (c:Nat):Prop where
 lt:t<w.heap.size
 c0:w.cell? ⟨t,0,none⟩=some (.int .i64 E.wd)
 c1:w.cell? ⟨t,1,none⟩=some (.int .i64 E.di)
 c2:w.cell? ⟨t,2,none⟩=some v
 c3:w.cell? ⟨t,3,none⟩=some (.pointer (some ⟨d,0,none⟩))
 c4:w.cell? ⟨t,4,none⟩=some (.slice p E.L.length c)
 f:∀j,w.frozen? ⟨t,j,none⟩=false
 own:w.ownsRow 0 41 4 v E.R.length (rcs E.R)
 ts:Row w p (tcs X)
 xl:X.length=E.L.length
 xc:∀i (h:i<X.length) (h2:i<E.L.length),X[i].2=E.L[i].C.length
 cap:E.L.length<=c
 lev:∀i (h:i<X.length) (h2:i<E.L.length),LevP w (fun j=>col j=i+4/\K j) X[i].1 E.L[i]
 dir:DirP w (fun j=>col j=3/\K j) d E.di.toNat L0
 kt:col t=0/\K t
 kv:∀j,v.ownBlock=some j->col j=1/\K j
 kp:∀a,p=some a->(col a.block=2/\K a.block)/\a.block<w.heap.size
def DirE (E:Eg) (L0:List Rt):Prop:=∀ah al,W64 ah->W64 al->dirK L0 ah al E.di.toNat=E.dir22 ah al
def EngP (w:World) (K:Nat->Prop) (t:Nat) (E:Eg):Prop:=∃col v d L0 X p c,EngB w K t E col v d L0 X p c/\DirE E L0
section
variable {w w':World} {K S:Nat->Prop} {t:Nat} {E:Eg} {col:Nat->Nat} {v:Value} {d:Nat} {L0:List Rt} {X:List (Nat×Nat)} {p:Option Addr} {c:Nat}
theorem EngB.touched (H:EngB w K t E col v d L0 X p c) (ht:Touch S w w') (hn:∀j,K j->¬S j):EngB w' K t E col v d L0 X p c:=
 ⟨Nat.lt_of_lt_of_le H.lt ht.size,ht.cell H.c0 (hn _ H.kt.2),ht.cell H.c1 (hn _ H.kt.2),ht.cell H.c2 (hn _ H.kt.2),ht.cell H.c3 (hn _ H.kt.2),ht.cell H.c4 (hn _ H.kt.2),
  fun j=>(World.frozen?_of_block (a:=⟨t,j,none⟩) (ht.block t H.lt (hn _ H.kt.2))).trans (H.f j),Touch.own H.own ht (fun j hj=>hn _ (H.kv j hj).2),H.ts.touched22 ht (fun a ha=>hn _ (H.kp a ha).1.2),H.xl,H.xc,H.cap,
  fun i h h2=>(H.lev i h h2).touched ht (fun j hj=>hn _ hj.2),H.dir.touched ht (fun j hj=>hn _ hj.2),H.kt,H.kv,fun a ha=>⟨(H.kp a ha).1,Nat.lt_of_lt_of_le (H.kp a ha).2 ht.size⟩⟩
theorem EngB.below (H:EngB w K t E col v d L0 X p c) (hb:Below w.heap.size w w'):EngB w' K t E col v d L0 X p c:=H.touched (S:=fun _=>False) (Touch.quiet hb) (fun _ _ x=>x)
theorem EngB.vlt (H:EngB w K t E col v d L0 X p c):∀j,v.ownBlock=some j->j<w.heap.size:=fun j hj=>(H.own.lt j hj).2
theorem EngB.old (H:EngB w K t E col v d L0 X p c):EngB w (fun j=>K j/\j<w.heap.size) t E col v d L0 X p c:=
 ⟨H.lt,H.c0,H.c1,H.c2,H.c3,H.c4,H.f,H.own,H.ts,H.xl,H.xc,H.cap,fun i h h2=>(H.lev i h h2).old.mono fun j hj=>⟨hj.1.1,hj.1.2,hj.2⟩,H.dir.old.mono fun j hj=>⟨hj.1.1,hj.1.2,hj.2⟩,⟨H.kt.1,H.kt.2,H.lt⟩,
  fun j hj=>⟨(H.kv j hj).1,(H.kv j hj).2,H.vlt j hj⟩,fun a ha=>⟨⟨(H.kp a ha).1.1,(H.kp a ha).1.2,(H.kp a ha).2⟩,(H.kp a ha).2⟩⟩
def colN (w:World) (col:Nat->Nat) (i:Nat) (j:Nat):Nat:=if w.heap.size<=j then i else col j
theorem Zbe {w:World} {col:Nat->Nat} {i j:Nat} (h:j<w.heap.size):colN w col i j=col j:=if_neg (by omega)
theorem Zhi {w:World} {col:Nat->Nat} {i j:Nat} (h:w.heap.size<=j):colN w col i j=i:=if_pos h
theorem EngB.lev_step {K1:Nat->Prop} {V':Lv} {i:Nat} (H:EngB w K t E col v d L0 X p c) (h:i<X.length) (hV:LevP w' K1 X[i].1 V') (hK:∀j,K1 j->(col j=i+4/\K j)\/In w.heap.size w'.heap.size j)
 (ht:Touch (fun j=>col j=i+4/\K j) w w') (hc:∀h2:i<E.L.length,V'.C.length=E.L[i].C.length) :
 EngB w' (fun j=>K j\/In w.heap.size w'.heap.size j) t { E with L:=E.L.set i V' } (colN w col (i+4)) v d L0 X p c:=by
 have hkt:=H.kt
 have hl2:(E.L.set i V').length=E.L.length:=List.length_set
 have hct:∀k,¬(col t=k+4/\K t):=fun k x=>by rw [hkt.1] at x;omega
 have hvl:=H.vlt
 refine ⟨Nat.lt_of_lt_of_le H.lt ht.size,ht.cell H.c0 (hct i),ht.cell H.c1 (hct i),ht.cell H.c2 (hct i),ht.cell H.c3 (hct i),?_,fun j=>(World.frozen?_of_block (a:=⟨t,j,none⟩) (ht.block t H.lt (hct i))).trans (H.f j),
  Touch.own H.own ht (fun j hj x=>by have:=(H.kv j hj).1;omega),H.ts.touched22 ht (fun a ha x=>by have:=(H.kp a ha).1.1;omega),?_,fun k hk hk2 => ?_,?_,fun k hk hk2 => ?_,?_,⟨(Zbe H.lt).trans hkt.1,.inl hkt.2⟩,fun j hj=>⟨(Zbe (hvl j hj)).trans (H.kv j hj).1,.inl (H.kv j hj).2⟩,
  fun a ha=>⟨⟨(Zbe (H.kp a ha).2).trans (H.kp a ha).1.1,.inl (H.kp a ha).1.2⟩,Nat.lt_of_lt_of_le (H.kp a ha).2 ht.size⟩⟩
 ·rw [hl2]
  exact ht.cell H.c4 (hct i)
 ·rw [hl2]
  exact H.xl
 ·have hk3:k<E.L.length:=by rw [<-hl2];exact hk2
  by_cases e:k=i
  ·subst e
   simp only [List.getElem_set_self]
   rw [hc hk3]
   exact H.xc k hk hk3
  ·simp only [List.getElem_set_ne (Ne.symm e)]
   exact H.xc k hk hk3
 ·rw [hl2]
  exact H.cap
 ·have hk3:k<E.L.length:=by rw [<-hl2];exact hk2
  by_cases e:k=i
  ·subst e
   simp only [List.getElem_set_self]
   have:=hV.old
   refine this.mono fun j hj => ?_
   rcases hK j hj.1 with ⟨h1,h2⟩ | h1
   ·by_cases hj2:j<w.heap.size
    ·exact ⟨(Zbe hj2).trans h1,.inl h2⟩
    ·exact ⟨Zhi (by omega),.inl h2⟩
   ·exact ⟨Zhi h1.1,.inr h1⟩
  ·simp only [List.getElem_set_ne (Ne.symm e)]
   refine ((H.lev k hk hk3).old.touched ht (fun j hj x=>by have:=hj.1.1;have:=x.1;omega)).mono fun j hj=>⟨(Zbe hj.2).trans hj.1.1,.inl hj.1.2⟩
 ·exact (H.dir.old.touched ht (fun j hj x=>by have:=hj.1.1;have:=x.1;omega)).mono fun j hj=>⟨(Zbe hj.2).trans hj.1.1,.inl hj.1.2⟩
theorem EngB.dir_step {K1:Nat->Prop} {L1:List Rt} (H:EngB w K t E col v d L0 X p c) (hD:DirP w' K1 d E.di.toNat L1) (hK:∀j,K1 j->(col j=3/\K j)\/In w.heap.size w'.heap.size j)
 (ht:Touch (fun j=>col j=3/\K j) w w') :
 EngB w' (fun j=>K j\/In w.heap.size w'.heap.size j) t E (colN w col 3) v d L1 X p c:=by
 have hkt:=H.kt
 have hct:¬(col t=3/\K t):=fun x=>by rw [hkt.1] at x;omega
 have hvl:=H.vlt
 refine ⟨Nat.lt_of_lt_of_le H.lt ht.size,ht.cell H.c0 hct,ht.cell H.c1 hct,ht.cell H.c2 hct,ht.cell H.c3 hct,ht.cell H.c4 hct,fun j=>(World.frozen?_of_block (a:=⟨t,j,none⟩) (ht.block t H.lt hct)).trans (H.f j),
  Touch.own H.own ht (fun j hj x=>by have:=(H.kv j hj).1;omega),H.ts.touched22 ht (fun a ha x=>by have:=(H.kp a ha).1.1;omega),H.xl,H.xc,H.cap,fun k hk hk2 => ?_,?_,⟨(Zbe H.lt).trans hkt.1,.inl hkt.2⟩,fun j hj=>⟨(Zbe (hvl j hj)).trans (H.kv j hj).1,.inl (H.kv j hj).2⟩,
  fun a ha=>⟨⟨(Zbe (H.kp a ha).2).trans (H.kp a ha).1.1,.inl (H.kp a ha).1.2⟩,Nat.lt_of_lt_of_le (H.kp a ha).2 ht.size⟩⟩
 ·exact ((H.lev k hk hk2).old.touched ht (fun j hj x=>by have:=hj.1.1;have:=x.1;omega)).mono fun j hj=>⟨(Zbe hj.2).trans hj.1.1,.inl hj.1.2⟩
 ·refine hD.old.mono fun j hj => ?_
  rcases hK j hj.1 with ⟨h1,h2⟩ | h1
  ·by_cases hj2:j<w.heap.size
   ·exact ⟨(Zbe hj2).trans h1,.inl h2⟩
   ·exact ⟨Zhi (by omega),.inl h2⟩
  ·exact ⟨Zhi h1.1,.inr h1⟩
theorem EngB.rts_step {v':Value} {R':List Rt} (H:EngB w K t E col v d L0 X p c) (ht:Touch (fun j=>j=t\/v.ownBlock=some j) w w')
 (c0:w'.cell? ⟨t,0,none⟩=w.cell? ⟨t,0,none⟩) (c1:w'.cell? ⟨t,1,none⟩=w.cell? ⟨t,1,none⟩) (c2:w'.cell? ⟨t,2,none⟩=some v') (c3:w'.cell? ⟨t,3,none⟩=w.cell? ⟨t,3,none⟩) (c4:w'.cell? ⟨t,4,none⟩=w.cell? ⟨t,4,none⟩)
 (hf:∀j,w'.frozen? ⟨t,j,none⟩=false) (ho:w'.ownsRow 0 41 4 v' R'.length (rcs R')) (hb:v'.ownBlock=v.ownBlock\/∃k,v'.ownBlock=some k/\w.heap.size<=k) :
 EngB w' (fun j=>K j\/In w.heap.size w'.heap.size j) t { E with R:=R' } (colN w col 1) v' d L0 X p c:=by
 have hkt:=H.kt
 have hvl:=H.vlt
 have hn:∀j,col j=2\/col j=3\/4<=col j->¬(j=t\/v.ownBlock=some j):=fun j hj x=>by
  rcases x with rfl | x
  ·omega
  ·have:=(H.kv j x).1
   omega
 refine ⟨Nat.lt_of_lt_of_le H.lt ht.size,c0.trans H.c0,c1.trans H.c1,c2,c3.trans H.c3,c4.trans H.c4,hf,ho,H.ts.touched22 ht (fun a ha=>hn _ (.inl (H.kp a ha).1.1)),H.xl,H.xc,H.cap,fun k hk hk2 => ?_,?_,⟨(Zbe H.lt).trans hkt.1,.inl hkt.2⟩,fun j hj => ?_,
  fun a ha=>⟨⟨(Zbe (H.kp a ha).2).trans (H.kp a ha).1.1,.inl (H.kp a ha).1.2⟩,Nat.lt_of_lt_of_le (H.kp a ha).2 ht.size⟩⟩
 ·exact ((H.lev k hk hk2).old.touched ht (fun j hj=>hn _ (.inr (.inr (by have:=hj.1.1;omega))))).mono fun j hj=>⟨(Zbe hj.2).trans hj.1.1,.inl hj.1.2⟩
 ·exact (H.dir.old.touched ht (fun j hj=>hn _ (.inr (.inl hj.1.1)))).mono fun j hj=>⟨(Zbe hj.2).trans hj.1.1,.inl hj.1.2⟩
 ·have hj2:=(ho.lt j hj).2
  rcases hb with e | ⟨k,e,hk⟩
  ·rw [e] at hj
   exact ⟨(Zbe (hvl j hj)).trans (H.kv j hj).1,.inl (H.kv j hj).2⟩
  ·rw [e] at hj
   injection hj with hj
   subst hj
   exact ⟨Zhi hk,.inr ⟨hk,hj2⟩⟩
end
theorem EngP.touched {w w':World} {K S:Nat->Prop} {t:Nat} {E:Eg} (H:EngP w K t E) (ht:Touch S w w') (hn:∀j,K j->¬S j):EngP w' K t E:=by
 obtain ⟨col,v,d,L0,X,p,c,H,hD⟩:=H
 exact ⟨col,v,d,L0,X,p,c,H.touched ht hn,hD⟩
theorem Za5 (n lo hi:Int):Zak Tryz.prog 48 #[.int .i64 n,.int .i64 lo,.int .i64 hi] (.bool (decide (lo<=n/\n<=hi))):=by
 intro w
 by_cases h1:lo<=n
 ·by_cases h2:n<=hi
  ·go_enter Tryz.func48,Tryz.ntmps48
   go_wp2
   go_ret
   exact ⟨Zai (decide_eq_true (by omega)).symm,by go_grown⟩
  ·go_enter Tryz.func48,Tryz.ntmps48
   go_wp2
   go_ret
   exact ⟨Zai (decide_eq_false (fun h=>by omega)).symm,by go_grown⟩
 ·go_enter Tryz.func48,Tryz.ntmps48
  go_wp2
  go_ret
  exact ⟨Zai (by simp;omega),by go_grown⟩
set_option maxRecDepth 100000 in
theorem Zcp (t d:Nat) (w:World) (hl:t<w.heap.size) (c3:w.cell? ⟨t,3,none⟩=some (.pointer (some ⟨d,0,none⟩))) :
 Calls Tryz.prog 28 #[.pointer (some ⟨t,0,none⟩)] w fun e w'=>e = .returned (.bool false)/\Below w.heap.size w w':=by
 go_enter Tryz.func28,Tryz.ntmps28
 go_wp2
 go_ret
 exact ⟨rfl,by go_grown⟩
set_option maxRecDepth 100000 in
theorem Zpe (c:Cf) (q:Option Addr) (d:Nat) (L:List Int) (w:World) (hL:IRow w q L) (hd:L.length<=1000000) (hlw:∀x∈L,x<=9223372036854775807) :
 Calls Tryz.prog 23 #[cfgA c,.slice q L.length d] w fun e w'=>e = .returned (.bool (Zc7 c.wd c.di c.lv c.st L))/\Below w.heap.size w w':=by
 have hr:=fun W (h:Below w.heap.size w W)=>Zux q d L c.wd c.di c.lv c.st W (hL.below h) hd hlw
 have HR:=hid hr
 clear hr hL
 obtain ⟨wd,di,lv,st,hs,bt,le,bk,rt,hp⟩:=c
 unfold cfgA
 simp only at HR ⊢
 go_enter Tryz.func23,Tryz.ntmps23
 go_wp2_with fail
 refine (HR.out _ (by go_grown)).mono ?_
 rintro e w1 ⟨rfl,hb1⟩
 have hw1:Below w.heap.size w w1:=Below.trans (by go_grown) (hb1.mono (by simp))
 go_wp2
 go_ret
 exact ⟨rfl,hw1⟩
theorem Zzt (a b:Nat) (n:Int) (c d:Nat) (m:Int) (w:World):(binOp .eql 39 (.agg #[.int .u64 a,.int .u64 b,.int .i64 n]) (.agg #[.int .u64 c,.int .u64 d,.int .i64 m])).run Tryz.prog w =
 .ok (.bool (decide (a=c/\b=d/\n=m))) w:=by
 have e1:decide (a=c/\b=d/\n=m)=(decide ((a:Int)=c)&&(decide ((b:Int)=d)&&decide (n=m))):=by
  rw [<-Bool.decide_and,<-Bool.decide_and,decide_eq_decide];omega
 rw [e1]
 by_cases h1:(a:Int)=c<;>by_cases h2:(b:Int)=d<;>by_cases h3:n=m<;>simp [go_sem,h1,h2,h3]
theorem Zqd {R:List Rt} (hs:Sorted R) (k:Ky):k∈Zad R↔∃h:bh R k<R.length,R[bh R k].k=k:=by
 constructor
 ·intro h
  cases e:Zaw R k with
  | none=>exact absurd h (Zfl (by rw [e];rfl))
  | some i=>
   obtain ⟨rfl,h2,h3⟩:=(Zcz R k hs).1 i e
   exact ⟨h2,h3⟩
 ·rintro ⟨h,e⟩
  rw [<-e]
  exact Zcd (List.getElem_mem h)
theorem Zll {R:List Rt} (hs:Sorted R) {k:Ky} (h:k∈Zad R):Zaw R k=some (bh R k):=by
 cases e:Zaw R k with
 | none=>exact absurd h (Zfl (by rw [e];rfl))
 | some i=>rw [((Zcz R k hs).1 i e).1]
theorem Zzr {R:List Rt} (hs:Sorted R) {k:Ky} (h:k∉Zad R):Zaw R k=none:=by
 cases e:Zaw R k with
 | none=>rfl
 | some i=>
  obtain ⟨-,h2,h3⟩:=(Zcz R k hs).1 i e
  exact absurd (by rw [<-h3];exact Zcd (List.getElem_mem h2)) h
set_option maxRecDepth 100000 in
theorem Zkt (be bp t:Nat) (p:Option Addr) (c:Nat) (R:List Rt) (u:Ky) (i:Nat) (w:World) (hR:Row w p (rcs R)) (hs:Sorted R) (hi:i<R.length)
 (l0:be<w.heap.size) (l1:bp<w.heap.size) (l2:t<w.heap.size) (e0:w.cell? ⟨be,0,none⟩=some (.pointer (some ⟨t,0,none⟩))) (c2:w.cell? ⟨t,2,none⟩=some (.slice p R.length c))
 (u0:w.cell? ⟨bp,0,none⟩=some (.int .u64 (u.h:Int))) (u1:w.cell? ⟨bp,1,none⟩=some (.int .u64 (u.l:Int))) (u2:w.cell? ⟨bp,2,none⟩=some (.int .i64 u.n)) :
 Calls Tryz.prog 55 #[.int .i64 (i:Int),.pointer (some ⟨be,0,none⟩),.pointer (some ⟨bp,0,none⟩)] w fun e w'=>e = .returned (.bool (decide (bh R u<=i)))/\Below w.heap.size w w':=by
 obtain ⟨gr,o,rfl,hgr,r0,r1,r2,-⟩:=hR.rt hi
 have hT:=Zrx R u hs i hi
 have HL:=Zfg R[i].k.h R[i].k.l R[i].k.n u.h u.l u.n
 rw [show lessB R[i].k.h R[i].k.l R[i].k.n u.h u.l u.n=Zau R[i].k u from rfl] at HL
 have HL:=hid HL
 have i1:(0:Int)<=(i:Int):=by omega
 have i2:(i:Int)<(R.length:Int):=by omega
 generalize Zau R[i].k u=ls at *
 generalize decide (bh R u<=i)=ds at *
 subst hT
 generalize R[i].k=q at *
 generalize R.length=n at *
 clear hR hs
 go_enter Tryz.func55,Tryz.ntmps55
 go_wp2_with fail
 have kg:=Zaa
 refine Zab (by kernel_rfl) (by kernel_rfl) ?_
 repeat (any_goals (first|go_big_quiet_step ((exact HL.out.at _ _ _))|quiet_step ((exact HL.out.at _ _ _))))
 refine wpQuiet_nil ?_
 clear kg
 intro w1 hb1
 obtain ⟨hc1,hf1⟩:=Zaf hb1
 have hw1:Below w.heap.size w w1:=by
  refine Below.trans ?_ (hb1.mono ?_)
  ·go_grown
  ·first|omega|go_size
 go_wp2
 go_ret
 exact ⟨rfl,hw1⟩
set_option maxRecDepth 100000 in
theorem Zh9 (t:Nat) (R:List Rt) (k:Ky) (p:Option Addr) (c:Nat) (w:World) (hR:Row w p (rcs R)) (hs:Sorted R) (hl:R.length<1048576) (hlt:t<w.heap.size) (c2:w.cell? ⟨t,2,none⟩=some (.slice p R.length c)) :
 Calls Tryz.prog 29 #[.pointer (some ⟨t,0,none⟩),kyV k] w fun e w'=>e = .returned (.tuple #[.int .i64 (bh R k:Int),.bool (decide (k∈Zad R))])/\Below w.heap.size w w':=by
 have hat0:=Zpw R k
 have hth:=Zqd hs k
 obtain ⟨w0,hw0⟩:∃W:World,W=(w.alloc (.cells #[.pointer (some ⟨t,0,none⟩)] 30)).alloc (.cells #[.int .u64 (k.h:Int),.int .u64 (k.l:Int),.int .i64 k.n] 39):=⟨_,rfl⟩
 have hb0:Below w.heap.size w w0:=by rw [hw0];go_grown
 have hz0:w0.heap.size=w.heap.size+2:=by rw [hw0];simp
 have e0:w0.cell? ⟨w.heap.size,0,none⟩=some (.pointer (some ⟨t,0,none⟩)):=by rw [hw0];simp [go_sem]
 have u0:w0.cell? ⟨w.heap.size+1,0,none⟩=some (.int .u64 (k.h:Int)):=by rw [hw0];simp [go_sem]
 have u1:w0.cell? ⟨w.heap.size+1,1,none⟩=some (.int .u64 (k.l:Int)):=by rw [hw0];simp [go_sem]
 have u2:w0.cell? ⟨w.heap.size+1,2,none⟩=some (.int .i64 k.n):=by rw [hw0];simp [go_sem]
 have hR0:=hR.below hb0
 have c20:=(hb0.cell (p:=⟨t,2,none⟩) hlt).trans c2
 have hlt0:t<w0.heap.size:=by omega
 have l0:w.heap.size<w0.heap.size:=by omega
 have l1:w.heap.size+1<w0.heap.size:=by omega
 have eg:∀args w,(callFunc 55 args).run Tryz.prog w = .ok (.enter 55 args) w:=enters_of Tryz.func55 (by kernel_rfl) rfl
 have hS:Calls Tryz.prog 54 #[.int .i64 (R.length:Int),.func (.func 55) #[] #[.pointer (some ⟨w.heap.size,0,none⟩),.pointer (some ⟨w.heap.size+1,0,none⟩)]] w0 fun e w'=>e = .returned (.int .i64 (bh R k:Int))/\Below w0.heap.size w0 w':=by
  refine Zhw _ _ _ _ _ hat0 (by omega) w0 eg fun wx i hx hi => ?_
  exact Zkt w.heap.size (w.heap.size+1) t p c R k i wx (hR0.below hx) hs hi (Nat.lt_of_lt_of_le l0 hx.size) (Nat.lt_of_lt_of_le l1 hx.size) (Nat.lt_of_lt_of_le hlt0 hx.size) ((hx.cell (p:=⟨w.heap.size,0,none⟩) l0).trans e0) ((hx.cell (p:=⟨t,2,none⟩) hlt0).trans c20)
   ((hx.cell (p:=⟨w.heap.size+1,0,none⟩) l1).trans u0) ((hx.cell (p:=⟨w.heap.size+1,1,none⟩) l1).trans u1) ((hx.cell (p:=⟨w.heap.size+1,2,none⟩) l1).trans u2)
 have HS:=hid hS
 have HR:=hid hR0
 have HB:=hid hb0
 clear hS eg hs hR hR0 hb0
 obtain ⟨kh,kl,kn⟩:=k
 unfold kyV
 simp only at u0 u1 u2 ⊢
 generalize bh R ⟨kh,kl,kn⟩=b at hth hat0 HS ⊢
 generalize hres:decide ((⟨kh,kl,kn⟩:Ky)∈Zad R)=res
 go_enter Tryz.func29,Tryz.ntmps29
 go_wp2_with fail
 rw [<-hw0]
 clear hw0
 refine HS.out.mono ?_
 rintro e w1 ⟨rfl,hb1⟩
 have hw1:Below w.heap.size w w1:=HB.out.trans (hb1.mono HB.out.size)
 have HR1:=hid (HR.out.below hb1)
 have c21:=(hb1.cell (p:=⟨t,2,none⟩) hlt0).trans c20
 have e1:=(hb1.cell (p:=⟨w.heap.size,0,none⟩) l0).trans e0
 have u0:=(hb1.cell (p:=⟨w.heap.size+1,0,none⟩) l1).trans u0
 have u1:=(hb1.cell (p:=⟨w.heap.size+1,1,none⟩) l1).trans u1
 have u2:=(hb1.cell (p:=⟨w.heap.size+1,2,none⟩) l1).trans u2
 have l0:=Nat.lt_of_lt_of_le l0 hb1.size
 have l1:=Nat.lt_of_lt_of_le l1 hb1.size
 have hlt1:=Nat.lt_of_lt_of_le hlt0 hb1.size
 clear HS HR HB hb1 c20 c2 hlt0 hlt e0 hz0
 by_cases hb:b<R.length
 ·obtain ⟨g,o,rfl,hg,x0,x1,x2,x3⟩:=HR1.out.rt hb
  have hE:=fun W=>Zzt R[b].k.h R[b].k.l R[b].k.n kh kl kn W
  have hd:decide (R[b].k.h=kh/\R[b].k.l=kl/\R[b].k.n=kn)=res:=by
   rw [<-hres,decide_eq_decide,hth]
   constructor
   ·rintro ⟨q1,q2,q3⟩
    refine ⟨hb,?_⟩
    generalize R[b].k=y at *
    obtain ⟨yh,yl,yn⟩:=y
    simp only at q1 q2 q3
    subst q1 q2 q3
    rfl
   ·rintro ⟨_,q⟩
    rw [q]
    exact ⟨rfl,rfl,rfl⟩
  rw [hd] at hE
  have i1:(0:Int)<=(b:Int):=by omega
  have i2:(b:Int)<(R.length:Int):=by omega
  have i3:decide (b<R.length)=true:=decide_eq_true hb
  generalize R[b].k=y at *
  clear hd hth hres
  go_wp2_with fail
  have kg:=Zaa
  refine Zab (by kernel_rfl) (by kernel_rfl) ?_
  repeat (any_goals (first|go_big_quiet_step (fail)|quiet_step (fail)))
  refine wpQuiet_nil ?_
  clear kg
  intro w2 hb2
  obtain ⟨hc2,hf2⟩:=Zaf hb2
  have hw2:Below w.heap.size w w2:=by
   refine Below.trans ?_ (hb2.mono ?_)
   ·go_grown
   ·first|omega|go_size
  go_wp2
  go_ret2
  exact ⟨rfl,hw2⟩
 ·have hd:res=false:=by rw [<-hres];exact decide_eq_false (fun h=>hb (hth.1 h).1)
  subst hd
  have i3:decide (b<R.length)=false:=decide_eq_false hb
  have i2:¬(b:Int)<(R.length:Int):=by omega
  clear hth hres
  go_wp2_with fail
  have kg:=Zaa
  refine Zab (by kernel_rfl) (by kernel_rfl) ?_
  repeat (any_goals (first|go_big_quiet_step (fail)|quiet_step (fail)))
  refine wpQuiet_nil ?_
  clear kg
  intro w2 hb2
  obtain ⟨hc2,hf2⟩:=Zaf hb2
  have hw2:Below w.heap.size w w2:=by
   refine Below.trans ?_ (hb2.mono ?_)
   ·go_grown
   ·first|omega|go_size
  go_wp2
  go_ret2
  exact ⟨rfl,hw2⟩
def inB (n lo hi:Int):Bool:=decide (lo<=n/\n<=hi)
def Zoa (c:Cf):Bool:=inB c.wd 1 128&&(inB c.di 0 (min c.wd 8)&&(inB c.lv 0 128&&(inB c.st 1 6&&decide (wrap64 (c.wd-c.di)<=wrap64 (c.lv*c.st)))))
def Zxk (c:Cf):Bool:=Zoa c&&(inB c.hs 1 16&&(inB c.le 1 65536&&(inB c.bt (wrap64 (c.le*max c.lv 1)) 1073741824&&(inB c.bk 1 1000&&(inB c.rt 0 300&&inB c.hp 0 60)))))
theorem Zxj (c:Cf):Zxk c=okCf c:=by
 obtain ⟨wd,di,lv,st,hs,bt,le,bk,rt,hp⟩:=c
 have hm:∀a b:Int,0<=a->a<=128->1<=b->b<=6->0<=a*b/\a*b<=768:=fun a b h1 h2 h3 h4=>by
  refine ⟨Int.mul_nonneg h1 (by omega),?_⟩
  have:a*b<=128*6:=Int.mul_le_mul h2 h4 (by omega) (by omega)
  omega
 have hn:∀a b:Int,1<=a->a<=65536->1<=b->b<=128->0<=a*b/\a*b<=8388608:=fun a b h1 h2 h3 h4=>by
  refine ⟨Int.mul_nonneg (by omega) (by omega),?_⟩
  have:a*b<=65536*128:=Int.mul_le_mul h2 h4 (by omega) (by omega)
  omega
 rw [Bool.eq_iff_iff]
 unfold Zxk Zoa okCf inB
 simp only [Bool.and_eq_true,decide_eq_true_eq]
 constructor
 ·rintro ⟨⟨h1,h2,h3,h4,h5⟩,h6,h7,h8,h9,h10,h11⟩
  have a1:=hm lv st h3.1 h3.2 h4.1 h4.2
  have a2:=hn le (max lv 1) h7.1 h7.2 (by omega) (by omega)
  rw [IntWalk.wrap64_in _ (by omega),IntWalk.wrap64_in _ (by omega)] at h5
  rw [IntWalk.wrap64_in _ (by omega)] at h8
  exact ⟨h1,⟨h2.1,by omega,by omega⟩,h3,h4,h6,h7,h8,h9,h10,h11,h5⟩
 ·rintro ⟨h1,h2,h3,h4,h6,h7,h8,h9,h10,h11,h5⟩
  have a1:=hm lv st h3.1 h3.2 h4.1 h4.2
  have a2:=hn le (max lv 1) h7.1 h7.2 (by omega) (by omega)
  rw [IntWalk.wrap64_in _ (by omega),IntWalk.wrap64_in _ (by omega),IntWalk.wrap64_in _ (by omega)]
  exact ⟨⟨h1,⟨h2.1,by omega⟩,h3,h4,h5⟩,h6,h7,h8,h9,h10,h11⟩
set_option maxRecDepth 100000 in
theorem Zmc (c:Cf):Zak Tryz.prog 47 #[cfgA c] (.bool (Zoa c)):=by
 intro w
 obtain ⟨wd,di,lv,st,hs,bt,le,bk,rt,hp⟩:=c
 unfold cfgA Zoa inB
 simp only
 have h1:=Za5 wd 1 128
 have h2:=Za5 di 0 (min wd 8)
 have h3:=Za5 lv 0 128
 have h4:=Za5 st 1 6
 obtain ⟨b1,e1⟩:∃b,b=decide (1<=wd/\wd<=128):=⟨_,rfl⟩
 obtain ⟨b2,e2⟩:∃b,b=decide (0<=di/\di<=min wd 8):=⟨_,rfl⟩
 obtain ⟨b3,e3⟩:∃b,b=decide (0<=lv/\lv<=128):=⟨_,rfl⟩
 obtain ⟨b4,e4⟩:∃b,b=decide (1<=st/\st<=6):=⟨_,rfl⟩
 rw [<-e1] at h1 ⊢
 rw [<-e2] at h2 ⊢
 rw [<-e3] at h3 ⊢
 rw [<-e4] at h4 ⊢
 have H1:=hid h1
 have H2:=hid h2
 have H3:=hid h3
 have H4:=hid h4
 clear h1 h2 h3 h4 e1 e2 e3 e4
 obtain ⟨W0,hW0⟩:∃W:World,W=w.alloc (.cells #[.int .i64 wd,.int .i64 di,.int .i64 lv,.int .i64 st,.int .i64 hs,.int .i64 bt,.int .i64 le,.int .i64 bk,.int .i64 rt,.int .i64 hp] 23):=⟨_,rfl⟩
 have hw:Below w.heap.size w W0:=by rw [hW0];go_grown
 have hz:w.heap.size<W0.heap.size:=by rw [hW0];simp
 have k0:W0.cell? ⟨w.heap.size,0,none⟩=some (.int .i64 wd):=by rw [hW0];simp [go_sem]
 have k1:W0.cell? ⟨w.heap.size,1,none⟩=some (.int .i64 di):=by rw [hW0];simp [go_sem]
 have k2:W0.cell? ⟨w.heap.size,2,none⟩=some (.int .i64 lv):=by rw [hW0];simp [go_sem]
 have k3:W0.cell? ⟨w.heap.size,3,none⟩=some (.int .i64 st):=by rw [hW0];simp [go_sem]
 have k4:W0.cell? ⟨w.heap.size,4,none⟩=some (.int .i64 hs):=by rw [hW0];simp [go_sem]
 have k5:W0.cell? ⟨w.heap.size,5,none⟩=some (.int .i64 bt):=by rw [hW0];simp [go_sem]
 have k6:W0.cell? ⟨w.heap.size,6,none⟩=some (.int .i64 le):=by rw [hW0];simp [go_sem]
 have k7:W0.cell? ⟨w.heap.size,7,none⟩=some (.int .i64 bk):=by rw [hW0];simp [go_sem]
 have k8:W0.cell? ⟨w.heap.size,8,none⟩=some (.int .i64 rt):=by rw [hW0];simp [go_sem]
 have k9:W0.cell? ⟨w.heap.size,9,none⟩=some (.int .i64 hp):=by rw [hW0];simp [go_sem]
 go_enter Tryz.func47,Tryz.ntmps47
 go_wp2_with fail
 rw [<-hW0]
 clear hW0
 refine (H1.out _).mono ?_
 rintro e w1 ⟨rfl,hb1⟩
 obtain ⟨hc1,hf1⟩:=Zaf hb1
 have k0:=(hc1 _ _ hz).trans k0
 have k1:=(hc1 _ _ hz).trans k1
 have k2:=(hc1 _ _ hz).trans k2
 have k3:=(hc1 _ _ hz).trans k3
 have k4:=(hc1 _ _ hz).trans k4
 have k5:=(hc1 _ _ hz).trans k5
 have k6:=(hc1 _ _ hz).trans k6
 have k7:=(hc1 _ _ hz).trans k7
 have k8:=(hc1 _ _ hz).trans k8
 have k9:=(hc1 _ _ hz).trans k9
 have hw:=hw.trans (hb1.mono hw.size)
 have hz:=Nat.lt_of_lt_of_le hz hb1.size
 clear hc1 hf1 hb1
 cases b1 with
 | false=>
  go_wp2
  go_ret
  exact ⟨rfl,hw⟩
 | true=>
  go_wp2_with fail
  refine (H2.out _).mono ?_
  rintro e w2 ⟨rfl,hb2⟩
  obtain ⟨hc2,hf2⟩:=Zaf hb2
  have k0:=(hc2 _ _ hz).trans k0
  have k1:=(hc2 _ _ hz).trans k1
  have k2:=(hc2 _ _ hz).trans k2
  have k3:=(hc2 _ _ hz).trans k3
  have k4:=(hc2 _ _ hz).trans k4
  have k5:=(hc2 _ _ hz).trans k5
  have k6:=(hc2 _ _ hz).trans k6
  have k7:=(hc2 _ _ hz).trans k7
  have k8:=(hc2 _ _ hz).trans k8
  have k9:=(hc2 _ _ hz).trans k9
  have hw:=hw.trans (hb2.mono hw.size)
  have hz:=Nat.lt_of_lt_of_le hz hb2.size
  clear hc2 hf2 hb2
  cases b2 with
  | false=>
   go_wp2
   go_ret
   exact ⟨rfl,hw⟩
  | true=>
   skip
   go_wp2_with fail
   refine (H3.out _).mono ?_
   rintro e w3 ⟨rfl,hb3⟩
   obtain ⟨hc3,hf3⟩:=Zaf hb3
   have k0:=(hc3 _ _ hz).trans k0
   have k1:=(hc3 _ _ hz).trans k1
   have k2:=(hc3 _ _ hz).trans k2
   have k3:=(hc3 _ _ hz).trans k3
   have k4:=(hc3 _ _ hz).trans k4
   have k5:=(hc3 _ _ hz).trans k5
   have k6:=(hc3 _ _ hz).trans k6
   have k7:=(hc3 _ _ hz).trans k7
   have k8:=(hc3 _ _ hz).trans k8
   have k9:=(hc3 _ _ hz).trans k9
   have hw:=hw.trans (hb3.mono hw.size)
   have hz:=Nat.lt_of_lt_of_le hz hb3.size
   clear hc3 hf3 hb3
   cases b3 with
   | false=>
    go_wp2
    go_ret
    exact ⟨rfl,hw⟩
   | true=>
    skip
    go_wp2_with fail
    refine (H4.out _).mono ?_
    rintro e w4 ⟨rfl,hb4⟩
    obtain ⟨hc4,hf4⟩:=Zaf hb4
    have k0:=(hc4 _ _ hz).trans k0
    have k1:=(hc4 _ _ hz).trans k1
    have k2:=(hc4 _ _ hz).trans k2
    have k3:=(hc4 _ _ hz).trans k3
    have k4:=(hc4 _ _ hz).trans k4
    have k5:=(hc4 _ _ hz).trans k5
    have k6:=(hc4 _ _ hz).trans k6
    have k7:=(hc4 _ _ hz).trans k7
    have k8:=(hc4 _ _ hz).trans k8
    have k9:=(hc4 _ _ hz).trans k9
    have hw:=hw.trans (hb4.mono hw.size)
    have hz:=Nat.lt_of_lt_of_le hz hb4.size
    clear hc4 hf4 hb4
    cases b4 with
    | false=>
     go_wp2
     go_ret
     exact ⟨rfl,hw⟩
    | true=>
     skip
     go_wp2
     go_ret
     exact ⟨Zai (by simp),hw⟩
set_option maxRecDepth 100000 in
theorem Zgb (c:Cf) (w:World):Calls Tryz.prog 22 #[cfgA c] w fun e w'=>e = .returned (.bool (okCf c))/\Below w.heap.size w w':=by
 rw [<-Zxj]
 have h0:=Zmc c
 obtain ⟨wd,di,lv,st,hs,bt,le,bk,rt,hp⟩:=c
 unfold Zxk
 unfold cfgA at h0 ⊢
 simp only at h0 ⊢
 unfold inB
 have h1:=Za5 hs 1 16
 have h2:=Za5 le 1 65536
 have h3:=Za5 bt (wrap64 (le*max lv 1)) 1073741824
 have h4:=Za5 bk 1 1000
 have h5:=Za5 rt 0 300
 have h6:=Za5 hp 0 60
 obtain ⟨b0,e0⟩:∃b,b=Zoa ⟨wd,di,lv,st,hs,bt,le,bk,rt,hp⟩:=⟨_,rfl⟩
 obtain ⟨b1,e1⟩:∃b,b=decide (1<=hs/\hs<=16):=⟨_,rfl⟩
 obtain ⟨b2,e2⟩:∃b,b=decide (1<=le/\le<=65536):=⟨_,rfl⟩
 obtain ⟨b3,e3⟩:∃b,b=decide (wrap64 (le*max lv 1)<=bt/\bt<=1073741824):=⟨_,rfl⟩
 obtain ⟨b4,e4⟩:∃b,b=decide (1<=bk/\bk<=1000):=⟨_,rfl⟩
 obtain ⟨b5,e5⟩:∃b,b=decide (0<=rt/\rt<=300):=⟨_,rfl⟩
 obtain ⟨b6,e6⟩:∃b,b=decide (0<=hp/\hp<=60):=⟨_,rfl⟩
 rw [<-e0] at h0 ⊢
 rw [<-e1] at h1 ⊢
 rw [<-e2] at h2 ⊢
 rw [<-e3] at h3 ⊢
 rw [<-e4] at h4 ⊢
 rw [<-e5] at h5 ⊢
 rw [<-e6] at h6 ⊢
 have H0:=hid h0
 have H1:=hid h1
 have H2:=hid h2
 have H3:=hid h3
 have H4:=hid h4
 have H5:=hid h5
 have H6:=hid h6
 clear h0 h1 h2 h3 h4 h5 h6 e0 e1 e2 e3 e4 e5 e6
 obtain ⟨W0,hW0⟩:∃W:World,W=w.alloc (.cells #[.int .i64 wd,.int .i64 di,.int .i64 lv,.int .i64 st,.int .i64 hs,.int .i64 bt,.int .i64 le,.int .i64 bk,.int .i64 rt,.int .i64 hp] 23):=⟨_,rfl⟩
 have hw:Below w.heap.size w W0:=by rw [hW0];go_grown
 have hz:w.heap.size<W0.heap.size:=by rw [hW0];simp
 have k0:W0.cell? ⟨w.heap.size,0,none⟩=some (.int .i64 wd):=by rw [hW0];simp [go_sem]
 have k1:W0.cell? ⟨w.heap.size,1,none⟩=some (.int .i64 di):=by rw [hW0];simp [go_sem]
 have k2:W0.cell? ⟨w.heap.size,2,none⟩=some (.int .i64 lv):=by rw [hW0];simp [go_sem]
 have k3:W0.cell? ⟨w.heap.size,3,none⟩=some (.int .i64 st):=by rw [hW0];simp [go_sem]
 have k4:W0.cell? ⟨w.heap.size,4,none⟩=some (.int .i64 hs):=by rw [hW0];simp [go_sem]
 have k5:W0.cell? ⟨w.heap.size,5,none⟩=some (.int .i64 bt):=by rw [hW0];simp [go_sem]
 have k6:W0.cell? ⟨w.heap.size,6,none⟩=some (.int .i64 le):=by rw [hW0];simp [go_sem]
 have k7:W0.cell? ⟨w.heap.size,7,none⟩=some (.int .i64 bk):=by rw [hW0];simp [go_sem]
 have k8:W0.cell? ⟨w.heap.size,8,none⟩=some (.int .i64 rt):=by rw [hW0];simp [go_sem]
 have k9:W0.cell? ⟨w.heap.size,9,none⟩=some (.int .i64 hp):=by rw [hW0];simp [go_sem]
 go_enter Tryz.func22,Tryz.ntmps22
 go_wp2_with fail
 rw [<-hW0]
 clear hW0
 refine (H0.out _).mono ?_
 rintro e w9 ⟨rfl,hb9⟩
 obtain ⟨hc9,hf9⟩:=Zaf hb9
 have k0:=(hc9 _ _ hz).trans k0
 have k1:=(hc9 _ _ hz).trans k1
 have k2:=(hc9 _ _ hz).trans k2
 have k3:=(hc9 _ _ hz).trans k3
 have k4:=(hc9 _ _ hz).trans k4
 have k5:=(hc9 _ _ hz).trans k5
 have k6:=(hc9 _ _ hz).trans k6
 have k7:=(hc9 _ _ hz).trans k7
 have k8:=(hc9 _ _ hz).trans k8
 have k9:=(hc9 _ _ hz).trans k9
 have hw:=hw.trans (hb9.mono hw.size)
 have hz:=Nat.lt_of_lt_of_le hz hb9.size
 clear hc9 hf9 hb9
 cases b0 with
 | false=>
  go_wp2
  go_ret
  exact ⟨rfl,hw⟩
 | true=>
  go_wp2_with fail
  refine (H1.out _).mono ?_
  rintro e w1 ⟨rfl,hb1⟩
  obtain ⟨hc1,hf1⟩:=Zaf hb1
  have k0:=(hc1 _ _ hz).trans k0
  have k1:=(hc1 _ _ hz).trans k1
  have k2:=(hc1 _ _ hz).trans k2
  have k3:=(hc1 _ _ hz).trans k3
  have k4:=(hc1 _ _ hz).trans k4
  have k5:=(hc1 _ _ hz).trans k5
  have k6:=(hc1 _ _ hz).trans k6
  have k7:=(hc1 _ _ hz).trans k7
  have k8:=(hc1 _ _ hz).trans k8
  have k9:=(hc1 _ _ hz).trans k9
  have hw:=hw.trans (hb1.mono hw.size)
  have hz:=Nat.lt_of_lt_of_le hz hb1.size
  clear hc1 hf1 hb1
  cases b1 with
  | false=>
   go_wp2
   go_ret
   exact ⟨rfl,hw⟩
  | true=>
   skip
   go_wp2_with fail
   refine (H2.out _).mono ?_
   rintro e w2 ⟨rfl,hb2⟩
   obtain ⟨hc2,hf2⟩:=Zaf hb2
   have k0:=(hc2 _ _ hz).trans k0
   have k1:=(hc2 _ _ hz).trans k1
   have k2:=(hc2 _ _ hz).trans k2
   have k3:=(hc2 _ _ hz).trans k3
   have k4:=(hc2 _ _ hz).trans k4
   have k5:=(hc2 _ _ hz).trans k5
   have k6:=(hc2 _ _ hz).trans k6
   have k7:=(hc2 _ _ hz).trans k7
   have k8:=(hc2 _ _ hz).trans k8
   have k9:=(hc2 _ _ hz).trans k9
   have hw:=hw.trans (hb2.mono hw.size)
   have hz:=Nat.lt_of_lt_of_le hz hb2.size
   clear hc2 hf2 hb2
   cases b2 with
   | false=>
    go_wp2
    go_ret
    exact ⟨rfl,hw⟩
   | true=>
    skip
    go_wp2_with fail
    refine (H3.out _).mono ?_
    rintro e w3 ⟨rfl,hb3⟩
    obtain ⟨hc3,hf3⟩:=Zaf hb3
    have k0:=(hc3 _ _ hz).trans k0
    have k1:=(hc3 _ _ hz).trans k1
    have k2:=(hc3 _ _ hz).trans k2
    have k3:=(hc3 _ _ hz).trans k3
    have k4:=(hc3 _ _ hz).trans k4
    have k5:=(hc3 _ _ hz).trans k5
    have k6:=(hc3 _ _ hz).trans k6
    have k7:=(hc3 _ _ hz).trans k7
    have k8:=(hc3 _ _ hz).trans k8
    have k9:=(hc3 _ _ hz).trans k9
    have hw:=hw.trans (hb3.mono hw.size)
    have hz:=Nat.lt_of_lt_of_le hz hb3.size
    clear hc3 hf3 hb3
    cases b3 with
    | false=>
     go_wp2
     go_ret
     exact ⟨rfl,hw⟩
    | true=>
     skip
     go_wp2_with fail
     refine (H4.out _).mono ?_
     rintro e w4 ⟨rfl,hb4⟩
     obtain ⟨hc4,hf4⟩:=Zaf hb4
     have k0:=(hc4 _ _ hz).trans k0
     have k1:=(hc4 _ _ hz).trans k1
     have k2:=(hc4 _ _ hz).trans k2
     have k3:=(hc4 _ _ hz).trans k3
     have k4:=(hc4 _ _ hz).trans k4
     have k5:=(hc4 _ _ hz).trans k5
     have k6:=(hc4 _ _ hz).trans k6
     have k7:=(hc4 _ _ hz).trans k7
     have k8:=(hc4 _ _ hz).trans k8
     have k9:=(hc4 _ _ hz).trans k9
     have hw:=hw.trans (hb4.mono hw.size)
     have hz:=Nat.lt_of_lt_of_le hz hb4.size
     clear hc4 hf4 hb4
     cases b4 with
     | false=>
      go_wp2
      go_ret
      exact ⟨rfl,hw⟩
     | true=>
      skip
      go_wp2_with fail
      refine (H5.out _).mono ?_
      rintro e w5 ⟨rfl,hb5⟩
      obtain ⟨hc5,hf5⟩:=Zaf hb5
      have k0:=(hc5 _ _ hz).trans k0
      have k1:=(hc5 _ _ hz).trans k1
      have k2:=(hc5 _ _ hz).trans k2
      have k3:=(hc5 _ _ hz).trans k3
      have k4:=(hc5 _ _ hz).trans k4
      have k5:=(hc5 _ _ hz).trans k5
      have k6:=(hc5 _ _ hz).trans k6
      have k7:=(hc5 _ _ hz).trans k7
      have k8:=(hc5 _ _ hz).trans k8
      have k9:=(hc5 _ _ hz).trans k9
      have hw:=hw.trans (hb5.mono hw.size)
      have hz:=Nat.lt_of_lt_of_le hz hb5.size
      clear hc5 hf5 hb5
      cases b5 with
      | false=>
       go_wp2
       go_ret
       exact ⟨rfl,hw⟩
      | true=>
       skip
       go_wp2_with fail
       refine (H6.out _).mono ?_
       rintro e w6 ⟨rfl,hb6⟩
       have hw:=hw.trans (hb6.mono hw.size)
       go_wp2
       go_ret
       exact ⟨rfl,hw⟩
end Go.Proofs.YtgfjmgebecmbiaaGreat
