import Derived.Test.YtpdphfgpdgadpaaGreatW12g
import Derived.Test.YtpdphfgpdgadpaaGreatW12e
import Derived.Test.YtpdphfgpdgadpaaGreatW12l
set_option linter.unusedSimpArgs false
set_option linter.unusedVariables false
set_option maxHeartbeats 4000000
set_option maxRecDepth 100000
open Go.Proofs.Tryz
namespace Go.Proofs.YtpdphfgpdgadpaaGreat
open Lib(hid)
section
open Go.RowKit Go.Sort M
theorem J4 {w1 W a:World} {t g n n2 s2:Nat} {v:Value} {T:Tab} {m:Int} (b:CT w1 t g v T m) (c:Below w1.heap.size w1 W) (y:w1.heap.size<=n) (u:W.heap[n]? = some (.cells (madeCells zB.cells (n2*20)) 177 (0,0)))
 (d:(((W.setCell ⟨t,0,none⟩ (.int .u64 (s2:Int))).setCell ⟨t,1,none⟩ (.slice (some ⟨n,0,none⟩) n2 n2)).setCell ⟨t,2,none⟩ (.slice none 0 0)).setCell ⟨t,3,none⟩ (.int .i64 0)=a) :
 CT a t n (.slice none 0 0) (A2 s2 n2) 0/\Touch (Blk t g v) w1 a/\∀k,Blk t n (.slice none 0 0) k->k<w1.heap.size->Blk t g v k:=by
 have o:=b.tb.tlt;have A:=(c.cell (p:=⟨t,0,none⟩) o).trans b.tb.c0;have z:=(c.cell (p:=⟨t,1,none⟩) o).trans b.tb.c1;have c2:=(c.cell (p:=⟨t,2,none⟩) o).trans b.tb.c2;have c3:=(c.cell (p:=⟨t,3,none⟩) o).trans b.c3;have r:∀k,k≠t->a.heap[k]? = W.heap[k]? := by intro k h;rw [<-d];rw [Below.heap_setCell _ ⟨t,3,none⟩ _ k (by simpa using h),Below.heap_setCell _ ⟨t,2,none⟩ _ k (by simpa using h),Below.heap_setCell _ ⟨t,1,none⟩ _ k (by simpa using h),Below.heap_setCell _ ⟨t,0,none⟩ _ k (by simpa using h)]
 have q:a.heap.size=W.heap.size:=by rw [<-d];simp
 have l:a.heap[n]? = some (.cells (madeCells zB.cells (n2*20)) 177 (0,0)):=(r n Qa).trans u;have s:=(Array.getElem?_eq_some_iff.1 l).1;refine ⟨⟨Tb.fresh (λi hi=>Vo l hi) s (by rw [q];exact Qm o c.size) ?_ ?_ ?_ (λj => ?_) Qa,?_⟩,⟨?_,?_,?_,by rw [q];exact c.size,λk h w=>(r k (λe=>w (.inl e))).trans (c.block k h)⟩,λk h x => ?_⟩
 ·rw [<-d];simp [go_sem,A]
 ·rw [<-d];simp [go_sem,z]
 ·rw [<-d];simp [go_sem,c2]
 ·rw [<-d];simp only [World.frozen?_setCell];exact (c.frozen (p:=⟨t,j,none⟩) o).trans (b.tb.f j)
 ·rw [<-d];simp [go_sem,c3]
 ·rw [<-d];exact c.os
 ·rw [<-d];exact c.tape
 ·rw [<-d];exact c.output
 ·rcases h with e | e | e
  ·exact .inl e
  ·omega
  ·simp [Value.ownBlock] at e
theorem Zzk (f:Tab->Rt->Tab) (B0:Nat) (hf:∀T r,Inv T->r.k.good->Gv T r (f T r)) (t g:Nat) (v:Value) (T:Tab) (m:Int) (w:World) (H:CT w t g v T m) (HI:Inv T) (aj:(Ab T).length<=262144) (am:B0<=(grown T).B.length)
 (HP:∀g1 v1 T1 r w1,CT w1 t g1 v1 T1 ((Ab T1).length:Int)->Inv T1->r.k.good->(Ab T1).length<262144->B0<=T1.B.length->Calls prog 100 #[.pointer (some ⟨t,0,none⟩),kyV r.k,.int .i64 r.v] w1 λe w'=>e = .returned (.tuple #[])/\Ai w1 w' t g1 v1 (f T1 r) ((Ab (f T1 r)).length:Int)) :
 Calls prog 126 #[.pointer (some ⟨t,0,none⟩)] w λe w'=>e = .returned (.tuple #[])/\Ai w w' t g v ((Ab T).foldl f (grown T)) ((Ab ((Ab T).foldl f (grown T))).length:Int):=by
 have b0:T.st.length<1048576:=by have:=I8 T;omega
 have b3:=HI.lo;have b4:=HI.hi;have HL:=hid (λw H=>Z2t t g v T m w H HI.num b0);have b5:Aj prog 36 #[.int .u64 (T.s:Int)] (.int .u64 (mixN T.s:Int)):=by
  have:=Gm (T.s:Int)
  rwa [Fq _ HI.word] at this
 have HM:=hid b5;have au:=H.tb.blk;have aq:=hid au;have HH:=hid H;have an:=hid HP;have a3:=hid (λj J=>Z3b HI hf j J);have a2:=hid HI;have ae:=hid aj;clear H HP au b5 b0;unfold kyV at *
 go_enter func126,ntmps126;go_wp2_with fail;refine (HL.o _ HH.o).mono ?_;rintro e w1 ⟨p,c,rfl,q,ay⟩;have Q:=hid (HH.o.below ay);have c0:=Q.o.tb.c0;have c1:=Q.o.tb.c1;have c2:=Q.o.tb.c2;have c3:=Q.o.c3;have f0:=Q.o.tb.f 0;have f1:=Q.o.tb.f 1;have f2:=Q.o.tb.f 2;have f3:=Q.o.tb.f 3;have b:=Q.o.tb.tlt;have D:=hid q;have ad:=hid ay;clear q ay;obtain ⟨n2,av⟩:=Q' (min (2*T.B.length) 65536);have ar:1<=n2/\n2<=65536:=Qa;have al:=λw=>B9 underlying137 Vn n2 Qa Qk w;obtain ⟨MZ,az⟩:=Q' (madeCells zB.cells (n2*20));rw [<-az] at al;have ap:=hid az;clear az;have ao:=hid av;have ba:IntKind.i64.wrap (2*(T.B.length:Int))=2*(T.B.length:Int):=by rw [IntKind.wrap_i64];omega
 by_cases ac:65536<2*T.B.length
 ·have b8:(65536:Int)<2*(T.B.length:Int):=Qa;have b7:¬2*(T.B.length:Int)<=65536:=Qa;have b6:=hid ac;have ah:(n2:Int)=65536:=Qa;have ag:(n2:Int)=min (2*(T.B.length:Int)) 65536:=Qa;have ak:=al;rw [ag] at ak;rw [ah] at al;clear ag;clear ac ar b3 b4 aj ah av;go_wp2_with fail;have kg:=Ad;refine wp_region_noPanic ?_;generalize U:NoPanic _=NQ;refine Na [0,1,2,3,6,7,8] [4,9,10,11,12] 5 13 [14,15,16] Qb (by rw [<-U];exact λ_ _ _ h=>h) Qb Qb ?_;simp only [Ag,List.filterMap_cons,List.filterMap_nil,List.getElem?_toArray,List.getElem?_cons_succ,List.getElem?_cons_zero];repeat (any_goals (quiet_step (fail)))
  refine wpQuiet_nil ?_;clear kg;intro af n;refine ⟨?_,?_⟩
  ·intro K X o E;injection E with E;subst E;go_simp;refine (HM.o _).mono ?_;rintro e a5 ⟨rfl,u⟩;have a:=n.trans (u.mono n.size);refine X _ _ a ?_;clear X K;intro K X o E;injection E with E;subst E;try (rw [if_neg (show ¬((65536:Int)<2*(T.B.length:Int)) by omega)])
   go_simp;refine X _ _ (a.alloc a.size _) ?_;clear X K;simp only [Ag,List.filterMap_cons,List.filterMap_nil,List.getElem?_toArray,List.getElem?_cons_succ,List.getElem?_cons_zero];have d:=a.alloc a.size (.cells MZ 177);have I:=a.size;have z:=heap_alloc_new a5 (.cells MZ 177);generalize World.alloc a5 _=b9 at d z ⊢;have c0:=(d.cell (p:=⟨t,0,none⟩) b).trans c0;have c1:=(d.cell (p:=⟨t,1,none⟩) b).trans c1;have c2:=(d.cell (p:=⟨t,2,none⟩) b).trans c2;have c3:=(d.cell (p:=⟨t,3,none⟩) b).trans c3;have f0:=(d.frozen (p:=⟨t,0,none⟩) b).trans f0;have f1:=(d.frozen (p:=⟨t,1,none⟩) b).trans f1;have f2:=(d.frozen (p:=⟨t,2,none⟩) b).trans f2;have f3:=(d.frozen (p:=⟨t,3,none⟩) b).trans f3;have ai:=Qm b d.size;have d:=hid d;have z:=hid z;have I:=hid I;clear u a;go_wp2_with fail;rw [<-U];refine NoPanic.normal ?_;clear U c0 c1 c2 c3 f0 f1 f2 f3;generalize A:World.setCell _ _ _=a4;have hF:=hid (J4 (s2:=mixN T.s) (n2:=n2) Q.o d.o I.o (by rw [<-ap.o];exact z.o) A);clear A d I z;have hG:Hid (grown T=A2 (mixN T.s) n2):=by show _=_;unfold grown;rw [ao.o]
   obtain ⟨L,N⟩:=Q' (Ab T);rw [<-N] at D ⊢;have aw:L.length<=262144:=by rw [N];exact ae.o
   have y:Hid (∀j,j<=L.length->Inv ((L.take j).foldl f (grown T))/\(Ab ((L.take j).foldl f (grown T))).length=j/\(grown T).B.length<=((L.take j).foldl f (grown T)).B.length):=by rw [N];exact a3.o
   have Z:Hid (∀(j:Nat) (J:j<L.length),(L[j]).k.good):=by intro j J;exact a2.o.good _ (by rw [<-N];exact Qp J)
   have C:Ai w1 a4 t g v ((L.take 0).foldl f (grown T)) ((0:Nat):Int):=⟨_,_,by rw [List.take_zero,List.foldl_nil,hG.o];exact hF.o.1,hF.o.2.1,hF.o.2.2⟩;have q:Hid (∀(wr:World),Touch (Blk t g v) w1 wr->wr.ownsRow w.heap.size 34 4 (.slice p L.length c) L.length (rcs L)):=λwr ht=>Touch.own D.o ht λj J hk=>by have h1:=(D.o.lt j J).1;have h2:=aq.o j hk;omega
   have aa:=hid N;clear N hF hG a3 a2 D;generalize S:grown T=O at *
   have a8:=hid S;clear S;go_wp2;go_loopw [4,25] (λs4 i wr=>∃(j:Nat),j<=L.length/\i = .int .i64 (j:Int)/\Hid (Ai w1 wr t g v ((L.take j).foldl f O) (j:Int))) (λ_ i _=>L.length-(intOf i).toNat)
   case atStart=>exact ⟨0,Qa,rfl,C⟩
   case round=>
    clear C;obtain ⟨j,J,rfl,HQ⟩:=hrel;by_cases F:j<L.length
    ·obtain ⟨g1,v1,hC,hT,hS⟩:=HQ.o;have HC:=hid hC;have HT:=hid hT;have HS:=hid hS;obtain ⟨gr,o,rfl,ax,r0,r1,r2,r3⟩:=(Row.of_own (q.o wr hT)).rt F;have i1:(0:Int)<=(j:Int):=Qa;have i2:(j:Int)<(L.length:Int):=Qa;have Y:=hid (Z.o j F);have l:=hid (y.o j Qa);have a1:=hid (y.o (j+1) Qa);have a9:=hid (Jy f L O j F);clear hC hT hS Z y q;generalize L[j]=r at *
     go_wp2_with fail;refine (an.o g1 v1 ((L.take j).foldl f O) r _ (by rw [l.o.2.1];exact HC.o.below Qg) l.o.1 Y.o (by rw [l.o.2.1];omega) (Qw am l.o.2.2)).mono ?_;rintro e w2 ⟨rfl,R⟩;have ab:Hid (Ai w1 w2 t g v ((L.take (j+1)).foldl f O) ((j+1:Nat):Int)):=by have h:=Ai.trans (HT.o.trans (Touch.quiet Qg)) HS.o R;rw [<-a9.o,a1.o.2.1] at h;exact h
     clear R;go_wp2;go_roundw
     case rel=>exact ⟨j+1,Qa,Qj,ab⟩
     case measure=>simp [intOf];omega
    ·have a6:j=L.length:=Qa;have HE:Hid (Ai w1 wr t g v (L.foldl f O) ((Ab (L.foldl f O)).length:Int)):=by have h1:=(y.o j J).2.1;have h2:=HQ.o;rw [a6,List.take_length] at h1 h2;rw [h1];exact h2
     go_wp2;go_end0;rw [a8.o,<-aa.o];exact ⟨rfl,Ai.trans (Touch.quiet ad.o) (λ_ h _=>h) HE.o⟩
  ·intro K X o E;injection E with E;subst E;try (rw [if_neg (show ¬((65536:Int)<2*(T.B.length:Int)) by omega)])
   go_simp;refine X _ _ (n.alloc n.size _) ?_;clear X K;intro K X o E;injection E with E;subst E;go_simp;refine (HM.o _).mono ?_;rintro e a5 ⟨rfl,u⟩;have a7:=n.alloc n.size (.cells MZ 177);have a:=a7.trans (u.mono a7.size);refine X _ _ a ?_;clear X K;simp only [Ag,List.filterMap_cons,List.filterMap_nil,List.getElem?_toArray,List.getElem?_cons_succ,List.getElem?_cons_zero];have d:=hid a;have I:=hid n.size;have z:=hid ((u.block af.heap.size Qf).trans (heap_alloc_new af (.cells MZ 177)));have c0:=(a.cell (p:=⟨t,0,none⟩) b).trans c0;have c1:=(a.cell (p:=⟨t,1,none⟩) b).trans c1;have c2:=(a.cell (p:=⟨t,2,none⟩) b).trans c2;have c3:=(a.cell (p:=⟨t,3,none⟩) b).trans c3;have f0:=(a.frozen (p:=⟨t,0,none⟩) b).trans f0;have f1:=(a.frozen (p:=⟨t,1,none⟩) b).trans f1;have f2:=(a.frozen (p:=⟨t,2,none⟩) b).trans f2;have f3:=(a.frozen (p:=⟨t,3,none⟩) b).trans f3;have ai:=Qm b a.size;clear u a a7;go_wp2_with fail;rw [<-U];refine NoPanic.normal ?_;clear U c0 c1 c2 c3 f0 f1 f2 f3;generalize A:World.setCell _ _ _=a4;have hF:=hid (J4 (s2:=mixN T.s) (n2:=n2) Q.o d.o I.o (by rw [<-ap.o];exact z.o) A);clear A d I z;have hG:Hid (grown T=A2 (mixN T.s) n2):=by show _=_;unfold grown;rw [ao.o]
   obtain ⟨L,N⟩:=Q' (Ab T);rw [<-N] at D ⊢;have aw:L.length<=262144:=by rw [N];exact ae.o
   have y:Hid (∀j,j<=L.length->Inv ((L.take j).foldl f (grown T))/\(Ab ((L.take j).foldl f (grown T))).length=j/\(grown T).B.length<=((L.take j).foldl f (grown T)).B.length):=by rw [N];exact a3.o
   have Z:Hid (∀(j:Nat) (J:j<L.length),(L[j]).k.good):=by intro j J;exact a2.o.good _ (by rw [<-N];exact Qp J)
   have C:Ai w1 a4 t g v ((L.take 0).foldl f (grown T)) ((0:Nat):Int):=⟨_,_,by rw [List.take_zero,List.foldl_nil,hG.o];exact hF.o.1,hF.o.2.1,hF.o.2.2⟩;have q:Hid (∀(wr:World),Touch (Blk t g v) w1 wr->wr.ownsRow w.heap.size 34 4 (.slice p L.length c) L.length (rcs L)):=λwr ht=>Touch.own D.o ht λj J hk=>by have h1:=(D.o.lt j J).1;have h2:=aq.o j hk;omega
   have aa:=hid N;clear N hF hG a3 a2 D;generalize S:grown T=O at *
   have a8:=hid S;clear S;go_wp2;go_loopw [4,25] (λs4 i wr=>∃(j:Nat),j<=L.length/\i = .int .i64 (j:Int)/\Hid (Ai w1 wr t g v ((L.take j).foldl f O) (j:Int))) (λ_ i _=>L.length-(intOf i).toNat)
   case atStart=>exact ⟨0,Qa,rfl,C⟩
   case round=>
    clear C;obtain ⟨j,J,rfl,HQ⟩:=hrel;by_cases F:j<L.length
    ·obtain ⟨g1,v1,hC,hT,hS⟩:=HQ.o;have HC:=hid hC;have HT:=hid hT;have HS:=hid hS;obtain ⟨gr,o,rfl,ax,r0,r1,r2,r3⟩:=(Row.of_own (q.o wr hT)).rt F;have i1:(0:Int)<=(j:Int):=Qa;have i2:(j:Int)<(L.length:Int):=Qa;have Y:=hid (Z.o j F);have l:=hid (y.o j Qa);have a1:=hid (y.o (j+1) Qa);have a9:=hid (Jy f L O j F);clear hC hT hS Z y q;generalize L[j]=r at *
     go_wp2_with fail;refine (an.o g1 v1 ((L.take j).foldl f O) r _ (by rw [l.o.2.1];exact HC.o.below Qg) l.o.1 Y.o (by rw [l.o.2.1];omega) (Qw am l.o.2.2)).mono ?_;rintro e w2 ⟨rfl,R⟩;have ab:Hid (Ai w1 w2 t g v ((L.take (j+1)).foldl f O) ((j+1:Nat):Int)):=by have h:=Ai.trans (HT.o.trans (Touch.quiet Qg)) HS.o R;rw [<-a9.o,a1.o.2.1] at h;exact h
     clear R;go_wp2;go_roundw
     case rel=>exact ⟨j+1,Qa,Qj,ab⟩
     case measure=>simp [intOf];omega
    ·have a6:j=L.length:=Qa;have HE:Hid (Ai w1 wr t g v (L.foldl f O) ((Ab (L.foldl f O)).length:Int)):=by have h1:=(y.o j J).2.1;have h2:=HQ.o;rw [a6,List.take_length] at h1 h2;rw [h1];exact h2
     go_wp2;go_end0;rw [a8.o,<-aa.o];exact ⟨rfl,Ai.trans (Touch.quiet ad.o) (λ_ h _=>h) HE.o⟩
 ·have b8:2*(T.B.length:Int)<=65536:=Qa;have b7:¬(65536:Int)<2*(T.B.length:Int):=Qa;have b6:=hid ac;have ah:(n2:Int)=2*(T.B.length:Int):=Qa;have ag:(n2:Int)=min (2*(T.B.length:Int)) 65536:=Qa;have ak:=al;rw [ag] at ak;rw [ah] at al;clear ag;clear ac ar b3 b4 aj ah av;go_wp2_with fail;have kg:=Ad;refine wp_region_noPanic ?_;generalize U:NoPanic _=NQ;refine Na [0,1,2,3,6,7,8] [4,9,10,11,12] 5 13 [14,15,16] Qb (by rw [<-U];exact λ_ _ _ h=>h) Qb Qb ?_;simp only [Ag,List.filterMap_cons,List.filterMap_nil,List.getElem?_toArray,List.getElem?_cons_succ,List.getElem?_cons_zero];repeat (any_goals (quiet_step (fail)))
  refine wpQuiet_nil ?_;clear kg;intro af n;refine ⟨?_,?_⟩
  ·intro K X o E;injection E with E;subst E;go_simp;refine (HM.o _).mono ?_;rintro e a5 ⟨rfl,u⟩;have a:=n.trans (u.mono n.size);refine X _ _ a ?_;clear X K;intro K X o E;injection E with E;subst E;try (rw [if_neg (show ¬((65536:Int)<2*(T.B.length:Int)) by omega)])
   go_simp;refine X _ _ (a.alloc a.size _) ?_;clear X K;simp only [Ag,List.filterMap_cons,List.filterMap_nil,List.getElem?_toArray,List.getElem?_cons_succ,List.getElem?_cons_zero];have d:=a.alloc a.size (.cells MZ 177);have I:=a.size;have z:=heap_alloc_new a5 (.cells MZ 177);generalize World.alloc a5 _=b9 at d z ⊢;have c0:=(d.cell (p:=⟨t,0,none⟩) b).trans c0;have c1:=(d.cell (p:=⟨t,1,none⟩) b).trans c1;have c2:=(d.cell (p:=⟨t,2,none⟩) b).trans c2;have c3:=(d.cell (p:=⟨t,3,none⟩) b).trans c3;have f0:=(d.frozen (p:=⟨t,0,none⟩) b).trans f0;have f1:=(d.frozen (p:=⟨t,1,none⟩) b).trans f1;have f2:=(d.frozen (p:=⟨t,2,none⟩) b).trans f2;have f3:=(d.frozen (p:=⟨t,3,none⟩) b).trans f3;have ai:=Qm b d.size;have d:=hid d;have z:=hid z;have I:=hid I;clear u a;go_wp2_with fail;rw [<-U];refine NoPanic.normal ?_;clear U c0 c1 c2 c3 f0 f1 f2 f3;generalize A:World.setCell _ _ _=a4;have hF:=hid (J4 (s2:=mixN T.s) (n2:=n2) Q.o d.o I.o (by rw [<-ap.o];exact z.o) A);clear A d I z;have hG:Hid (grown T=A2 (mixN T.s) n2):=by show _=_;unfold grown;rw [ao.o]
   obtain ⟨L,N⟩:=Q' (Ab T);rw [<-N] at D ⊢;have aw:L.length<=262144:=by rw [N];exact ae.o
   have y:Hid (∀j,j<=L.length->Inv ((L.take j).foldl f (grown T))/\(Ab ((L.take j).foldl f (grown T))).length=j/\(grown T).B.length<=((L.take j).foldl f (grown T)).B.length):=by rw [N];exact a3.o
   have Z:Hid (∀(j:Nat) (J:j<L.length),(L[j]).k.good):=by intro j J;exact a2.o.good _ (by rw [<-N];exact Qp J)
   have C:Ai w1 a4 t g v ((L.take 0).foldl f (grown T)) ((0:Nat):Int):=⟨_,_,by rw [List.take_zero,List.foldl_nil,hG.o];exact hF.o.1,hF.o.2.1,hF.o.2.2⟩;have q:Hid (∀(wr:World),Touch (Blk t g v) w1 wr->wr.ownsRow w.heap.size 34 4 (.slice p L.length c) L.length (rcs L)):=λwr ht=>Touch.own D.o ht λj J hk=>by have h1:=(D.o.lt j J).1;have h2:=aq.o j hk;omega
   have aa:=hid N;clear N hF hG a3 a2 D;generalize S:grown T=O at *
   have a8:=hid S;clear S;go_wp2;go_loopw [4,25] (λs4 i wr=>∃(j:Nat),j<=L.length/\i = .int .i64 (j:Int)/\Hid (Ai w1 wr t g v ((L.take j).foldl f O) (j:Int))) (λ_ i _=>L.length-(intOf i).toNat)
   case atStart=>exact ⟨0,Qa,rfl,C⟩
   case round=>
    clear C;obtain ⟨j,J,rfl,HQ⟩:=hrel;by_cases F:j<L.length
    ·obtain ⟨g1,v1,hC,hT,hS⟩:=HQ.o;have HC:=hid hC;have HT:=hid hT;have HS:=hid hS;obtain ⟨gr,o,rfl,ax,r0,r1,r2,r3⟩:=(Row.of_own (q.o wr hT)).rt F;have i1:(0:Int)<=(j:Int):=Qa;have i2:(j:Int)<(L.length:Int):=Qa;have Y:=hid (Z.o j F);have l:=hid (y.o j Qa);have a1:=hid (y.o (j+1) Qa);have a9:=hid (Jy f L O j F);clear hC hT hS Z y q;generalize L[j]=r at *
     go_wp2_with fail;refine (an.o g1 v1 ((L.take j).foldl f O) r _ (by rw [l.o.2.1];exact HC.o.below Qg) l.o.1 Y.o (by rw [l.o.2.1];omega) (Qw am l.o.2.2)).mono ?_;rintro e w2 ⟨rfl,R⟩;have ab:Hid (Ai w1 w2 t g v ((L.take (j+1)).foldl f O) ((j+1:Nat):Int)):=by have h:=Ai.trans (HT.o.trans (Touch.quiet Qg)) HS.o R;rw [<-a9.o,a1.o.2.1] at h;exact h
     clear R;go_wp2;go_roundw
     case rel=>exact ⟨j+1,Qa,Qj,ab⟩
     case measure=>simp [intOf];omega
    ·have a6:j=L.length:=Qa;have HE:Hid (Ai w1 wr t g v (L.foldl f O) ((Ab (L.foldl f O)).length:Int)):=by have h1:=(y.o j J).2.1;have h2:=HQ.o;rw [a6,List.take_length] at h1 h2;rw [h1];exact h2
     go_wp2;go_end0;rw [a8.o,<-aa.o];exact ⟨rfl,Ai.trans (Touch.quiet ad.o) (λ_ h _=>h) HE.o⟩
  ·intro K X o E;injection E with E;subst E;try (rw [if_neg (show ¬((65536:Int)<2*(T.B.length:Int)) by omega)])
   go_simp;refine X _ _ (n.alloc n.size _) ?_;clear X K;intro K X o E;injection E with E;subst E;go_simp;refine (HM.o _).mono ?_;rintro e a5 ⟨rfl,u⟩;have a7:=n.alloc n.size (.cells MZ 177);have a:=a7.trans (u.mono a7.size);refine X _ _ a ?_;clear X K;simp only [Ag,List.filterMap_cons,List.filterMap_nil,List.getElem?_toArray,List.getElem?_cons_succ,List.getElem?_cons_zero];have d:=hid a;have I:=hid n.size;have z:=hid ((u.block af.heap.size Qf).trans (heap_alloc_new af (.cells MZ 177)));have c0:=(a.cell (p:=⟨t,0,none⟩) b).trans c0;have c1:=(a.cell (p:=⟨t,1,none⟩) b).trans c1;have c2:=(a.cell (p:=⟨t,2,none⟩) b).trans c2;have c3:=(a.cell (p:=⟨t,3,none⟩) b).trans c3;have f0:=(a.frozen (p:=⟨t,0,none⟩) b).trans f0;have f1:=(a.frozen (p:=⟨t,1,none⟩) b).trans f1;have f2:=(a.frozen (p:=⟨t,2,none⟩) b).trans f2;have f3:=(a.frozen (p:=⟨t,3,none⟩) b).trans f3;have ai:=Qm b a.size;clear u a a7;go_wp2_with fail;rw [<-U];refine NoPanic.normal ?_;clear U c0 c1 c2 c3 f0 f1 f2 f3;generalize A:World.setCell _ _ _=a4;have hF:=hid (J4 (s2:=mixN T.s) (n2:=n2) Q.o d.o I.o (by rw [<-ap.o];exact z.o) A);clear A d I z;have hG:Hid (grown T=A2 (mixN T.s) n2):=by show _=_;unfold grown;rw [ao.o]
   obtain ⟨L,N⟩:=Q' (Ab T);rw [<-N] at D ⊢;have aw:L.length<=262144:=by rw [N];exact ae.o
   have y:Hid (∀j,j<=L.length->Inv ((L.take j).foldl f (grown T))/\(Ab ((L.take j).foldl f (grown T))).length=j/\(grown T).B.length<=((L.take j).foldl f (grown T)).B.length):=by rw [N];exact a3.o
   have Z:Hid (∀(j:Nat) (J:j<L.length),(L[j]).k.good):=by intro j J;exact a2.o.good _ (by rw [<-N];exact Qp J)
   have C:Ai w1 a4 t g v ((L.take 0).foldl f (grown T)) ((0:Nat):Int):=⟨_,_,by rw [List.take_zero,List.foldl_nil,hG.o];exact hF.o.1,hF.o.2.1,hF.o.2.2⟩;have q:Hid (∀(wr:World),Touch (Blk t g v) w1 wr->wr.ownsRow w.heap.size 34 4 (.slice p L.length c) L.length (rcs L)):=λwr ht=>Touch.own D.o ht λj J hk=>by have h1:=(D.o.lt j J).1;have h2:=aq.o j hk;omega
   have aa:=hid N;clear N hF hG a3 a2 D;generalize S:grown T=O at *
   have a8:=hid S;clear S;go_wp2;go_loopw [4,25] (λs4 i wr=>∃(j:Nat),j<=L.length/\i = .int .i64 (j:Int)/\Hid (Ai w1 wr t g v ((L.take j).foldl f O) (j:Int))) (λ_ i _=>L.length-(intOf i).toNat)
   case atStart=>exact ⟨0,Qa,rfl,C⟩
   case round=>
    clear C;obtain ⟨j,J,rfl,HQ⟩:=hrel;by_cases F:j<L.length
    ·obtain ⟨g1,v1,hC,hT,hS⟩:=HQ.o;have HC:=hid hC;have HT:=hid hT;have HS:=hid hS;obtain ⟨gr,o,rfl,ax,r0,r1,r2,r3⟩:=(Row.of_own (q.o wr hT)).rt F;have i1:(0:Int)<=(j:Int):=Qa;have i2:(j:Int)<(L.length:Int):=Qa;have Y:=hid (Z.o j F);have l:=hid (y.o j Qa);have a1:=hid (y.o (j+1) Qa);have a9:=hid (Jy f L O j F);clear hC hT hS Z y q;generalize L[j]=r at *
     go_wp2_with fail;refine (an.o g1 v1 ((L.take j).foldl f O) r _ (by rw [l.o.2.1];exact HC.o.below Qg) l.o.1 Y.o (by rw [l.o.2.1];omega) (Qw am l.o.2.2)).mono ?_;rintro e w2 ⟨rfl,R⟩;have ab:Hid (Ai w1 w2 t g v ((L.take (j+1)).foldl f O) ((j+1:Nat):Int)):=by have h:=Ai.trans (HT.o.trans (Touch.quiet Qg)) HS.o R;rw [<-a9.o,a1.o.2.1] at h;exact h
     clear R;go_wp2;go_roundw
     case rel=>exact ⟨j+1,Qa,Qj,ab⟩
     case measure=>simp [intOf];omega
    ·have a6:j=L.length:=Qa;have HE:Hid (Ai w1 wr t g v (L.foldl f O) ((Ab (L.foldl f O)).length:Int)):=by have h1:=(y.o j J).2.1;have h2:=HQ.o;rw [a6,List.take_length] at h1 h2;rw [h1];exact h2
     go_wp2;go_end0;rw [a8.o,<-aa.o];exact ⟨rfl,Ai.trans (Touch.quiet ad.o) (λ_ h _=>h) HE.o⟩
theorem Vv (d:Nat) (t g:Nat) (v:Value) (T:Tab) (r:Rt) (w:World) (H:CT w t g v T ((Ab T).length:Int)) (f:Inv T) (n:r.k.good) (L:(Ab T).length<262144)
 (S:∀F E w1,grows (stay T r)=true->CT w1 t F E (stay T r).1 ((Ab (stay T r).1).length:Int)->Calls prog 126 #[.pointer (some ⟨t,0,none⟩)] w1 λe w'=>e = .returned (.tuple #[])/\Ai w1 w' t F E (putF d T r) ((Ab (putF d T r)).length:Int)) :
 Calls prog 100 #[.pointer (some ⟨t,0,none⟩),kyV r.k,.int .i64 r.v] w λe w'=>e = .returned (.tuple #[])/\Ai w w' t g v (putF d T r) ((Ab (putF d T r)).length:Int):=by
 have N:=I8 T;have m:∀{b},(stay T r).2=b->b=false->grows (stay T r)=false:=λh z=>by unfold grows;rw [h,z];rfl
 cases i:A3 T r with
 | some T'=>have a:=Z1m i;have j:=G4 d (m (by rw [a]) rfl);have l:=Sd f n (by rw [i];simp);rw [a] at j l;rw [j,l];exact Z5o t g v T T' _ r w H f.num n f.sort Qa i
 | none=>
  have x:=Zv0 f n i;have l:=Se f n i;cases s:putC (T.bk (T.x1 r.k)) r.k r.v with
  | some C=>
   have hF:fresh T r=(T.set (T.x1 r.k) C,none):=by unfold fresh;rw [s]
   have a:=Me i (by rw [hF]);have j:=G4 d (m (by rw [a]) rfl);rw [a,hF] at j l;rw [j,l];exact Zxv t g v T _ r C w H f.num n f.sort Qa Qa Qa i s
  | none=>
   cases D:putC (T.bk (T.x2 r.k)) r.k r.v with
   | some C=>
    have hF:fresh T r=(T.set (T.x2 r.k) C,none):=by unfold fresh;rw [s];simp only [D]
    have a:=Me i (by rw [hF]);have j:=G4 d (m (by rw [a]) rfl);rw [a,hF] at j l;rw [j,l];exact Zu8 t g v T _ r C w H f.num n f.sort Qa Qa Qa i s D
   | none=>
    have hF:fresh T r=Ba 16 0 T (T.x2 r.k) r:=by unfold fresh;rw [s];simp only [D]
    obtain ⟨p,o,J⟩:∃p o,Ba 16 0 T (T.x2 r.k) r=(p,o):=⟨_,_,rfl⟩;rw [J] at hF;cases o with
    | none=>have a:=Me i (by rw [hF]);have j:=G4 d (m (by rw [a]) rfl);rw [a,hF] at j l;rw [j,l];exact Zva t g v T p _ r w H f.num f.goodT n f.sort Qa Qa Qa i s D J
    | some q=>
     rw [hF] at x;have a:=Zw4 i (by rw [hF]:(fresh T r).2=some q);rw [hF] at a;have O:=Zrq (x.2.2.2 q rfl).2;have K:p.st.length=T.st.length:=x.2.2.1;have y:grows (stay T r)=(decide (8<(stay T r).1.st.length)&&decide ((stay T r).1.B.length<65536)):=by unfold grows;rw [a];rfl
     have A:(stay T r).1={ p with st:=Ak p.st q }:=by rw [a]
     have R:(stay T r).1.B.length=p.B.length:=by rw [A]
     refine (Z13 t g v T p (stay T r).1 (putF d T r) _ ((Ab (putF d T r)).length:Int) r q w H f.num f.goodT n f.sort Qa Qa Qa i s D J x.1.sort Qa O A x.1.hi ?_).mono ?_
     ·intro F E w1 U Q z;refine S F E w1 (by rw [y,decide_eq_true Q,decide_eq_true z];rfl) (by rw [l];exact U)
     ·rintro e w' ⟨rfl,u,I⟩;refine ⟨rfl,?_⟩;by_cases c:8<(stay T r).1.st.length/\(stay T r).1.B.length<65536
      ·exact u c
      ·have j:=G4 d (T:=T) (r:=r) (by
        rw [y]
        by_cases ha:8<(stay T r).1.st.length
        ·rw [decide_eq_false (λz=>c ⟨ha,z⟩),Bool.and_false]
        ·rw [decide_eq_false ha,Bool.false_and])
       rw [j,l];exact I c
theorem Vw:∀(d:Nat) (t g:Nat) (v:Value) (T:Tab) (r:Rt) (w:World),CT w t g v T ((Ab T).length:Int)->Inv T->r.k.good->(Ab T).length<262144->65536<=T.B.length*2^d ->
 Calls prog 100 #[.pointer (some ⟨t,0,none⟩),kyV r.k,.int .i64 r.v] w λe w'=>e = .returned (.tuple #[])/\Ai w w' t g v (putF d T r) ((Ab (putF d T r)).length:Int)
 | 0,t,g,v,T,r,w,H,c,b,a,hd=>Vv 0 t g v T r w H c b a λu p w1 f _=>by have s:=(Fv c r b).like.n;unfold grows at f;simp only [Qq,decide_eq_true_eq] at f;omega
 | d+1,t,g,v,T,r,w,H,c,b,a,hd=>Vv (d+1) t g v T r w H c b a λu p w1 f I=>by
  have l:=Fv c r b;have s:=l.like.n;have A:=Lu l.inv;have j:(Ab (stay T r).1).length<=262144:=by
   by_cases q:A3 T r=none
   ·rw [Se c b q];omega
   ·rw [Sd c b q];omega
  have z:65536<=(grown (stay T r).1).B.length*2^d:=by
   have J:1<=2^d:=Nat.one_le_two_pow;rw [A.2];by_cases C:2*(stay T r).1.B.length<=65536
   ·rw [Nat.min_eq_left C,s];rw [Nat.pow_succ] at hd;have:2*T.B.length*2^d=T.B.length*(2^d*2):=by rw [Nat.mul_comm 2,Nat.mul_assoc,Nat.mul_comm 2]
    omega
   ·rw [Nat.min_eq_right Qa];omega
  rw [Zxx d f];exact Zzk (putF d) _ (λT r H f=>Lw d T r H f) t u p (stay T r).1 _ w1 I l.inv j (Qn _) λD x E y w2 F o h i m=>Vw d t D x E y w2 F o h i (Qw z (Nat.mul_le_mul_right _ m))
def Seat (P:Nat->Prop) (w:World) (t:Nat) (T:Tab):Prop:=∃g v,CT w t g v T ((Ab T).length:Int)/\∀k,Blk t g v k->P k
theorem Seat.below {P:Nat->Prop} {w w':World} {t:Nat} {T:Tab} (H:Seat P w t T) (b:Below w.heap.size w w'):Seat P w' t T:=by obtain ⟨g,v,h,a⟩:=H;exact ⟨g,v,h.below b,a⟩
theorem Seat.lt {P:Nat->Prop} {w:World} {t:Nat} {T:Tab} (H:Seat P w t T):t<w.heap.size:=by obtain ⟨g,v,h,a⟩:=H;exact h.tb.tlt
theorem Seat.touched {P S:Nat->Prop} {w w':World} {t:Nat} {T:Tab} (H:Seat P w t T) (b:Touch S w w') (c:∀k,P k->¬S k):Seat P w' t T:=by obtain ⟨g,v,h,a⟩:=H;exact ⟨g,v,h.touched b (λk d=>c k (a k d)),a⟩
theorem Seat.mono {P Q:Nat->Prop} {w:World} {t:Nat} {T:Tab} (H:Seat P w t T) (h:∀k,k<w.heap.size->P k->Q k):Seat Q w t T:=by obtain ⟨g,v,b,c⟩:=H;exact ⟨g,v,b,λk a=>h k (b.tb.blk k a) (c k a)⟩
theorem Seat.new (s n:Nat) (w:World) (h:1<=n) (f:n<=65536) :
 Calls prog 49 #[.int .u64 (s:Int),.int .i64 (n:Int)] w λe w'=>∃t,e = .returned (.tuple #[.pointer (some ⟨t,0,none⟩),.int .i64 0])/\Seat (λk=>w.heap.size<=k) w' t (A2 s n)/\Below w.heap.size w w':=by
 refine (Z3w s n w h f).mono ?_;rintro e w' ⟨t,rfl,g,H,d,a,c⟩;refine ⟨t,rfl,⟨g,_,by rw [Ek];exact H,λk b => ?_⟩,d⟩;rcases b with e | e | e
 ·show _<=k;rw [e];exact a
 ·show _<=k;rw [e];exact c
 ·simp [Value.ownBlock] at e
theorem Seat.put {P:Nat->Prop} (t:Nat) (T:Tab) (r:Rt) (w:World) (H:Seat P w t T) (f:Inv T) (c:r.k.good) (a:(Ab T).length<262144) (m:∀k,w.heap.size<=k->P k) :
 Calls prog 100 #[.pointer (some ⟨t,0,none⟩),kyV r.k,.int .i64 r.v] w λe w'=>e = .returned (.tuple #[])/\Seat P w' t (putF 16 T r)/\Touch P w w':=by
 obtain ⟨g,v,h,d⟩:=H;have l:=f.lo;refine (Vw 16 t g v T r w h f c a Qa).mono ?_;rintro e w' ⟨rfl,o,v',n,i,j⟩;refine ⟨rfl,⟨o,v',n,λk b => ?_⟩,i.mono λk _ c=>d k c⟩;by_cases e:k<w.heap.size
 ·exact d k (j k b e)
 ·exact m k Qa
theorem Seat.get {P:Nat->Prop} (t:Nat) (T:Tab) (k:Ky) (w:World) (H:Seat P w t T) (b:Inv T) (d:k.good) (a:(Ab T).length<262144) :
 Calls prog 99 #[.pointer (some ⟨t,0,none⟩),kyV k] w λe w'=>∃p c,e = .returned (.tuple #[.int .i64 ((getT T k).getD 0),.bool (getT T k).isSome,.slice p (Dj T k).length c])/\w'.ownsRow w.heap.size 3 1 (.slice p (Dj T k).length c) (Dj T k).length (ics (Dj T k))/\Below w.heap.size w w':=by
 obtain ⟨g,v,h,f⟩:=H;have:=I8 T;exact Zzn t g v T _ k w h b.num d b.sort Qa
end
section
open Go.ChangeShapes Go.WideShapes Go.ChangeAt Go.RowKit Go.Joins Go.Deep M
section
variable {H:Type} {enc:TypeId×Value->H} {w:World} {base:Nat} {spare:Nat->Bool} {held:Bool} {r:Reach} {b0:Nat}
end
end
section
open Go.RowKit Go.Sort M
theorem Tb.low {K:World->Nat->Nat->List Pl->Prop} (f:BK K) {a b:World} {t g lim:Nat} {v:Value} {T:Tab} (H:Tb K a t g v T) (d:∀k,Blk t g v k->k<lim) (c:Below lim a b):Tb K b t g v T:=H.blocks f c.size λk e=>c.block k (d k e)
end
end Go.Proofs.YtpdphfgpdgadpaaGreat
