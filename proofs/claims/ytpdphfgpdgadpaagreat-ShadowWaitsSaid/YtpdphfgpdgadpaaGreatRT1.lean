import Derived.Test.YtpdphfgpdgadpaaGreatTouch
import Derived.Test.YtpdphfgpdgadpaaGreatM14b
import Derived.Test.YtpdphfgpdgadpaaGreatW6d
set_option linter.unusedSimpArgs false
set_option linter.unusedVariables false
set_option maxHeartbeats 1000000
set_option maxRecDepth 100000
open Go.Proofs.Tryz
namespace Go.Proofs.YtpdphfgpdgadpaaGreat
open Lib(hid)
open Go.RowKit Go.Sort M
structure FilB (w:World) (lo hi f g1 h1 g2 h2 s:Nat) (k:Int) (C:List Nat) (D:List Bool):Prop where
 c0:w.cell? ⟨f,0,none⟩=some (.int .u64 (s:Int))
 c1:w.cell? ⟨f,1,none⟩=some (.int .i64 k)
 c2:w.cell? ⟨f,2,none⟩=some (.pointer (some ⟨g1,0,none⟩))
 c3:w.cell? ⟨f,3,none⟩=some (.pointer (some ⟨g2,0,none⟩))
 cs:Nib w lo g1 h1 C
 bs:Bts w lo g2 h2 D
 len:D.length=C.length
 top:hi<=w.heap.size
 fin:lo<=f/\f<hi
 in1:g1<hi/\h1<hi
 in2:g2<hi/\h2<hi
 ap1:f≠h1/\g2≠h1/\h2≠h1
 ap2:f≠h2/\g1≠h2/\h1≠h2
 ws:W64 s
def Fil (w:World) (lo hi f s:Nat) (k:Int) (C:List Nat):Prop:=∃g1 h1 g2 h2,FilB w lo hi f g1 h1 g2 h2 s k C (onsC C)
section
variable {w w':World} {lo hi f g1 h1 g2 h2 s:Nat} {k:Int} {C:List Nat} {D:List Bool} {S:Nat->Prop}
theorem FilB.touched (H:FilB w lo hi f g1 h1 g2 h2 s k C D) (b:Touch S w w') (a:∀j,lo<=j->j<hi->¬S j):FilB w' lo hi f g1 h1 g2 h2 s k C D:=
 ⟨b.cell H.c0 (a _ H.fin.1 H.fin.2),b.cell H.c1 (a _ H.fin.1 H.fin.2),b.cell H.c2 (a _ H.fin.1 H.fin.2),b.cell H.c3 (a _ H.fin.1 H.fin.2),
  H.cs.touched b (a _ H.cs.low H.in1.1) (a _ H.cs.low2.1 H.in1.2),H.bs.touched b (a _ H.bs.low H.in2.1) (a _ H.bs.low2.1 H.in2.2),H.len,Qw H.top b.size,H.fin,H.in1,H.in2,H.ap1,H.ap2,H.ws⟩
theorem Fil.touched (H:Fil w lo hi f s k C) (a:Touch S w w') (b:∀j,lo<=j->j<hi->¬S j):Fil w' lo hi f s k C:=by obtain ⟨g1,h1,g2,h2,H⟩:=H;exact ⟨g1,h1,g2,h2,H.touched a b⟩
theorem FilB.below (H:FilB w lo hi f g1 h1 g2 h2 s k C D) (a:Below w.heap.size w w'):FilB w' lo hi f g1 h1 g2 h2 s k C D:=H.touched (S:=λ_=>False) (Touch.quiet a) (λ_ _ _ h=>h)
theorem Fil.below (H:Fil w lo hi f s k C) (a:Below w.heap.size w w'):Fil w' lo hi f s k C:=H.touched (S:=λ_=>False) (Touch.quiet a) (λ_ _ _ h=>h)
theorem FilB.lt (H:FilB w lo hi f g1 h1 g2 h2 s k C D):f<w.heap.size:=Qm H.fin.2 H.top
theorem FilB.turnC (H:FilB w lo hi f g1 h1 g2 h2 s k C D) {c:List Nat} (h:Nib w' lo g1 h1 c) (d:c.length=C.length) (a:w.grownBy w' (some h1)):FilB w' lo hi f g1 h1 g2 h2 s k c D/\Touch (In lo hi) w w':=by
 obtain ⟨b,l,i⟩:=H.ap1;exact ⟨⟨a.cell H.c0 (by simpa using b),a.cell H.c1 (by simpa using b),a.cell H.c2 (by simpa using b),a.cell H.c3 (by simpa using b),h,H.bs.kept a (by simpa using l) (by simpa using i),H.len.trans d.symm,Qw H.top a.size,H.fin,H.in1,H.in2,H.ap1,H.ap2,H.ws⟩,
  Touch.of_grown a (λj e=>by cases e;exact ⟨H.cs.low2.1,H.in1.2⟩)⟩
theorem FilB.turnD (H:FilB w lo hi f g1 h1 g2 h2 s k C D) {c:List Bool} (h:Bts w' lo g2 h2 c) (d:c.length=D.length) (a:w.grownBy w' (some h2)):FilB w' lo hi f g1 h1 g2 h2 s k C c/\Touch (In lo hi) w w':=by
 obtain ⟨b,l,i⟩:=H.ap2;exact ⟨⟨a.cell H.c0 (by simpa using b),a.cell H.c1 (by simpa using b),a.cell H.c2 (by simpa using b),a.cell H.c3 (by simpa using b),H.cs.kept a (by simpa using l) (by simpa using i),h,d.trans H.len,Qw H.top a.size,H.fin,H.in1,H.in2,H.ap1,H.ap2,H.ws⟩,
  Touch.of_grown a (λj e=>by cases e;exact ⟨H.bs.low2.1,H.in2.2⟩)⟩
end
theorem Z3e (lo hi f s:Nat) (k:Int) (C:List Nat) (w:World) (H:Fil w lo hi f s k C) :
 Calls prog 139 #[.pointer (some ⟨f,0,none⟩)] w λe w'=>e = .returned (.int .i64 (C.length:Int))/\Below w.heap.size w w':=by
 obtain ⟨g1,h1,g2,h2,H⟩:=H;have c3:=H.c3;have b:=hid (Rw lo g2 h2 (onsC C) w H.bs);rw [L6] at b;have d:=H.lt;clear H;go_enter func139,ntmps139;go_wp2_with fail;refine b.o.mono ?_;rintro e c ⟨rfl,a⟩;go_wp2;go_ret;exact ⟨rfl,a⟩
def plc (s h l:Nat) (n k:Int) (m:Nat):List Int:=En (Be s h l (Av n)) k m
theorem Vh (s h l:Nat) (n k:Int) (m:Nat):(plc s h l n k m).length<=16:=by
 unfold plc En;split
 ·simp
 ·rw [G2];omega
theorem Z71 (s h l:Nat) (n k:Int) (m:Nat) (i:Nat) (hi:i<(plc s h l n k m).length):0<=(plc s h l n k m)[i]/\(plc s h l n k m)[i]<(m:Int):=by
 have a:=Qp hi;generalize (plc s h l n k m)[i]=x at a;unfold plc En at a;split at a
 ·simp at a
 ·unfold C2 at a;rw [List.mem_map] at a;obtain ⟨j,-,rfl⟩:=a;exact ⟨Zmn _ _ _,Zx3 _ _ _ Qa⟩
theorem Vi (lo hi f s:Nat) (k:Int) (C:List Nat) (h l:Nat) (n:Int) (w:World) (H:Fil w lo hi f s k C) (y:W64 h) (x:W64 l) :
 Calls prog 116 #[.pointer (some ⟨f,0,none⟩),.agg #[.int .u64 h,.int .u64 l,.int .i64 n]] w λe w'=>∃p c,e = .returned (.slice p (plc s h l n k C.length).length c) /\
  w'.ownsRow w.heap.size 3 1 (.slice p (plc s h l n k C.length).length c) (plc s h l n k C.length).length (ics (plc s h l n k C.length))/\Below w.heap.size w w':=by
 have m:C.length<=65536:=by obtain ⟨g1,h1,g2,h2,H⟩:=H;exact H.cs.len
 have t:Hid (∀w,Fil w lo hi f s k C->Calls prog 139 #[.pointer (some ⟨f,0,none⟩)] w λe w'=>e = .returned (.int .i64 (C.length:Int))/\Below w.heap.size w w'):=hid (λw H=>Z3e lo hi f s k C w H);have u:=hid H;obtain ⟨g1,h1,g2,h2,H⟩:=H;have I:=H.c0;have F:=H.c1;have E:=H.lt;have r:=Zvd s h l n k C.length H.ws y x Qa;change Pw _ _ (plc s h l n k C.length) at r;generalize plc s h l n k C.length=L at *
 have D:=hid r;clear H r m;go_enter func116,ntmps116;go_wp2_with fail;have z:=Ad;refine A1 11 Qb Qb ?_;simp only [List.take_succ_cons,List.take_zero,List.drop_succ_cons,List.drop_zero];repeat (any_goals (first|go_big_quiet_step ((exact Calls.regrown_of (t.o _ (u.o.below (Below.trans (b:=w.alloc _) Qg ((below_regrown _ _ _).mono Qf))))))|quiet_step ((exact Calls.regrown_of (t.o _ (u.o.below (Below.trans (b:=w.alloc _) Qg ((below_regrown _ _ _).mono Qf))))))))
 refine wpQuiet_nil ?_;clear z;intro w1 j;obtain ⟨B,A⟩:=Ac j;have a:Below w.heap.size w w1:=by
  refine Below.trans ?_ (j.mono ?_)
  ·go_grown
  ·first|omega|go_size
 go_wp2_with fail;refine (D.o _).mono ?_;rintro e w2 ⟨p,c,rfl,d,o⟩;have q:=a.trans (o.mono a.size);have i:=A7 d a.size;clear d o a j;go_wp2;go_ret;exact ⟨p,c,rfl,i,q⟩
structure Num (T:Tab):Prop where
 lo:1<=T.B.length
 hi:T.B.length<=65536
 word:W64 T.s
theorem Inv.num {T:Tab} (H:Inv T):Num T:=⟨H.lo,H.hi,H.word⟩
theorem Num.x1_lt {T:Tab} (H:Num T) (k:Ky):T.x1 k<T.B.length:=P0 H.lo
theorem Num.x2_lt {T:Tab} (H:Num T) (k:Ky):T.x2 k<T.B.length:=P1 H.lo
theorem Num.set {T:Tab} (H:Num T) (i:Nat) (C:List Pl):Num (T.set i C):=⟨by rw [Cn];exact H.lo,by rw [Cn];exact H.hi,H.word⟩
theorem Ct (t g:Nat) (v:Value) (T:Tab) (m:Int) (w:World) (H:CT w t g v T m) (h:Num T) :
 Calls prog 112 #[.pointer (some ⟨t,0,none⟩)] w λe w'=>e = .returned (.bool false)/\Below w.heap.size w w':=by
 have c:=H.tb.c1;have b:=H.tb.tlt;have h1:=h.lo;generalize T.B.length=n at *
 have a:((n:Int) == 0)=false:=Qe;clear H h;go_enter func112,ntmps112;go_wp2;go_ret;exact ⟨rfl,Qg⟩
theorem Ci (t g:Nat) (v:Value) (T:Tab) (m:Int) (k:Ky) (w:World) (H:CT w t g v T m) (h:Num T) (d:k.good) :
 Calls prog 113 #[.pointer (some ⟨t,0,none⟩),kyV k] w λe w'=>e = .returned (.tuple #[.int .i64 (T.x1 k:Int),.int .i64 (T.x2 k:Int)])/\Below w.heap.size w w':=by
 have r:=H.tb.c0;have q:=H.tb.c1;have p:=H.tb.tlt;have b:=Z30 T.s k.h k.l k.n (T.B.length:Int) h.word d.1 d.2 (by have:=h.hi;omega);rw [Z8u h.lo,Z8s h.lo] at b;change Aj _ _ _ (.tuple #[.int .i64 (T.x1 k:Int),.int .i64 (T.x2 k:Int)]) at b;have f:=hid b;generalize T.x1 k=x1 at *
 generalize T.x2 k=x2 at *
 clear H h b;unfold kyV;go_enter func113,ntmps113;go_wp2_with fail;have i:=Ad;refine Am Qb Qb ?_;repeat (any_goals (first|go_big_quiet_step ((exact f.o.at _ _ _))|quiet_step ((exact f.o.at _ _ _))))
 refine wpQuiet_nil ?_;clear i;intro w1 a;obtain ⟨o,j⟩:=Ac a;have c:Below w.heap.size w w1:=by
  refine Below.trans ?_ (a.mono ?_)
  ·go_grown
  ·first|omega|go_size
 go_wp2;go_ret2;exact ⟨rfl,c⟩
theorem Vj (t g:Nat) (v:Value) (T:Tab) (m:Int) (k:Ky) (b:Nat) (w:World) (H:CT w t g v T m) (h:Num T) (n:k.good) :
 Calls prog 146 #[.pointer (some ⟨t,0,none⟩),kyV k,.int .i64 (b:Int)] w λe w'=>e = .returned (.int .i64 (T.other k b:Int))/\Below w.heap.size w w':=by
 have j:=hid (λw H=>Ci t g v T m k w H h n);have l:=hid H;have f:Hid (T.other k b=if b=T.x1 k then T.x2 k else T.x1 k):=rfl;generalize T.x1 k=x1 at *
 generalize T.x2 k=x2 at *
 generalize T.other k b=o at *
 clear H h;unfold kyV at *
 by_cases i:b=x1
 ·subst i;have d:=f.o;rw [if_pos rfl] at d;subst d;clear f;go_enter func146,ntmps146;go_wp2_with fail;refine (j.o _ (l.o.below Qg)).mono ?_;rintro e w1 ⟨rfl,a⟩;have c:Below w.heap.size w w1:=Below.trans Qg (a.mono Qh);clear a;go_wp2;go_ret;exact ⟨rfl,c⟩
 ·have d:=f.o;rw [if_neg i] at d;subst d;have p:((b:Int) == (o:Int))=false:=Qe;clear f i;go_enter func146,ntmps146;go_wp2_with fail;refine (j.o _ (l.o.below Qg)).mono ?_;rintro e w1 ⟨rfl,a⟩;have c:Below w.heap.size w w1:=Below.trans Qg (a.mono Qh);clear a;go_wp2;go_ret;exact ⟨rfl,c⟩
theorem Np (F:Nat) (p q:Value) (n b:Nat) (o:b<=n) (t:n<4611686018427387904) (w:World) (u:∀args w,(callFunc F args).run prog w = .ok (.enter F args) w)
 (l:∀f (i:Nat),Below w.heap.size w f->i<n->Calls prog F #[.int .i64 (i:Int),p,q] f λe w'=>e = .returned (.bool (decide (b<=i)))/\Below f.heap.size f w') :
 Calls prog 72 #[.int .i64 (n:Int),.func (.func F) #[] #[p,q]] w λe w'=>e = .returned (.int .i64 (b:Int))/\Below w.heap.size w w':=by
 have s:=hid l;clear l;go_enter func72,ntmps72;go_wp2;go_loopw [5,6] (λj h wr=>∃(lo hi:Nat),j = .int .i64 (lo:Int)/\h = .int .i64 (hi:Int)/\lo<=b/\b<=hi/\hi<=n/\Below w.heap.size w wr) (λj h _=>(intOf h).toNat-(intOf j).toNat)
 case atStart=>exact ⟨0,n,rfl,rfl,Nat.zero_le _,o,Qn _,Qg⟩
 case round=>
  obtain ⟨lo,hi,rfl,rfl,h1,h2,r,c⟩:=hrel;by_cases m:lo<hi
  ·have d:=s.o wr ((lo+hi)/2) c Qa;rw [show (((lo+hi)/2:Nat):Int)=((lo:Int)+(hi:Int))/2 by omega] at d;by_cases k:b<=(lo+hi)/2
   ·rw [decide_eq_true k] at d;go_wp2_with (go_at_fn F;refine d.mono ?_;rintro e w1 ⟨rfl,a⟩);go_roundw
    case rel=>exact ⟨lo,(lo+hi)/2,rfl,by rw [show ((lo:Int)+(hi:Int))/2=(((lo+hi)/2:Nat):Int) by omega],h1,k,Qa,c.trans (a.mono c.size)⟩
    case measure=>simp [intOf];omega
   ·rw [decide_eq_false k] at d;go_wp2_with (go_at_fn F;refine d.mono ?_;rintro e w1 ⟨rfl,a⟩);go_roundw
    case rel=>exact ⟨(lo+hi)/2+1,hi,by rw [show ((lo:Int)+(hi:Int))/2+1=(((lo+hi)/2+1:Nat):Int) by omega],rfl,Qa,h2,r,c.trans (a.mono c.size)⟩
    case measure=>simp [intOf];omega
  ·obtain rfl:lo=b:=Qa;go_wp2;go_ret;exact ⟨rfl,c⟩
theorem Z1e (t g:Nat) (v:Value) (T:Tab) (m:Int) (k:Ky) (f b1 i:Nat) (w:World) (H:CT w t g v T m) (j:Sorted T.st) (hi:i<T.st.length) (D:f<w.heap.size) (C:b1<w.heap.size)
 (E:w.cell? ⟨f,0,none⟩=some (.pointer (some ⟨t,0,none⟩))) (L:w.cell? ⟨b1,0,none⟩=some (.int .u64 (k.h:Int))) (d1:w.cell? ⟨b1,1,none⟩=some (.int .u64 (k.l:Int))) (d2:w.cell? ⟨b1,2,none⟩=some (.int .i64 k.n)) :
 Calls prog 147 #[.int .i64 (i:Int),.pointer (some ⟨f,0,none⟩),.pointer (some ⟨b1,0,none⟩)] w λe w'=>e = .returned (.bool (decide (bh T.st k<=i)))/\Below w.heap.size w w':=by
 have J:=H.tb.tlt;obtain ⟨p,c,rfl⟩:=Aq H.tb.own;have c2:=H.tb.c2;obtain ⟨K,o,rfl,s,r0,A,z,-⟩:=(Row.of_own H.tb.own).rt hi;have y:=Mb T.st k j i hi;have b:=Hq T.st[i].k.h T.st[i].k.l T.st[i].k.n k.h k.l k.n;change Aj _ _ _ (.bool (An T.st[i].k k)) at b;have b:=hid b;have I:(0:Int)<=(i:Int):=Qa;have F:(i:Int)<(T.st.length:Int):=Qa;generalize An T.st[i].k k=B at *
 generalize decide (bh T.st k<=i)=ds at *
 subst y;generalize T.st[i].k=q at *
 generalize T.st.length=n at *
 clear H j;go_enter func147,ntmps147;go_wp2_with fail;have r:=Ad;refine Am Qb Qb ?_;repeat (any_goals (first|go_big_quiet_step ((exact b.o.at _ _ _))|quiet_step ((exact b.o.at _ _ _))))
 refine wpQuiet_nil ?_;clear r;intro w1 a;obtain ⟨x,u⟩:=Ac a;have d:Below w.heap.size w w1:=by
  refine Below.trans ?_ (a.mono ?_)
  ·go_grown
  ·first|omega|go_size
 go_wp2;go_ret;exact ⟨rfl,d⟩
theorem Vk (t g:Nat) (v:Value) (T:Tab) (m:Int) (k:Ky) (w:World) (H:CT w t g v T m) (j:Sorted T.st) (E:T.st.length<1048576) :
 Calls prog 125 #[.pointer (some ⟨t,0,none⟩),kyV k] w λe w'=>e = .returned (.int .i64 (bh T.st k:Int))/\Below w.heap.size w w':=by
 have B:=hid H;have D:=H.tb.tlt;obtain ⟨p,c,rfl⟩:=Aq H.tb.own;have c2:=H.tb.c2;have s:=enters_of func147 Qb rfl;have q:∀W,Below w.heap.size w W->W.heap.size=w.heap.size+2->W.cell? ⟨w.heap.size,0,none⟩=some (.pointer (some ⟨t,0,none⟩))->W.cell? ⟨w.heap.size+1,0,none⟩=some (.int .u64 (k.h:Int))->W.cell? ⟨w.heap.size+1,1,none⟩=some (.int .u64 (k.l:Int))->W.cell? ⟨w.heap.size+1,2,none⟩=some (.int .i64 k.n) ->
  Calls prog 72 #[.int .i64 (T.st.length:Int),.func (.func 147) #[] #[.pointer (some ⟨w.heap.size,0,none⟩),.pointer (some ⟨w.heap.size+1,0,none⟩)]] W λe w'=>e = .returned (.int .i64 (bh T.st k:Int))/\Below W.heap.size W w':=by
  intro W o C z y x u;refine Np _ _ _ _ _ (Eo T.st k) Qa W s λr i a hi => ?_;refine Z1e t g _ T m k w.heap.size (w.heap.size+1) i r (B.o.below (o.trans (a.mono o.size))) j hi (by have:=a.size;omega) (by have:=a.size;omega) ?_ ?_ ?_ ?_
  ·exact (a.cell (p:=⟨w.heap.size,0,none⟩) (by show w.heap.size<_;omega)).trans z
  ·exact (a.cell (p:=⟨w.heap.size+1,0,none⟩) (by show w.heap.size+1<_;omega)).trans y
  ·exact (a.cell (p:=⟨w.heap.size+1,1,none⟩) (by show w.heap.size+1<_;omega)).trans x
  ·exact (a.cell (p:=⟨w.heap.size+1,2,none⟩) (by show w.heap.size+1<_;omega)).trans u
 have A:=hid q;generalize bh T.st k=b at *
 generalize T.st.length=n at *
 clear H j q;unfold kyV;go_enter func125,ntmps125;go_wp2_with fail;refine (A.o _ Qg Qf Qi Qi Qi Qi).mono ?_;rintro e w1 ⟨rfl,d⟩;have f:Below w.heap.size w w1:=Below.trans Qg (d.mono Qh);clear d;go_wp2;go_ret;exact ⟨rfl,f⟩
theorem neqK (a b:Nat) (n:Int) (c d:Nat) (m:Int) (w:World):(binOp .neq 32 (.agg #[.int .u64 a,.int .u64 b,.int .i64 n]) (.agg #[.int .u64 c,.int .u64 d,.int .i64 m])).run prog w =
 .ok (.bool (!decide (a=c/\b=d/\n=m))) w:=by
 have f:decide (a=c/\b=d/\n=m)=(decide ((a:Int)=c)&&(decide ((b:Int)=d)&&decide (n=m))):=by rw [<-Bool.decide_and,<-Bool.decide_and,decide_eq_decide];omega
 rw [f];by_cases h1:(a:Int)=c<;>by_cases h2:(b:Int)=d<;>by_cases e:n=m<;>simp [go_sem,h1,h2,e]
theorem Vl (a b:Ky):(a.h=b.h/\a.l=b.l/\a.n=b.n)↔a=b:=by cases a;cases b;simp
theorem Fb (t g:Nat) (v:Value) (T:Tab) (m:Int) (k:Ky) (w:World) (H:CT w t g v T m) (s:Sorted T.st) (Y:T.st.length<1048576) :
 Calls prog 121 #[.pointer (some ⟨t,0,none⟩),kyV k] w λe w'=>e = .returned (.int .i64 (stI T.st k))/\Below w.heap.size w w':=by
 have S:=hid H;have y:=H.tb.tlt;obtain ⟨p,c,rfl⟩:=Aq H.tb.own;have c2:=H.tb.c2;have Q:=hid (λw (H:CT w t g (.slice p T.st.length c) T m)=>Vk t g _ T m k w H s Y);have x:=Eo T.st k;have r:=D6 T.st k s;by_cases L:bh T.st k<T.st.length
 ·obtain ⟨A,o,rfl,j,r0,O,N,-⟩:=(Row.of_own H.tb.own).rt L;have U:=neqK T.st[bh T.st k].k.h T.st[bh T.st k].k.l T.st[bh T.st k].k.n k.h k.l k.n;have R:((bh T.st k:Int) == (T.st.length:Int))=false:=Qe;have i1:(0:Int)<=(bh T.st k:Int):=Qa;have i2:(bh T.st k:Int)<(T.st.length:Int):=Qa;by_cases z:T.st[bh T.st k].k=k
  ·have u:stI T.st k=(bh T.st k:Int):=by
    cases e:Al T.st k with
    | none=>exact absurd z (r.2 e L)
    | some i=>rw [I6 e,(r.1 i e).1]
   rw [decide_eq_true ((Vl _ _).2 z)] at U;rw [u];clear H s r z u x;generalize T.st[bh T.st k].k=q at *
   generalize bh T.st k=b at *
   generalize T.st.length=n at *
   clear L;unfold kyV at *
   go_enter func121,ntmps121;go_wp2_with fail;refine (Q.o _ (S.o.below Qg)).mono ?_;rintro e w1 ⟨rfl,d⟩;have a:Below w.heap.size w w1:=Below.trans Qg (d.mono Qh);have Z:w1.cell? ⟨w.heap.size,0,none⟩=some (.int .u64 (k.h:Int)):=by rw [d.cell Qc];exact Ql
   have d1:w1.cell? ⟨w.heap.size,1,none⟩=some (.int .u64 (k.l:Int)):=by rw [d.cell Qc];exact Ql
   have d2:w1.cell? ⟨w.heap.size,2,none⟩=some (.int .i64 k.n):=by rw [d.cell Qc];exact Ql
   have C:w.heap.size<w1.heap.size:=by
    have s:=d.size;try simp only [World.size_alloc,World.size_setCell] at s
    omega
   have c2:=(a.cell (p:=⟨t,2,none⟩) y).trans c2;have r0:=(a.cell (p:=⟨A,o+b*4,none⟩) j).trans r0;have O:=(a.cell (p:=⟨A,o+b*4+1,none⟩) j).trans O;have N:=(a.cell (p:=⟨A,o+b*4+2,none⟩) j).trans N;have E:=Qm y a.size;have F:=Qm j a.size;clear d;go_wp2_with fail;have B:=Ad;refine Am Qb Qb ?_;repeat (any_goals (first|go_big_quiet_step (fail)|quiet_step (fail)))
   refine wpQuiet_nil ?_;clear B;intro w2 f;obtain ⟨J,I⟩:=Ac f;have D:Below w.heap.size w w2:=by
    refine Below.trans ?_ (f.mono ?_)
    ·go_grown
    ·first|omega|go_size
   go_wp2;go_ret;exact ⟨rfl,a.trans (f.mono a.size)⟩
  ·have u:stI T.st k = -1:=by
    cases e:Al T.st k with
    | none=>rw [G3 e]
    | some i=>obtain ⟨X,h1,h2⟩:=r.1 i e;subst X;exact absurd h2 z
   rw [decide_eq_false (λh=>z ((Vl _ _).1 h))] at U;rw [u];clear H s r z u x;generalize T.st[bh T.st k].k=q at *
   generalize bh T.st k=b at *
   generalize T.st.length=n at *
   clear L;unfold kyV at *
   go_enter func121,ntmps121;go_wp2_with fail;refine (Q.o _ (S.o.below Qg)).mono ?_;rintro e w1 ⟨rfl,d⟩;have a:Below w.heap.size w w1:=Below.trans Qg (d.mono Qh);have Z:w1.cell? ⟨w.heap.size,0,none⟩=some (.int .u64 (k.h:Int)):=by rw [d.cell Qc];exact Ql
   have d1:w1.cell? ⟨w.heap.size,1,none⟩=some (.int .u64 (k.l:Int)):=by rw [d.cell Qc];exact Ql
   have d2:w1.cell? ⟨w.heap.size,2,none⟩=some (.int .i64 k.n):=by rw [d.cell Qc];exact Ql
   have C:w.heap.size<w1.heap.size:=by
    have s:=d.size;try simp only [World.size_alloc,World.size_setCell] at s
    omega
   have c2:=(a.cell (p:=⟨t,2,none⟩) y).trans c2;have r0:=(a.cell (p:=⟨A,o+b*4,none⟩) j).trans r0;have O:=(a.cell (p:=⟨A,o+b*4+1,none⟩) j).trans O;have N:=(a.cell (p:=⟨A,o+b*4+2,none⟩) j).trans N;have E:=Qm y a.size;have F:=Qm j a.size;clear d;go_wp2_with fail;have B:=Ad;refine Am Qb Qb ?_;repeat (any_goals (first|go_big_quiet_step (fail)|quiet_step (fail)))
   refine wpQuiet_nil ?_;clear B;intro w2 f;obtain ⟨J,I⟩:=Ac f;have D:Below w.heap.size w w2:=by
    refine Below.trans ?_ (f.mono ?_)
    ·go_grown
    ·first|omega|go_size
   go_wp2;go_ret;exact ⟨rfl,a.trans (f.mono a.size)⟩
 ·have K:bh T.st k=T.st.length:=Qa;have u:stI T.st k = -1:=by
   cases e:Al T.st k with
   | none=>rw [G3 e]
   | some i=>obtain ⟨X,h1,h2⟩:=r.1 i e;omega
  rw [u];rw [K] at Q;clear H s r u L x K;generalize T.st.length=n at *
  have R:((n:Int) == (n:Int))=true:=Qf;unfold kyV at *
  go_enter func121,ntmps121;go_wp2_with fail;refine (Q.o _ (S.o.below Qg)).mono ?_;rintro e w1 ⟨rfl,d⟩;have a:Below w.heap.size w w1:=Below.trans Qg (d.mono Qh);have c2:=(a.cell (p:=⟨t,2,none⟩) y).trans c2;have E:=Qm y a.size;have C:=a.size;clear d;go_wp2_with fail;have B:=Ad;refine Am Qb Qb ?_;repeat (any_goals (first|go_big_quiet_step (fail)|quiet_step (fail)))
  refine wpQuiet_nil ?_;clear B;intro w2 f;obtain ⟨J,I⟩:=Ac f;have D:Below w.heap.size w w2:=by
   refine Below.trans ?_ (f.mono ?_)
   ·go_grown
   ·first|omega|go_size
  go_wp2;go_ret;exact ⟨rfl,a.trans (f.mono a.size)⟩
theorem Zq8 {L:List Rt} {c:Rt->Bool} {j:Nat} (a:j<L.length) (h:c L[j]=false):lngI L c (j+1)=lngI L c j:=by
 rw [lngI,getD_at a];cases lngI L c j with
 | none=>simp only [h];rfl
 | some b=>simp only [h];rw [if_neg (λx=>Bool.noConfusion x.1)]
theorem Zoz {L:List Rt} {c:Rt->Bool} {j:Nat} (a:j<L.length) (h:c L[j]=true) (e:lngI L c j=none):lngI L c (j+1)=some j:=by rw [lngI,getD_at a,e];simp only [h,if_true]
theorem Z2s {L:List Rt} {c:Rt->Bool} {j b:Nat} (a:j<L.length) (d:b<L.length) (h:c L[j]=true) (e:lngI L c j=some b):lngI L c (j+1)=if L[b].k.n<L[j].k.n then some j else some b:=by rw [lngI,getD_at a,e];simp only [h,getD_at d,true_and]
theorem Vm {L:List Rt} {c:Rt->Bool}:∀{j b:Nat},lngI L c j=some b->b<j
 | 0,b,h=>by (cases h)
 | j+1,b,h=>by
  rw [lngI] at h;cases e:lngI L c j with
  | none=>
   rw [e] at h;simp only at h;split at h
   ·injection h with h;omega
   ·cases h
  | some b'=>
   rw [e] at h;simp only at h;have:=Vm e;split at h
   ·injection h with h;omega
   ·injection h with h;omega
def rtA (r:Rt):Value := .agg #[.int .u64 (r.k.h:Int),.int .u64 (r.k.l:Int),.int .i64 r.k.n,.int .i64 r.v]
theorem J3:∀(L:List Rt) (j:Nat) (r:Rt),j<L.length->((((rcs L).set (j*4) (.int .u64 (r.k.h:Int))).set (j*4+1) (.int .u64 (r.k.l:Int))).set (j*4+2) (.int .i64 r.k.n)).set (j*4+3) (.int .i64 r.v)=rcs (L.set j r)
 | [],_,_,h=>absurd h Qf
 | x::L,0,r,_=>by simp [Eh,Ae]
 | x::L,j+1,r,h=>by
  have a:=J3 L j r (by simpa using h);rw [List.set_cons_succ,Eh,Eh,<-a];have e:∀(X:List Value) (m:Nat) (u:Value),(Ae x++X).set (m+4) u=Ae x++X.set m u:=λX m u=>by rw [List.set_append_right _ _ (by simp [Ae])];simp [Ae]
  rw [show (j+1)*4=j*4+4 by omega,show j*4+4+1=j*4+1+4 by omega,show j*4+4+2=j*4+2+4 by omega,show j*4+4+3=j*4+3+4 by omega,e,e,e,e]
structure RFil (w:World) (lo hi f g s:Nat) (k:Int) (C:List Nat):Prop where
 c0:w.cell? ⟨f,0,none⟩=some (.int .u64 (s:Int))
 c1:w.cell? ⟨f,1,none⟩=some (.int .i64 k)
 c2:w.cell? ⟨f,2,none⟩=some (.slice (some ⟨g,0,none⟩) C.length C.length)
 own:w.ownsRow lo 3 1 (.slice (some ⟨g,0,none⟩) C.length C.length) C.length (iC C)
 small:∀c∈C,c<=15
 len:C.length<=65536
 top:hi<=w.heap.size
 fin:lo<=f/\f<hi
 gin:g<hi
 ne:f≠g
 ws:W64 s
section
variable {w w':World} {lo hi f g s:Nat} {k:Int} {C:List Nat} {S:Nat->Prop}
theorem RFil.low (H:RFil w lo hi f g s k C):lo<=g:=(H.own.lt g rfl).1
theorem RFil.touched (H:RFil w lo hi f g s k C) (a:Touch S w w') (b:∀j,lo<=j->j<hi->¬S j):RFil w' lo hi f g s k C:=
 ⟨a.cell H.c0 (b _ H.fin.1 H.fin.2),a.cell H.c1 (b _ H.fin.1 H.fin.2),a.cell H.c2 (b _ H.fin.1 H.fin.2),Touch.own H.own a (λj e=>by cases e;exact b _ H.low H.gin),H.small,H.len,Qw H.top a.size,H.fin,H.gin,H.ne,H.ws⟩
theorem RFil.below (H:RFil w lo hi f g s k C) (a:Below w.heap.size w w'):RFil w' lo hi f g s k C:=H.touched (S:=λ_=>False) (Touch.quiet a) (λ_ _ _ h=>h)
theorem RFil.lt (H:RFil w lo hi f g s k C):f<w.heap.size:=Qm H.fin.2 H.top
theorem RFil.lt2 (H:RFil w lo hi f g s k C):g<w.heap.size:=Qm H.gin H.top
end
def zB:Value := .agg #[.int .u64 0,.int .u64 0,.int .i64 0,.int .i64 0,.bool false,.int .u64 0,.int .u64 0,.int .i64 0,.int .i64 0,.bool false,.int .u64 0,.int .u64 0,.int .i64 0,.int .i64 0,.bool false,.int .u64 0,.int .u64 0,.int .i64 0,.int .i64 0,.bool false]
theorem Vn:(prog.info? 177).map (λi=>(i.zero,i.size,i.bytes))=some (some zB,20,160):=Qb
theorem Zyx {w:World} {g n i x:Nat} {z:Array Value} {t:TypeId} (a:z.size=20) (b:w.heap[g]? = some (.cells (madeCells z (n*20)) t (0,0))) (hi:i<n) (c:x<20):w.cell? ⟨g,i*20+x,none⟩=some z[x]! := by rw [cell_of_row w g _ _ t (0,0) b];unfold madeCells;rw [Array.getElem?_map,Array.getElem?_range,if_pos Qa];simp only [Option.map_some,a];rw [show (i*20+x)%20=x by omega]
theorem Zyw {w:World} {g n:Nat} {z:Array Value} {t:TypeId} (a:w.heap[g]? = some (.cells (madeCells z (n*20)) t (0,0))) (j:Nat):w.frozen? ⟨g,j,none⟩=false:=frozen_of_row w g j _ t a
theorem Vo {w:World} {g n i:Nat} {t:TypeId} (b:w.heap[g]? = some (.cells (madeCells zB.cells (n*20)) t (0,0))) (hi:i<n):Bkt w g (i*20) [none,none,none,none]:=by refine ⟨rfl,(Array.getElem?_eq_some_iff.1 b).1,λk c j u a => ?_,λj _=>Zyw b _⟩;have d:j<5:=(List.getElem?_eq_some_iff.1 a).1;simp only [Qt,List.length_nil] at c;rw [Nat.add_assoc,Zyx (by rfl) b hi Qa];rcases (show k=0\/k=1\/k=2\/k=3 by omega) with rfl | rfl | rfl | rfl<;>rcases (show j=0\/j=1\/j=2\/j=3\/j=4 by omega) with rfl | rfl | rfl | rfl | rfl<;>(simp only [x5,List.getElem_cons_zero,List.getElem_cons_succ,List.getElem?_cons_zero,List.getElem?_cons_succ,Option.some.injEq] at a;subst a;rfl)
theorem Vp (s n:Nat):(A2 s n).B.length=n:=by simp [A2]
theorem Tb.fresh {K:World->Nat->Nat->List Pl->Prop} {w:World} {t g s n:Nat} (d:∀i,i<n->K w g (i*20) [none,none,none,none]) (c:g<w.heap.size) (b:t<w.heap.size) (h:w.cell? ⟨t,0,none⟩=some (.int .u64 (s:Int))) (e:w.cell? ⟨t,1,none⟩=some (.slice (some ⟨g,0,none⟩) n n))
 (c2:w.cell? ⟨t,2,none⟩=some (.slice none 0 0)) (f:∀j,w.frozen? ⟨t,j,none⟩=false) (a:t≠g):Tb K w t g (.slice none 0 0) (A2 s n):=
 ⟨λi hi=>by rw [Vp] at hi;rw [Lr s n i hi];exact d i hi,c,b,h,by rw [Vp];exact e,c2,f,World.ownsRow_nil _ _ _ _,a,by simp [Value.ownBlock],by simp [Value.ownBlock]⟩
theorem Z50 (s:Nat) (n:Int) (w:World) (h:n<1\/65536<n) :
 Calls prog 49 #[.int .u64 (s:Int),.int .i64 n] w λe w'=>e = .returned (.tuple #[.pointer none,.int .i64 1])/\Below w.heap.size w w':=by
 rcases h with h | h
 ·go_enter func49,ntmps49;go_wp2;go_ret2;exact ⟨rfl,Qg⟩
 ·have h2:¬n<1:=Qa;go_enter func49,ntmps49;go_wp2;go_ret2;exact ⟨rfl,Qg⟩
theorem Z3w (s n:Nat) (w:World) (h1:1<=n) (h2:n<=65536) :
 Calls prog 49 #[.int .u64 (s:Int),.int .i64 (n:Int)] w λe w'=>∃t,e = .returned (.tuple #[.pointer (some ⟨t,0,none⟩),.int .i64 0])/\∃g,CT w' t g (.slice none 0 0) (A2 s n) 0/\Below w.heap.size w w'/\w.heap.size<=t/\w.heap.size<=g:=by
 have a:=λw=>B9 underlying137 Vn n Qa Qk w;have d:¬((n:Int)<1):=Qa;have c:¬((65536:Int)<n):=Qa;generalize b:madeCells zB.cells (n*20)=M at a;go_enter func49,ntmps49;go_wp2;go_ret2;refine ⟨w.heap.size+1,rfl,w.heap.size,⟨Tb.fresh (λi hi=>Vo (t:=177) (n:=n) ?_ hi) Qe Qf Qi Qi Qi (λj=>Qi) Qa,Qi⟩,Qg,Qa,Qn _⟩;rw [b];rw [heap_alloc_old _ _ Qf];exact heap_alloc_new w _
end Go.Proofs.YtpdphfgpdgadpaaGreat
