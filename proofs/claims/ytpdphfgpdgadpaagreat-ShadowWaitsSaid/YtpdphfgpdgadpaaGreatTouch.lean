import Derived.Test.YtpdphfgpdgadpaaGreatGrown
set_option linter.unusedSimpArgs false
set_option linter.unusedVariables false
set_option maxHeartbeats 1000000
set_option maxRecDepth 100000
open Go.Proofs.Tryz
namespace Go.Proofs.YtpdphfgpdgadpaaGreat
open Lib(hid)
section
open Go.RowKit Go.Sort M
def ucs (L:List Nat):List Value:=L.map λ(x:Nat) => .int .u64 (x:Int)
theorem Ro (L:List Nat) (k x:Nat):(ucs L).set k (.int .u64 (x:Int))=ucs (L.set k x):=by simp [ucs,List.map_set]
theorem Gz (L:List Nat) (k x:Nat) (h:L[k]? = some x):(ucs L)[k]? = some (.int .u64 (x:Int)):=by simp [ucs,h]
theorem Rp:(prog.info? 24).map (λi=>(i.zero,i.size,i.bytes))=some (some (.int .u64 0),1,8):=Qb
def nW (C:List Nat):Nat:=(C.length+15)/16
structure Nib (w:World) (B g h:Nat) (C:List Nat):Prop where
 low:B<=g
 lt:g<w.heap.size
 ne:h≠g
 words:w.cell? ⟨g,0,none⟩=some (.slice (some ⟨h,0,none⟩) (nW C) (nW C))
 num:w.cell? ⟨g,1,none⟩=some (.int .i64 (C.length:Int))
 own:w.ownsRow B 24 1 (.slice (some ⟨h,0,none⟩) (nW C) (nW C)) (nW C) (ucs (Dk C))
 small:∀c∈C,c<=15
 len:C.length<=65536
theorem Nib.kept {w w':World} {B g h:Nat} {C:List Nat} {row:Option Nat} (H:Nib w B g h C) (a:w.grownBy w' row) (b:some g≠row) (c:some h≠row):Nib w' B g h C:=
 ⟨H.low,Qm H.lt a.size,H.ne,a.cell H.words b,a.cell H.num b,H.own.kept a (.inr c),H.small,H.len⟩
theorem Nib.below {w w':World} {B g h:Nat} {C:List Nat} (H:Nib w B g h C) (a:Below w.heap.size w w'):Nib w' B g h C:=H.kept (C0 a) Qf Qf
theorem Nib.low2 {w:World} {B g h:Nat} {C:List Nat} (H:Nib w B g h C):B<=h/\h<w.heap.size:=H.own.lt h rfl
def NibAt (w:World) (B:Nat) (v:Value) (C:List Nat):Prop:=∃g h,v = .pointer (some ⟨g,0,none⟩)/\Nib w B g h C
theorem Nib.new (w:World) (c:Nat) (x:Int) (b:c<=65536) (a:x=(c:Int)) (t:TypeId) :
 Nib ((w.alloc (.cells (madeCells #[.int .u64 0] ((c+15)/16)) 24)).alloc (.cells #[.slice (some ⟨w.heap.size,0,none⟩) ((c+15)/16) ((c+15)/16),.int .i64 x] t)) w.heap.size (w.heap.size+1) w.heap.size (List.replicate c 0):=by
 have e:nW (List.replicate c 0)=(c+15)/16:=by simp [nW]
 subst a;refine ⟨Qa,Qf,Qa,?_,?_,?_,?_,by simpa using b⟩
 ·rw [e];simp [go_sem]
 ·rw [List.length_replicate];simp [go_sem]
 ·rw [e,Zqf];refine World.ownsRow.alloc ?_ _;have:=World.ownsRow_lit (base:=w.heap.size) (e:=24) (size:=1) w (madeCells #[.int .u64 0] ((c+15)/16)) ((c+15)/16) (Qn _) Qk (by simp [madeCells])
  rwa [toList_madeCells_one,show List.replicate ((c+15)/16) (Value.int .u64 0)=ucs (List.replicate ((c+15)/16) 0) by simp [ucs]] at this
 ·intro x a;rw [List.eq_of_mem_replicate a];omega
theorem Z51 (n:Int) (i:n<=9223372036854775807) (h : -9223372036854775808<=n) (w:World) :
 Calls prog 70 #[.int .i64 n] w λe w'=>∃v,e = .returned v/\NibAt w' w.heap.size v (List.replicate (min n.toNat 65536) 0)/\Below w.heap.size w w':=by
 obtain ⟨c,f⟩:=Q' (min n.toNat 65536);rw [<-f];have a:=B9 (P:=prog) (t:=152) underlying152 Rp ((c+15)/16) Qa Qk;by_cases k:n<=0
 ·have d:Hid (c=0):=by show c=0;omega
  have b:(((c+15)/16:Nat):Int)=0:=Qa;clear f;rw [b] at a;simp only [Value.cells,Nat.mul_one] at a;clear b;go_enter func70,ntmps70;go_wp2;go_ret;exact ⟨_,rfl,⟨_,_,rfl,Nib.new w c 0 (by have:=d.o;omega) (by rw [d.o];rfl) _⟩,Qg⟩
 ·by_cases j:65536<n
  ·have d:Hid (c=65536):=by show c=65536;omega
   have b:(((c+15)/16:Nat):Int)=4096:=Qa;clear f;rw [b] at a;simp only [Value.cells,Nat.mul_one] at a;clear b;go_enter func70,ntmps70;go_wp2;go_ret;exact ⟨_,rfl,⟨_,_,rfl,Nib.new w c 65536 (by have:=d.o;omega) (by rw [d.o];rfl) _⟩,Qg⟩
  ·obtain rfl:n=(c:Int):=Qa;have b:(((c+15)/16:Nat):Int)=((c:Int)+16-1)/16:=Qa;clear f;rw [b] at a;simp only [Value.cells,Nat.mul_one] at a;clear b;go_enter func70,ntmps70;go_wp2;go_ret;exact ⟨_,rfl,⟨_,_,rfl,Nib.new w c c Qa rfl _⟩,Qg⟩
theorem Z6a (B g h:Nat) (C:List Nat) (w:World) (H:Nib w B g h C) :
 Calls prog 159 #[.pointer (some ⟨g,0,none⟩)] w λe w'=>e = .returned (.int .i64 (C.length:Int))/\Below w.heap.size w w':=by
 have c:=H.words;have b:=H.num;have a:=H.lt;clear H;go_enter func159,ntmps159;go_wp2;go_ret;exact ⟨rfl,Qg⟩
theorem Lz (B g h:Nat) (C:List Nat) (k:Int) (w:World) (H:Nib w B g h C) :
 Calls prog 140 #[.pointer (some ⟨g,0,none⟩),.int .i64 k] w λe w'=>e = .returned (.bool (decide (0<=k/\k<C.length)))/\Below w.heap.size w w':=by
 have c:=hid (Z6a B g h C w H);clear H;by_cases b:0<=k
 ·go_enter func140,ntmps140;go_wp2_with fail;refine c.o.mono ?_;rintro e d ⟨rfl,a⟩;go_wp2;go_ret;exact ⟨Au (by simp [b]),a⟩
 ·go_enter func140,ntmps140;go_wp2;go_ret;exact ⟨Au Qe,Qg⟩
def getN (C:List Nat) (k:Int):Nat:=if 0<=k then C.getD k.toNat 0 else 0
theorem G0 {C:List Nat} (h:∀c∈C,c<=15) (k:Int):getN C k<16:=by
 unfold getN;split
 ·exact getD_lt h _
 ·decide
theorem Z6i {C:List Nat} {k:Int} (h:¬(0<=k/\k<C.length)):getN C k=0:=by
 unfold getN;split
 ·rw [List.getD_eq_getElem?_getD,List.getElem?_eq_none Qa];rfl
 ·rfl
theorem Z27 (x k:Nat) (s:Int) (a:x<18446744073709551616) (b:s.toNat=4*(k%16)):wrap64 (bits BinOp.and IntKind.u64 ((x:Int)/2^s.toNat) 15)=((x/2^(4*(k%16))%16:Nat):Int):=by rw [b];have c:x/2^(4*(k%16))<18446744073709551616:=Nat.lt_of_le_of_lt (Nat.div_le_self _ _) a;have e:((x:Int)/2^(4*(k%16)))=((x/2^(4*(k%16)):Nat):Int):=Qf;rw [e,show (15:Int)=((15:Nat):Int) from rfl,andN _ _ c Qd,and15,IntWalk.wrap64_in _ Qa]
theorem El (B g h:Nat) (C:List Nat) (k:Int) (w:World) (H:Nib w B g h C) :
 Calls prog 119 #[.pointer (some ⟨g,0,none⟩),.int .i64 k] w λe w'=>e = .returned (.int .i64 (getN C k:Nat))/\Below w.heap.size w w':=by
 have j:=hid (Lz B g h C k w H);by_cases c:0<=k/\k<C.length
 ·have hd:decide (0<=k/\k<C.length)=true:=by simpa using c
  rw [hd] at j;clear hd;obtain ⟨i,rfl⟩:=Qv c.1;have hi:i<C.length:=Qa;have o:=H.len;clear c;obtain ⟨s,n⟩:∃s:Int,s=((4*(i%16):Nat):Int):=⟨_,rfl⟩;have b:=Ly i Qa Qa;rw [show (i:Int).toNat=i from rfl,<-n] at b;have p:=hid b;have I:0<=s:=Qa;have F:s<64:=Qa;have A:Hid (s.toNat=4*(i%16)):=by show s.toNat=_;omega
  have z:=Iy H.small (i/16);have D:=hid (Z07 H.small i);have E:=hid H;clear n b H;go_enter func119,ntmps119;go_wp2_with fail;refine j.o.mono ?_;rintro e m ⟨rfl,a⟩;have f:=E.o.below a;have N:=f.words;have K:=f.lt;have J:=f.low2.2;have r:i/16<nW C:=by unfold nW;omega
  have L:m.cell? ⟨h,i/16,none⟩=some (.int .u64 (Bt C (i/16):Nat)):=(f.own.cellAt (i/16) Qa).trans (Gz _ _ _ (Gy C _ r));generalize Bt C (i/16)=x at *
  clear f;have t:=a.size;go_wp2_with fail;have q:=Ad;refine Am Qb Qb ?_;repeat (any_goals (first|go_big_quiet_step ((exact p.o.at _ _ _))|quiet_step ((exact p.o.at _ _ _))))
  refine wpQuiet_nil ?_;clear q;intro w1 d;obtain ⟨y,u⟩:=Ac d;have l:Below w.heap.size w w1:=by
   refine Below.trans ?_ (d.mono ?_)
   ·go_grown
   ·first|omega|go_size
  go_wp2;go_ret;exact ⟨Bc (by rw [Z27 x i s z A.o,D.o];rfl),l⟩
 ·rw [Z6i c];have hd:decide (0<=k/\k<C.length)=false:=by simpa using c
  rw [hd] at j;clear hd c H;go_enter func119,ntmps119;go_wp2_with fail;refine j.o.mono ?_;rintro e m ⟨rfl,a⟩;go_wp2;go_ret;exact ⟨rfl,a⟩
def upB (C:List Nat) (k:Int):Bool:=decide (0<=k/\k<C.length)&&decide (getN C k≠15)
def upL (C:List Nat) (k:Int):List Nat:=if upB C k then C.set k.toNat (getN C k+1) else C
def Bb (C:List Nat) (k:Int):Bool:=decide (0<=k/\k<C.length)&&decide (getN C k≠0)&&decide (getN C k≠15)
def Ax (C:List Nat) (k:Int):List Nat:=if Bb C k then C.set k.toNat (getN C k-1) else C
theorem Iz (e:Nat):(2:Int)^e=((2^e:Nat):Int):=Qf
theorem Z49 (x y v:Nat) (s:Int) (e:Nat) (a:s.toNat=e) (h:y+v*2^e=x+(v+1)*2^e) (b:y<18446744073709551616):IntKind.u64.wrap ((x:Int)+IntKind.u64.wrap (2^s.toNat))=((y:Nat):Int):=by rw [Nat.add_mul,Nat.one_mul] at h;rw [a,Iz,wrapN _ Qa,<-Int.natCast_add,wrapN _ Qa];omega
theorem Zz3 (x y v:Nat) (s:Int) (e:Nat) (a:s.toNat=e) (h:y+(v+1)*2^e=x+v*2^e) (b:x<18446744073709551616):IntKind.u64.wrap ((x:Int)-IntKind.u64.wrap (2^s.toNat))=((y:Nat):Int):=by
 rw [Nat.add_mul,Nat.one_mul] at h;rw [a,Iz];generalize 2^e=P at *
 rw [wrapN _ Qa,show (x:Int)-(P:Int)=((y:Nat):Int) by omega,wrapN _ Qa]
theorem L1 {C:List Nat} (h:∀c∈C,c<=15) (k v:Nat) (d:v<=15):∀c∈C.set k v,c<=15:=by
 intro c b;rcases List.mem_or_eq_of_mem_set b with a | a
 ·exact h c a
 ·omega
theorem Nib.set {w:World} {B g h:Nat} {C:List Nat} (H:Nib w B g h C) (k v:Nat) (f:k<C.length) (c:v<=15) (x:Int) (b:x=(Bt (C.set k v) (k/16):Nat)) :
 Nib (w.setCell ⟨h,k/16,none⟩ (.int .u64 x)) B g h (C.set k v)/\w.grownBy (w.setCell ⟨h,k/16,none⟩ (.int .u64 x)) (some h):=by
 have a:=H.own.stored (k/16) (.int .u64 x);have e:nW (C.set k v)=nW C:=by simp [nW]
 have d:=H.ne;refine ⟨⟨H.low,by simpa using H.lt,H.ne,?_,?_,?_,L1 H.small k v c,by simpa using H.len⟩,a.2⟩
 ·rw [e];exact a.2.cell H.words Qe
 ·rw [List.length_set];exact a.2.cell H.num Qe
 ·rw [e,<-Zuj C k v f,<-Ro,<-b];exact a.1
theorem Z7l (B g h:Nat) (C:List Nat) (k:Int) (w:World) (H:Nib w B g h C) :
 Calls prog 127 #[.pointer (some ⟨g,0,none⟩),.int .i64 k] w λe w'=>e = .returned (.bool (upB C k))/\Nib w' B g h (upL C k)/\w.grownBy w' (some h):=by
 have u:=hid (Lz B g h C k w H);have n:=hid H;by_cases m:0<=k/\k<C.length
 ·have hd:decide (0<=k/\k<C.length)=true:=by simpa using m
  rw [hd] at u;by_cases l:getN C k=15
  ·have c:upB C k=false:=by simp [upB,l]
   rw [show upL C k=C by simp [upL,c],c];clear c hd m H;go_enter func127,ntmps127;go_wp2_with fail;refine u.o.mono ?_;rintro e A ⟨rfl,a⟩;go_wp2_with fail;refine (El B g h C k _ (n.o.below a)).mono ?_;rintro e w1 ⟨rfl,f⟩;have b:=a.trans (f.mono a.size);go_wp2;go_ret;exact ⟨rfl,n.o.below b,(C0 b).but _⟩
  ·have c:upB C k=true:=by simp [upB,l,m]
   rw [show upL C k=C.set k.toNat (getN C k+1) by simp [upL,c],c];have y:=G0 H.small k;obtain ⟨i,rfl⟩:=Qv m.1;have hi:i<C.length:=Qa;have F:=H.len;have q:getN C i=C[i]:=by unfold getN;rw [if_pos Qa,Int.toNat_natCast,List.getD_eq_getElem?_getD,Qr hi];rfl
   have d:=Rm C i (getN C i+1) hi;rw [<-q] at d;obtain ⟨s,E⟩:∃s:Int,s=((4*(i%16):Nat):Int):=⟨_,rfl⟩;have j:=Ly i Qa Qa;rw [show (i:Int).toNat=i from rfl,<-E] at j;have K:=hid j;have Z:0<=s:=Qa;have Y:s<64:=Qa;have U:Hid (s.toNat=4*(i%16)):=by show s.toNat=_;omega
   have z:=Iy (L1 H.small i (getN C i+1) Qa) (i/16);have t:=hid d;have X:Hid (getN C i+1<=15):=by show getN C i+1<=15;omega
   have Q:((getN C i:Nat):Int)≠15:=Qa;rw [Int.toNat_natCast];clear E j H d q c hd m y;obtain ⟨x,D⟩:=Q' (Bt C (i/16));have J:=hid D;clear D l;go_enter func127,ntmps127;go_wp2_with fail;refine u.o.mono ?_;rintro e A ⟨rfl,a⟩;go_wp2_with fail;refine (El B g h C i _ (n.o.below a)).mono ?_;rintro e w1 ⟨rfl,f⟩;have b:=a.trans (f.mono a.size);have O:=b.size;have o:=n.o.below b;have c0:=o.words;have hl:=o.lt;have hr:=o.low2.2;have N:i/16<nW C:=by unfold nW;omega
   have d0:w1.cell? ⟨h,i/16,none⟩=some (.int .u64 (x:Int)):=(o.own.cellAt (i/16) Qa).trans (Gz _ _ _ (by rw [J.o];exact Gy C _ N));have f0:=o.own.frozenAt (i/16);clear o f a;go_wp2_with fail;have L:=Ad;refine A1 13 Qb Qb ?_;simp only [List.take_succ_cons,List.take_zero,List.drop_succ_cons,List.drop_zero];repeat (any_goals (first|go_big_quiet_step ((exact K.o.at _ _ _))|quiet_step ((exact K.o.at _ _ _))))
   refine wpQuiet_nil ?_;clear L;intro w2 r;obtain ⟨S,R⟩:=Ac r;have p:Below w.heap.size w w2:=by
    refine Below.trans ?_ (r.mono ?_)
    ·go_grown
    ·first|omega|go_size
   go_wp2;go_ret;have I:=(n.o.below p).set i _ hi X.o _ (Z49 x _ _ s _ U.o (by have:=t.o;rwa [<-J.o] at this) z);exact ⟨rfl,I.1,((C0 p).but _).trans I.2⟩
 ·have hd:decide (0<=k/\k<C.length)=false:=by simpa using m
  have c:upB C k=false:=by simp [upB,hd]
  rw [hd] at u;rw [show upL C k=C by simp [upL,c],c];clear hd c m H;go_enter func127,ntmps127;go_wp2_with fail;refine u.o.mono ?_;rintro e A ⟨rfl,a⟩;go_wp2;go_ret;exact ⟨rfl,n.o.below a,(C0 a).but _⟩
theorem Z3l (B g h:Nat) (C:List Nat) (k:Int) (w:World) (H:Nib w B g h C) :
 Calls prog 117 #[.pointer (some ⟨g,0,none⟩),.int .i64 k] w λe w'=>e = .returned (.bool (Bb C k))/\Nib w' B g h (Ax C k)/\w.grownBy w' (some h):=by
 have r:=hid (Lz B g h C k w H);have l:=hid H;by_cases o:0<=k/\k<C.length
 ·have hd:decide (0<=k/\k<C.length)=true:=by simpa using o
  rw [hd] at r;by_cases D:getN C k=0
  ·have c:Bb C k=false:=by simp [Bb,D]
   rw [show Ax C k=C by simp [Ax,c],c];clear c hd o H;go_enter func117,ntmps117;go_wp2_with fail;refine r.o.mono ?_;rintro e A ⟨rfl,a⟩;go_wp2_with fail;refine (El B g h C k _ (l.o.below a)).mono ?_;rintro e w1 ⟨rfl,d⟩;have b:=a.trans (d.mono a.size);go_wp2;go_ret;exact ⟨rfl,l.o.below b,(C0 b).but _⟩
  by_cases q:getN C k=15
  ·have c:Bb C k=false:=by simp [Bb,q]
   rw [show Ax C k=C by simp [Ax,c],c];clear c hd o H;go_enter func117,ntmps117;go_wp2_with fail;refine r.o.mono ?_;rintro e A ⟨rfl,a⟩;go_wp2_with fail;refine (El B g h C k _ (l.o.below a)).mono ?_;rintro e w1 ⟨rfl,d⟩;have b:=a.trans (d.mono a.size);go_wp2_with fail;refine (El B g h C k _ (l.o.below b)).mono ?_;rintro e w2 ⟨rfl,n⟩;have f:=b.trans (n.mono b.size);go_wp2;go_ret;exact ⟨rfl,l.o.below f,(C0 f).but _⟩
  ·have c:Bb C k=true:=by simp [Bb,q,D,o]
   rw [show Ax C k=C.set k.toNat (getN C k-1) by simp [Ax,c],c];have E:=G0 H.small k;obtain ⟨i,rfl⟩:=Qv o.1;have hi:i<C.length:=Qa;have N:=H.len;have u:getN C i=C[i]:=by unfold getN;rw [if_pos Qa,Int.toNat_natCast,List.getD_eq_getElem?_getD,Qr hi];rfl
   have L:0<getN C i:=Qa;have j:=Rm C i (getN C i-1) hi;rw [<-u] at j;obtain ⟨s,K⟩:∃s:Int,s=((4*(i%16):Nat):Int):=⟨_,rfl⟩;have p:=Ly i Qa Qa;rw [show (i:Int).toNat=i from rfl,<-K] at p;have Q:=hid p;have s0:0<=s:=Qa;have s1:s<64:=Qa;have HT:Hid (s.toNat=4*(i%16)):=by show s.toNat=_;omega
   have a1:=Iy (L1 H.small i (getN C i-1) Qa) (i/16);have z:=hid j;have HD:Hid (getN C i-1<=15):=by show getN C i-1<=15;omega
   have X:((getN C i:Nat):Int)≠15:=Qa;have e0:(((getN C i:Nat):Int) == 0)=false:=Qe;have a2:(((getN C i:Nat):Int) == 15)=false:=Qe;have F:=Iy H.small (i/16);have HP:=hid L;rw [Int.toNat_natCast];clear K p H j u c hd o E L D;obtain ⟨x,J⟩:=Q' (Bt C (i/16));have I:=hid J;clear J q;go_enter func117,ntmps117;go_wp2_with fail;refine r.o.mono ?_;rintro e A ⟨rfl,a⟩;go_wp2_with fail;refine (El B g h C i _ (l.o.below a)).mono ?_;rintro e w9 ⟨rfl,y⟩;have m:=a.trans (y.mono a.size);go_wp2_with fail;refine (El B g h C i _ (l.o.below m)).mono ?_;rintro e w1 ⟨rfl,d⟩;have b:=m.trans (d.mono m.size);clear y m;have U:=b.size;have t:=l.o.below b;have c0:=t.words;have hl:=t.lt;have hr:=t.low2.2;have S:i/16<nW C:=by unfold nW;omega
   have d0:w1.cell? ⟨h,i/16,none⟩=some (.int .u64 (x:Int)):=(t.own.cellAt (i/16) Qa).trans (Gz _ _ _ (by rw [I.o];exact Gy C _ S));have f0:=t.own.frozenAt (i/16);clear t d a;go_wp2_with fail;have R:=Ad;refine A1 13 Qb Qb ?_;simp only [List.take_succ_cons,List.take_zero,List.drop_succ_cons,List.drop_zero];repeat (any_goals (first|go_big_quiet_step ((exact Q.o.at _ _ _))|quiet_step ((exact Q.o.at _ _ _))))
   refine wpQuiet_nil ?_;clear R;intro w2 n;obtain ⟨Z,Y⟩:=Ac n;have f:Below w.heap.size w w2:=by
    refine Below.trans ?_ (n.mono ?_)
    ·go_grown
    ·first|omega|go_size
   go_wp2;go_ret;have O:=(l.o.below f).set i _ hi HD.o _ (Zz3 x _ (getN C i-1) s _ HT.o (by have h1:=z.o;have h2:=HP.o;rw [<-I.o] at h1;rwa [Nat.sub_add_cancel h2]) (by rw [I.o];exact F));exact ⟨rfl,O.1,((C0 f).but _).trans O.2⟩
 ·have hd:decide (0<=k/\k<C.length)=false:=by simpa using o
  have c:Bb C k=false:=by simp [Bb,hd]
  rw [hd] at r;rw [show Ax C k=C by simp [Ax,c],c];clear hd c o H;go_enter func117,ntmps117;go_wp2_with fail;refine r.o.mono ?_;rintro e A ⟨rfl,a⟩;go_wp2;go_ret;exact ⟨rfl,l.o.below a,(C0 a).but _⟩
end
section
namespace M
def wF (f:Nat->Bool):Nat->Nat
 | 0=>0
 | n+1=>2^n*(f n).toNat+wF f n
theorem L2 (f:Nat->Bool):∀n,wF f n<2^n
 | 0=>by simp [wF]
 | n+1=>by
  have b:=L2 f n;have a:(f n).toNat<=1:=by cases f n<;>decide
  show 2^n*(f n).toNat+wF f n<2^(n+1);have:2^n*(f n).toNat<=2^n*1:=Nat.mul_le_mul_left _ a;rw [Nat.pow_succ];omega
theorem Z31 (b:Bool) (i:Nat):b.toNat.testBit i=(decide (i=0)&&b):=by
 cases i with
 | zero=>cases b<;>rfl
 | succ i=>cases b<;>simp [Nat.testBit_succ]
theorem Rq (f:Nat->Bool) (i:Nat):∀n,(wF f n).testBit i=(decide (i<n)&&f i)
 | 0=>by simp [wF]
 | n+1=>by
  show (2^n*(f n).toNat+wF f n).testBit i=_;rw [Nat.testBit_two_pow_mul_add _ (L2 f n),Rq f i n,Z31];by_cases h:i<n
  ·rw [if_pos h,decide_eq_true h,decide_eq_true (show i<n+1 by omega)]
  ·rw [if_neg h];by_cases e:i=n
   ·subst e;rw [decide_eq_true (show i-i=0 by omega),decide_eq_true (show i<i+1 by omega)]
   ·rw [decide_eq_false (show ¬i-n=0 by omega),decide_eq_false (show ¬i<n+1 by omega)];rfl
def Co (C:List Bool) (j:Nat):Nat:=wF (λi=>C.getD (64*j+i) false) 64
def Dl (C:List Bool):List Nat:=(List.range ((C.length+63)/64)).map (Co C)
theorem Rr (C:List Bool) (j:Nat):Co C j<18446744073709551616:=L2 _ 64
theorem G1 (C:List Bool) (j i:Nat):(Co C j).testBit i=(decide (i<64)&&C.getD (64*j+i) false):=Rq _ i 64
theorem Ru {C:List Bool} {k i:Nat} {v:Bool} (a:k<C.length):(C.set k v).getD i false=if i=k then v else C.getD i false:=by
 rw [List.getD_eq_getElem?_getD,List.getElem?_set,List.getD_eq_getElem?_getD];split
 ·rename_i h;subst h;simp [a]
 ·rename_i h;rw [if_neg (λe=>h e.symm)]
theorem Rv {C:List Bool} {k:Nat} (v:Bool) (a:k<C.length) (i:Nat):(Co (C.set k v) (k/64)).testBit i=if i=k%64 then v else (Co C (k/64)).testBit i:=by
 rw [G1,G1,Ru a];by_cases e:i=k%64
 ·rw [if_pos e,if_pos Qa,decide_eq_true (show i<64 by omega)];rfl
 ·rw [if_neg e];by_cases h:i<64
  ·rw [if_neg Qa]
  ·rw [decide_eq_false h];rfl
theorem Z08 {C:List Bool} {k:Nat} (a:k<C.length):Co (C.set k true) (k/64)=Co C (k/64) ||| 2^(k%64):=by
 apply Nat.eq_of_testBit_eq;intro i;rw [Rv true a,Nat.testBit_or,Nat.testBit_two_pow];by_cases e:i=k%64
 ·rw [if_pos e,decide_eq_true e.symm,Bool.or_true]
 ·rw [if_neg e,decide_eq_false (λh=>e h.symm),Bool.or_false]
theorem Zwm {C:List Bool} {k j:Nat} (v:Bool) (a:k<C.length) (b:j≠k/64):Co (C.set k v) j=Co C j:=by
 apply Nat.eq_of_testBit_eq;intro i;rw [G1,G1,Ru a];by_cases h:i<64
 ·rw [if_neg Qa]
 ·rw [decide_eq_false h];rfl
theorem L3 (C:List Bool):(Dl C).length=(C.length+63)/64:=by simp [Dl]
theorem I0 (C:List Bool) (j:Nat) (h:j<(C.length+63)/64):(Dl C)[j]? = some (Co C j):=by simp [Dl,h]
theorem Zuk (C:List Bool) (k:Nat) (v:Bool) (b:k<C.length):(Dl C).set (k/64) (Co (C.set k v) (k/64))=Dl (C.set k v):=by
 apply List.ext_getElem?;intro j;rw [List.getElem?_set,L3];by_cases a:j<(C.length+63)/64
 ·rw [I0 (C.set k v) j (by rw [List.length_set];exact a)];by_cases e:k/64=j
  ·rw [if_pos e,if_pos Qa,e]
  ·rw [if_neg e,I0 C j a,Zwm v b (λh=>e h.symm)]
 ·rw [List.getElem?_eq_none (l:=Dl (C.set k v)) (by rw [L3,List.length_set];omega)];split
  ·rw [if_neg Qa]
  ·rw [List.getElem?_eq_none (by rw [L3];omega)]
theorem Zzm (n i:Nat):(List.replicate n false).getD i false=false:=by rw [List.getD_eq_getElem?_getD,List.getElem?_replicate];split<;>rfl
theorem Zqg (n:Nat):Dl (List.replicate n false)=List.replicate ((n+63)/64) 0:=by
 unfold Dl;rw [List.length_replicate];apply List.ext_getElem?;intro j;by_cases a:j<(n+63)/64
 ·simp only [List.getElem?_map,List.getElem?_range a,Option.map_some];rw [List.getElem?_replicate,if_pos a];refine congrArg some ?_;apply Nat.eq_of_testBit_eq;intro i;rw [G1,Zzm,Bool.and_false,Nat.zero_testBit]
 ·rw [List.getElem?_eq_none Qe,List.getElem?_eq_none Qe]
end M
end
section
open Go.RowKit Go.Sort M
def nB (C:List Bool):Nat:=(C.length+63)/64
structure Bts (w:World) (B g h:Nat) (C:List Bool):Prop where
 low:B<=g
 lt:g<w.heap.size
 ne:h≠g
 words:w.cell? ⟨g,0,none⟩=some (.slice (some ⟨h,0,none⟩) (nB C) (nB C))
 num:w.cell? ⟨g,1,none⟩=some (.int .i64 (C.length:Int))
 own:w.ownsRow B 24 1 (.slice (some ⟨h,0,none⟩) (nB C) (nB C)) (nB C) (ucs (Dl C))
 len:C.length<=65536
theorem Bts.kept {w w':World} {B g h:Nat} {C:List Bool} {row:Option Nat} (H:Bts w B g h C) (a:w.grownBy w' row) (b:some g≠row) (c:some h≠row):Bts w' B g h C:=
 ⟨H.low,Qm H.lt a.size,H.ne,a.cell H.words b,a.cell H.num b,H.own.kept a (.inr c),H.len⟩
theorem Bts.below {w w':World} {B g h:Nat} {C:List Bool} (H:Bts w B g h C) (a:Below w.heap.size w w'):Bts w' B g h C:=H.kept (C0 a) Qf Qf
theorem Bts.low2 {w:World} {B g h:Nat} {C:List Bool} (H:Bts w B g h C):B<=h/\h<w.heap.size:=H.own.lt h rfl
theorem Bts.le {w:World} {B B' g h:Nat} {C:List Bool} (H:Bts w B g h C) (a:B'<=B):Bts w B' g h C:=
 ⟨Qw a H.low,H.lt,H.ne,H.words,H.num,A7 H.own a,H.len⟩
def BtsAt (w:World) (B:Nat) (v:Value) (C:List Bool):Prop:=∃g h,v = .pointer (some ⟨g,0,none⟩)/\Bts w B g h C
theorem Bts.new (w:World) (c:Nat) (x:Int) (b:c<=65536) (a:x=(c:Int)) (t:TypeId) :
 Bts ((w.alloc (.cells (madeCells #[.int .u64 0] ((c+63)/64)) 24)).alloc (.cells #[.slice (some ⟨w.heap.size,0,none⟩) ((c+63)/64) ((c+63)/64),.int .i64 x] t)) w.heap.size (w.heap.size+1) w.heap.size (List.replicate c false):=by
 have e:nB (List.replicate c false)=(c+63)/64:=by simp [nB]
 subst a;refine ⟨Qa,Qf,Qa,?_,?_,?_,by simpa using b⟩
 ·rw [e];simp [go_sem]
 ·rw [List.length_replicate];simp [go_sem]
 ·rw [e,Zqg];refine World.ownsRow.alloc ?_ _;have:=World.ownsRow_lit (base:=w.heap.size) (e:=24) (size:=1) w (madeCells #[.int .u64 0] ((c+63)/64)) ((c+63)/64) (Qn _) Qk (by simp [madeCells])
  rwa [toList_madeCells_one,show List.replicate ((c+63)/64) (Value.int .u64 0)=ucs (List.replicate ((c+63)/64) 0) by simp [ucs]] at this
theorem Z32 (n:Int) (i:n<=9223372036854775807) (h : -9223372036854775808<=n) (w:World) :
 Calls prog 71 #[.int .i64 n] w λe w'=>∃v,e = .returned v/\BtsAt w' w.heap.size v (List.replicate (min n.toNat 65536) false)/\Below w.heap.size w w':=by
 obtain ⟨c,f⟩:=Q' (min n.toNat 65536);rw [<-f];have a:=B9 (P:=prog) (t:=152) underlying152 Rp ((c+63)/64) Qa Qk;by_cases k:n<=0
 ·have d:Hid (c=0):=by show c=0;omega
  have b:(((c+63)/64:Nat):Int)=0:=Qa;clear f;rw [b] at a;simp only [Value.cells,Nat.mul_one] at a;clear b;go_enter func71,ntmps71;go_wp2;go_ret;exact ⟨_,rfl,⟨_,_,rfl,Bts.new w c 0 (by have:=d.o;omega) (by rw [d.o];rfl) _⟩,Qg⟩
 ·by_cases j:65536<n
  ·have d:Hid (c=65536):=by show c=65536;omega
   have b:(((c+63)/64:Nat):Int)=1024:=Qa;clear f;rw [b] at a;simp only [Value.cells,Nat.mul_one] at a;clear b;go_enter func71,ntmps71;go_wp2;go_ret;exact ⟨_,rfl,⟨_,_,rfl,Bts.new w c 65536 (by have:=d.o;omega) (by rw [d.o];rfl) _⟩,Qg⟩
  ·obtain rfl:n=(c:Int):=Qa;have b:(((c+63)/64:Nat):Int)=((c:Int)+64-1)/64:=Qa;clear f;rw [b] at a;simp only [Value.cells,Nat.mul_one] at a;clear b;go_enter func71,ntmps71;go_wp2;go_ret;exact ⟨_,rfl,⟨_,_,rfl,Bts.new w c c Qa rfl _⟩,Qg⟩
theorem Rw (B g h:Nat) (C:List Bool) (w:World) (H:Bts w B g h C) :
 Calls prog 158 #[.pointer (some ⟨g,0,none⟩)] w λe w'=>e = .returned (.int .i64 (C.length:Int))/\Below w.heap.size w w':=by
 have c:=H.words;have b:=H.num;have a:=H.lt;clear H;go_enter func158,ntmps158;go_wp2;go_ret;exact ⟨rfl,Qg⟩
theorem Z35 (B g h:Nat) (C:List Bool) (k:Int) (w:World) (H:Bts w B g h C) :
 Calls prog 142 #[.pointer (some ⟨g,0,none⟩),.int .i64 k] w λe w'=>e = .returned (.bool (decide (0<=k/\k<C.length)))/\Below w.heap.size w w':=by
 have c:=hid (Rw B g h C w H);clear H;by_cases b:0<=k
 ·go_enter func142,ntmps142;go_wp2_with fail;refine c.o.mono ?_;rintro e d ⟨rfl,a⟩;go_wp2;go_ret;exact ⟨Au (by simp [b]),a⟩
 ·go_enter func142,ntmps142;go_wp2;go_ret;exact ⟨Au Qe,Qg⟩
theorem Z2k (i:Nat) (hi:i<=65536):Aj prog 143 #[.int .i64 (i:Int)] (.int .u64 (2^(i%64):Nat)):=by
 intro w;have a:2^(i%64)<=2^63:=Nat.pow_le_pow_right Qd Qa;have b:=hid a;clear a;go_enter func143,ntmps143;go_wp2;go_ret;refine ⟨Bc ?_,Qg⟩;have a:=b.o
 first|rw [show ((i:Int)%64).toNat=i%64 by omega,Iz,wrapN _ Qa]|rw [Iz,wrapN _ Qa]
def setB (C:List Bool) (k:Int) (v:Bool):List Bool:=if 0<=k/\k<C.length then C.set k.toNat v else C
theorem Rx (C:List Bool) (k:Int) (v:Bool):(setB C k v).length=C.length:=by unfold setB;split<;>simp
theorem Z57 (x m:Nat) (a:x<18446744073709551616) (b:m<18446744073709551616):bits BinOp.or IntKind.u64 (x:Int) (m:Int)=((x ||| m:Nat):Int):=bits_or_u64_nat x m a b
theorem Z2j (x y k m:Nat) (b:x<18446744073709551616) (a:y<18446744073709551616) (l:k<64) (c:m=2^k) (h:∀i,y.testBit i=if i=k then false else x.testBit i):bits BinOp.andNot IntKind.u64 (x:Int) (m:Int)=((y:Nat):Int):=by
 have j:2^k<=2^63:=Nat.pow_le_pow_right Qd Qa;have f:(BitVec.ofInt 64 (x:Int)).toNat=x:=by rw [BitVec.ofInt_natCast,BitVec.toNat_ofNat];exact Nat.mod_eq_of_lt Qa
 have d:(BitVec.ofInt 64 (m:Int)).toNat=m:=by rw [BitVec.ofInt_natCast,BitVec.toNat_ofNat];exact Nat.mod_eq_of_lt Qa
 have e:(BitVec.ofInt 64 (x:Int) &&& ~~~ (BitVec.ofInt 64 (m:Int))).toNat=y:=by
  apply Nat.eq_of_testBit_eq;intro i;rw [BitVec.testBit_toNat,BitVec.getLsbD_and,BitVec.getLsbD_not,<-BitVec.testBit_toNat,<-BitVec.testBit_toNat,f,d,c,Nat.testBit_two_pow,h];by_cases e:k=i
  ·rw [if_pos e.symm,decide_eq_true e,Bool.not_true,Bool.and_false,Bool.and_false]
  ·rw [if_neg (λx=>e x.symm),decide_eq_false e,Bool.not_false,Bool.and_true];by_cases hi:i<64
   ·rw [decide_eq_true hi,Bool.and_true]
   ·have:x<2^i:=Qm b (Nat.pow_le_pow_right (n:=2) Qd (show 64<=i by omega));rw [Nat.testBit_lt_two_pow this,Bool.false_and]
 show IntKind.u64.wrap ((BitVec.ofInt 64 (x:Int) &&& ~~~ (BitVec.ofInt 64 (m:Int))).toNat:Int)=_;rw [e,wrapN _ a]
theorem Bts.set {w:World} {B g h:Nat} {C:List Bool} (H:Bts w B g h C) (k:Nat) (v:Bool) (d:k<C.length) (x:Int) (b:x=(Co (C.set k v) (k/64):Nat)) :
 Bts (w.setCell ⟨h,k/64,none⟩ (.int .u64 x)) B g h (C.set k v)/\w.grownBy (w.setCell ⟨h,k/64,none⟩ (.int .u64 x)) (some h):=by
 have a:=H.own.stored (k/64) (.int .u64 x);have e:nB (C.set k v)=nB C:=by simp [nB]
 have c:=H.ne;refine ⟨⟨H.low,by simpa using H.lt,H.ne,?_,?_,?_,by simpa using H.len⟩,a.2⟩
 ·rw [e];exact a.2.cell H.words Qe
 ·rw [List.length_set];exact a.2.cell H.num Qe
 ·rw [e,<-Zuk C k v d,<-Ro,<-b];exact a.1
theorem Ry (B g h:Nat) (C:List Bool) (k:Int) (v:Bool) (w:World) (H:Bts w B g h C) :
 Calls prog 118 #[.pointer (some ⟨g,0,none⟩),.int .i64 k,.bool v] w λe w'=>e = .returned (.tuple #[])/\Bts w' B g h (setB C k v)/\w.grownBy w' (some h):=by
 have r:=hid (Z35 B g h C k w H);have s:=hid H;by_cases l:0<=k/\k<C.length
 ·have hd:decide (0<=k/\k<C.length)=true:=by simpa using l
  rw [hd] at r;rw [show setB C k v=C.set k.toNat v by simp [setB,l]];obtain ⟨i,rfl⟩:=Qv l.1;have hi:i<C.length:=Qa;have L:=H.len;have I:=Z2k i Qa;obtain ⟨m,D⟩:=Q' (2^(i%64));rw [<-D] at I;have t:=hid I;have K:=hid D;have o:2^(i%64)<=2^63:=Nat.pow_le_pow_right Qd Qa;have p:=Rr C (i/64);obtain ⟨x,A⟩:=Q' (Co C (i/64));have j:=Z08 hi;have a:=Rv false hi;rw [Int.toNat_natCast];rw [<-A] at p j a;have N:=hid A;clear hd l H D A I;cases v
  ·have J:=hid (Z2j x _ (i%64) m p (Rr (C.set i false) (i/64)) Qa K.o a);clear p j a o;go_enter func118,ntmps118;go_wp2_with fail;refine r.o.mono ?_;rintro e w1 ⟨rfl,d⟩;have z:=d.size;have b:=s.o.below d;have U:=b.words;have Q:=b.lt;have O:=b.low2.2;have y:i/64<nB C:=by unfold nB;omega
   have S:w1.cell? ⟨h,i/64,none⟩=some (.int .u64 (x:Int)):=(b.own.cellAt (i/64) Qa).trans (Gz _ _ _ (by rw [N.o];exact I0 C _ y));have R:=b.own.frozenAt (i/64);clear b;go_wp2_with fail;have u:=Ad;refine A1 12 Qb Qb ?_;simp only [List.take_succ_cons,List.take_zero,List.drop_succ_cons,List.drop_zero];repeat (any_goals (first|go_big_quiet_step ((exact t.o.at _ _ _))|quiet_step ((exact t.o.at _ _ _))))
   refine wpQuiet_nil ?_;clear u;intro w2 f;obtain ⟨F,E⟩:=Ac f;have c:Below w.heap.size w w2:=by
    refine Below.trans ?_ (f.mono ?_)
    ·go_grown
    ·first|omega|go_size
   go_wp2;go_end0;have q:=(s.o.below c).set i false hi _ J.o;exact ⟨rfl,q.1,((C0 c).but _).trans q.2⟩
  ·have J:=hid ((Z57 x m p (by rw [K.o];omega)).trans (by rw [K.o,<-j]));clear p j a o;go_enter func118,ntmps118;go_wp2_with fail;refine r.o.mono ?_;rintro e w1 ⟨rfl,d⟩;have z:=d.size;have b:=s.o.below d;have U:=b.words;have Q:=b.lt;have O:=b.low2.2;have y:i/64<nB C:=by unfold nB;omega
   have S:w1.cell? ⟨h,i/64,none⟩=some (.int .u64 (x:Int)):=(b.own.cellAt (i/64) Qa).trans (Gz _ _ _ (by rw [N.o];exact I0 C _ y));have R:=b.own.frozenAt (i/64);clear b;go_wp2_with fail;have u:=Ad;refine A1 12 Qb Qb ?_;simp only [List.take_succ_cons,List.take_zero,List.drop_succ_cons,List.drop_zero];repeat (any_goals (first|go_big_quiet_step ((exact t.o.at _ _ _))|quiet_step ((exact t.o.at _ _ _))))
   refine wpQuiet_nil ?_;clear u;intro w2 f;obtain ⟨F,E⟩:=Ac f;have c:Below w.heap.size w w2:=by
    refine Below.trans ?_ (f.mono ?_)
    ·go_grown
    ·first|omega|go_size
   go_wp2;go_end0;have q:=(s.o.below c).set i true hi _ J.o;exact ⟨rfl,q.1,((C0 c).but _).trans q.2⟩
 ·have hd:decide (0<=k/\k<C.length)=false:=by simpa using l
  rw [hd] at r;rw [show setB C k v=C by unfold setB;rw [if_neg l]];clear hd l H;go_enter func118,ntmps118;go_wp2_with fail;refine r.o.mono ?_;rintro e X ⟨rfl,n⟩;go_wp2
  (try simp only [Exit.inBlock,Exit.then]);refine bodyPost_ret (results_none rfl _ _ _) rfl ?_
  exact ⟨rfl,s.o.below n,(C0 n).but _⟩
structure Touch (S:Nat->Prop) (w w':World):Prop where
 os:w'.os=w.os
 tape:w'.tape=w.tape
 output:w'.output=w.output
 size:w.heap.size<=w'.heap.size
 block:∀k,k<w.heap.size->¬S k->w'.heap[k]? = w.heap[k]?
def In (lo hi:Nat) (k:Nat):Prop:=lo<=k/\k<hi
section
variable {S T:Nat->Prop} {a b c:World}
theorem Touch.refl (S:Nat->Prop) (w:World):Touch S w w:=⟨rfl,rfl,rfl,Qn _,λ_ _ _=>rfl⟩
theorem Touch.trans (h:Touch S a b) (k:Touch S b c):Touch S a c:=
 ⟨k.os.trans h.os,k.tape.trans h.tape,k.output.trans h.output,Qw h.size k.size,λi hi d=>(k.block i (Qm hi h.size) d).trans (h.block i hi d)⟩
theorem Touch.mono (h:Touch S a b) (c:∀k,k<a.heap.size->S k->T k):Touch T a b:=
 ⟨h.os,h.tape,h.output,h.size,λi hi d=>h.block i hi (λx=>d (c i hi x))⟩
theorem Touch.of_grown {row:Option Nat} (h:a.grownBy b row) (c:∀k,some k=row->S k):Touch S a b:=
 ⟨h.os,h.tape,h.output,h.size,λi hi d=>h.block i hi (λe=>d (c i e))⟩
theorem Touch.of_below {B:Nat} (h:Below B a b) (c:∀k,k<a.heap.size->B<=k->S k):Touch S a b:=
 ⟨h.os,h.tape,h.output,h.size,λi hi d=>h.block i (by
  by_cases e:B<=i
  ·exact absurd (c i hi e) d
  ·omega)⟩
theorem Touch.quiet (h:Below a.heap.size a b):Touch S a b:=Touch.of_below h (λk c d=>absurd c Qa)
theorem Touch.below {B:Nat} (h:Touch S a b) (d:B<=a.heap.size) (c:∀k,S k->B<=k):Below B a b:=
 ⟨h.os,h.tape,h.output,h.size,λi hi=>h.block i Qa (λx=>by have:=c i x;omega)⟩
theorem Touch.cell (h:Touch S a b) {p:Addr} {v:Value} (c:a.cell? p=some v) (d:¬S p.block):b.cell? p=some v:=
 (World.cell?_of_block (h.block p.block (World.block_lt_of_cell? a p c) d)).trans c
theorem Touch.own {B n k:Nat} {e:TypeId} {v:Value} {xs:List Value} (h:a.ownsRow B e k v n xs) (i:Touch S a b) (l:∀j,v.ownBlock=some j->¬S j):b.ownsRow B e k v n xs:=by
 refine ⟨h.1,?_⟩;rcases h.2 with f | ⟨g,cap,d,rfl,m,c,rest⟩
 ·exact .inl f
 ·refine .inr ⟨g,cap,d,rfl,m,?_,rest⟩;rw [i.block g (Array.getElem?_eq_some_iff.1 c).1 (l g rfl)];exact c
end
section
variable {S T:Nat->Prop} {a b c:World}
theorem Nib.touched {B g h:Nat} {C:List Nat} (H:Nib a B g h C) (c:Touch S a b) (d:¬S g) (f:¬S h):Nib b B g h C:=
 ⟨H.low,Qm H.lt c.size,H.ne,c.cell H.words d,c.cell H.num d,c.own H.own (λj e=>by cases e;exact f),H.small,H.len⟩
theorem Bts.touched {B g h:Nat} {C:List Bool} (H:Bts a B g h C) (c:Touch S a b) (d:¬S g) (f:¬S h):Bts b B g h C:=
 ⟨H.low,Qm H.lt c.size,H.ne,c.cell H.words d,c.cell H.num d,c.own H.own (λj e=>by cases e;exact f),H.len⟩
end
end
end Go.Proofs.YtpdphfgpdgadpaaGreat
