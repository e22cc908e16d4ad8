import Derived.Test.YtpdphfgpdgadpaaGreatM22d
import Derived.Test.YtpdphfgpdgadpaaGreatW18
set_option linter.unusedSimpArgs false
set_option linter.unusedVariables false
set_option maxHeartbeats 4000000
set_option maxRecDepth 100000
open Go.Proofs.Tryz
namespace Go.Proofs.YtpdphfgpdgadpaaGreat
open Lib(hid)
open Go Go.RowKit Go.Sort M
theorem Yy:(prog.info? 162).map (λi=>(i.zero,i.size,i.bytes))=some (some (.agg #[.int .i64 0,.bool false]),2,16):=Qb
theorem Zop (t m:Nat) (a f:Nat) (w:World) (ha:W64 a) (l:W64 f) (c:m<=8) (o:w.cell? ⟨t,0,none⟩=some (.int .i64 (m:Int))) (r:t<w.heap.size) :
 Calls prog 92 #[.pointer (some ⟨t,0,none⟩),.agg #[.int .u64 (a:Int),.int .u64 (f:Int)]] w λe w'=>e = .returned (.int .i64 (numA a m:Int))/\Below w.heap.size w w':=by
 have h:=Yi ha (show m<=64 by omega);have n:2^m<=2^8:=Nat.pow_le_pow_right Qd c;obtain ⟨k,b⟩:∃k:Int,k=(m:Int):=⟨_,rfl⟩;have j:0<=k:=Qa;have i:k<=8:=Qa;have d:(a:Int)/2^(64-k).toNat=(numA a m:Int):=by unfold numA;rw [show (64-k).toNat=64-m by omega];simp
 rw [<-b] at o;have p:=hid d;have q:Hid (numA a m<256):=hid Qa;have s:=hid b;clear b d h n c;go_enter func92,ntmps92;go_wp2;go_region;go_wp2;go_ret;refine ⟨Bc ?_,Qg⟩;have l:=q.o;rw [p.o,IntWalk.wrap64_in _ Qa]
theorem Yz (t c:Nat) (p:Option Addr) (w:World) (b:w.cell? ⟨t,1,none⟩=some (.slice p c c)) (a:t<w.heap.size) :
 Calls prog 91 #[.pointer (some ⟨t,0,none⟩)] w λe w'=>e = .returned (.int .i64 (c:Int))/\Below w.heap.size w w':=by
 go_enter func91,ntmps91;go_wp2;go_ret;exact ⟨rfl,Qg⟩
theorem DirP.new (w:World) (m c:Nat) (x:Int) (s:m<=8) (t:c=2^m) (o:x=(m:Int)) (a f:TypeId) :
 DirP ((w.alloc (.cells (madeCells #[.int .i64 0,.bool false] (c*2)) a)).alloc (.cells #[.int .i64 x,.slice (some ⟨w.heap.size,0,none⟩) c c] f)) (In w.heap.size (w.heap.size+2)) (w.heap.size+1) m []:=by
 subst t o;refine ⟨⟨Qa,Qa⟩,Qf,s,Qi,Qi,w.heap.size,⟨Qa,Qa⟩,Qe,Qa,Qi,λi hi => ?_⟩;obtain ⟨z,u⟩:=PlOk.start [] m;obtain ⟨v,b,n,l,k⟩:=u i hi;have e:∀x:Nat,dirK [] x 0 m=none:=λx=>Z6u _ _ _;unfold dirV;rw [e];have h:v=0/\b=false:=by
  rcases k with ⟨⟨r,p,-⟩,-⟩ | ⟨-,q⟩
  ·simp at p
  ·exact q
 obtain ⟨rfl,rfl⟩:=h;have d:=Ee w (madeCells #[.int .i64 0,.bool false] (2^m*2)) a (i*2) _ n;have n2:=Ee w (madeCells #[.int .i64 0,.bool false] (2^m*2)) a (i*2+1) _ l;have y:∀j:Nat,(⟨w.heap.size,0,none⟩:Addr).add j=⟨w.heap.size,j,none⟩:=λj=>by unfold Addr.add;split<;>simp_all
 rw [y] at d n2;exact ⟨(World.cell?_alloc_lt _ _ ⟨w.heap.size,i*2,none⟩ Qf).trans d,(World.cell?_alloc_lt _ _ ⟨w.heap.size,i*2+1,none⟩ Qf).trans n2⟩
theorem Zym (n:Int) (w:World):Calls prog 33 #[.int .i64 n] w λe w'=>∃t,e = .returned (.pointer (some ⟨t,0,none⟩))/\Below w.heap.size w w'/\DirP w' (In w.heap.size w'.heap.size) t (B6 n) []:=by
 have f:=Z34 n;have d:max 0 (min n 8)=(B6 n:Int):=by rw [<-cap8 n];split<;>(try split)<;>omega
 obtain ⟨m,b⟩:=Q' (B6 n);rw [<-b] at f d ⊢;have j:2^m<=2^8:=Nat.pow_le_pow_right Qd f;obtain ⟨c,h⟩:=Q' (2^m);rw [<-h] at j;have i:(c:Int)=wrap64 (2^(max 0 (min n 8)).toNat):=by rw [d,Int.toNat_natCast,show (2:Int)^m=(c:Int) by rw [h];simp,IntWalk.wrap64_in _ Qa]
 have a:=B9 (P:=prog) (t:=100) underlying100 Yy c Qa Qk;simp only [Value.cells] at a;rw [i] at a;have o:=hid f;have p:=hid h;have l:=hid d;clear f h d i b j;go_enter func33,ntmps33;go_wp2;go_ret;have k:=DirP.new w m c _ o.o p.o l.o 162 102;refine ⟨_,rfl,Qg,?_⟩;simp only [World.size_alloc];exact k
theorem Zu0 (N:List Rt) (low high:Int) (a:∀r∈N,r.k.good):(setS N low high).length<=256*N.length:=by
 unfold setS;split
 ·have c:=X9 N low (Ao N low high);have b:=Km N low high a N.length (Qn _);rw [List.take_length] at b;unfold fS at c;omega
 ·simp
theorem Y0 (w:World) (p:Addr) (v:Value):Touch (· = p.block) w (w.setCell p v):=
 ⟨rfl,rfl,rfl,by rw [World.size_setCell];exact Qn _,λk _ a=>Below.heap_setCell w p _ k a⟩
theorem Zvi {w:World} {B n k:Nat} {e:TypeId} {v:Value} {xs:List Value} (h:w.ownsRow B e k v n xs) (g a b:Nat) (u0 u1:Value) (f:g<B):((w.setCell ⟨g,a,none⟩ u0).setCell ⟨g,b,none⟩ u1).ownsRow B e k v n xs:=
 Touch.own h ((Y0 w ⟨g,a,none⟩ u0).trans (Y0 _ ⟨g,b,none⟩ u1)) (λj c e=>by have d:=(h.lt j c).1;subst e;exact absurd d Qa)
theorem On (w:World) (t:Nat) (v:Value):Touch (· = t) w (w.setCell ⟨t,1,none⟩ v):=
 ⟨rfl,rfl,rfl,by rw [World.size_setCell];exact Qn _,λk _ a=>Below.heap_setCell w ⟨t,1,none⟩ _ k a⟩
theorem Z7p {w:World} {B g n c:Nat} {e:TypeId} {xs:List Value} (h:w.ownsRow B e 2 (.slice (some ⟨g,0,none⟩) n c) n xs) (k:Nat) (u0 u1:Value) :
 ((w.setCell ⟨g,k*2,none⟩ u0).setCell ⟨g,k*2+1,none⟩ u1).ownsRow B e 2 (.slice (some ⟨g,0,none⟩) n c) n ((xs.set (k*2) u0).set (k*2+1) u1):=
 ((h.stored _ _).1.stored _ _).1
theorem Zv2 (w:World) (K:Nat->Prop) (t m:Nat) (L0 L:List Rt) (p:Option Addr) (c:Nat) (H:DirP w K t m L0) (hR:Row w p (rcs L)) (hg:∀x∈L,x.k.good) (hp:p=none->c=0) (Q:L.length<=c) (hl:L.length<=4000) :
 Calls prog 77 #[.pointer (some ⟨t,0,none⟩),.slice p L.length c] w λe w'=>e = .returned (.tuple #[])/\∃K',DirP w' K' t m L/\Touch K w w'/\∀g,K' g->K g\/In w.heap.size w'.heap.size g:=by
 obtain ⟨h,-,hh,-,c1,-⟩:=H.row;have c0:=H.bits;have s:=H.lt;have hm:=H.le;have f1:=H.f;have ac:=H.kt;have h2:2^m<=2^8:=Nat.pow_le_pow_right Qd hm;have av:=Nat.two_pow_pos m;have a3:∀r∈Af L,r.k.good:=λx Y=>hg x (Gi Y);have ai:=Zu0 (Af L) (-1) (m:Int) a3;have az:=Gh L;have N:∀r∈setS (Af L) (-1) (m:Int),r.k.good/\numA r.k.h m<2^m:=λr hr=>by obtain ⟨-,h6,-⟩:=(Ex _ _ _ _).1 hr;obtain ⟨-,k2,-⟩:=H9 (low := -1) (high:=(m:Int)) (i:=(Af L).length) a3 (by rw [List.take_of_length_le (Qn _)];exact h6);exact ⟨k2,Yi k2.1 Qa⟩
 have u:=λxs=>PlOk.done hg hm (xs:=xs);have d:=PlOk.start (setS (Af L) (-1) (m:Int)) m;have l:=λj xs (H:PlOk (setS (Af L) (-1) (m:Int)) m j xs) hj hn=>H.next hj hn;have D:=λW (y:Below w.heap.size w W)=>Om p c L (-1) (m:Int) W (hR.below y) hg hp Q hl;obtain ⟨M,hM⟩:=Q' (setS (Af L) (-1) (m:Int));rw [<-hM] at ai N u d l D;obtain ⟨n,hn⟩:=Q' (2^m);rw [<-hn] at c1 h2 av N u d l;have aq:Hid (∀W (ah al:Nat),Below w.heap.size w W->W64 ah->W64 al->Calls prog 92 #[.pointer (some ⟨t,0,none⟩),.agg #[.int .u64 (ah:Int),.int .u64 (al:Int)]] W λe w'=>e = .returned (.int .i64 (numA ah m:Int))/\Below W.heap.size W w'):=
  hid (λW ah al y ha hb=>Zop t m ah al W ha hb hm ((y.cell (p:=⟨t,0,none⟩) s).trans c0) (Qm s y.size))
 have U:Hid (∀W,Below w.heap.size w W->Calls prog 91 #[.pointer (some ⟨t,0,none⟩)] W λe w'=>e = .returned (.int .i64 (n:Int))/\Below W.heap.size W w'):=
  hid (λW y=>Yz t n _ W ((y.cell (p:=⟨t,1,none⟩) s).trans c1) (Qm s y.size))
 have ak:=hid D;have HD:=hid u;have b0:=hid d;have b4:=hid l;have b5:=hid N;have HN:=hid hn;have b6:Hid (m<=8):=hid hm;have ar:Hid (M.length<=1048576):=hid Qa;have bc:((n:Int) == 0)=false:=Qe;have bd:=B9 (P:=prog) (t:=100) underlying100 Yy n Qa Qk;have ap:=hid (λW (y:Below w.heap.size w W)=>(y.cell (p:=⟨t,0,none⟩) s).trans c0);have b3:=hid (λW (y:Below w.heap.size w W)=>(y.cell (p:=⟨t,1,none⟩) s).trans c1);have b7:=hid (λW (y:Below w.heap.size w W)=>(y.frozen (p:=⟨t,1,none⟩) s).trans f1);clear H hR hg hp a3 ai az N u d l D hM hn hm hl Q c1 f1 hh;go_enter func77,ntmps77;go_wp2_with fail;refine (U.o _ Qg).mono ?_;rintro e w1 ⟨rfl,ag⟩;have J:Below w.heap.size w w1:=Below.trans Qg (ag.mono Qf);clear ag;go_wp2_with fail;refine (U.o _ J).mono ?_;rintro e w2 ⟨rfl,af⟩;have Z:=J.trans (af.mono J.size);have X:=Z.size;clear af J;obtain ⟨W3,C⟩:=Q' (w2.alloc (.cells (madeCells #[.int .i64 0,.bool false] (n*2)) 162));have a:W3.ownsRow w.heap.size 162 2 (.slice (some ⟨w2.heap.size,0,none⟩) n n) n (madeCells #[.int .i64 0,.bool false] (n*2)).toList:=by rw [C];exact World.ownsRow_lit _ _ n X Qk (by simp [madeCells])
 have B:Below w.heap.size w W3:=by rw [C];exact Z.alloc X _
 have cb:=ap.o _ B;have ab:=Qm s B.size;rw [C] at cb ab;go_wp2_with fail;rw [<-C];refine (ak.o _ B).mono ?_;rintro e w4 ⟨p1,c4,rfl,a1,a5⟩;have aj:w2.heap.size<W3.heap.size:=by rw [C];simp
 obtain ⟨B3,R⟩:=Q' W3.heap.size;rw [<-R] at aj a1;have ao:=hid a1;have a:=own_below a a5;have a7:=B.trans (a5.mono B.size);clear a1 a5 B C Z cb ab R;have ba:w2.heap.size<w4.heap.size:=(a.lt _ rfl).2;go_wp2;go_loopw [20] (λi wr=>∃(j:Nat) (xs:List Value),j<=M.length/\i = .int .i64 (j:Int)/\wr.ownsRow w.heap.size 162 2 (.slice (some ⟨w2.heap.size,0,none⟩) n n) n xs/\Hid (PlOk M m j xs) /\
  Below w.heap.size w wr/\Hid (wr.ownsRow B3 34 4 (.slice p1 M.length c4) M.length (rcs M))) (λi _=>M.length-(intOf i).toNat)
 case atStart=>exact ⟨0,_,Nat.zero_le _,rfl,a,hid (by exact b0.o),a7,ao⟩
 case round=>
  clear a a7 ao;obtain ⟨j,xs,hj,rfl,a,HP,O,an⟩:=hrel;have b9:=ar.o;have b8:=a.1;by_cases F:j<M.length
  ·obtain ⟨g,o,rfl,be,x0,x1,x2,x3⟩:=(Row.of_own an.o).rt F;obtain ⟨⟨ae,ad⟩,hq⟩:=b5.o _ (Qp F);have Y:=b4.o j xs HP.o F;generalize M[j]=r at *
   obtain ⟨⟨kh,kl,kn⟩,v⟩:=r;simp only at x0 x1 x2 x3 ae ad hq Y;have Y:=hid (Y hq);have E:=λW (y:Below w.heap.size w W)=>aq.o W kh kl y ae ad;obtain ⟨q,a8⟩:=Q' (numA kh m);rw [<-a8] at hq Y E;have I:=hid E;clear E a8;have a6:=O.size;have a2:=a.lt _ rfl;have z:Below w.heap.size w (wr.alloc (.cells #[.int .u64 (kh:Int),.int .u64 (kl:Int),.int .i64 kn,.int .i64 v] 34)):=O.alloc a6 _;go_wp2_with fail;have kg:=Ad;refine A1 9 Qb Qb ?_;simp only [List.take_succ_cons,List.take_zero,List.drop_succ_cons,List.drop_zero];repeat (any_goals (first|go_big_quiet_step ((exact Calls.regrown_of (I.o _ (z.trans ((below_regrown _ _ _).mono z.size)))))|quiet_step ((exact Calls.regrown_of (I.o _ (z.trans ((below_regrown _ _ _).mono z.size)))))))
   refine wpQuiet_nil ?_;clear kg;intro w5 a4;obtain ⟨ay,ax⟩:=Ac a4;have A:Below wr.heap.size wr w5:=Below.trans Qg (a4.mono Qf);have b:=own_below a A;have au:xs.length=n*2:=b.1;obtain ⟨v0,d0⟩:∃v,w5.cell? ⟨w2.heap.size,q*2,none⟩=some v:=⟨_,(b.cellAt (q*2) Qa).trans (Qr Qa)⟩;obtain ⟨v1,d1⟩:∃v,w5.cell? ⟨w2.heap.size,q*2+1,none⟩=some v:=⟨_,(b.cellAt (q*2+1) Qa).trans (Qr Qa)⟩;have f0:=b.frozenAt (q*2);have f1:=b.frozenAt (q*2+1);have bb:=O.trans (A.mono a6);have am:=hid (own_below an.o A);clear a ay ax a4 A au;go_wp2;go_roundw
   case rel=>refine ⟨j+1,_,Qa,Qj,Z7p b q (.int .i64 v) (.bool true),Y,Qg,hid (Zvi am.o _ _ _ _ _ aj)⟩
   case measure=>simp [intOf];omega
  ·have c1:=b3.o _ O;have f1:=b7.o _ O;have aa:=Qm s O.size;go_wp2;go_end0;have aw:j=M.length:=Qa;subst aw;have hX:=HD.o xs HP.o;have a2:=a.lt _ rfl;have T:=(Touch.quiet (S:=K) O).trans ((On wr t (.slice (some ⟨w2.heap.size,0,none⟩) n n)).mono (λk _ e=>e▸ac));refine ⟨rfl,λg=>K g\/In w.heap.size (wr.setCell ⟨t,1,none⟩ (.slice (some ⟨w2.heap.size,0,none⟩) n n)).heap.size g,⟨.inl ac,by simpa using aa,b6.o,?_,by rw [World.frozen?_setCell];exact f1,w2.heap.size,.inr ⟨X,by simpa using a2.2⟩,by simpa using a2.2,Qa,?_,?_⟩,T,λg hg=>hg⟩
   ·exact (World.cell?_setCell_other _ _ _ _ (λe=>by injection e with _ e;cases e)).trans (ap.o _ O)
   ·rw [<-HN.o];exact World.cell?_setCell_same _ _ _ c1
   ·intro i hi;rw [<-HN.o] at hi;obtain ⟨y0,y1⟩:=hX i hi;have a9:w2.heap.size≠t:=Qa;exact ⟨(On wr t _).cell ((a.cellAt (i*2) Qa).trans y0) a9,(On wr t _).cell ((a.cellAt (i*2+1) Qa).trans y1) a9⟩
theorem Y1:DirC DirP where
 new:=Zym
 fill:=λw K t m l L p c H j i d a f=>Zv2 w K t m l L p c H j i d a f
 len:=λw K t m L H=>by obtain ⟨h,-,-,-,k,-⟩:=H.row;exact Yz t (2^m) _ w k H.lt
 touched:=λw w' K S t m L H b e=>H.touched b e
end Go.Proofs.YtpdphfgpdgadpaaGreat
