import Derived.Test.YtpdphfgpdgadpaaGreatRT1
import Derived.Deep.AppendLies
import Derived.Shelf.GgSortFunc.SmallK
import Derived.Shelf.SlSortFuncK.ComposeK
import Derived.Shelf.SlSortFuncK.BreakPatternsK
set_option linter.unusedSimpArgs false
set_option linter.unusedVariables false
set_option maxHeartbeats 4000000
set_option maxRecDepth 100000
open Go.Proofs.Tryz
namespace Go.Proofs.YtpdphfgpdgadpaaGreat
open Lib(hid)
open Go.RowKit Go.Sort M
theorem Zzt {l:List Rt} {k:Ky} {i:Nat} (h:Al l k=some i):∃hi:i<l.length,(l.find? λr=>decide (r.k=k))=some l[i]:=by unfold Al at h;rw [List.findIdx?_eq_some_iff_getElem] at h;obtain ⟨hi,c,b⟩:=h;refine ⟨hi,?_⟩;rw [List.find?_eq_some_iff_getElem];exact ⟨c,i,hi,rfl,λj a=>by have:=b j a;simpa using this⟩
theorem Zzu {l:List Rt} {k:Ky} (h:Al l k=none):(l.find? λr=>decide (r.k=k))=none:=by unfold Al at h;rw [List.findIdx?_eq_none_iff] at h;rw [List.find?_eq_none];intro x a;rw [h x a];decide
theorem Zrn (t g:Nat) (v:Value) (T:Tab) (m x:Int) (k:Ky) (w:World) (H:CT w t g v T m) (h:Num T) (S:k.good) (s:Sorted T.st) (U:T.st.length<1048576) (I:getC (T.bk (T.x1 k)) k=some x) :
 Calls prog 99 #[.pointer (some ⟨t,0,none⟩),kyV k] w λe w'=>∃p c,e = .returned (.tuple #[.int .i64 x,.bool true,.slice p 1 c])/\w'.ownsRow w.heap.size 3 1 (.slice p 1 c) 1 (ics [(T.x1 k:Int)])/\Below w.heap.size w w':=by
 have Y:=hid (λw H=>Ct t g v T m w H h);have X:=hid (λw H=>Ci t g v T m k w H h S);have F:=λx (Q:x<T.B.length) w (H:CT w t g v T m)=>Hl g (x*20) (T.bk x) k w (H.tb.bk x Q);have HS:=hid (λw H=>Fb t g v T m k w H s U);have E:=hid H;have hl:=H.tb.tlt;have f:=F _ (h.x1_lt k);have r:=F _ (h.x2_lt k);rw [I] at f;try rw [h2] at r
 have f:=hid f;have r:=hid r;have O:=h.x1_lt k;have N:=h.x2_lt k;generalize D:T.x1 k=x1 at *
 generalize C:T.x2 k=x2 at *
 clear D C F;clear H h s I;try clear h2
 unfold kyV at *
 simp only [Option.getD_some,Option.isSome_some,Option.getD_none,Option.isSome_none] at *
 go_enter func99,ntmps99;go_wp2_with fail;refine (Y.o _ (E.o.below Qg)).mono ?_;rintro e w1 ⟨rfl,b⟩;have q:Below w.heap.size w w1:=Below.trans Qg (b.mono Qh);have J:w1.cell? ⟨w.heap.size,0,none⟩=some (.int .u64 (k.h:Int)):=by rw [b.cell Qc];exact Ql
 have d1:w1.cell? ⟨w.heap.size,1,none⟩=some (.int .u64 (k.l:Int)):=by rw [b.cell Qc];exact Ql
 have d2:w1.cell? ⟨w.heap.size,2,none⟩=some (.int .i64 k.n):=by rw [b.cell Qc];exact Ql
 have i:w.heap.size<w1.heap.size:=by
  have s:=b.size;try simp only [World.size_alloc,World.size_setCell] at s
  omega
 clear b;go_wp2_with fail;refine (X.o _ (E.o.below q)).mono ?_;rintro e w2 ⟨rfl,a⟩;have o:=q.trans (a.mono q.size);have d:=hid (E.o.below o);have c1:=d.o.tb.c1;have R:=d.o.tb.tlt;have J:=(a.cell (p:=⟨w.heap.size,0,none⟩) i).trans J;have d1:=(a.cell (p:=⟨w.heap.size,1,none⟩) i).trans d1;have d2:=(a.cell (p:=⟨w.heap.size,2,none⟩) i).trans d2;have L:=Qm i a.size;have i1:(0:Int)<=(x1:Int):=Qa;have i2:(x1:Int)<(T.B.length:Int):=Qa;clear a;go_wp2_with fail;have K:=Ad;refine Am Qb Qb ?_;repeat (any_goals (first|go_big_quiet_step ((exact Calls.regrown_of (f.o _ (d.o.below (below_regrown _ _ _)))))|quiet_step ((exact Calls.regrown_of (f.o _ (d.o.below (below_regrown _ _ _)))))))
 refine wpQuiet_nil ?_;clear K;intro w3 j;obtain ⟨A,z⟩:=Ac j;have Z:=hid (d.o.below j);have y:=o.trans (j.mono o.size);clear A z j;have u:=y.size;go_wp2;go_ret3;refine ⟨_,_,rfl,Do (B:=w.heap.size) u (by exact heap_alloc_new w3 _) Qa Qk rfl rfl,Qg⟩
theorem Zpf (t g:Nat) (v:Value) (T:Tab) (m x:Int) (k:Ky) (w:World) (H:CT w t g v T m) (h:Num T) (hk:k.good) (R:Sorted T.st) (hf:T.st.length<1048576) (h1:getC (T.bk (T.x1 k)) k=none) (h2:getC (T.bk (T.x2 k)) k=some x) :
 Calls prog 99 #[.pointer (some ⟨t,0,none⟩),kyV k] w λe w'=>∃p c,e = .returned (.tuple #[.int .i64 x,.bool true,.slice p 2 c])/\w'.ownsRow w.heap.size 3 1 (.slice p 2 c) 2 (ics [(T.x1 k:Int),(T.x2 k:Int)])/\Below w.heap.size w w':=by
 have HN:=hid (λw H=>Ct t g v T m w H h);have HT:=hid (λw H=>Ci t g v T m k w H h hk);have HG:=λx (hx:x<T.B.length) w (H:CT w t g v T m)=>Hl g (x*20) (T.bk x) k w (H.tb.bk x hx);have HS:=hid (λw H=>Fb t g v T m k w H R hf);have HH:=hid H;have hl:=H.tb.tlt;have s:=HG _ (h.x1_lt k);have r:=HG _ (h.x2_lt k);rw [h1] at s;try rw [h2] at r
 have s:=hid s;have r:=hid r;have a7:=h.x1_lt k;have a6:=h.x2_lt k;generalize a3:T.x1 k=x1 at *
 generalize a2:T.x2 k=x2 at *
 clear a3 a2 HG;clear H h R h1;try clear h2
 unfold kyV at *
 simp only [Option.getD_some,Option.isSome_some,Option.getD_none,Option.isSome_none] at *
 go_enter func99,ntmps99;go_wp2_with fail;refine (HN.o _ (HH.o.below Qg)).mono ?_;rintro e w1 ⟨rfl,f⟩;have C:Below w.heap.size w w1:=Below.trans Qg (f.mono Qh);have J:w1.cell? ⟨w.heap.size,0,none⟩=some (.int .u64 (k.h:Int)):=by rw [f.cell Qc];exact Ql
 have d1:w1.cell? ⟨w.heap.size,1,none⟩=some (.int .u64 (k.l:Int)):=by rw [f.cell Qc];exact Ql
 have d2:w1.cell? ⟨w.heap.size,2,none⟩=some (.int .i64 k.n):=by rw [f.cell Qc];exact Ql
 have y:w.heap.size<w1.heap.size:=by
  have R:=f.size;try simp only [World.size_alloc,World.size_setCell] at R
  omega
 clear f;go_wp2_with fail;refine (HT.o _ (HH.o.below C)).mono ?_;rintro e w2 ⟨rfl,d⟩;have z:=C.trans (d.mono C.size);have i:=hid (HH.o.below z);have S:=i.o.tb.c1;have D:=i.o.tb.tlt;have J:=(d.cell (p:=⟨w.heap.size,0,none⟩) y).trans J;have d1:=(d.cell (p:=⟨w.heap.size,1,none⟩) y).trans d1;have d2:=(d.cell (p:=⟨w.heap.size,2,none⟩) y).trans d2;have j:=Qm y d.size;have i1:(0:Int)<=(x1:Int):=Qa;have i2:(x1:Int)<(T.B.length:Int):=Qa;clear d;go_wp2_with fail;have U:=Ad;refine Am Qb Qb ?_;repeat (any_goals (first|go_big_quiet_step ((exact Calls.regrown_of (s.o _ (i.o.below (below_regrown _ _ _)))))|quiet_step ((exact Calls.regrown_of (s.o _ (i.o.below (below_regrown _ _ _)))))))
 refine wpQuiet_nil ?_;clear U;intro w3 b;obtain ⟨o,Z⟩:=Ac b;have Q:=hid (i.o.below b);have A:=z.trans (b.mono z.size);have u:=Qm j b.size;have L:=Qm D b.size;have S:=(o _ _ D).trans S;have J:=(o _ _ j).trans J;have d1:=(o _ _ j).trans d1;have d2:=(o _ _ j).trans d2;have j1:(0:Int)<=(x2:Int):=Qa;have j2:(x2:Int)<(T.B.length:Int):=Qa;clear o Z b D j i z;go_wp2_with fail;generalize F:World.alloc w3 _=w4 at *
 have a:Below w3.heap.size w3 w4:=by rw [<-F];go_grown
 have K:=A.trans (a.mono A.size);have E:w4.heap[w3.heap.size]? = some (.cells #[.int .i64 (x1:Int),.int .i64 (x2:Int)] 3 (0,0)):=by rw [<-F];exact heap_alloc_new w3 _
 have I:=hid (Q.o.below a);have S:=(a.cell (p:=⟨t,1,none⟩) L).trans S;have J:=(a.cell (p:=⟨w.heap.size,0,none⟩) u).trans J;have d1:=(a.cell (p:=⟨w.heap.size,1,none⟩) u).trans d1;have d2:=(a.cell (p:=⟨w.heap.size,2,none⟩) u).trans d2;have a5:=Qm u a.size;have a9:=Qm L a.size;have O:=(Array.getElem?_eq_some_iff.1 E).1;clear F a Q;have U:=Ad;refine Am Qb Qb ?_;repeat (any_goals (first|go_big_quiet_step ((exact Calls.regrown_of (r.o _ (I.o.below (below_regrown _ _ _)))))|quiet_step ((exact Calls.regrown_of (r.o _ (I.o.below (below_regrown _ _ _)))))))
 refine wpQuiet_nil ?_;clear U;intro w5 q;obtain ⟨a1,Y⟩:=Ac q;have aa:=hid (I.o.below q);have a8:=K.trans (q.mono K.size);have N:=(q.block _ O).trans E;have X:=A.size;have a4:=hid N;clear a1 Y q E N;go_wp2;go_ret3;refine ⟨_,_,rfl,Do (B:=w.heap.size) X a4.o Qa Qk rfl rfl,Qg⟩
theorem Zvz (t g:Nat) (v:Value) (T:Tab) (m:Int) (k:Ky) (w:World) (H:CT w t g v T m) (h:Num T) (hk:k.good) (hs:Sorted T.st) (hf:T.st.length<1048576) (h1:getC (T.bk (T.x1 k)) k=none) (h2:getC (T.bk (T.x2 k)) k=none) (h3:Al T.st k=none) :
 Calls prog 99 #[.pointer (some ⟨t,0,none⟩),kyV k] w λe w'=>∃p c,e = .returned (.tuple #[.int .i64 0,.bool false,.slice p 2 c])/\w'.ownsRow w.heap.size 3 1 (.slice p 2 c) 2 (ics [(T.x1 k:Int),(T.x2 k:Int)])/\Below w.heap.size w w':=by
 have HN:=hid (λw H=>Ct t g v T m w H h);have HT:=hid (λw H=>Ci t g v T m k w H h hk);have HG:=λx (hx:x<T.B.length) w (H:CT w t g v T m)=>Hl g (x*20) (T.bk x) k w (H.tb.bk x hx);have HS:=hid (λw H=>Fb t g v T m k w H hs hf);have HH:=hid H;have hl:=H.tb.tlt;have s:=HG _ (h.x1_lt k);have r:=HG _ (h.x2_lt k);rw [h1] at s;try rw [h2] at r
 have s:=hid s;have r:=hid r;have ac:=h.x1_lt k;have ab:=h.x2_lt k;generalize a7:T.x1 k=x1 at *
 generalize a6:T.x2 k=x2 at *
 clear a7 a6 HG;rw [G3 h3] at HS;have ah:¬(0:Int) <= -1:=Qa;clear H h hs h1;try clear h2
 unfold kyV at *
 simp only [Option.getD_some,Option.isSome_some,Option.getD_none,Option.isSome_none] at *
 go_enter func99,ntmps99;go_wp2_with fail;refine (HN.o _ (HH.o.below Qg)).mono ?_;rintro e w1 ⟨rfl,i⟩;have J:Below w.heap.size w w1:=Below.trans Qg (i.mono Qh);have F:w1.cell? ⟨w.heap.size,0,none⟩=some (.int .u64 (k.h:Int)):=by rw [i.cell Qc];exact Ql
 have d1:w1.cell? ⟨w.heap.size,1,none⟩=some (.int .u64 (k.l:Int)):=by rw [i.cell Qc];exact Ql
 have d2:w1.cell? ⟨w.heap.size,2,none⟩=some (.int .i64 k.n):=by rw [i.cell Qc];exact Ql
 have z:w.heap.size<w1.heap.size:=by
  have hs:=i.size;try simp only [World.size_alloc,World.size_setCell] at hs
  omega
 clear i;go_wp2_with fail;refine (HT.o _ (HH.o.below J)).mono ?_;rintro e w2 ⟨rfl,f⟩;have A:=J.trans (f.mono J.size);have j:=hid (HH.o.below A);have c1:=j.o.tb.c1;have K:=j.o.tb.tlt;have F:=(f.cell (p:=⟨w.heap.size,0,none⟩) z).trans F;have d1:=(f.cell (p:=⟨w.heap.size,1,none⟩) z).trans d1;have d2:=(f.cell (p:=⟨w.heap.size,2,none⟩) z).trans d2;have o:=Qm z f.size;have i1:(0:Int)<=(x1:Int):=Qa;have i2:(x1:Int)<(T.B.length:Int):=Qa;clear f;go_wp2_with fail;have kg:=Ad;refine Am Qb Qb ?_;repeat (any_goals (first|go_big_quiet_step ((exact Calls.regrown_of (s.o _ (j.o.below (below_regrown _ _ _)))))|quiet_step ((exact Calls.regrown_of (s.o _ (j.o.below (below_regrown _ _ _)))))))
 refine wpQuiet_nil ?_;clear kg;intro w3 d;obtain ⟨q,a5⟩:=Ac d;have a1:=hid (j.o.below d);have I:=A.trans (d.mono A.size);have y:=Qm o d.size;have U:=Qm K d.size;have c1:=(q _ _ K).trans c1;have F:=(q _ _ o).trans F;have d1:=(q _ _ o).trans d1;have d2:=(q _ _ o).trans d2;have j1:(0:Int)<=(x2:Int):=Qa;have j2:(x2:Int)<(T.B.length:Int):=Qa;clear q a5 d K o j A;go_wp2_with fail;generalize N:World.alloc w3 _=w4 at *
 have a:Below w3.heap.size w3 w4:=by rw [<-N];go_grown
 have S:=I.trans (a.mono I.size);have L:w4.heap[w3.heap.size]? = some (.cells #[.int .i64 (x1:Int),.int .i64 (x2:Int)] 3 (0,0)):=by rw [<-N];exact heap_alloc_new w3 _
 have Q:=hid (a1.o.below a);have c1:=(a.cell (p:=⟨t,1,none⟩) U).trans c1;have F:=(a.cell (p:=⟨w.heap.size,0,none⟩) y).trans F;have d1:=(a.cell (p:=⟨w.heap.size,1,none⟩) y).trans d1;have d2:=(a.cell (p:=⟨w.heap.size,2,none⟩) y).trans d2;have u:=Qm y a.size;have ag:=Qm U a.size;have E:=(Array.getElem?_eq_some_iff.1 L).1;clear N a a1;have kg:=Ad;refine Am Qb Qb ?_;repeat (any_goals (first|go_big_quiet_step ((exact Calls.regrown_of (r.o _ (Q.o.below (below_regrown _ _ _)))))|quiet_step ((exact Calls.regrown_of (r.o _ (Q.o.below (below_regrown _ _ _)))))))
 refine wpQuiet_nil ?_;clear kg;intro w5 b;obtain ⟨C,a4⟩:=Ac b;have O:=hid (Q.o.below b);have R:=S.trans (b.mono S.size);have Y:=(b.block _ E).trans L;have af:=O.o.tb.tlt;have F:=(C _ _ u).trans F;have d1:=(C _ _ u).trans d1;have d2:=(C _ _ u).trans d2;have a3:=Qm u b.size;have X:=Qm E b.size;have a9:=hid Y;clear C a4 b L Y;go_wp2_with fail;refine (HS.o _ O.o).mono ?_;rintro e w6 ⟨rfl,D⟩;have Z:=hid (O.o.below D);have ad:=R.trans (D.mono R.size);have a8:=hid ((D.block _ X).trans a9.o);have aa:=Qm a3 D.size;have ae:=Z.o.tb.tlt;have c2:=Z.o.tb.c2;have a2:=I.size;go_wp2;go_ret3;refine ⟨_,_,rfl,Do (B:=w.heap.size) a2 a8.o Qa Qk rfl rfl,Qg⟩
theorem Zrm (t g:Nat) (v:Value) (T:Tab) (m:Int) (k:Ky) (i:Nat) (hi:i<T.st.length) (w:World) (H:CT w t g v T m) (h:Num T) (hk:k.good) (hs:Sorted T.st) (hf:T.st.length<1048576) (h1:getC (T.bk (T.x1 k)) k=none) (h2:getC (T.bk (T.x2 k)) k=none) (h3:Al T.st k=some i) :
 Calls prog 99 #[.pointer (some ⟨t,0,none⟩),kyV k] w λe w'=>∃p c,e = .returned (.tuple #[.int .i64 T.st[i].v,.bool true,.slice p 2 c])/\w'.ownsRow w.heap.size 3 1 (.slice p 2 c) 2 (ics [(T.x1 k:Int),(T.x2 k:Int)])/\Below w.heap.size w w':=by
 obtain ⟨pv,cv,hv⟩:=Aq H.tb.own;have ho:=H.tb.own;rw [hv] at ho;obtain ⟨gr,o,rfl,a1,r0,r1,r2,r3⟩:=(Row.of_own ho).rt hi;have HR:=hid r3;have HV:=hid hv;clear r0 r1 r2 r3 ho hv;have HN:=hid (λw H=>Ct t g v T m w H h);have HT:=hid (λw H=>Ci t g v T m k w H h hk);have HG:=λx (hx:x<T.B.length) w (H:CT w t g v T m)=>Hl g (x*20) (T.bk x) k w (H.tb.bk x hx);have HS:=hid (λw H=>Fb t g v T m k w H hs hf);have HH:=hid H;have hl:=H.tb.tlt;have y:=HG _ (h.x1_lt k);have u:=HG _ (h.x2_lt k);rw [h1] at y;try rw [h2] at u
 have y:=hid y;have u:=hid u;have ah:=h.x1_lt k;have ag:=h.x2_lt k;generalize ab:T.x1 k=x1 at *
 generalize aa:T.x2 k=x2 at *
 clear ab aa HG;rw [I6 h3] at HS;have am:(0:Int)<=(i:Int):=Qa;have al:(i:Int)<(T.st.length:Int):=Qa;generalize hX:T.st[i].v=x at *
 clear hX;clear H h hs h1;try clear h2
 unfold kyV at *
 simp only [Option.getD_some,Option.isSome_some,Option.getD_none,Option.isSome_none] at *
 go_enter func99,ntmps99;go_wp2_with fail;refine (HN.o _ (HH.o.below Qg)).mono ?_;rintro e w1 ⟨rfl,j⟩;have L:Below w.heap.size w w1:=Below.trans Qg (j.mono Qh);have J:w1.cell? ⟨w.heap.size,0,none⟩=some (.int .u64 (k.h:Int)):=by rw [j.cell Qc];exact Ql
 have d1:w1.cell? ⟨w.heap.size,1,none⟩=some (.int .u64 (k.l:Int)):=by rw [j.cell Qc];exact Ql
 have d2:w1.cell? ⟨w.heap.size,2,none⟩=some (.int .i64 k.n):=by rw [j.cell Qc];exact Ql
 have C:w.heap.size<w1.heap.size:=by
  have hs:=j.size;try simp only [World.size_alloc,World.size_setCell] at hs
  omega
 clear j;go_wp2_with fail;refine (HT.o _ (HH.o.below L)).mono ?_;rintro e w2 ⟨rfl,f⟩;have D:=L.trans (f.mono L.size);have q:=hid (HH.o.below D);have c1:=q.o.tb.c1;have N:=q.o.tb.tlt;have J:=(f.cell (p:=⟨w.heap.size,0,none⟩) C).trans J;have d1:=(f.cell (p:=⟨w.heap.size,1,none⟩) C).trans d1;have d2:=(f.cell (p:=⟨w.heap.size,2,none⟩) C).trans d2;have r:=Qm C f.size;have i1:(0:Int)<=(x1:Int):=Qa;have i2:(x1:Int)<(T.B.length:Int):=Qa;clear f;go_wp2_with fail;have kg:=Ad;refine Am Qb Qb ?_;repeat (any_goals (first|go_big_quiet_step ((exact Calls.regrown_of (y.o _ (q.o.below (below_regrown _ _ _)))))|quiet_step ((exact Calls.regrown_of (y.o _ (q.o.below (below_regrown _ _ _)))))))
 refine wpQuiet_nil ?_;clear kg;intro w3 d;obtain ⟨s,a9⟩:=Ac d;have a5:=hid (q.o.below d);have K:=D.trans (d.mono D.size);have A:=Qm r d.size;have Z:=Qm N d.size;have c1:=(s _ _ N).trans c1;have J:=(s _ _ r).trans J;have d1:=(s _ _ r).trans d1;have d2:=(s _ _ r).trans d2;have j1:(0:Int)<=(x2:Int):=Qa;have j2:(x2:Int)<(T.B.length:Int):=Qa;clear s a9 d N r q D;go_wp2_with fail;generalize Q:World.alloc w3 _=w4 at *
 have a:Below w3.heap.size w3 w4:=by rw [<-Q];go_grown
 have Y:=K.trans (a.mono K.size);have O:w4.heap[w3.heap.size]? = some (.cells #[.int .i64 (x1:Int),.int .i64 (x2:Int)] 3 (0,0)):=by rw [<-Q];exact heap_alloc_new w3 _
 have S:=hid (a5.o.below a);have c1:=(a.cell (p:=⟨t,1,none⟩) Z).trans c1;have J:=(a.cell (p:=⟨w.heap.size,0,none⟩) A).trans J;have d1:=(a.cell (p:=⟨w.heap.size,1,none⟩) A).trans d1;have d2:=(a.cell (p:=⟨w.heap.size,2,none⟩) A).trans d2;have z:=Qm A a.size;have ak:=Qm Z a.size;have I:=(Array.getElem?_eq_some_iff.1 O).1;clear Q a a5;have kg:=Ad;refine Am Qb Qb ?_;repeat (any_goals (first|go_big_quiet_step ((exact Calls.regrown_of (u.o _ (S.o.below (below_regrown _ _ _)))))|quiet_step ((exact Calls.regrown_of (u.o _ (S.o.below (below_regrown _ _ _)))))))
 refine wpQuiet_nil ?_;clear kg;intro w5 b;obtain ⟨E,a8⟩:=Ac b;have R:=hid (S.o.below b);have X:=Y.trans (b.mono Y.size);have a3:=(b.block _ I).trans O;have aj:=R.o.tb.tlt;have J:=(E _ _ z).trans J;have d1:=(E _ _ z).trans d1;have d2:=(E _ _ z).trans d2;have a7:=Qm z b.size;have a2:=Qm I b.size;have ad:=hid a3;clear E a8 b O a3;go_wp2_with fail;refine (HS.o _ R.o).mono ?_;rintro e w6 ⟨rfl,F⟩;have a4:=hid (R.o.below F);have U:=X.trans (F.mono X.size);have ac:=hid ((F.block _ a2).trans ad.o);have af:=Qm a7 F.size;have ai:=a4.o.tb.tlt;have c2:=a4.o.tb.c2;have a6:=K.size;have ae:=Qm a1 U.size;rw [HV.o] at c2;have r3:=(U.cell (p:=⟨gr,o+i*4+3,none⟩) a1).trans HR.o;go_wp2;go_ret3;refine ⟨_,_,rfl,Do (B:=w.heap.size) a6 ac.o Qa Qk rfl rfl,Qg⟩
theorem Zzn (t g:Nat) (v:Value) (T:Tab) (m:Int) (k:Ky) (w:World) (H:CT w t g v T m) (h:Num T) (b:k.good) (a:Sorted T.st) (d:T.st.length<1048576) :
 Calls prog 99 #[.pointer (some ⟨t,0,none⟩),kyV k] w λe w'=>∃p c,e = .returned (.tuple #[.int .i64 ((getT T k).getD 0),.bool (getT T k).isSome,.slice p (Dj T k).length c])/\w'.ownsRow w.heap.size 3 1 (.slice p (Dj T k).length c) (Dj T k).length (ics (Dj T k))/\Below w.heap.size w w':=by
 unfold getT Dj;cases j:getC (T.bk (T.x1 k)) k with
 | some x=>exact Zrn t g v T m x k w H h b a d j
 | none=>
  cases l:getC (T.bk (T.x2 k)) k with
  | some x=>exact Zpf t g v T m x k w H h b a d j l
  | none=>
   cases f:Al T.st k with
   | none=>rw [Zzu f];exact Zvz t g v T m k w H h b a d j l f
   | some i=>obtain ⟨hi,e⟩:=Zzt f;rw [e];exact Zrm t g v T m k i hi w H h b a d j l f
theorem Z3j (lo hi f s:Nat) (k:Int) (C:List Nat) (h l:Nat) (n:Int) (w:World) (H:Fil w lo hi f s k C) (wh:W64 h) (wl:W64 l) :
 Calls prog 101 #[.pointer (some ⟨f,0,none⟩),.agg #[.int .u64 h,.int .u64 l,.int .i64 n]] w λe w'=>e = .returned (.tuple #[]) /\
  Fil w' lo hi f s k (addL C (plc s h l n k C.length))/\Touch (In lo hi) w w':=by
 have hP:∀d,Fil d lo hi f s k C->Calls prog 116 #[.pointer (some ⟨f,0,none⟩),.agg #[.int .u64 h,.int .u64 l,.int .i64 n]] d λe w'=>∃p c,e = .returned (.slice p (plc s h l n k C.length).length c) /\
  w'.ownsRow d.heap.size 3 1 (.slice p (plc s h l n k C.length).length c) (plc s h l n k C.length).length (ics (plc s h l n k C.length))/\Below d.heap.size d w':=λd H=>Vi lo hi f s k C h l n d H wh wl
 have a3:=Vh s h l n k C.length;generalize plc s h l n k C.length=L at *
 have HP:=hid hP;have HC:=hid H;clear hP H;go_enter func101,ntmps101;go_wp2_with fail;refine (HP.o _ (HC.o.below Qg)).mono ?_;rintro e w1 ⟨p,c,rfl,b,E⟩;have o:Below w.heap.size w w1:=Below.trans Qg (E.mono Qh);have a:=A7 (B':=w.heap.size) b Qh;have K:=hid (HC.o.below o);have a1:hi<=w.heap.size:=by obtain ⟨g1,O,g2,U,H⟩:=HC.o;exact H.top
 obtain ⟨g1,O,g2,U,H⟩:=K.o;clear b E K HP;go_wp2;go_loopw [10] (λm wr=>∃i:Nat,i<=L.length/\m = .int .i64 i/\FilB wr lo hi f g1 O g2 U s k (addL C (L.take i)) (onsC (addL C (L.take i)))/\wr.ownsRow w.heap.size 3 1 (.slice p L.length c) L.length (ics L)/\Touch (In lo hi) w wr) (λm _=>L.length-(intOf m).toNat)
 case atStart=>exact ⟨0,Nat.zero_le _,rfl,H,a,Touch.of_below o (λk O U=>absurd O Qa)⟩
 case round=>
  clear H a o;obtain ⟨i,a6,rfl,H,b,N⟩:=hrel;have hz:=N.size;by_cases z:i<L.length
  ·obtain ⟨X,a4,rfl,a7,d0⟩:=(IRow.of_own b).at z;have y:=Z00 C L i z;have a2:=(b.lt X rfl).1;generalize hx:L[i]=x at *
   generalize hA:addL C (L.take i)=A at *
   have Y:=hid y;clear hx hA y;have c2:=H.c2;have hl:=H.lt;have HH:=hid H;have HO:=hid b;clear H b;go_wp2_with fail;refine (Z7l _ _ _ _ x _ HH.o.cs).mono ?_;rintro e w2 ⟨rfl,I,D⟩;obtain ⟨Q,r⟩:=HH.o.turnC I (L4 _ _) D;have a:=Touch.own HO.o r (λj e S=>by cases e;exact absurd (show X<hi from S.2) Qa);have u:=N.trans r;have c3:=Q.c3;have a5:=Q.lt;have J:=hid Q;have Z:=hid a;clear Q a I D r N c2;go_wp2_with fail;refine (Ry _ _ _ _ x _ _ J.o.bs).mono ?_;rintro e w3 ⟨rfl,F,B⟩;obtain ⟨H3,q⟩:=J.o.turnD F (Rx _ _ _) B;have t:=Touch.own Z.o q (λj e S=>by cases e;exact absurd (show X<hi from S.2) Qa);have R:=u.trans q;rw [Z78,<-Y.o] at H3;clear F B u q;go_wp2;go_roundw
   case rel=>exact ⟨i+1,Qa,Qj,H3,t,R⟩
   case measure=>simp [intOf];omega
  ·go_wp2;go_end0;rw [List.take_of_length_le Qa] at H;exact ⟨rfl,⟨_,_,_,_,H⟩,N⟩
theorem Z29 (lo hi f s:Nat) (k:Int) (C:List Nat) (h l:Nat) (n:Int) (w:World) (H:Fil w lo hi f s k C) (wh:W64 h) (wl:W64 l) :
 Calls prog 98 #[.pointer (some ⟨f,0,none⟩),.agg #[.int .u64 h,.int .u64 l,.int .i64 n]] w λe w'=>e = .returned (.tuple #[]) /\
  Fil w' lo hi f s k (remL C (plc s h l n k C.length))/\Touch (In lo hi) w w':=by
 have hP:∀m,Fil m lo hi f s k C->Calls prog 116 #[.pointer (some ⟨f,0,none⟩),.agg #[.int .u64 h,.int .u64 l,.int .i64 n]] m λe w'=>∃p c,e = .returned (.slice p (plc s h l n k C.length).length c) /\
  w'.ownsRow m.heap.size 3 1 (.slice p (plc s h l n k C.length).length c) (plc s h l n k C.length).length (ics (plc s h l n k C.length))/\Below m.heap.size m w':=λm H=>Vi lo hi f s k C h l n m H wh wl
 have a7:=Vh s h l n k C.length;generalize plc s h l n k C.length=L at *
 have HP:=hid hP;have HC:=hid H;clear hP H;go_enter func98,ntmps98;go_wp2_with fail;refine (HP.o _ (HC.o.below Qg)).mono ?_;rintro e w1 ⟨p,c,rfl,b,O⟩;have r:Below w.heap.size w w1:=Below.trans Qg (O.mono Qh);have a:=A7 (B':=w.heap.size) b Qh;have Z:=hid (HC.o.below r);have a5:hi<=w.heap.size:=by obtain ⟨g1,h1,g2,h2,H⟩:=HC.o;exact H.top
 obtain ⟨g1,h1,g2,h2,H⟩:=Z.o;clear b O Z HP;go_wp2;go_loopw [10] (λq wr=>∃i:Nat,i<=L.length/\q = .int .i64 i/\FilB wr lo hi f g1 h1 g2 h2 s k (remL C (L.take i)) (onsC (remL C (L.take i)))/\wr.ownsRow w.heap.size 3 1 (.slice p L.length c) L.length (ics L)/\Touch (In lo hi) w wr) (λq _=>L.length-(intOf q).toNat)
 case atStart=>exact ⟨0,Nat.zero_le _,rfl,H,a,Touch.of_below r (λk h1 h2=>absurd h1 Qa)⟩
 case round=>
  clear H a r;obtain ⟨i,aa,rfl,H,b,ht⟩:=hrel;have hz:=ht.size;by_cases F:i<L.length
  ·obtain ⟨gr,a8,rfl,ab,d0⟩:=(IRow.of_own b).at F;have E:=Zxm C L i F;have a6:=(b.lt gr rfl).1;generalize hx:L[i]=x at *
   generalize hA:remL C (L.take i)=A at *
   have a2:=hid E;clear hx hA E;have c2:=H.c2;have hl:=H.lt;have HH:=hid H;have HO:=hid b;clear H b;go_wp2_with fail;refine (Z3l _ _ _ _ x _ HH.o.cs).mono ?_;rintro e w2 ⟨rfl,R,N⟩;obtain ⟨z,u⟩:=HH.o.turnC R (L5 _ _) N;have a:=Touch.own HO.o u (λj e I=>by cases e;exact absurd (show gr<hi from I.2) Qa);have D:=ht.trans u;have c2:=z.c2;have c3:=z.c3;have a9:=z.lt;obtain ⟨v,hv⟩:∃v:Nat,v=getN (Ax A x) x:=⟨_,rfl⟩;have J:∀m,Below w2.heap.size w2 m->Calls prog 119 #[.pointer (some ⟨g1,0,none⟩),.int .i64 x] m λe w'=>e = .returned (.int .i64 (v:Int))/\Below m.heap.size m w':=by intro m hb;rw [hv];exact El _ _ _ _ x _ (z.cs.below hb)
   have HG:=hid J;have y:=Z18 A x;rw [<-hv] at y;have a3:=hid y;have Y:=hid z;have U:=hid a;clear z a R N u ht J hv y;go_wp2_with fail;have kg:=Ad;refine A1 12 Qb Qb ?_;simp only [List.take_succ_cons,List.take_zero,List.drop_succ_cons,List.drop_zero];repeat (any_goals (first|go_big_quiet_step ((exact Calls.regrown_of (HG.o _ (below_regrown _ _ _))))|quiet_step ((exact Calls.regrown_of (HG.o _ (below_regrown _ _ _))))))
   refine wpQuiet_nil ?_;clear kg;intro w3 o;obtain ⟨ad,ac⟩:=Ac o;have X:=hid (Y.o.below o);have d:=Touch.own U.o (Touch.quiet o (S:=In lo hi)) (λj e I=>by cases e;exact absurd (show gr<hi from I.2) Qa);have a4:=hid d;have B:=D.trans (Touch.quiet o);clear Y U d o;go_wp2_with fail;refine (Ry _ _ _ _ x _ _ X.o.bs).mono ?_;rintro e w4 ⟨rfl,Q,K⟩;obtain ⟨H3,t⟩:=X.o.turnD Q (Rx _ _ _) K;have d:=Touch.own a4.o t (λj e I=>by cases e;exact absurd (show gr<hi from I.2) Qa);have a1:=B.trans t;rw [show ((v:Int) != 0)=decide (v≠0) by rw [Bool.eq_iff_iff];simp,a3.o,<-a2.o] at H3;clear Q K D t;go_wp2;go_roundw
   case rel=>exact ⟨i+1,Qa,Qj,H3,d,a1⟩
   case measure=>simp [intOf];omega
  ·go_wp2;go_end0;rw [List.take_of_length_le Qa] at H;exact ⟨rfl,⟨_,_,_,_,H⟩,ht⟩
theorem Z3c (s:Nat) (k m:Int) (h:¬(1<=k/\k<=16/\1<=m/\m<=65536)) (w:World) :
 Calls prog 48 #[.int .u64 s,.int .i64 k,.int .i64 m] w λe w'=>e = .returned (.tuple #[.pointer none,.int .i64 1])/\Below w.heap.size w w':=by
 by_cases c:k<1
 ·go_enter func48,ntmps48;go_wp2;go_ret2;exact ⟨rfl,Qg⟩
 ·by_cases k1:16<k
  ·go_enter func48,ntmps48;go_wp2;go_ret2;exact ⟨rfl,Qg⟩
  ·by_cases b:m<1
   ·go_enter func48,ntmps48;go_wp2;go_ret2;exact ⟨rfl,Qg⟩
   ·have a:65536<m:=Qa;clear h;go_enter func48,ntmps48;go_wp2;go_ret2;exact ⟨rfl,Qg⟩
theorem Vq (s:Nat) (k m:Int) (r:W64 s) (D:1<=k) (k1:k<=16) (C:1<=m) (B:m<=65536) (w:World) :
 Calls prog 48 #[.int .u64 s,.int .i64 k,.int .i64 m] w λe w'=>∃f,e = .returned (.tuple #[.pointer (some ⟨f,0,none⟩),.int .i64 0])/\Fil w' w.heap.size w'.heap.size f s k (List.replicate m.toNat 0)/\Below w.heap.size w w':=by
 have o:min m.toNat 65536=m.toNat:=Qa;have q:=hid o;clear o;go_enter func48,ntmps48;go_wp2_with fail;refine (Z51 m Qa Qa _).mono ?_;rintro e w1 ⟨v,rfl,⟨A,y,rfl,p⟩,j⟩;have i:Below w.heap.size w w1:=Below.trans Qg (j.mono Qh);have h:=i.size;have c:=p.le (B':=w.heap.size) Qh;rw [q.o] at c;clear p j;go_wp2_with fail;refine (Z32 m Qa Qa _).mono ?_;rintro e w2 ⟨v,rfl,⟨z,x,rfl,l⟩,a⟩;have u:Below w.heap.size w w2:=i.trans (a.mono h);have t:=a.size;rw [q.o] at l;have d:=hid c;have b:=hid l;have n:=hid a;clear c l a;go_wp2;go_ret2;have I:=d.o.lt;have F:=d.o.low2;have b1:=b.o.low;have b2:=b.o.lt;have E:=b.o.low2;refine ⟨w2.heap.size,rfl,⟨A,y,z,x,?_⟩,Qg⟩;refine ⟨Qi,Qi,Qi,Qi,(d.o.below n.o).kept (World.grownBy_alloc _ _ none) Qf Qf,?_,by simp [onsC],Qf,⟨Qa,Qf⟩,⟨Qe,Qe⟩,⟨Qe,Qe⟩,⟨Qa,Qa,Qa⟩,⟨Qa,Qa,Qa⟩,r⟩;rw [Zyf];exact (b.o.le h).kept (World.grownBy_alloc _ _ none) Qf Qf
end Go.Proofs.YtpdphfgpdgadpaaGreat
namespace Go.Proofs
open YtpdphfgpdgadpaaGreat(Qa Qb Qc Qe Qf Qg Qh Qi Qj Qk Ql Qm Qo)
open Go.Shelf
end Go.Proofs
namespace Go.Proofs.YtpdphfgpdgadpaaGreat
open Lib(hid)
open Go.RowKit Go.Sort M
theorem Vr (T:Tab) (j:Nat) (h:j<T.B.length):(T.B.take (j+1)).flatMap allC=(T.B.take j).flatMap allC++allC (T.bk j):=by rw [List.take_succ_eq_append_getElem h,List.flatMap_append,E3 T j h];simp
theorem Vs (T:Tab) (a:∀i,i<T.B.length->(T.bk i).length=4):∀j,j<=T.B.length->((T.B.take j).flatMap allC).length<=j*4
 | 0,_=>Qf
 | j+1,h=>by have b:=Vs T a j Qa;have:=Lc (T.bk j);rw [a j Qa] at this;rw [Vr T j Qa,Qo];omega
theorem Z2t (t g:Nat) (v:Value) (T:Tab) (m:Int) (w:World) (H:CT w t g v T m) (h:Num T) (hf:T.st.length<1048576) :
 Calls prog 148 #[.pointer (some ⟨t,0,none⟩)] w λe w'=>Cw w w' e (Ab T):=by
 have hl:=H.tb.tlt;have c1:=H.tb.c1;have Z:∀i,i<T.B.length->(T.bk i).length=4:=λi hi=>(H.tb.bk i hi).four;have R:=hid (Vs T Z);have a1:=h.hi;have HA:=hid (λx (hx:x<T.B.length) w (H:CT w t g v T m)=>Z0y g (x*20) (T.bk x) w (H.tb.bk x hx));have HH:=hid H;clear H h Z;go_enter func148,ntmps148;go_wp2;go_loopw [3,4,10] (λs3 s4 i wr=>∃(j:Nat) (L:List Rt),j<=T.B.length/\i = .int .i64 (j:Int)/\Hid (L=(T.B.take j).flatMap allC)/\L.length<=262144/\Hid (wr.ownsRow w.heap.size 34 4 s3 L.length (rcs L))/\Below w.heap.size w wr) (λ_ _ i _=>T.B.length-(intOf i).toNat)
 case atStart=>exact ⟨0,[],Qa,rfl,rfl,Qf,World.ownsRow_nil _ _ _ _,Qg⟩
 case round=>
  obtain ⟨j,L,hj,rfl,Q,a2,f,u⟩:=hrel;by_cases C:j<T.B.length
  ·have d:=hid (HH.o.below u);have c1:=d.o.tb.c1;have I:=d.o.tb.tlt;have i1:(0:Int)<=(j:Int):=Qa;have i2:(j:Int)<(T.B.length:Int):=Qa;have X:=u.size;have r:=R.o (j+1) Qa;have q:=Vr T j C;rw [q,Qo,<-Q.o] at r;have S:=hid q;have U:=hid r;have D:=hid (HA.o j C wr d.o);clear q r;go_wp2_with fail;refine D.o.mono ?_;rintro e w2 ⟨p,c,rfl,b,s⟩;have l:=hid (own_below f.o s);have b:=hid b;have A:=u.trans (s.mono u.size);have E:=A.size;have a3:=U.o;obtain ⟨N,O⟩:=Q' (L++allC (T.bk j));have F:N.length<=262144:=by rw [O,Qo];omega
   have HN:=hid O;clear s f D O;go_wp2_with (at_builtin;go_loud (refine Uh rfl (.tmp 13) (.tmp 20) rfl w.heap.size wr.heap.size _ _ L (allC (T.bk j)) N HN.o rfl rfl l.o b.o Qa Qa ?_));intro v3 w3 a n y;have o:Below w.heap.size w w3:=A.grown n E (λk J=>(l.o.lt k J).1);have z:=hid a;clear a n y;go_wp2;go_roundw
   case rel=>exact ⟨j+1,N,Qa,Qj,by show _=_;rw [S.o,HN.o,Q.o],F,z,o⟩
   case measure=>simp [intOf];omega
  ·have K:j=T.B.length:=Qa;have d:=hid (HH.o.below u);have c2:=d.o.tb.c2;have I:=d.o.tb.tlt;have X:=u.size;have Y:Ab T=L++T.st:=by unfold Ab;rw [Q.o,K,List.take_length]
   have HE:=hid Y;clear Y;go_wp2_with (at_builtin;go_loud (refine Uh rfl (.tmp 23) (.tmp 27) rfl w.heap.size 0 _ _ L T.st (Ab T) HE.o rfl rfl f.o d.o.tb.own Qa Qa ?_));intro v3 w3 a n y;have o:Below w.heap.size w w3:=u.grown n X (λk J=>(f.o.lt k J).1);obtain ⟨p3,c3,rfl⟩:=Aq a;have z:=hid a;clear a n y;go_wp2;go_ret;exact ⟨p3,c3,rfl,z.o,o⟩
end Go.Proofs.YtpdphfgpdgadpaaGreat
