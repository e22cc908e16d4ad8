import Derived.Test.YtpdphfgpdgadpaaGreatReg2
import Derived.Test.YtpdphfgpdgadpaaGreatReg6
import Derived.Lib.Overlaps
set_option linter.unusedSimpArgs false
set_option linter.unusedVariables false
set_option maxHeartbeats 4000000
set_option maxRecDepth 100000
open Go.Proofs.Tryz
namespace Go.Proofs.YtpdphfgpdgadpaaGreat
open Lib(hid)
section
open Go.RowKit Go.Sort M
section
variable {P:Program}
theorem Zn3 {w:World} {g o:Nat} {a:Array Value} {t:TypeId} {c:List Value} (f:w.heap[g]? = some (.cells a t (0,0))) (e:o+c.length<=a.size) (h:∀v∈c,v.oneCell'=true) :
 w.setCells g o c=w.setRow g (splice a.toList o c).toArray:=by
 have b:=run_storeCells_at prog g o t c 0 a w f (by simpa using e) h;have k:∀j,j<c.length->(w.cell? ⟨g,o+0+j,none⟩).isSome=true:=by intro j l;rw [cell_of_row w g _ a t (0,0) f,Array.getElem?_eq_getElem Qa];rfl
 have i:∀j,j<c.length->w.frozen? ⟨g,o+0+j,none⟩=false:=λj _=>frozen_of_row w g _ a t f;have d:=run_storeCells_cells (P:=prog) g o c 0 w k i h;rw [d] at b;injection b with _ b;simp only [Nat.add_zero] at b;rw [b];simp [splice]
theorem Ux {ops:Array Oper} {o:Oper} {a:Act} {w:World} {K:Act->World->Prop} {Q:Exit->Act->World->Prop} {E:Prop}
 (J:o.guard=none) (s x:Operand) (t:TypeId) (z:o.op=Op.call { callee:=Callee.builtin Builtin.append,args := #[s,x],argTypes := #[t,t] })
 (e:TypeId) (i:TypeInfo) (size:Nat) (S:P.underlying t=some (.slice e)) (R:P.info? e=some i) (O:i.size=size)
 (b k n cap:Nat) (F:a.eval s = .slice (some ⟨b,k,none⟩) n cap) (y:Nat) (h:Nat) (A:k+n*size=h)
 (C:Addr) (m c:Nat) (d:List Value) (D:a.eval x = .slice (some C) m c) (B:n+m=y) (I:d.length=m*size) (L:∀j u,d[j]? = some u->w.cell? (C.add j)=some u) (q:∀u∈d,u.oneCell'=true)
 (l:y<=cap) (f:Array Value) (ty:TypeId) (r:w.heap[b]? = some (.cells f ty (0,0))) (p:h+d.length<=f.size)
 (N:∀w',Hid (w'.heap[b]? = some (.cells (splice f.toList h d).toArray ty (0,0)))->w.grownBy w' (some b)->K (a.put o.dst (.slice (some ⟨b,k,none⟩) y cap)) w') :
 if Region.wanted o (yielded ops a.tmps)=true then Oper.wp P o a w K Q else E:=by
 subst B A;refine step_append_room J s x t z e i size S R O b k n cap F C m c d D I L q l (λj U => ?_) ?_
 ·constructor
  ·rw [cell_of_row w b _ f ty (0,0) r,Array.getElem?_eq_getElem Qa];rfl
  ·exact frozen_of_row w b _ f ty r
 ·rw [Zn3 r p q];exact N _ (show _=_ from setRow_heap w b f _ ty _ r) (Hi w b _)
theorem Uy (w:World) (t e ty:TypeId) (z:Value) (b:List Value) (k:P.underlying t=some (.slice e)) (j:∀w,(zeroValue e).run P w = .ok z w) (i:(Builtin.zeroCells z.cells 1).toList=b) (m:∀v∈b,v.oneCell'=true)
 (g o c:Nat) (a:Array Value) (h:TypeId) (l:w.heap[g]? = some (.cells a h (0,0))) (d:o+b.length<=a.size) :
 (Builtin.clear_ #[t] ty #[.slice (some ⟨g,o,none⟩) 1 c]).run P w = .ok (.tuple #[]) (w.setRow g (splice a.toList o b).toArray):=by
 have f:=run_storeCells_at P g o h b 0 a w l (by simpa using d) m;simp [Builtin.clear_,run_underlying k,j,i,f,splice]
end
theorem Uz {α:Type} (L:List α) (o:Nat) (a:List α) (b:o<=L.length):(splice L o a).take (o+a.length)=L.take o++a:=by unfold splice;rw [<-Qu];exact List.take_left' (by rw [Qo,Qs,Nat.min_eq_left b])
def rt4:List Value:=[.int .u64 0,.int .u64 0,.int .i64 0,.int .i64 0]
theorem Nl (w:World):(zeroValue 34).run prog w = .ok (.agg #[.int .u64 0,.int .u64 0,.int .i64 0,.int .i64 0]) w:=by obtain ⟨c,b,a,-,-⟩:=info_parts D3;simp [zeroValue,typeInfo,b,a]
theorem U0:(Builtin.zeroCells (Value.agg #[.int .u64 0,.int .u64 0,.int .i64 0,.int .i64 0]).cells 1).toList=rt4:=Qb
theorem U3 (g c m i:Nat) (l:Array Value) (L:List Rt) (w:World) (hn:L.length=m+1) (Q:w.heap[g]? = some (.cells l 34 (0,0))) (hc:m+1<=c) (R:c<=maxLen) (r:l.size=c*4) (t:l.toList.take ((m+1)*4)=rcs L)
 (hi:i<m+1) (hL:m<1048576) :
 Calls prog 52 #[.slice (some ⟨g,0,none⟩) (m+1) c,.int .i64 (i:Int),.int .i64 ((i:Int)+1)] w λe w'=>e = .returned (.slice (some ⟨g,0,none⟩) m c)/\w'.ownsRow 0 34 4 (.slice (some ⟨g,0,none⟩) m c) m (rcs (L.take i++L.drop (i+1)))/\w.grownBy w' (some g):=by
 obtain ⟨i0,O,a3,K,a2⟩:=info_parts D3;have C:(L.drop (i+1)).length=m+1-(i+1):=by rw [List.length_drop,hn]
 have k:(rcs (L.drop (i+1))).length=(m-i)*4:=by rw [Bd,C];omega
 have S:=Es Q ((i+1)*4) (rcs (L.drop (i+1))) (by
  rw [k,<-M5,<-t,List.drop_take]
  congr 1
  omega)
 have q:∀u∈rcs (L.drop (i+1)),u.oneCell'=true:=Io _;have b0:¬((i:Int)=(i:Int)+1):=Qa;have b1:(0:Int)<=(i:Int)+1:=Qa;have b2:(i:Int)+1<=(m:Int)+1:=Qa;have b3:(i:Int)<=(i:Int)+1:=Qa;have b4:((i:Int)+1).toNat=i+1:=Qa;have b5:(i:Int)<=(c:Int):=Qa;have b6:(m:Int)+1<=(c:Int):=Qa;generalize B:rcs (L.drop (i+1))=A at *
 by_cases Z:c=i+1
 ·have N:A=[]:=List.length_eq_zero_iff.1 (by rw [k];omega);have S:∀j u,A[j]? = some u->w.cell? ((⟨g,0,none⟩:Addr).add j)=some u:=λj u h=>by rw [N] at h;simp at h
  obtain rfl:i=m:=Qa;subst Z;clear N;go_enter func52,ntmps52;go_wp2;go_region_law (refine Ux rfl (.tmp 22) (.tmp 25) 27 rfl 34 i0 4 underlying27 O K g 0 i (i+1) (by simp [Act.eval,Act.put]) (i) (i*4) Qa ⟨g,0,none⟩ (0) (0) A (by simp [Act.eval,Act.put]) Qa (by first|exact k|(rw [k];omega)) (λj u h=>S j u h) q Qa l 34 Q Qa ?_;intro w4 d f);have o:(splice l.toList (i*4) A).length=(i+1)*4:=by rw [length_splice _ _ _ (by rw [k,Array.length_toList,r];omega),Array.length_toList,r]
  obtain ⟨a,b⟩:=Q' (splice l.toList (i*4) A);have d:Hid (w4.heap[g]? = some (.cells a.toArray 34 (0,0))):=by show _=_;rw [b];exact d.o
  rw [<-b] at o;have y:Hid (w.grownBy w4 (some g)):=(⟨f.os,f.tape,f.output,f.size,f.block⟩:w.grownBy w4 (some g));have J:=hid b.symm;have D:=hid B;have F:=hid t;have I:=hid k;have a1:=hid d;have Y:∀ty,(Builtin.clear_ #[27] ty #[.slice (some ⟨g,(i)*4,none⟩) 1 (1)]).run prog w4 = .ok (.tuple #[]) (w4.setRow g (splice a.toArray.toList ((i)*4) rt4).toArray):=λty=>Uy w4 _ _ ty _ rt4 underlying27 Nl U0 (by simp [rt4,Value.oneCell']) g ((i)*4) _ _ _ d.o (by simp [rt4,o];omega);clear b S Q t B q f k C;have s:=setRow_heap w4 g a.toArray (splice a ((i)*4) rt4).toArray 34 (0,0) d.o;have n:=World.grownBy.trans y.o (Hi w4 g (splice a ((i)*4) rt4).toArray);have E:=hid s;have z:=hid n;have p:=hid o;clear s n d;go_wp2;go_ret;refine ⟨rfl,Do (Nat.zero_le _) E.o Qa R (by rw [List.size_toArray,length_splice _ _ _ (by simp [rt4,p.o];omega),p.o]) ?_,z.o⟩;have X:=Uz l.toList (i*4) A (by rw [Array.length_toList,r];omega);rw [I.o,show i*4+((i)-i)*4=(i)*4 by omega,J.o] at X;have h2:=M6 a ((i)*4) ((i)*4) rt4 (Qn _) (by rw [p.o];omega);rw [List.toList_toArray,h2,X,C9,D.o];congr 1;have U:=congrArg (List.take (i*4)) F.o;rw [List.take_take,Nat.min_eq_left Qa,Jn] at U;exact U
 ·skip;go_enter func52,ntmps52;go_wp2;go_region_law (refine Ux rfl (.tmp 22) (.tmp 25) 27 rfl 34 i0 4 underlying27 O K g 0 i (c) (by simp [Act.eval,Act.put]) (m) (i*4) Qa ⟨g,(i+1)*4,none⟩ (m-i) (c-(i+1)) A (by simp [Act.eval,Act.put]) Qa (by first|exact k|(rw [k];omega)) (λj u h=>S j u h) q Qa l 34 Q Qa ?_;intro w4 d f);have o:(splice l.toList (i*4) A).length=(c)*4:=by rw [length_splice _ _ _ (by rw [k,Array.length_toList,r];omega),Array.length_toList,r]
  obtain ⟨a,b⟩:=Q' (splice l.toList (i*4) A);have d:Hid (w4.heap[g]? = some (.cells a.toArray 34 (0,0))):=by show _=_;rw [b];exact d.o
  rw [<-b] at o;have y:Hid (w.grownBy w4 (some g)):=(⟨f.os,f.tape,f.output,f.size,f.block⟩:w.grownBy w4 (some g));have J:=hid b.symm;have D:=hid B;have F:=hid t;have I:=hid k;have a1:=hid d;have Y:∀ty,(Builtin.clear_ #[27] ty #[.slice (some ⟨g,(m)*4,none⟩) 1 (c-m)]).run prog w4 = .ok (.tuple #[]) (w4.setRow g (splice a.toArray.toList ((m)*4) rt4).toArray):=λty=>Uy w4 _ _ ty _ rt4 underlying27 Nl U0 (by simp [rt4,Value.oneCell']) g ((m)*4) _ _ _ d.o (by simp [rt4,o];omega);clear b S Q t B q f k C;have s:=setRow_heap w4 g a.toArray (splice a ((m)*4) rt4).toArray 34 (0,0) d.o;have n:=World.grownBy.trans y.o (Hi w4 g (splice a ((m)*4) rt4).toArray);have E:=hid s;have z:=hid n;have p:=hid o;clear s n d;go_wp2;go_ret;refine ⟨rfl,Do (Nat.zero_le _) E.o Qa R (by rw [List.size_toArray,length_splice _ _ _ (by simp [rt4,p.o];omega),p.o]) ?_,z.o⟩;have X:=Uz l.toList (i*4) A (by rw [Array.length_toList,r];omega);rw [I.o,show i*4+((m)-i)*4=(m)*4 by omega,J.o] at X;have h2:=M6 a ((m)*4) ((m)*4) rt4 (Qn _) (by rw [p.o];omega);rw [List.toList_toArray,h2,X,C9,D.o];congr 1;have U:=congrArg (List.take (i*4)) F.o;rw [List.take_take,Nat.min_eq_left Qa,Jn] at U;exact U
theorem Zqm {C:List Pl} (c:C.length=4) (i:Int) (k:Ky) (v:Int) :
 (∃j:Nat,∃a:j<C.length,∃r,i=(j:Int)/\C[j]=some r/\Bo C i k v=some (r,C.set j (some ⟨k,v⟩)))\/(∃j:Nat,∃a:j<C.length,i=(j:Int)/\C[j]=none/\Bo C i k v=none)\/(¬(0<=i/\i<4)/\Bo C i k v=none):=by
 by_cases h:0<=i/\i<4
 ·obtain ⟨j,rfl⟩:=Qv h.1;have a:j<C.length:=Qa;have e:Bo C (j:Int) k v=match C[j] with | some r=>some (r,C.set j (some ⟨k,v⟩)) | none=>none:=by unfold Bo;rw [if_pos h.1,Int.toNat_natCast,List.getD_eq_getElem?_getD,Qr a];rfl
  rw [e];cases b:C[j] with
  | none=>exact .inr (.inl ⟨j,a,rfl,b,rfl⟩)
  | some r=>exact .inl ⟨j,a,r,rfl,b,rfl⟩
 ·refine .inr (.inr ⟨h,?_⟩);unfold Bo;split
  ·rw [List.getD_eq_getElem?_getD,List.getElem?_eq_none Qa];rfl
  ·rfl
def outV (o:Option (Rt×List Pl)):Value := .tuple #[kyV ((o.map Prod.fst).getD ⟨⟨0,0,0⟩,0⟩).k,.int .i64 ((o.map Prod.fst).getD ⟨⟨0,0,0⟩,0⟩).v,.bool o.isSome]
theorem U4:outV none = .tuple #[.agg #[.int .u64 0,.int .u64 0,.int .i64 0],.int .i64 0,.bool false]:=rfl
theorem Zyb (r:Rt) (C:List Pl):outV (some (r,C)) = .tuple #[.agg #[.int .u64 (r.k.h:Int),.int .u64 (r.k.l:Int),.int .i64 r.k.n],.int .i64 r.v,.bool true]:=rfl
structure Three (w w3:World) (k:Ky) (q:List Value):Prop where
 below:Below w.heap.size w w3
 size:w3.heap.size=w.heap.size+3
 b0:w3.cell? ⟨w.heap.size,0,none⟩=some (.int .u64 (k.h:Int))
 b1:w3.cell? ⟨w.heap.size,1,none⟩=some (.int .u64 (k.l:Int))
 b2:w3.cell? ⟨w.heap.size,2,none⟩=some (.int .i64 k.n)
 o0:w3.cell? ⟨w.heap.size+1,0,none⟩=some (.int .u64 0)
 o1:w3.cell? ⟨w.heap.size+1,1,none⟩=some (.int .u64 0)
 o2:w3.cell? ⟨w.heap.size+1,2,none⟩=some (.int .i64 0)
 p0:w3.frozen? ⟨w.heap.size+1,0,none⟩=false
 p1:w3.frozen? ⟨w.heap.size+1,1,none⟩=false
 p2:w3.frozen? ⟨w.heap.size+1,2,none⟩=false
 q:∀j u,q[j]? = some u->w3.cell? ⟨w.heap.size+1+1,j,none⟩=some u
theorem Zwt (w:World) (k:Ky) (q:List Value) (t1 t2 t3:TypeId):Three w (((w.alloc (.cells #[.int .u64 (k.h:Int),.int .u64 (k.l:Int),.int .i64 k.n] t1)).alloc (.cells #[.int .u64 0,.int .u64 0,.int .i64 0] t2)).alloc (.cells q.toArray t3)) k q:=by
 refine ⟨Qg,Qf,Qi,Qi,Qi,Qi,Qi,Qi,Qi,Qi,Qi,λj u a => ?_⟩;have:=Ee ((w.alloc (.cells #[.int .u64 (k.h:Int),.int .u64 (k.l:Int),.int .i64 k.n] t1)).alloc (.cells #[.int .u64 0,.int .u64 0,.int .i64 0] t2)) q.toArray t3 j u a;simp only [World.size_alloc] at this
 rwa [show (⟨w.heap.size+1+1,0,none⟩:Addr).add j=⟨w.heap.size+1+1,j,none⟩ by unfold Addr.add;split<;>simp_all] at this
def Ev (w:World) (b:Nat) (k:Ky):World:=((w.setCell ⟨b,0,none⟩ (.int .u64 (k.h:Int))).setCell ⟨b,1,none⟩ (.int .u64 (k.l:Int))).setCell ⟨b,2,none⟩ (.int .i64 k.n)
theorem Zrl {w:World} {b:Nat} {k:Ky} {u0 u1 u2:Value} (e:b<w.heap.size) (d:w.cell? ⟨b,0,none⟩=some u0) (c:w.cell? ⟨b,1,none⟩=some u1) (a:w.cell? ⟨b,2,none⟩=some u2) :
 (Ev w b k).drew.cell? ⟨b,0,none⟩=some (.int .u64 (k.h:Int))/\(Ev w b k).drew.cell? ⟨b,1,none⟩=some (.int .u64 (k.l:Int))/\(Ev w b k).drew.cell? ⟨b,2,none⟩=some (.int .i64 k.n):=by
 unfold Ev;refine ⟨?_,?_,?_⟩<;>simp [go_sem,d,c,a]
theorem Zvx {w w1:World} {g o n:Nat} (h:Turn w w1 g o n) (a:g<w.heap.size) {b:Nat} (k:Ky) (c:w.heap.size<=b):Turn w (Ev w1 b k).drew g o n:=
 (((h.fresh a b 0 _ c).fresh a b 1 _ c).fresh a b 2 _ c).drew a
theorem RBk.drew {w:World} {g o:Nat} {C:List Pl} (H:RBk w g o C):RBk w.drew g o C:=H.below Qg
theorem Zzl {w:World} {g o:Nat} {C:List Pl} (H:Bkt w g o C) {b:Nat} (k:Ky) (a:g≠b):Bkt (Ev w b k).drew g o C:=
 (((H.fresh b 0 _ a).fresh b 1 _ a).fresh b 2 _ a).drew
theorem Zuq (g o:Nat) (C:List Pl) (i:Int) (k:Ky) (v:Int) (w:World) (H:Bkt w g o C) :
 Calls prog 145 #[.pointer (some ⟨g,o,none⟩),.int .i64 i,kyV k,.int .i64 v] w λe w'=>e = .returned (outV (Bo C i k v))/\Bkt w' g o (((Bo C i k v).map Prod.snd).getD C)/\Turn w w' g o 20:=by
 have S:=hid H;have h4:=H.four;have U:=H.lt;rcases Zqm h4 i k v with ⟨j,N,r,rfl,K,p⟩ | ⟨j,N,rfl,K,p⟩ | ⟨hn,p⟩
 ·rw [p,Zyb];obtain ⟨r0,J,I,F,Y⟩:=H.at j N;rw [K] at r0 J I F Y;simp only [xh,xl,xn,xv,Option.isSome_some] at r0 J I F Y;have f0:=H.free (j*5) Qa;have f1:=H.free (j*5+1) Qa;have f2:=H.free (j*5+2) Qa;have f3:=H.free (j*5+3) Qa;have X:=H.free (j*5+4) Qa;simp only [<-Nat.add_assoc] at f1 f2 f3 X;have a1:j<4:=Qa;clear p K H;unfold kyV at *
  go_enter func145,ntmps145;go_wp2;have a:=Zwt w k [.int .u64 (r.k.h:Int),.int .u64 (r.k.l:Int),.int .i64 r.k.n,.int .i64 r.v,.bool true] 32 32 174;simp only [List.toArray] at a;generalize ((w.alloc (.cells #[.int .u64 (k.h:Int),.int .u64 (k.l:Int),.int .i64 k.n] 32)).alloc (.cells #[.int .u64 0,.int .u64 0,.int .i64 0] 32)).alloc (.cells #[.int .u64 (r.k.h:Int),.int .u64 (r.k.l:Int),.int .i64 r.k.n,.int .i64 r.v,.bool true] 174)=w3 at a ⊢;have a2:=a.size;have Z:g<w3.heap.size:=Qa;have E:=S.o.put_drew a.below j N (some ⟨k,v⟩);have c:=(Uc w3 g (o+j*5) (some ⟨k,v⟩)).drew Z;have x:=(c.far (b:=w.heap.size+1+1) Qa Qa 0).1.trans (a.q 0 _ rfl);have u:=(c.far (b:=w.heap.size+1+1) Qa Qa 1).1.trans (a.q 1 _ rfl);have t:=(c.far (b:=w.heap.size+1+1) Qa Qa 2).1.trans (a.q 2 _ rfl);have s:=(c.far (b:=w.heap.size+1+1) Qa Qa 3).1.trans (a.q 3 _ rfl);have m:=(c.far (b:=w.heap.size+1) Qa Qa 0).1.trans a.o0;have f:=(c.far (b:=w.heap.size+1) Qa Qa 1).1.trans a.o1;have d:=(c.far (b:=w.heap.size+1) Qa Qa 2).1.trans a.o2;have A:=(c.far (b:=w.heap.size+1) Qa Qa 0).2.trans a.p0;have z:=(c.far (b:=w.heap.size+1) Qa Qa 1).2.trans a.p1;have y:=(c.far (b:=w.heap.size+1) Qa Qa 2).2.trans a.p2;have B:=c.grown.size;have D:=S.o.below a.below;obtain ⟨c0,c1,c2,c3,c4⟩:=D.at j N;have b0:=a.b0;have b1:=a.b1;have b2:=a.b2;have f0:=D.free (j*5) Qa;have f1:=D.free (j*5+1) Qa;have f2:=D.free (j*5+2) Qa;have f3:=D.free (j*5+3) Qa;have X:=D.free (j*5+4) Qa;simp only [<-Nat.add_assoc] at f1 f2 f3 X;have R:=hid (And.intro E (And.intro x (And.intro u (And.intro t (And.intro s (And.intro m (And.intro f (And.intro d (And.intro A (And.intro z (And.intro y B)))))))))));clear E x u t s m f d A z y B c a D r0 J I F Y;go_region;go_wp2_with fail;show Code.wp _ _ _ _ (put5 w3 g (o+j*5) (some ⟨k,v⟩)).drew;obtain ⟨E,x,u,t,s,m,f,d,A,z,y,B⟩:=R.o;clear R c0 c1 c2 c3 c4 b0 b1 b2 f0 f1 f2 f3 X;generalize (put5 w3 g (o+j*5) (some ⟨k,v⟩)).drew=w5 at *
  go_region;show Exit.then _ _ _ _ (Ev w5 (w.heap.size+1) r.k).drew;obtain ⟨e0,e1,e2⟩:=Zrl (k:=r.k) Qa m f d;have O:=Zvx E.2 U r.k (b:=w.heap.size+1) Qa;have Q:=Zzl E.1 r.k (b:=w.heap.size+1) Qa;have R:=hid (And.intro Q O);clear E x u t s m f d A z y Q O;generalize (Ev w5 (w.heap.size+1) r.k).drew=w7 at *
  go_wp2;refine bodyPost_ret (by simp [results,Tryz.results145,go_sem,e0,e1,e2];try rfl) rfl ?_;exact ⟨rfl,R.o.1,R.o.2⟩
 ·rw [p,U4];obtain ⟨r0,J,I,F,L⟩:=H.at j N;rw [K] at L;simp only [Option.isSome_none] at L;have a1:j<4:=Qa;clear p K H r0 J I F;unfold kyV at *
  go_enter func145,ntmps145;go_wp2;refine bodyPost_ret (by simp [results,Tryz.results145,go_sem];try rfl) rfl ?_;exact ⟨rfl,S.o.below Qg,Turn.of_below U Qg⟩
 ·rw [p,U4];by_cases h0:i<0
  ·clear p hn H;unfold kyV at *
   go_enter func145,ntmps145;go_wp2;refine bodyPost_ret (by simp [results,Tryz.results145,go_sem];try rfl) rfl ?_;exact ⟨rfl,S.o.below Qg,Turn.of_below U Qg⟩
  ·have h3:4<=i:=Qa;clear p hn H;unfold kyV at *
   go_enter func145,ntmps145;go_wp2;refine bodyPost_ret (by simp [results,Tryz.results145,go_sem];try rfl) rfl ?_;exact ⟨rfl,S.o.below Qg,Turn.of_below U Qg⟩
def Jx (w w':World) (e:Ending) (v:Value) (L:List Rt):Prop:=∃v',e = .returned v'/\w'.ownsRow 0 34 4 v' L.length (rcs L)/\w.grownBy w' v.ownBlock/\(v'.ownBlock=v.ownBlock\/∃k,v'.ownBlock=some k/\w.heap.size<=k)
theorem oneR (L:List Rt) (u:Value) (h:u∈rcs L):u.oneCell'=true:=Io L u h
theorem Zvw (v:Value) (L:List Rt) (r:Rt) (m:Nat) (w:World) (b:w.ownsRow 0 34 4 v L.length (rcs L)) (z:L.length<1048576) (q:w.heap[m]? = some (.cells (Ae r).toArray 34 (0,0))) :
 Calls prog 55 #[v,.int .i64 (L.length:Int),.slice (some ⟨m,0,none⟩) 1 1] w λe w'=>Jx w w' e v (L++[r]):=by
 obtain ⟨t,l,k,j,i⟩:=info_parts D3;have d:=Es q 0 (Ae r) (by simp [Ae]);obtain ⟨p,c,rfl⟩:=Aq b;have x:L.length<=c:=by
  rcases b.2 with ⟨e,B⟩ | ⟨g,cap,y,e,-,-,A,-⟩
  ·omega
  ·injection e with _ _ C;omega
 generalize u:L.length=n at *
 by_cases s:c=n
 ·subst s;go_enter func55,ntmps55;go_wp2_with (at_builtin;go_loud (refine wpList_append_own_at _ rfl (.tmp 23) (.tmp 24) 27 rfl 0 34 t _ 4 32 underlying27 l k j i rfl Qd _ _ _ rfl b ⟨m,0,none⟩ 1 1 (Ae r) rfl rfl d (by simp [Ae,Value.oneCell']) Qk Qa Qa ?_));intro o w3 a f _ h;go_wp2;go_ret;exact ⟨o,rfl,Le a u.symm,f,h.imp id (λe=>⟨_,e,Qn _⟩)⟩
 ·go_enter func55,ntmps55;go_wp2_with (at_builtin;go_loud (refine wpList_append_own_at _ rfl (.tmp 23) (.tmp 24) 27 rfl 0 34 t _ 4 32 underlying27 l k j i rfl Qd _ _ _ rfl b ⟨m,0,none⟩ 1 1 (Ae r) rfl rfl d (by simp [Ae,Value.oneCell']) Qk Qa Qa ?_));intro o w3 a f _ h;go_wp2;go_ret;exact ⟨o,rfl,Le a u.symm,f,h.imp id (λe=>⟨_,e,Qn _⟩)⟩
theorem Zfs {P:Program} {ops:Array Oper} {rest:List Oper} {o:Oper} {a:Act} {w:World} {Q:Exit->Act->World->Prop} (D:o.guard=none) (s x:Operand) (t p:TypeId)
 (U:o.op = .call { callee := .builtin .append,args := #[s,x],argTypes := #[t,p] }) (e:TypeId) (i:TypeInfo) (z:Value) (size bytes:Nat) (I:IntKind) (O:P.underlying t=some (.slice e)) (r:P.underlying p=some (.int I)) (hi:P.info? e=some i) (L:i.zero=some z)
 (u:i.size=size) (E:i.bytes=bytes) (q:z.cells.size=size) (F:0<size) (g:Nat) (f b c:Nat) (R:a.eval s = .slice (some ⟨g,f,none⟩) b c) (k:Nat) (N:a.eval x = .int .i64 (k:Int))
 (d:List Value) (y:d.length=b*size) (holds:∀j v,d[j]? = some v->w.cell? ((⟨g,f,none⟩:Addr).add j)=some v) (X:0<k) (J:c<b+k) (n:b+k<=maxLen) (l:(b+k)*bytes<=140737488355328)
 (h:∀(cap:Nat) (Z:List Value) w',b+k<=cap->cap<=maxLen->Z.length=(cap-b)*size->Hid (w'.heap[w.heap.size]? = some (.cells (d++Z).toArray e (0,0)))->w.grownBy w' none->wpList P ops Q rest (a.put o.dst (.slice (some ⟨w.heap.size,0,none⟩) (b+k) cap)) w'):wpList P ops Q (o::rest) a w:=by
 subst u E;have m:(Builtin.firstCells i.size b (.slice (some ⟨g,f,none⟩) b c)).run P w.drew = .ok d.toArray w.drew:=run_firstCells_some w.drew i.size b ⟨g,f,none⟩ b c d y (λj v B=>holds j v B);have K:b+k<=9223372036854775807:=by simp only [maxLen] at n;omega
 have A:k*i.bytes<=281474976710656:=Qw (Nat.mul_le_mul_right _ (Nat.le_add_left k b)) Qa;have S:=Lib.run_append_grow_zeros (P:=P) w t p o.type e i z .i64 I O r hi L (some ⟨g,f,none⟩) b c d m k X F J Qa A (growslice_fits J l);refine Lib.wpList_append_run w D s x t p U _ _ R N _ _ S ?_;have C:=grownCap_ge w (b+k) c e;refine h _ ((Builtin.zeroCells z.cells k).toList++(Builtin.zeroCells z.cells (grownCap w (b+k) c e-(b+k))).toList) _ C (grownCap_le_maxLen w _ _ _ n) ?_ ?_ ?_
 ·rw [Qo,Array.length_toList,Array.length_toList,size_zeroCells,size_zeroCells,q,<-Nat.add_mul];congr 1;omega
 ·show _=_;refine (heap_alloc_new w.drew _).trans ?_;simp [Array.append_assoc]
 ·exact ⟨rfl,rfl,rfl,Qf,λj B _=>(heap_alloc_old w.drew _ B).trans rfl⟩
theorem Zre (g c n i:Nat) (f:Array Value) (L:List Rt) (r:Rt) (o:Nat) (w:World) (hn:L.length=n) (I:w.heap[g]? = some (.cells f 34 (0,0))) (hc:n+1<=c) (S:c<=maxLen) (m:f.size=c*4) (p:f.toList.take (n*4)=rcs L)
 (hi:i<n) (hL:n<1048576) (b:w.heap[o]? = some (.cells (Ae r).toArray 34 (0,0))) (A:o≠g) :
 Calls prog 55 #[.slice (some ⟨g,0,none⟩) n c,.int .i64 (i:Int),.slice (some ⟨o,0,none⟩) 1 1] w λe w'=>Jx w w' e (.slice (some ⟨g,0,none⟩) n c) (L.take i++r::L.drop i):=by
 obtain ⟨Z,C,a2,u,a1⟩:=info_parts D3;have a5:¬((i:Int)=(n:Int)):=Qa;have a3:IntKind.i64.wrap ((i:Int)+1)=(i:Int)+1:=by rw [IntKind.wrap_i64];omega
 have a9:(0:Int)<=(i:Int)+1:=Qa;have a8:¬(c=i+1):=Qa;have a7:(i:Int)<=(n:Int)+1:=Qa;have d:¬(c=i):=Qa;have a6:(i:Int)<=(n:Int):=Qa;have a4:((i:Int)+1).toNat=i+1:=Qa;have z:∀lb U,(callFunc 79 #[.slice (some ⟨o,0,none⟩) 1 1,.slice (some ⟨g,(i+1)*4,none⟩) lb U]).run prog w = .ok (.value (.bool false)) w:=λlb U=>by
  rw [run_callFunc_extern func79 Qb Qb Qb (e:=Extern.SlicesOverlaps.overlaps #[27,27] #[4]) Qb,
   Lib.run_overlaps_apart w 27 4 34 underlying27 4 Tryz.sizeOf34 ⟨o,0,none⟩ ⟨g,(i+1)*4,none⟩ 1 1 lb U A 34 34 4 (c*4) (by unfold World.shape?;rw [b];rfl) (by unfold World.shape?;rw [I];simp [m]) Qa (by unfold World.frozen?;rw [b];rfl) (by unfold World.frozen?;rw [b];rfl)]
  rfl
 have R:(L.drop i).length=n-i:=by rw [List.length_drop,hn]
 have l:(rcs (L.drop i)).length=(n-i)*4:=by rw [Bd,R]
 have hX:=Es I (i*4) (rcs (L.drop i)) (by
  rw [l,<-M5,<-p,List.drop_take]
  congr 1
  omega)
 have q:=Es b 0 (Ae r) (by simp [Ae]);generalize t:rcs (L.drop i)=J at *
 go_enter func55,ntmps55;go_wp2_with (simp only [z]);go_region_law (refine Ug rfl (.tmp 73) (.tmp 76) 27 27 rfl 34 Z underlying27 C 4 u g ((i+1)*4) (n+1-(i+1)) (c-(i+1)) ⟨g,i*4,none⟩ (n+1-i) (c-i) (by simp [Act.eval,Act.put]) (by simp [Act.eval,Act.put]) f 34 I J (n-i) (by simp only [Nat.min_def];split<;>omega) l hX Qa (by rw [<-t];exact oneR _) ?_;intro w4 s d);have y:w4.heap[o]? = some (.cells (Ae r).toArray 34 (0,0)):=(d.block o (Array.getElem?_eq_some_iff.1 b).1 (by intro e;injection e with e;exact A e)).trans b;have k:=Es y 0 (Ae r) (by simp [Ae]);have h:(splice f.toList ((i+1)*4) J).length=c*4:=by rw [length_splice _ _ _ (by rw [l,Array.length_toList,m];omega),Array.length_toList,m]
 obtain ⟨j,a⟩:=Q' (splice f.toList ((i+1)*4) J);have s:Hid (w4.heap[g]? = some (.cells j.toArray 34 (0,0))):=by show _=_;rw [a];exact s.o
 rw [<-a] at h;have D:Hid (w.grownBy w4 (some g)):=(⟨d.os,d.tape,d.output,d.size,d.block⟩:w.grownBy w4 (some g));have Y:=hid a.symm;have F:=hid t;have X:=hid p;clear z a hX q b I p t;have O:(i*4)+(Ae r).length<=j.toArray.size:=by simp [Ae,h];omega
 have N:∀v∈Ae r,v.oneCell'=true:=by simp [Ae,Value.oneCell']
 have K:Nat.min 1 (n+1-i)=1:=by simp only [Nat.min_def];split<;>omega
 go_wp2_with (with_reducible refine Uf rfl (.tmp 80) (.tmp 81) 27 27 rfl 34 Z underlying27 C 4 u g (i*4) (n+1-i) (c-i) ⟨o,0,none⟩ 1 1 rfl rfl j.toArray 34 s.o (Ae r) 1 K rfl k O N ?_);intro w5 Q E;go_wp2;go_ret;refine ⟨_,rfl,?_,World.grownBy.trans D.o E,.inl rfl⟩;have B:(L.take i++r::L.drop i).length=n+1:=Qe;rw [B];refine Do (Nat.zero_le _) Q.o Qa S (by simp [length_splice,Ae,h];rw [length_splice _ _ _ (by simp [Ae,h];omega),h]) ?_;have h1:=Zw6 f.toList (rcs (L.take i)) (Ae r) J (i*4) 4 ((n-i)*4) (by rw [Bd,Qs];omega) rfl l (by
  rw [show i*4+(n-i)*4=n*4 by omega,X.o,<-F.o,<-C9,List.take_append_drop]) (by rw [Array.length_toList,m];omega)
 rw [show i*4+4+(n-i)*4=(n+1)*4 by omega,show i*4+4=(i+1)*4 by omega,Y.o] at h1;rw [C9,Eh,F.o,<-Qu];simpa using h1
theorem Zrf (g c n i:Nat) (p:Array Value) (L:List Rt) (r:Rt) (R:Nat) (w:World) (hn:L.length=n) (hg:w.heap[g]? = some (.cells p 34 (0,0))) (hc:c<n+1) (ao:n<=c) (aq:p.size=c*4) (A:p.toList.take (n*4)=rcs L)
 (hi:i<n) (hL:n<1048576) (z:w.heap[R]? = some (.cells (Ae r).toArray 34 (0,0))) :
 Calls prog 55 #[.slice (some ⟨g,0,none⟩) n c,.int .i64 (i:Int),.slice (some ⟨R,0,none⟩) 1 1] w λe w'=>Jx w w' e (.slice (some ⟨g,0,none⟩) n c) (L.take i++r::L.drop i):=by
 obtain ⟨i0,D,a7,y,a6⟩:=info_parts D3;have Y:=(Array.getElem?_eq_some_iff.1 hg).1;have a8:=(Array.getElem?_eq_some_iff.1 z).1;have ap:¬((i:Int)=(n:Int)):=Qa;have al:(c:Int)<(n:Int)+1:=Qa;have am:IntKind.i64.wrap ((i:Int)+1)=(i:Int)+1:=by rw [IntKind.wrap_i64];omega
 have X:(n:Int)+1-(i:Int)=((n+1-i:Nat):Int):=Qa;have az:(0:Int)<=(i:Int)+1:=Qa;have ay:(i:Int)<=(n:Int)+1:=Qa;have ax:¬(c=i):=Qa;have aw:(i:Int)<=(n:Int):=Qa;have an:((i:Int)+1).toNat=i+1:=Qa;have ac:(L.drop i).length=n-i:=by rw [List.length_drop,hn]
 have l:(rcs (L.drop i)).length=(n-i)*4:=by rw [Bd,ac]
 have d:(rcs (L.take i)).length=i*4:=by rw [Bd,Qs];omega
 have hX:(p.toList.drop (i*4)).take (rcs (L.drop i)).length=rcs (L.drop i):=by rw [l,<-M5,<-A,List.drop_take];congr 1;omega
 have J:=Es hg 0 (rcs (L.take i)) (by
  rw [d,<-Jn,<-A,List.drop_zero,List.take_take]
  congr 1
  omega)
 have a4:∀v∈rcs (L.drop i),v.oneCell'=true:=oneR _;obtain ⟨X2,I⟩:=Q' (rcs (L.drop i));obtain ⟨X1,o⟩:=Q' (rcs (L.take i));rw [<-I] at l hX a4;rw [<-o] at d J;have HX:=hid hX;have af:=hid J;have ae:=hid I;have a5:=hid o;have HG:=hid hg;have ah:=hid z;have ak:=hid X;clear hX J I o A hg z X;go_enter func55,ntmps55;go_wp2_with (at_builtin;go_loud (refine Zfs rfl (.tmp 34) (.tmp 39) 27 3 rfl 34 i0 _ 4 32 .i64 underlying27 underlying3 D a7 y a6 rfl Qd g 0 i c rfl (n+1-i) (by rw [<-ak.o];rfl) X1 d af.o Qa Qa Qk Qa ?_));intro cap Z w4 a2 ad hZ F E;rw [show i+(n+1-i)=n+1 by omega] at a2 ⊢;have av:¬(cap=i+1):=Qa;have au:¬(cap=i):=Qa;have ar:(i:Int)<=(cap:Int):=Qa;have s:w4.heap[R]? = some (.cells (Ae r).toArray 34 (0,0)):=(E.block R a8 Qf).trans ah.o;have b:=Es s 0 (Ae r) (by simp [Ae]);have f:(X1++Z).length=cap*4:=by rw [Qo,d,hZ];omega
 have B:(i*4)+(Ae r).length<=(X1++Z).toArray.size:=by simp only [List.size_toArray,f,Ae,Qt,List.length_nil];omega
 have aa:∀v∈Ae r,v.oneCell'=true:=by simp [Ae,Value.oneCell']
 have a9:Nat.min 1 (n+1-i)=1:=by simp only [Nat.min_def];split<;>omega
 have O:=hid E;have HZ:=hid hZ;have HS:=hid f;obtain ⟨R4,K⟩:=Q' (X1++Z);rw [<-K] at B F HS;have aj:=hid K;clear s E hZ f K;go_wp2_with (with_reducible refine Uf rfl (.tmp 43) (.tmp 44) 27 27 rfl 34 i0 underlying27 D 4 y w.heap.size (i*4) (n+1-i) (cap-i) ⟨R,0,none⟩ 1 1 rfl rfl R4.toArray 34 F.o (Ae r) 1 a9 rfl b B aa ?_);intro w5 a1 h;obtain ⟨R5,q⟩:=Q' (splice R4 (i*4) (Ae r));have t:w5.heap[w.heap.size]? = some (.cells R5.toArray 34 (0,0)):=by rw [q];exact a1.o
 have U:R5.length=cap*4:=by rw [q,length_splice _ _ _ (by rw [HS.o];simp [Ae];omega),HS.o]
 have u:w5.heap[g]? = some (.cells p 34 (0,0)):=(h.block g (Qm Y O.o.size) (by intro e;injection e with e;omega)).trans ((O.o.block g Y Qf).trans HG.o);have a3:=Es u (i*4) X2 HX.o;have j:(i+1)*4+X2.length<=R5.toArray.size:=by rw [List.size_toArray,U,l];omega
 have C:Nat.min (n-i) (n+1-(i+1))=n-i:=by simp only [Nat.min_def];split<;>omega
 have ag:=hid h;have ai:=hid q;clear a1 h q u b F B;go_wp2_with fail;go_region_law (refine Ug rfl (.tmp 50) (.tmp 53) 27 27 rfl 34 i0 underlying27 D 4 y w.heap.size ((i+1)*4) (n+1-(i+1)) (cap-(i+1)) ⟨g,i*4,none⟩ (n-i) (c-i) (by simp [Act.eval,Act.put]) (by simp [Act.eval,Act.put]) R5.toArray 34 t X2 (n-i) C l a3 j a4 ?_;intro w6 ab m);have a:w5.grownBy w6 (some w.heap.size):=⟨m.os,m.tape,m.output,m.size,m.block⟩;clear a3 t;go_wp2;go_ret;refine ⟨_,rfl,?_,?_,.inr ⟨_,rfl,Qn _⟩⟩
 ·have S:(L.take i++r::L.drop i).length=n+1:=Qe;rw [S];refine Do (Nat.zero_le _) ab.o Qa ad (by rw [List.size_toArray,length_splice _ _ _ (by simpa using j)];simpa using U) ?_;have h1:=Zuv X1 Z (Ae r) X2 (i*4) 4 ((n-i)*4) d rfl l (by rw [HZ.o];omega);rw [show i*4+4+(n-i)*4=(n+1)*4 by omega,show i*4+4=(i+1)*4 by omega,<-aj.o,<-ai.o] at h1;rw [C9,Eh,<-ae.o,<-a5.o,<-Qu];simpa using h1
 ·have N:=O.o;have Q:=ag.o;exact ⟨a.os.trans (Q.os.trans N.os),a.tape.trans (Q.tape.trans N.tape),a.output.trans (Q.output.trans N.output),Qw N.size (Qw Q.size a.size),λk hk _=>(a.block k (Qm hk (Qw N.size Q.size)) (by intro e;injection e with e;omega)).trans ((Q.block k (Qm hk N.size) (by intro e;injection e with e;omega)).trans (N.block k hk Qf))⟩
theorem U5 (v:Value) (L:List Rt) (i:Nat) (r:Rt) (c:Nat) (w:World) (a:w.ownsRow 0 34 4 v L.length (rcs L)) (hi:i<=L.length) (j:L.length<1048576) (b:w.heap[c]? = some (.cells (Ae r).toArray 34 (0,0))) (f:v.ownBlock≠some c) :
 Calls prog 55 #[v,.int .i64 (i:Int),.slice (some ⟨c,0,none⟩) 1 1] w λe w'=>Jx w w' e v (L.take i++r::L.drop i):=by
 by_cases h:i=L.length
 ·subst h;have:=Zvw v L r c w a j b
  rwa [List.take_length,List.drop_length]
 ·obtain ⟨g,cap,d,rfl,-,o,k,q,p,m,l⟩:=Dm a Qa;by_cases n:L.length+1<=cap
  ·exact Zre g cap L.length i d L r c w rfl k n p m l Qa j b (λe=>f (by rw [e];rfl))
  ·exact Zrf g cap L.length i d L r c w rfl k Qa q m l Qa j b
end
section
open M
theorem Z3b {T:Tab} (H:Inv T) {f:Tab->Rt->Tab} (d:∀T r,Inv T->r.k.good->Gv T r (f T r)) (j:Nat) (i:j<=(Ab T).length) :
 Inv (((Ab T).take j).foldl f (grown T))/\(Ab (((Ab T).take j).foldl f (grown T))).length=j/\(grown T).B.length<=(((Ab T).take j).foldl f (grown T)).B.length:=by
 have e:=Lu H;have a:Ab (grown T)=[]:=Ek _ _;have h:=Lt d ((Ab T).take j) (grown T) e.1 (λr b=>H.good r (List.mem_of_mem_take b)) (by
  rw [a,List.append_nil]
  have:=H.keys
  unfold Aa at *
  rw [List.map_take]
  exact this.sublist (List.take_sublist _ _))
 refine ⟨h.1,?_,h.2.2⟩;have c:=h.2.1.length_eq;rw [a,List.append_nil,Qs] at c;omega
theorem Jy {α β:Type} (f:β->α->β) (L:List α) (x:β) (j:Nat) (h:j<L.length):(L.take (j+1)).foldl f x=f ((L.take j).foldl f x) L[j]:=by rw [List.take_succ_eq_append_getElem h,List.foldl_append];rfl
end
section
open Go.RowKit Go.Sort M
end
section
open Go Go.RowKit Go.Sort M
end
end Go.Proofs.YtpdphfgpdgadpaaGreat
