import Derived.Test.YtpdphfgpdgadpaaGreatRBkt
import Derived.Laws.CopyOwn
import Derived.Lib.AppendZerosOnto
import Derived.Laws.AppendOwnNone
set_option linter.unusedSimpArgs false
set_option linter.unusedVariables false
open Go.Proofs.Tryz
namespace Go.Proofs.YtpdphfgpdgadpaaGreat
section
open Go.RowKit Go.Sort M
structure BK (K:World->Nat->Nat->List Pl->Prop):Prop where
 lt:∀{w g o C},K w g o C->g<w.heap.size
 turn:∀{w w' g o o' n C},K w g o C->Turn w w' g o' n->(o+20<=o'\/o'+n<=o)->K w' g o C
 block:∀{w w' g o C},K w g o C->w.heap.size<=w'.heap.size->w'.heap[g]? = w.heap[g]? -> K w' g o C
theorem Hh:BK Bkt where
 lt:=Bkt.lt
 turn:=λH h b=>H.kept h (.inr b)
 block:=λ{w w' g o C} H f d=>by have c:∀x,w'.cell? ⟨g,x,none⟩=w.cell? ⟨g,x,none⟩/\w'.frozen? ⟨g,x,none⟩=w.frozen? ⟨g,x,none⟩:=λx=>⟨World.cell?_of_block (a:=⟨g,x,none⟩) d,World.frozen?_of_block (a:=⟨g,x,none⟩) d⟩;exact ⟨H.four,Qm H.lt f,λi hi j u e=>(c _).1.trans (H.cell i hi j u e),λj k=>(c _).2.trans (H.free j k)⟩
theorem Jl:BK RBk where
 lt:=RBk.lt
 turn:=λH h b=>H.apart h (.inr b)
 block:=λ{w w' g o C} H d c=>H.kept d λx _=>⟨World.cell?_of_block (a:=⟨g,o+x,none⟩) c,World.frozen?_of_block (a:=⟨g,o+x,none⟩) c⟩
def Blk (t g:Nat) (v:Value) (k:Nat):Prop:=k=t\/k=g\/v.ownBlock=some k
structure Tb (K:World->Nat->Nat->List Pl->Prop) (w:World) (t g:Nat) (v:Value) (T:Tab):Prop where
 bk:∀i,i<T.B.length->K w g (i*20) (T.bk i)
 blt:g<w.heap.size
 tlt:t<w.heap.size
 c0:w.cell? ⟨t,0,none⟩=some (.int .u64 (T.s:Int))
 c1:w.cell? ⟨t,1,none⟩=some (.slice (some ⟨g,0,none⟩) T.B.length T.B.length)
 c2:w.cell? ⟨t,2,none⟩=some v
 f:∀j,w.frozen? ⟨t,j,none⟩=false
 own:w.ownsRow 0 34 4 v T.st.length (rcs T.st)
 tg:t≠g
 tv:v.ownBlock≠some t
 gv:v.ownBlock≠some g
section
variable {K:World->Nat->Nat->List Pl->Prop} {w w':World} {t g:Nat} {v:Value} {T:Tab}
theorem Tb.blk (H:Tb K w t g v T):∀k,Blk t g v k->k<w.heap.size:=by
 intro k h;rcases h with rfl | rfl | h
 ·exact H.tlt
 ·exact H.blt
 ·exact (H.own.lt k h).2
theorem Jm {w w':World} {B n k:Nat} {e:TypeId} {v:Value} {xs:List Value} (h:w.ownsRow B e k v n xs) (f:∀j,v.ownBlock=some j->w'.heap[j]? = w.heap[j]?):w'.ownsRow B e k v n xs:=by
 refine ⟨h.1,?_⟩;rcases h.2 with d | ⟨g,cap,c,rfl,b,a,rest⟩
 ·exact .inl d
 ·exact .inr ⟨g,cap,c,rfl,b,(f g rfl).trans a,rest⟩
theorem Tb.blocks (l:BK K) (H:Tb K w t g v T) (c:w.heap.size<=w'.heap.size) (d:∀k,Blk t g v k->w'.heap[k]? = w.heap[k]?):Tb K w' t g v T:=by
 have b:=d t (.inl rfl);have h:=d g (.inr (.inl rfl));exact ⟨λi hi=>l.block (H.bk i hi) c h,Qm H.blt c,Qm H.tlt c,(World.cell?_of_block (a:=⟨t,0,none⟩) b).trans H.c0,(World.cell?_of_block (a:=⟨t,1,none⟩) b).trans H.c1,
  (World.cell?_of_block (a:=⟨t,2,none⟩) b).trans H.c2,λj=>(World.frozen?_of_block (a:=⟨t,j,none⟩) b).trans (H.f j),Jm H.own (λj e=>d j (.inr (.inr e))),H.tg,H.tv,H.gv⟩
theorem Tb.below (c:BK K) (H:Tb K w t g v T) (a:Below w.heap.size w w'):Tb K w' t g v T:=H.blocks c a.size λk b=>a.block k (H.blk k b)
theorem Tb.touched (d:BK K) (H:Tb K w t g v T) {S:Nat->Prop} (a:Touch S w w') (c:∀k,Blk t g v k->¬S k):Tb K w' t g v T:=H.blocks d a.size λk b=>a.block k (H.blk k b) (c k b)
theorem Turn.touch {o n:Nat} {S:Nat->Prop} (h:Turn w w' g o n) (a:S g):Touch S w w':=Touch.of_grown h.grown λk e=>by injection e with e;exact e▸a
theorem Tb.turn (d:BK K) (H:Tb K w t g v T) {i:Nat} (hi:i<T.B.length) {C:List Pl} (h:Turn w w' g (i*20) 20) (l:K w' g (i*20) C):Tb K w' t g v (T.set i C)/\Touch (Blk t g v) w w':=by
 have b:w'.heap[t]? = w.heap[t]? := h.grown.block t H.tlt (by intro e;injection e with e;exact H.tg e);refine ⟨⟨λk c => ?_,Qm H.blt h.grown.size,Qm H.tlt h.grown.size,(World.cell?_of_block (a:=⟨t,0,none⟩) b).trans H.c0,?_,(World.cell?_of_block (a:=⟨t,2,none⟩) b).trans H.c2,
  λj=>(World.frozen?_of_block (a:=⟨t,j,none⟩) b).trans (H.f j),Jm H.own (λj e=>h.grown.block j (H.own.lt j e).2 (λm=>H.gv (e.trans m))),H.tg,H.tv,H.gv⟩,h.touch (.inr (.inl rfl))⟩
 ·rw [Cn] at c;rw [Gt T i hi];split
  ·rename_i e;subst e;exact l
  ·rename_i e;exact d.turn (H.bk k c) h Qa
 ·rw [Cn];exact (World.cell?_of_block (a:=⟨t,1,none⟩) b).trans H.c1
end
structure CT (w:World) (t g:Nat) (v:Value) (T:Tab) (m:Int):Prop where
 tb:Tb Bkt w t g v T
 c3:w.cell? ⟨t,3,none⟩=some (.int .i64 m)
section
variable {w w':World} {t g:Nat} {v:Value} {T:Tab} {m:Int}
theorem CT.blocks (H:CT w t g v T m) (c:w.heap.size<=w'.heap.size) (b:∀k,Blk t g v k->w'.heap[k]? = w.heap[k]?):CT w' t g v T m:=
 ⟨H.tb.blocks Hh c b,(World.cell?_of_block (a:=⟨t,3,none⟩) (b t (.inl rfl))).trans H.c3⟩
theorem CT.below (H:CT w t g v T m) (a:Below w.heap.size w w'):CT w' t g v T m:=H.blocks a.size λk b=>a.block k (H.tb.blk k b)
theorem CT.touched (H:CT w t g v T m) {S:Nat->Prop} (a:Touch S w w') (c:∀k,Blk t g v k->¬S k):CT w' t g v T m:=H.blocks a.size λk b=>a.block k (H.tb.blk k b) (c k b)
theorem CT.turn (H:CT w t g v T m) {i:Nat} (hi:i<T.B.length) {C:List Pl} (h:Turn w w' g (i*20) 20) (c:Bkt w' g (i*20) C):CT w' t g v (T.set i C) m/\Touch (Blk t g v) w w':=by have b:w'.heap[t]? = w.heap[t]? := h.grown.block t H.tb.tlt (by intro e;injection e with e;exact H.tb.tg e);have:=H.tb.turn Hh hi h c;exact ⟨⟨this.1,(World.cell?_of_block (a:=⟨t,3,none⟩) b).trans H.c3⟩,this.2⟩
end
def Ai (w w':World) (t g:Nat) (v:Value) (b:Tab) (m':Int):Prop:=∃a v',CT w' t a v' b m'/\Touch (Blk t g v) w w'/\∀k,Blk t a v' k->k<w.heap.size->Blk t g v k
def E9 (w w':World) (t g:Nat) (v:Value) (b:Tab):Prop:=∃a v',Tb RBk w' t a v' b/\Touch (Blk t g v) w w'/\∀k,Blk t a v' k->k<w.heap.size->Blk t g v k
theorem Touch.then {a b c:World} {t g e:Nat} {v v':Value} (h:Touch (Blk t g v) a b) (f:∀k,Blk t e v' k->k<a.heap.size->Blk t g v k) (k:Touch (Blk t e v') b c):Touch (Blk t g v) a c:=
 ⟨k.os.trans h.os,k.tape.trans h.tape,k.output.trans h.output,Qw h.size k.size,λi hi d=>(k.block i (Qm hi h.size) (λx=>d (f i x hi))).trans (h.block i hi d)⟩
theorem Ai.trans {a b c:World} {t g f:Nat} {v v':Value} {i:Tab} {m':Int} (h:Touch (Blk t g v) a b) (d:∀k,Blk t f v' k->k<a.heap.size->Blk t g v k) (k:Ai b c t f v' i m'):Ai a c t g v i m':=by obtain ⟨p,j,o,n,m⟩:=k;exact ⟨p,j,o,h.then d n,λk l e=>d k (m k l (Qm e h.size)) e⟩
theorem E9.trans {a b c:World} {t g f:Nat} {v v':Value} {i:Tab} (h:Touch (Blk t g v) a b) (d:∀k,Blk t f v' k->k<a.heap.size->Blk t g v k) (k:E9 b c t f v' i):E9 a c t g v i:=by obtain ⟨p,j,o,n,m⟩:=k;exact ⟨p,j,o,h.then d n,λk l e=>d k (m k l (Qm e h.size)) e⟩
theorem Ai.quiet {a b:World} {t g:Nat} {v:Value} {T:Tab} {m:Int} (H:CT a t g v T m) (h:Below a.heap.size a b):Ai a b t g v T m:=⟨g,v,H.below h,Touch.quiet h,λ_ h _=>h⟩
theorem E9.quiet {a b:World} {t g:Nat} {v:Value} {T:Tab} (H:Tb RBk a t g v T) (h:Below a.heap.size a b):E9 a b t g v T:=⟨g,v,H.below Jl h,Touch.quiet h,λ_ h _=>h⟩
theorem Ai.same {a b:World} {t g:Nat} {v:Value} {T:Tab} {m:Int} (H:CT b t g v T m) (h:Touch (Blk t g v) a b):Ai a b t g v T m:=⟨g,v,H,h,λ_ h _=>h⟩
theorem E9.same {a b:World} {t g:Nat} {v:Value} {T:Tab} (H:Tb RBk b t g v T) (h:Touch (Blk t g v) a b):E9 a b t g v T:=⟨g,v,H,h,λ_ h _=>h⟩
end
section
open Go Go.RowKit Go.Sort
section
variable {P:Program}
theorem Zu1 (w:World) (q r ty elem:TypeId) (p:TypeInfo) (s:P.underlying q=some (.slice elem)) (hi:P.info? elem=some p) (k:Nat) (z:p.size=k) (g o e l:Nat) (a:Addr) (b d:Nat) (c:Array Value) (t:TypeId) (f:List Value)
 (m:Nat) (x:Nat.min b e=m) (u:f.length=m*k) (A:w.heap[g]? = some (.cells c t (0,0))) (h:∀j v,f[j]? = some v->w.cell? (a.add j)=some v) (i:o+f.length<=c.size) (B:∀v∈f,v.oneCell'=true) :
 (Builtin.copy_ #[q,r] ty #[.slice (some ⟨g,o,none⟩) e l,.slice (some a) b d]).run P w = .ok (goInt m) (w.setRow g (splice c.toList o f).toArray):=by
 have y:=run_firstCells_some (P:=P) w k m a b d f u h;have n:=run_storeCells_at P g o t f 0 c w A (by simpa using i) B;simp [Builtin.copy_,run_underlying s,Builtin.lenOf,sizeOf,typeInfo,hi,z,x,y,n,splice]
theorem Hi (w:World) (g:Nat) (a:Array Value):w.grownBy (w.setRow g a) (some g):=
 ⟨rfl,rfl,rfl,by simp [World.setRow],λk _ b=>setRow_other w g k a (λe=>b (by rw [e]))⟩
theorem Ue {o:Oper} {a:Act} {w:World} {K:Act->World->Prop} {Q:Exit->Act->World->Prop} (d s:Operand) (u y:TypeId)
 (D:o.op = .call { callee := .builtin .copy,args := #[d,s],argTypes := #[u,y] }) (elem:TypeId) (r:TypeInfo) (A:P.underlying u=some (.slice elem)) (hi:P.info? elem=some r) (k:Nat) (I:r.size=k)
 (g f c l:Nat) (x:Addr) (b i:Nat) (hd:a.eval d = .slice (some ⟨g,f,none⟩) c l) (B:a.eval s = .slice (some x) b i)
 (e:Array Value) (t:TypeId) (z:w.heap[g]? = some (.cells e t (0,0))) (n:List Value) (m:Nat) (F:Nat.min b c=m) (E:n.length=m*k)
 (p:∀j v,n[j]? = some v->w.cell? (x.add j)=some v) (q:f+n.length<=e.size) (J:∀v∈n,v.oneCell'=true)
 (h:∀w',Hid (w'.heap[g]? = some (.cells (splice e.toList f n).toArray t (0,0)))->w.grownBy w' (some g)->K (a.put o.dst (goInt m)) w'):o.wp P a w K Q:=by
 have C:=Zu1 (P:=P) w u y o.type elem r A hi k I g f c l x b i e t n m F E z p q J;unfold Oper.wp execOp;simp only [D,resolve,invoke,builtin,Sem.run_bind,Sem.run_pure,Result.andThen_ok,List.map_toArray,List.map_cons,List.map_nil,hd,B,C];exact h _ (show _=_ from setRow_heap w g e _ t _ z) (Hi w g _)
theorem Uf {ops:Array Oper} {rest:List Oper} {o:Oper} {a:Act} {w:World} {Q:Exit->Act->World->Prop} (u:o.guard=none) (d s:Operand) (x z:TypeId)
 (C:o.op = .call { callee := .builtin .copy,args := #[d,s],argTypes := #[x,z] }) (elem:TypeId) (r:TypeInfo) (A:P.underlying x=some (.slice elem)) (hi:P.info? elem=some r) (k:Nat) (F:r.size=k)
 (g e c l:Nat) (y:Addr) (b i:Nat) (hd:a.eval d = .slice (some ⟨g,e,none⟩) c l) (B:a.eval s = .slice (some y) b i)
 (f:Array Value) (t:TypeId) (I:w.heap[g]? = some (.cells f t (0,0))) (n:List Value) (m:Nat) (E:Nat.min b c=m) (D:n.length=m*k)
 (p:∀j v,n[j]? = some v->w.cell? (y.add j)=some v) (q:e+n.length<=f.size) (N:∀v∈n,v.oneCell'=true)
 (h:∀w',Hid (w'.heap[g]? = some (.cells (splice f.toList e n).toArray t (0,0)))->w.grownBy w' (some g)->wpList P ops Q rest (a.put o.dst (goInt m)) w'):wpList P ops Q (o::rest) a w:=
 wpList_plain u λ_ J=>Ue d s x z C elem r A hi k F g e c l y b i hd B f t I n m E D p q N λw' L K=>J _ _ (h w' L K)
theorem Ug {ops:Array Oper} {o:Oper} {a:Act} {w:World} {K:Act->World->Prop} {Q:Exit->Act->World->Prop} {E:Prop} (u:o.guard=none) (d s:Operand) (x z:TypeId)
 (D:o.op = .call { callee := .builtin .copy,args := #[d,s],argTypes := #[x,z] }) (elem:TypeId) (r:TypeInfo) (B:P.underlying x=some (.slice elem)) (hi:P.info? elem=some r) (k:Nat) (J:r.size=k)
 (g e c l:Nat) (y:Addr) (b i:Nat) (hd:a.eval d = .slice (some ⟨g,e,none⟩) c l) (C:a.eval s = .slice (some y) b i)
 (f:Array Value) (t:TypeId) (L:w.heap[g]? = some (.cells f t (0,0))) (n:List Value) (m:Nat) (I:Nat.min b c=m) (F:n.length=m*k)
 (p:∀j v,n[j]? = some v->w.cell? (y.add j)=some v) (q:e+n.length<=f.size) (N:∀v∈n,v.oneCell'=true)
 (h:∀w',Hid (w'.heap[g]? = some (.cells (splice f.toList e n).toArray t (0,0)))->w.grownBy w' (some g)->K (a.put o.dst (goInt m)) w') :
 if Region.wanted o (yielded ops a.tmps)=true then Oper.wp P o a w K Q else E:=by
 have A:Region.wanted o (yielded ops a.tmps)=true:=by simp [Region.wanted,u]
 rw [if_pos A];exact Ue d s x z D elem r B hi k J g e c l y b i hd C f t L n m I F p q N h
end
theorem Dm {w:World} {B n k:Nat} {e:TypeId} {v:Value} {xs:List Value} (h:w.ownsRow B e k v n xs) (l:0<n) :
 ∃g cap a,v = .slice (some ⟨g,0,none⟩) n cap/\B<=g/\g<w.heap.size/\w.heap[g]? = some (.cells a e (0,0))/\n<=cap/\cap<=maxLen/\a.size=cap*k/\a.toList.take (n*k)=xs:=by
 rcases h.2 with ⟨-,m⟩ | ⟨g,cap,a,rfl,c,b,j,i,f,d⟩
 ·omega
 ·exact ⟨g,cap,a,rfl,c,(Array.getElem?_eq_some_iff.1 b).1,b,j,i,f,d⟩
theorem Do {w:World} {B n k g cap:Nat} {e:TypeId} {a:Array Value} {xs:List Value} (h:B<=g) (f:w.heap[g]? = some (.cells a e (0,0))) (d:n<=cap) (i:cap<=maxLen) (c:a.size=cap*k) (b:a.toList.take (n*k)=xs) :
 w.ownsRow B e k (.slice (some ⟨g,0,none⟩) n cap) n xs:=
 ⟨by rw [<-b,Qs,Array.length_toList,c];exact Nat.min_eq_left (Nat.mul_le_mul_right _ d),.inr ⟨g,cap,a,rfl,h,f,d,i,c,b⟩⟩
theorem Jn (L:List Rt) (i:Nat):(rcs L).take (i*4)=rcs (L.take i):=by
 by_cases h:i<=L.length
 ·have e:rcs L=rcs (L.take i)++rcs (L.drop i):=by rw [<-C9,List.take_append_drop]
  rw [e,List.take_append_of_le_length (by rw [Bd,Qs];omega),List.take_of_length_le (by rw [Bd,Qs];omega)]
 ·rw [List.take_of_length_le (by rw [Bd];omega),List.take_of_length_le Qa]
theorem M5 (L:List Rt) (i:Nat):(rcs L).drop (i*4)=rcs (L.drop i):=by
 by_cases h:i<=L.length
 ·have e:rcs L=rcs (L.take i)++rcs (L.drop i):=by rw [<-C9,List.take_append_drop]
  rw [e,List.drop_append,List.drop_eq_nil_of_le (by rw [Bd,Qs];omega),Bd,Qs,Nat.min_eq_left h,Nat.sub_self];simp
 ·rw [List.drop_eq_nil_of_le (by rw [Bd];omega),List.drop_eq_nil_of_le Qa];rfl
theorem Es {w:World} {g:Nat} {a:Array Value} {t:TypeId} (e:w.heap[g]? = some (.cells a t (0,0))) (o:Nat) (d:List Value) (h:(a.toList.drop o).take d.length=d):∀j u,d[j]? = some u->w.cell? ((⟨g,o,none⟩:Addr).add j)=some u:=by intro j u b;have c:=(List.getElem?_eq_some_iff.1 b).1;rw [show (⟨g,o,none⟩:Addr).add j=⟨g,o+j,none⟩ by unfold Addr.add;split<;>simp_all];rw [cell_of_row w g (o+j) a t (0,0) e];rw [<-h,List.getElem?_take,if_pos c,List.getElem?_drop] at b;simpa using b
theorem M6 {α:Type} (L:List α) (o n:Nat) (a:List α) (h:n<=o) (b:o<=L.length):(splice L o a).take n=L.take n:=by unfold splice;rw [List.take_append_of_le_length (by rw [Qs];omega),List.take_take,Nat.min_eq_left h]
theorem Zw6 {α:Type} (f e Y d:List α) (a b c:Nat) (ha:e.length=a) (l:Y.length=b) (k:d.length=c) (h:f.take (a+c)=e++d) (j:a+b+c<=f.length) :
 (splice (splice f (a+b) d) a Y).take (a+b+c)=e++Y++d:=by
 subst ha l k;obtain ⟨Z,rfl⟩:∃Z,f=e++d++Z:=⟨f.drop (e.length+d.length),by rw [<-h,List.take_append_drop]⟩;unfold splice;have m:(e++d++Z).take (e.length+Y.length)++(d++(e++d++Z).drop (e.length+Y.length+d.length))=e++((d++Z).take Y.length++(d++(e++d++Z).drop (e.length+Y.length+d.length))):=by rw [Qu e,List.take_length_add_append,Qu]
 rw [m,List.take_left' rfl,List.drop_length_add_append];have i:Y.length<=(d++Z).length:=by simp at j ⊢;omega
 rw [List.drop_append,List.drop_eq_nil_of_le (by rw [Qs];omega),Qs,Nat.min_eq_left i,Nat.sub_self,List.drop_zero,List.nil_append];rw [<-Qu,<-Qu];exact List.take_left' Qe
theorem Zuv {α:Type} (d Z Y e:List α) (a b c:Nat) (ha:d.length=a) (h:Y.length=b) (f:e.length=c) (j:b+c<=Z.length):(splice (splice (d++Z) a Y) (a+b) e).take (a+b+c)=d++Y++e:=by
 subst ha h f;have i:splice (d++Z) d.length Y=d++Y++Z.drop Y.length:=by unfold splice;rw [List.take_left,List.drop_length_add_append,Qu]
 rw [i];unfold splice;rw [List.take_left' (l₁:=d++Y) Qf,<-Qu (d++Y)];exact List.take_left' Qe
end
section
open Go Go.RowKit Go.Sort M
theorem Uh {ops:Array Oper} {rest:List Oper} {o:Oper} {a:Act} {w:World} {Q:Exit->Act->World->Prop} (e:o.guard=none) (s x:Operand)
 (p:o.op = .call { callee := .builtin .append,args := #[s,x],argTypes := #[27,27] }) (B J:Nat) (v u:Value) (L M N:List Rt) (y:N=L++M) (n:a.eval s=v) (m:a.eval x=u)
 (c:w.ownsRow B 34 4 v L.length (rcs L)) (b:w.ownsRow J 34 4 u M.length (rcs M)) (q:L.length+M.length<=1099511627776) (A:B<=w.heap.size)
 (h:∀v' w',w'.ownsRow B 34 4 v' N.length (rcs N)->w.grownBy w' v.ownBlock->(v'.ownBlock=v.ownBlock\/v'.ownBlock=some w.heap.size)->wpList prog ops Q rest (a.put o.dst v') w'):wpList prog ops Q (o::rest) a w:=by
 subst y;obtain ⟨l,d,j,i,f⟩:=info_parts D3;rcases b.2 with ⟨k,F⟩ | ⟨g,cap,I,k,-,-,-,-,-,-⟩
 ·subst k;refine wpList_append_own_none e s x 27 p B 34 l 4 underlying27 d v _ _ n c m ?_;have z:=List.length_eq_zero_iff.1 F;subst z;refine h v w ?_ ⟨rfl,rfl,rfl,Qn _,λ_ _ _=>rfl⟩ (.inl rfl)
  rwa [List.append_nil]
 ·have t:=λr=>b.cells (g:=g) r;subst k;refine wpList_append_own_at w e s x 27 p B 34 l _ 4 32 underlying27 d j i f rfl Qd v _ _ n c ⟨g,0,none⟩ M.length cap (rcs M) m (Bd M) (t rfl) (Io M) Qk Qa A ?_;intro v' w' E D _ C;refine h v' w' ?_ D C;rw [C9,Qo];exact E
end
section
open Go Go.RowKit Go.Sort
section
variable {P:Program} {ops:Array Oper} {md:Region.Mode} {C:World->Prop}
def Hj (md:Region.Mode) (ops:Array Oper) (n:Nat):Bool:=
 (List.range ops.size).all λt=>decide (t<=n)||(List.range t).any λj=>decide (n<=j)&&Region.waitsFor md ops t j
theorem Ui {n:Nat} {listed:Array Bool} (F:Region.sinkB md ops n=true) (I:Hj md ops n=true) (h:HeadInv md ops n listed) (K:n<ops.size) :
 ∀(d i:Nat),n-i=d->i<n->listed.getD i true=false->∀t,n<=t->t∉Region.ready md ops listed:=by
 intro d
 induction d using Nat.strongRecOn with
 | _ d ih=>
  intro i hd hi m t J B;obtain ⟨_,z,k,c⟩:=mem_ready.1 B;have o:t<ops.size:=(Array.getElem?_eq_some_iff.1 k).1;by_cases u:t=n
  ·subst u;have l:=List.all_eq_true.1 F i (List.mem_range.2 hi);obtain ⟨j,y,a⟩:=List.any_eq_true.1 l;simp only [Qq,decide_eq_true_eq] at a;obtain ⟨A,p,e,r,s,b⟩:=Region.waitsFor_spec a.2;have D:j<=t:=by have:=List.mem_range.1 y;omega
   by_cases q:j=t
   ·subst q;have:A=z:=Option.some.inj (p.symm.trans k);subst this;have f:=c e r s;rw [b,getD_both m] at f;cases f
   ·cases C:listed.getD j false with
    | true=>have f:=h.closed j A p C e r s;rw [b,getD_both m] at f;cases f
    | false=>
     have x:j<listed.size:=by rw [h.size];omega
     exact ih (t-j) Qa j rfl Qa (getD_in x C) t (Qn _) B
  ·have l:=List.all_eq_true.1 I t (List.mem_range.2 o);simp only [Bool.or_eq_true,decide_eq_true_eq] at l;rcases l with l | l
   ·omega
   ·obtain ⟨j,y,a⟩:=List.any_eq_true.1 l;simp only [Qq,decide_eq_true_eq] at a;obtain ⟨E,w,e,r,s,b⟩:=Region.waitsFor_spec a.2;have:E=z:=Option.some.inj (w.symm.trans k);subst this;have f:=c e r s;have q:=List.mem_range.1 y;rw [b,getD_both (h.tail j a.1 Qa)] at f;cases f
theorem Zrk {n i:Nat} {z:Oper} {v:Value} {L:Array Bool->Act->Prop} (hi:ops[i]? = some z) (r:∀(j:Nat) (o:Oper) J b,ops[j]? = some o->o.op ≠ .select J b)
 (R:Region.sinkB md ops n=true) (U:Hj md ops n=true) (S:n<ops.size) (E:i<n)
 (y:∀listed a,L listed a->∀j∈Region.ready md ops listed,n<=j) :
 ∀(f:Nat) (listed:Array Bool) (a:Act),HeadInv md ops n listed ->
  (∀j u,ops[j]? = some u->j≠i->listed.getD j true=false->(∀e∈u.after,Region.binds md e=true->e.on≠i)->z.apart ops u=true) ->
  i∈Region.ready md ops listed->YieldsIn P ops C z v a ->
  Ec P md ops C n L f (listed.setIfInBounds i true) (a.put z.dst v)->Ec P md ops C n L (f+1) listed a:=by
 intro f
 induction f with
 | zero=>
  intro listed a l _ s K H;refine ⟨λh=>(by rw [h] at s;cases s),λj x => ?_⟩;have m:j<n:=Nat.lt_of_not_le λh=>Ui R U l S _ i rfl E (mem_ready.1 s).1 j h x;refine ⟨m,?_⟩;by_cases c:j=i
  ·subst c;exact K.qOp hi H
  ·have:=y _ _ H j (ready_mono x c);omega
 | succ f ih=>
  intro listed a l d s K H;have A:=(mem_ready.1 s).1;refine ⟨λh=>(by rw [h] at s;cases s),λj x => ?_⟩;have m:j<n:=Nat.lt_of_not_le λh=>Ui R U l S _ i rfl E A j h x;refine ⟨m,?_⟩;by_cases c:j=i
  ·subst c;exact K.qOp hi H
  ·have h1:=(H.2 j (ready_mono x c)).2;obtain ⟨t,u,w,F⟩:=mem_ready.1 x;have B:∀e∈u.after,Region.binds md e=true->e.on≠i:=λe Y Z Q=>by have I:=F e Y Z;rw [Q,getD_both A] at I;cases I
   have h2:=qOp_put w (d j u w c t B) (λJ b=>r i z J b hi) (λJ b=>r j u J b w) K h1;have p:∀k ok,ops[k]? = some ok->k≠i->(listed.setIfInBounds j true).getD k true=false ->
    (∀e∈ok.after,Region.binds md e=true->e.on≠i)->z.apart ops ok=true:=λk ok X O q N=>by
    refine d k ok X O ?_ N;by_cases D:j=k
    ·subst D;exact t
    ·rw [getD_set_ne true D] at q;exact q
   refine qOp_mono (λa' I=>ih (listed.setIfInBounds j true) a' (l.set x m) p (ready_mono s (Ne.symm c)) I.1 ?_) h2;rw [Array.setIfInBounds_comm _ _ c];exact I.2
def F4 (md:Region.Mode) (ops:Array Oper) (F:Array Bool->Bool):Nat->Nat->Array Bool->Bool
 | 0,_,listed=>F listed
 | f+1,k,listed=>(Region.ready md ops listed).contains k&&Region.free md ops listed k&&F4 md ops F f (k+1) (listed.setIfInBounds k true)
theorem M7 {n:Nat} {F:Array Bool->Bool} {s:Act->Prop} (hF:∀listed,F listed=true->∀j∈Region.ready md ops listed,n<=j) (d:Region.noSelect ops=true) (t:Region.sinkB md ops n=true) (x:Hj md ops n=true) (u:n<ops.size) :
 ∀(l:List Oper) (k:Nat) (listed:Array Bool) (a:Act),(∀j,j<l.length->l[j]? = ops[k+j]?)->k+l.length=n->HeadInv md ops n listed ->
 F4 md ops F l.length k listed=true->wpQuiet P ops C s l a ->
 Ec P md ops C n (λb y=>(F b=true/\HeadInv md ops n b)/\s y) l.length listed a
 | [],k,listed,a,_,q,c,i,h=>⟨⟨by simpa [F4] using i,c⟩,h⟩
 | o::l,k,listed,a,w,q,c,i,h=>by
  have m:ops[k]? = some o:=by simpa using (w 0 Qf).symm
  simp only [Qt,F4,Qq] at i;obtain ⟨⟨A,B⟩,r⟩:=i;have f:k<n:=by simp only [Qt] at q;omega
  have e:k∈Region.ready md ops listed:=by simpa using A
  have p:qOp P ops C k (wpQuiet P ops C s l) a:=by unfold qOp;simp only [m];exact h
  obtain ⟨v,z,E⟩:=yieldsIn_of_qOp m p;exact Zrk m (Region.noSelect_spec d) t x u f (λb y D=>hF _ D.1.1) l.length listed a c (Region.free_spec m B) e z
   (M7 hF d t x u l (k+1) _ _ (λj I=>by have:=w (j+1) Qe;simpa [Nat.add_assoc,Nat.add_comm 1 j] using this) (by simp only [Qt] at q;omega) (c.set e f) r E)
def Rg (w:World) (w':World):Prop:=∃p:Regrown,w'=grow (redrawn w p.d) p.os
theorem Rg.self (w:World):Rg w w:=⟨⟨w.drawn,#[]⟩,by rw [grow_empty];rfl⟩
def phB (ops:Array Oper) (a:Nat):List Nat->Nat->Array Bool->Bool
 | [],k,listed=>decide (k<=a)&&decide (a<ops.size)&&Region.sinkB .any ops a&&Hj .any ops a&&F4 .any ops (Region.seqB .any ops (ops.size-a) a) (a-k) k listed
 | n::c,k,listed=>decide (k<=n)&&decide (n<ops.size)&&Region.sinkB .any ops n&&Hj .any ops n&&F4 .any ops (λb=>decide (Region.ready .any ops b=[n])&&phB ops a c (n+1) (b.setIfInBounds n true)) (n-k) k listed
def phQ (P:Program) (ops:Array Oper) (Q:Exit->Act->World->Prop) (c:Nat):List Nat->Nat->List Oper->Act->World->Prop
 | [],k,l,a,w=>wpQuiet P ops (λw'=>∃p:Regrown,w'=grow (redrawn w p.d) p.os) (λb=>∀w',Below w.heap.size w w'->wpList P ops Q (l.drop (c-k)) b w') (l.take (c-k)) a
 | n::f,k,l,a,w=>wpQuiet P ops (λw'=>∃p:Regrown,w'=grow (redrawn w p.d) p.os) (λb=>∀w',Below w.heap.size w w'->∀(K:Act->World->Prop),(∀e w2,phQ P ops Q c f (n+1) (l.drop (n-k+1)) e w2->K e w2) ->
  ∀o,l[n-k]? = some o->if Region.wanted o (yielded ops b.tmps)=true then o.wp P b w' K Q else K (b.put o.dst undef) w') (l.take (n-k)) a
theorem Z2z {n:Nat} {listed:Array Bool} (a:HeadInv md ops n listed) (hi:n∈Region.ready md ops listed):HeadInv md ops (n+1) (listed.setIfInBounds n true):=by
 obtain ⟨_,o,f,c⟩:=mem_ready.1 hi;refine ⟨by simp [a.size],λj h k i e l m => ?_,λt p d=>by rw [getD_set_ne true Qa];exact a.tail t Qa d⟩;by_cases b:n=j
 ·subst b;have:h=o:=Option.some.inj (k.symm.trans f);subst this;exact getD_set_true (c e l m)
 ·rw [getD_set_ne false b] at i;exact getD_set_true (a.closed j h k i e l m)
theorem Uj {k n:Nat} {listed:Array Bool} (a:HeadInv md ops k listed) (h:k<=n):HeadInv md ops n listed:=⟨a.size,a.closed,λt c b=>a.tail t Qa b⟩
theorem Uk {Q:Exit->Act->World->Prop} {c:Nat} (d:Region.noSelect ops=true):∀(y:List Nat) (k:Nat) (l:List Oper) (listed:Array Bool) (a:Act) (w wc:World),(∀j,l[j]? = ops[k+j]?)->HeadInv .any ops k listed ->
 phB ops c y k listed=true->Rg w wc->phQ P ops Q c y k l a w->wpAny P .any ops Q (ops.size-k) listed a wc
 | [],k,l,listed,a,w,wc,o,r,B,O,h=>by
  simp only [phB,Qq,decide_eq_true_eq] at B;obtain ⟨⟨⟨⟨L,K⟩,J⟩,I⟩,e⟩:=B;have Y:l.length=ops.size-k:=by
   rcases Nat.lt_or_ge l.length (ops.size-k) with x | x
   ·have:=o l.length;rw [List.getElem?_eq_none (Qn _),Array.getElem?_eq_getElem Qa] at this;cases this
   ·rcases Nat.lt_or_ge (ops.size-k) l.length with E | E
    ·have:=o (ops.size-k);rw [Qr E,Array.getElem?_eq_none Qa] at this;cases this
    ·omega
  have b:(l.take (c-k)).length=c-k:=Qe;have A:(l.drop (c-k)).length=ops.size-c:=Qe;have H:=M7 (P:=P) (C:=Rg w) (md := .any) (F:=Region.seqB .any ops (ops.size-c) c) (λlisted hF=>seqB_ready hF) d J I K (l.take (c-k)) k listed a (λj q=>by
   have u:j<c-k:=by rw [b] at q;exact q
   rw [List.getElem?_take,if_pos u]
   exact o j) (by rw [b];omega) (Uj r L) (by rw [b];exact e) h
  have:=Ij (Q':=Q) (g:=ops.size-c) (λlisted U w' t D=>by
   have:=wpAny_of_seq (md := .any) (Q':=Q) (l.drop (c-k)) c listed U w' (λj=>by rw [List.getElem?_drop,o];congr 1;omega) (by rw [A];exact D.1.1) (D.2 w' (by obtain ⟨p,rfl⟩:=t;exact below_regrown _ _ _))
   rwa [A] at this) _ _ _ _ O H
  rw [b,show c-k+(ops.size-c)=ops.size-k by omega] at this;exact this
 | n::y,k,l,listed,a,w,wc,o,r,B,O,h=>by
  simp only [phB,Qq,decide_eq_true_eq] at B;obtain ⟨⟨⟨⟨L,K⟩,J⟩,I⟩,e⟩:=B;have f:n-k<l.length:=by
   rcases Nat.lt_or_ge (n-k) l.length with x | x
   ·exact x
   ·have:=o (n-k);rw [List.getElem?_eq_none x,Array.getElem?_eq_getElem Qa] at this;cases this
  have b:(l.take (n-k)).length=n-k:=Qe;have H:=M7 (P:=P) (C:=Rg w) (md := .any) (F:=λR=>decide (Region.ready .any ops R=[n])&&phB ops c y (n+1) (R.setIfInBounds n true)) (λlisted hF j q=>by
   simp only [Qq,decide_eq_true_eq] at hF
   rw [hF.1] at q
   simp at q
   omega) d J I K (l.take (n-k)) k listed a (λj q=>by
   have u:j<n-k:=by rw [b] at q;exact q
   rw [List.getElem?_take,if_pos u]
   exact o j) (by rw [b];omega) (Uj r L) (by rw [b];exact e) h
  have:=Ij (Q':=Q) (g:=ops.size-n) (λlisted U w' t D=>by
   obtain ⟨⟨hF,z⟩,X⟩:=D
   simp only [Qq,decide_eq_true_eq] at hF
   have S:l[n-k]? = some (l[n-k]'f):=Qr f
   have x:ops[n]? = some (l[n-k]'f):=by rw [<-S,o];congr 1;omega
   rw [show ops.size-n=(ops.size-(n+1))+1 by omega]
   refine ⟨λh=>(by rw [hF.1] at h;cases h),λi hi => ?_⟩
   rw [hF.1] at hi
   have N:i=n:=by simpa using hi
   subst N
   have m:=X w' (by obtain ⟨p,rfl⟩:=t;exact below_regrown _ _ _) (wpAny P .any ops Q (ops.size-(i+1)) (listed.setIfInBounds i true)) (λZ w2 E=>
    Uk d y (i+1) (l.drop (i-k+1)) (listed.setIfInBounds i true) Z w2 w2 (λj=>by rw [List.getElem?_drop,o];congr 1;omega) (Z2z z (by rw [hF.1];simp)) hF.2 (Rg.self w2) E) _ S
   unfold wpOp
   simp only [x]
   split
   ·rename_i s
    rw [if_pos s] at m
    exact .inl m
   ·rename_i s
    rw [if_neg s] at m
    exact m) _ _ _ _ O H
  rw [b,show n-k+(ops.size-n)=ops.size-k by omega] at this;exact this
theorem Et {i:Nat} {Q:Exit->Act->World->Prop} {a:Act} {w:World} {l:List Oper} (d:List Nat) (e:Nat) (m:P.follows .mixedOrders=true) (c:Region.noSelect l.toArray=true) (n:phB l.toArray e d 0 (Array.replicate l.toArray.size false)=true)
 (h:phQ P l.toArray Q e d 0 l a w):(Code.region i l.toArray true).wp P Q a w:=by
 refine wp_region_any m ?_;have b:HeadInv .any l.toArray 0 (Array.replicate l.toArray.size false):=
  ⟨Qf,λj o _ f=>(by rw [getD_replicate_false] at f;cases f),λt _ k=>getD_in (by simpa using k) (getD_replicate_false _ _)⟩
 have:=Uk (P:=P) (Q:=Q) c d 0 l _ a w _ (λj=>Qf) b n (⟨⟨w.drawn+1,#[]⟩,by rw [grow_empty];rfl⟩:Rg w { w with drawn:=w.drawn+1 }) h;simpa using this
end
end
end Go.Proofs.YtpdphfgpdgadpaaGreat
