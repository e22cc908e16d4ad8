import Derived.Test.YtpdphfgpdgadpaaGreatM23
import Derived.Test.YtpdphfgpdgadpaaGreatW12e
import Derived.Test.YtpdphfgpdgadpaaGreatReg9
set_option linter.unusedSimpArgs false
set_option linter.unusedVariables false
set_option maxHeartbeats 4000000
set_option maxRecDepth 100000
open Go.Proofs.Tryz
namespace Go.Proofs.YtpdphfgpdgadpaaGreat
open Lib(hid)
section
open Go Go.RowKit Go.Sort M
def okE (c:Cf) (a:List Int):Bool:=okCf c&&Bg c.wd c.di c.lv c.st a
structure EngC (P:World->(Nat->Prop)->Nat->Eg->Prop):Prop where
 bad:∀(c:Cf) (s:Nat) (levels C:List Int) (p q:Option Addr) (k l:Nat) (w:World),W64 s->IRow w p levels->IRow w q C->levels.length<=1000->C.length<=1000->levels.length<=k->C.length<=l->(∀x∈levels,x<=9223372036854775807)->okE c levels=false ->
  Calls prog 18 #[cfgA c,.int .u64 (s:Int),.slice p levels.length k,.slice q C.length l] w λe w'=>e = .returned (.tuple #[.pointer none,.int .i64 1])/\Below w.heap.size w w'
 new:∀(c:Cf) (s:Nat) (levels C:List Int) (p q:Option Addr) (k l:Nat) (w:World),W64 s->IRow w p levels->IRow w q C->levels.length<=1000->C.length<=1000->levels.length<=k->C.length<=l->okE c levels=true ->
  Calls prog 18 #[cfgA c,.int .u64 (s:Int),.slice p levels.length k,.slice q C.length l] w λe w'=>
   ∃t,e = .returned (.tuple #[.pointer (some ⟨t,0,none⟩),.int .i64 0])/\P w' (In w.heap.size w'.heap.size) t (newE c s levels C)/\Below w.heap.size w w'
 put:∀(w:World) (K:Nat->Prop) (t:Nat) (E:Eg) (r:Rt),P w K t E->E.ok->r.k.good->E.R.length<=300 ->
  Calls prog 38 #[.pointer (some ⟨t,0,none⟩),rtA r] w λe w'=>e = .returned (.tuple #[])/\∃K',P w' K' t (E.put r)/\Touch K w w'/\∀g,K' g->K g\/In w.heap.size w'.heap.size g
 del:∀(w:World) (K:Nat->Prop) (t:Nat) (E:Eg) (k:Ky),P w K t E->E.ok->k.good->E.R.length<=300 ->
  Calls prog 37 #[.pointer (some ⟨t,0,none⟩),kyV k] w λe w'=>e = .returned (.bool (decide (k∈Aa E.R)))/\∃K',P w' K' t (E.del k)/\Touch K w w'/\∀g,K' g->K g\/In w.heap.size w'.heap.size g
 routes:∀(w:World) (K:Nat->Prop) (t:Nat) (E:Eg),P w K t E->E.ok->E.R.length<=301 ->
  Calls prog 12 #[.pointer (some ⟨t,0,none⟩)] w λe w'=>Cw w w' e E.R
 right:∀(c:Cf) (w:World),Calls prog 14 #[cfgA c] w λe w'=>e = .returned (.bool (okCf c))/\Below w.heap.size w w'
 touched:∀(w w':World) (K S:Nat->Prop) (t:Nat) (E:Eg),P w K t E->Touch S w w'->(∀g,K g->¬S g)->P w' K t E
theorem EngC.below {P:World->(Nat->Prop)->Nat->Eg->Prop} (D:EngC P) {w w':World} {K:Nat->Prop} {t:Nat} {E:Eg} (h:P w K t E) (a:Below w.heap.size w w'):P w' K t E:=
 D.touched w w' K (λ_=>False) t E h (Touch.quiet a) (λ_ _ x=>x)
def H7 (c:Cf):Bool:=decide ((c.wd<=24\/128<c.wd)/\(c.bt<=4000\/1073741824<c.bt)/\(c.le<=500\/65536<c.le)/\(c.bk<=20\/1000<c.bk))
theorem X4 (c:Cf):Aj prog 5 #[cfgA c] (.bool (H7 c)):=by
 intro w;obtain ⟨wd,e,a,st,b,bt,le,bk,rt,d⟩:=c;unfold cfgA;simp only;go_enter func5,ntmps5;go_wp2;all_goals
  go_ret;refine ⟨Au ?_,Qg⟩;unfold H7;rw [Bool.eq_iff_iff];simp only [Qq,Bool.or_eq_true,decide_eq_true_eq,Bool.false_eq_true,Bool.true_eq_false,true_iff,false_iff,iff_true,iff_false,true_and,and_true,true_or,or_true,false_or,or_false];omega
structure Cu (w:World) (K:Nat->Prop) (t:Nat) (V:Lv) (lo hi f g u b:Nat) (v:Value):Prop where
 lt:t<w.heap.size
 c0:w.cell? ⟨t,0,none⟩=some (.int .i64 V.n)
 c1:w.cell? ⟨t,1,none⟩=some (.pointer (some ⟨f,0,none⟩))
 c2:w.cell? ⟨t,2,none⟩=some (.pointer (some ⟨u,0,none⟩))
 fil:RFil w lo hi f g V.s V.k V.C
 tab:Tb RBk w u b v V.T
 kt:K t
 kf:∀j,In lo hi j->K j
 kb:∀j,Blk u b v j->K j
 tf:¬In lo hi t
 tb:¬Blk u b v t
 fb:∀j,Blk u b v j->¬In lo hi j
def RLev (w:World) (K:Nat->Prop) (t:Nat) (V:Lv):Prop:=∃lo hi f g u b v,Cu w K t V lo hi f g u b v
theorem RLev.touched {w w':World} {K S:Nat->Prop} {t:Nat} {V:Lv} (H:RLev w K t V) (a:Touch S w w') (c:∀j,K j->¬S j):RLev w' K t V:=by obtain ⟨lo,hi,f,g,u,b,v,H⟩:=H;exact ⟨lo,hi,f,g,u,b,v,Qm H.lt a.size,a.cell H.c0 (c _ H.kt),a.cell H.c1 (c _ H.kt),a.cell H.c2 (c _ H.kt),H.fil.touched a (λj h e=>c _ (H.kf j ⟨h,e⟩)),H.tab.touched Jl a (λj d=>c _ (H.kb j d)),H.kt,H.kf,H.kb,H.tf,H.tb,H.fb⟩
theorem RLev.below {w w':World} {K:Nat->Prop} {t:Nat} {V:Lv} (H:RLev w K t V) (a:Below w.heap.size w w'):RLev w' K t V:=H.touched (S:=λ_=>False) (Touch.quiet a) (λ_ _ x=>x)
structure LevC (P:World->(Nat->Prop)->Nat->Lv->Prop):Prop where
 bad:∀(n k m b:Int) (s:Nat) (w:World),W64 s->badV n k m b ->
  Calls prog 35 #[.int .i64 n,.int .u64 (s:Int),.int .i64 k,.int .i64 m,.int .i64 b] w λe w'=>e = .returned (.tuple #[.pointer none,.int .i64 1])/\Below w.heap.size w w'
 new:∀(n k:Int) (s m b:Nat) (w:World),W64 s->¬badV n k m b ->
  Calls prog 35 #[.int .i64 n,.int .u64 (s:Int),.int .i64 k,.int .i64 (m:Int),.int .i64 (b:Int)] w λe w'=>
   ∃t,e = .returned (.tuple #[.pointer (some ⟨t,0,none⟩),.int .i64 0])/\P w' (In w.heap.size w'.heap.size) t (newV n s k m b)/\Below w.heap.size w w'
 turn:∀(w:World) (K:Nat->Prop) (t:Nat) (V:Lv) (N:List Rt) (p:Option Addr) (c:Nat) (L:List Ch),P w K t V->LvOk V N->(∀x∈L,x.k.good)->N.length+L.length<=100000->L.length<=c->Row w p (ccs L)->(∀a,p=some a->¬K a.block) ->
  Calls prog 74 #[.pointer (some ⟨t,0,none⟩),.slice p L.length c] w λe w'=>e = .returned (.tuple #[])/\∃K',P w' K' t (V.turns L)/\Touch K w w'/\∀g,K' g->K g\/In w.heap.size w'.heap.size g
 bits:∀(w:World) (K:Nat->Prop) (t:Nat) (V:Lv),P w K t V ->
  Calls prog 76 #[.pointer (some ⟨t,0,none⟩)] w λe w'=>e = .returned (.int .i64 V.n)/\Below w.heap.size w w'
 touched:∀(w w':World) (K S:Nat->Prop) (t:Nat) (V:Lv),P w K t V->Touch S w w'->(∀g,K g->¬S g)->P w' K t V
section
variable {P:World->(Nat->Prop)->Nat->Lv->Prop}
theorem LevC.below (D:LevC P) {w w':World} {K:Nat->Prop} {t:Nat} {V:Lv} (h:P w K t V) (a:Below w.heap.size w w'):P w' K t V:=
 D.touched w w' K (λ_=>False) t V h (Touch.quiet a) (λ_ _ x=>x)
end
section
variable {P:World->(Nat->Prop)->Nat->Lv->Prop}
end
structure Ob (P:World->(Nat->Prop)->Nat->Lv->Prop) (w0 wr:World) (t:Nat) (V:Lv) (N:List Rt) (q:Option Addr) (c:Nat) (K:Nat->Prop):Prop where
 lev:P wr K t V
 ok:LvOk V N
 top:∀g,K g->w0.heap.size<=g/\g<wr.heap.size
 own:wr.ownsRow w0.heap.size 34 4 (.slice q N.length c) N.length (rcs N)
 far:∀j,(Value.slice q N.length c).ownBlock=some j->¬K j
 below:Below w0.heap.size w0 wr
section
variable {P:World->(Nat->Prop)->Nat->Lv->Prop}
theorem Ob.grow (D:LevC P) {b wr w':World} {t:Nat} {V:Lv} {N:List Rt} {q:Option Addr} {c:Nat} {K:Nat->Prop} (h:Ob P b wr t V N q c K) (a:Below wr.heap.size wr w'):Ob P b w' t V N q c K:=
 ⟨D.below h.lev a,h.ok,λg d=>⟨(h.top g d).1,Qm (h.top g d).2 a.size⟩,own_below h.own a,h.far,h.below.trans (a.mono h.below.size)⟩
theorem LvOk.good {V:Lv} {N:List Rt} (H:LvOk V N):∀r∈N,r.k.good:=λr a=>H.kept.inv.good r (H.kept.all.mem_iff.2 a)
end
def c22:Cf:=⟨8,2,2,4,2,64,8,2,9,4⟩
theorem z64:W64 0:=W64.mk Qd
section
variable {P:World->(Nat->Prop)->Nat->Eg->Prop}
end
structure ShdC (Q:World->(Nat->Prop)->Nat->Eg->Prop) (P:World->(Nat->Prop)->Nat->Sh->Prop):Prop where
 start:∀(c:Cf) (s:Nat) (L:List Rt) (p:Option Addr) (k sl:Nat) (w:World),W64 s->Row w p (rcs L)->(∀r∈L,r.k.good)->L.length<=300->L.length<=k->(p=none->k=0)->okCf c=true->1<=sl->sl<=9223372036854775807 ->
  Calls prog 7 #[cfgA c,.int .u64 (s:Int),.slice p L.length k,.int .i64 (sl:Int)] w λe w'=>
   ∃t,e = .returned (.tuple #[.pointer (some ⟨t,0,none⟩),.int .i64 0])/\P w' (In w.heap.size w'.heap.size) t (C5 c s (Af L) sl)/\Below w.heap.size w w'
 bad:∀(c:Cf) (s:Nat) (L:List Rt) (p:Option Addr) (k:Nat) (sl:Int) (w:World),W64 s->Row w p (rcs L)->(∀r∈L,r.k.good)->L.length<=300->L.length<=k->okCf c=true->sl<1 ->
  Calls prog 7 #[cfgA c,.int .u64 (s:Int),.slice p L.length k,.int .i64 sl] w λe w'=>e = .returned (.tuple #[.pointer none,.int .i64 1])/\Below w.heap.size w w'
 put:∀(w:World) (K:Nat->Prop) (t:Nat) (S:Sh) (r:Rt),P w K t S->S.ok->(S.add (false,r)).ok ->
  Calls prog 13 #[.pointer (some ⟨t,0,none⟩),rtA r] w λe w'=>e = .returned (.tuple #[])/\∃K',P w' K' t (S.add (false,r))/\Touch K w w'/\∀g,K' g->K g\/In w.heap.size w'.heap.size g
 del:∀(w:World) (K:Nat->Prop) (t:Nat) (S:Sh) (k:Ky),P w K t S->S.ok->(S.add (true,⟨k,0⟩)).ok ->
  Calls prog 11 #[.pointer (some ⟨t,0,none⟩),kyV k] w λe w'=>e = .returned (.tuple #[])/\∃K',P w' K' t (S.add (true,⟨k,0⟩))/\Touch K w w'/\∀g,K' g->K g\/In w.heap.size w'.heap.size g
 step:∀(w:World) (K:Nat->Prop) (t:Nat) (S:Sh),P w K t S->S.ok ->
  Calls prog 10 #[.pointer (some ⟨t,0,none⟩)] w λe w'=>e = .returned (.int .i64 (S.step.W.length:Int))/\∃K',P w' K' t S.step/\Touch K w w'/\∀g,K' g->K g\/In w.heap.size w'.heap.size g
 wait:∀(w:World) (K:Nat->Prop) (t:Nat) (S:Sh),P w K t S->S.ok->S.W≠[] ->
  Calls prog 9 #[.pointer (some ⟨t,0,none⟩)] w λe w'=>e = .returned (.pointer none)/\Below w.heap.size w w'
 done:∀(w:World) (K:Nat->Prop) (t:Nat) (S:Sh),P w K t S->S.ok->S.W=[] ->
  Calls prog 9 #[.pointer (some ⟨t,0,none⟩)] w λe w'=>∃g K2,e = .returned (.pointer (some ⟨g,0,none⟩))/\Q w' K2 g S.E/\(∀i,K2 i->K i\/In w.heap.size w'.heap.size i)/\Below w.heap.size w w'
 touched:∀(w w':World) (K U:Nat->Prop) (t:Nat) (S:Sh),P w K t S->Touch U w w'->(∀g,K g->¬U g)->P w' K t S
theorem ShdC.below {Q:World->(Nat->Prop)->Nat->Eg->Prop} {P:World->(Nat->Prop)->Nat->Sh->Prop} (D:ShdC Q P) {w w':World} {K:Nat->Prop} {t:Nat} {S:Sh} (h:P w K t S) (a:Below w.heap.size w w'):P w' K t S:=
 D.touched w w' K (λ_=>False) t S h (Touch.quiet a) (λ_ _ x=>x)
theorem X5 (n:Int):Aj prog 8 #[.int .i64 n] (.int .i64 n):=by intro w;go_enter func8,ntmps8;go_wp2;go_ret;exact ⟨rfl,Qg⟩
structure ShI (P:World->(Nat->Prop)->Nat->Sh->Prop) (w0 wr:World) (t:Nat) (S:Sh) (K:Nat->Prop):Prop where
 shd:P wr K t S
 ok:S.ok
 top:∀g,K g->w0.heap.size<=g/\g<wr.heap.size
 below:Below w0.heap.size w0 wr
section
variable {Q:World->(Nat->Prop)->Nat->Eg->Prop} {P:World->(Nat->Prop)->Nat->Sh->Prop}
theorem ShI.grow (D:ShdC Q P) {b wr w':World} {t:Nat} {S:Sh} {K:Nat->Prop} (h:ShI P b wr t S K) (a:Below wr.heap.size wr w'):ShI P b w' t S K:=
 ⟨D.below h.shd a,h.ok,λg c=>⟨(h.top g c).1,Qm (h.top g c).2 a.size⟩,h.below.trans (a.mono h.below.size)⟩
theorem ShI.turned {c wr w':World} {t:Nat} {S b:Sh} {K K':Nat->Prop} (h:ShI P c wr t S K) (e:P w' K' t b) (f:b.ok) (d:Touch K wr w') (l:∀g,K' g->K g\/In wr.heap.size w'.heap.size g):ShI P c w' t b K':=by
 refine ⟨e,f,λg k => ?_,h.below.trans (d.below h.below.size (λj i=>(h.top j i).1))⟩;rcases l g k with a | a
 ·exact ⟨(h.top g a).1,Qm (h.top g a).2 d.size⟩
 ·exact ⟨Qw h.below.size a.1,a.2⟩
def r23:Rt:=⟨⟨0,0,0⟩,3⟩
theorem Z12:r23.k.good:=⟨z64,z64⟩
def s23:Sh:=C5 c22 1 [] 1
theorem Oc:s23.ok:=X3 Qd 1 (λ_ h=>by cases h) Qd Qd Qd
theorem s23_R:s23.step.E.R.length+s23.step.W.length<200:=Qd
theorem Z7v:(s23.step.add (false,r23)).W=[(false,r23)]:=rfl
theorem Z7u:(s23.step.add (false,r23)).step.W=[]:=rfl
theorem Kl:(s23.step.add (false,r23)).ok:=Oc.step.add Z12 s23_R
theorem X6 (D:ShdC Q P) (w:World):Calls prog 4 #[] w λe w'=>e = .returned (.bool true)/\Below w.heap.size w w':=by
 have h1:Hid (∀W,Calls prog 7 #[.agg #[.int .i64 8,.int .i64 2,.int .i64 2,.int .i64 4,.int .i64 2,.int .i64 64,.int .i64 8,.int .i64 2,.int .i64 9,.int .i64 4],.int .u64 1,.slice none 0 0,.int .i64 1] W λe w'=>
  ∃t,e = .returned (.tuple #[.pointer (some ⟨t,0,none⟩),.int .i64 0])/\P w' (In W.heap.size w'.heap.size) t s23/\Below W.heap.size W w'):=
  hid λW=>D.start c22 1 [] none 0 1 W (W64.mk Qd) (.inl rfl) (λ_ h=>by cases h) Qd Qd (λ_=>rfl) Qd Qd Qd
 have h2:Hid (∀W K t,P W K t s23->Calls prog 10 #[.pointer (some ⟨t,0,none⟩)] W λe w'=>e = .returned (.int .i64 0)/\∃K',P w' K' t s23.step/\Touch K W w'/\∀g,K' g->K g\/In W.heap.size w'.heap.size g):=
  hid λW K t h=>D.step W K t s23 h Oc
 have Z:Hid (∀W K t,P W K t s23.step->Calls prog 13 #[.pointer (some ⟨t,0,none⟩),.agg #[.int .u64 0,.int .u64 0,.int .i64 0,.int .i64 3]] W λe w'=>e = .returned (.tuple #[])/\∃K',P w' K' t (s23.step.add (false,r23))/\Touch K W w'/\∀g,K' g->K g\/In W.heap.size w'.heap.size g):=
  hid λW K t h=>D.put W K t s23.step r23 h Oc.step Kl
 have Y:Hid (∀W K t,P W K t (s23.step.add (false,r23))->Calls prog 9 #[.pointer (some ⟨t,0,none⟩)] W λe w'=>e = .returned (.pointer none)/\Below W.heap.size W w'):=
  hid λW K t h=>D.wait W K t _ h Kl (by rw [Z7v];exact List.cons_ne_nil _ _)
 have X:Hid (∀W K t,P W K t (s23.step.add (false,r23))->Calls prog 10 #[.pointer (some ⟨t,0,none⟩)] W λe w'=>e = .returned (.int .i64 0)/\∃K',P w' K' t (s23.step.add (false,r23)).step/\Touch K W w'/\∀g,K' g->K g\/In W.heap.size w'.heap.size g):=
  hid λW K t h=>D.step W K t _ h Kl
 have U:Hid (∀W K t,P W K t (s23.step.add (false,r23)).step->Calls prog 9 #[.pointer (some ⟨t,0,none⟩)] W λe w'=>∃g,e = .returned (.pointer (some ⟨g,0,none⟩))/\Below W.heap.size W w'):=
  hid λW K t h=>(D.done W K t _ h Kl.step Z7u).mono λe w' ⟨g,_,a,_,_,b⟩=>⟨g,a,b⟩
 have S:=hid D;go_enter func4,ntmps4;go_wp2_with fail;generalize E:World.alloc w _=R;have O:Below w.heap.size w R:=by rw [<-E];go_grown
 refine (h1.o _).mono ?_;rintro e w1 ⟨t,rfl,A,q⟩;have n:=O.trans (q.mono O.size);have p:∀g,In R.heap.size w1.heap.size g->w.heap.size<=g:=λg h=>Qw O.size h.1;clear q;go_wp2_with fail;refine (X5 0 _).mono ?_;rintro e w2 ⟨rfl,i⟩;have d:=n.trans (i.mono n.size);have z:=S.o.below A i;clear i A;go_wp2_with fail;refine (h2.o _ _ _ z).mono ?_;rintro e w3 ⟨rfl,K3,y,u,C⟩;have c:=d.trans (u.below d.size p);have o:∀g,K3 g->w.heap.size<=g:=λg h=>(C g h).elim (p g) (λh=>Qw d.size h.1);clear u C z;go_wp2_with fail;refine (Z.o _ _ _ y).mono ?_;rintro e w4 ⟨rfl,K4,j,s,B⟩;have m:=c.trans (s.below c.size o);have I:∀g,K4 g->w.heap.size<=g:=λg h=>(B g h).elim (o g) (λh=>Qw c.size h.1);clear s B y;go_wp2_with fail;refine (Y.o _ _ _ j).mono ?_;rintro e w5 ⟨rfl,f⟩;have l:=m.trans (f.mono m.size);have x:=S.o.below j f;clear f j;go_wp2_with fail;refine (X.o _ _ _ x).mono ?_;rintro e w6 ⟨rfl,K6,L,r,N⟩;have k:=l.trans (r.below l.size I);clear r N x;go_wp2_with fail;refine (U.o _ _ _ L).mono ?_;rintro e w7 ⟨g,rfl,J⟩;have F:=k.trans (J.mono k.size);go_wp2;go_ret;exact ⟨rfl,F⟩
end
structure EngI (P:World->(Nat->Prop)->Nat->Eg->Prop) (w0 wr:World) (t:Nat) (E:Eg) (q:Option Addr) (c:Nat) (K:Nat->Prop):Prop where
 lev:P wr K t E
 ok:E.ok
 top:∀g,K g->w0.heap.size<=g/\g<wr.heap.size
 own:wr.ownsRow w0.heap.size 34 4 (.slice q E.R.length c) E.R.length (rcs E.R)
 far:∀j,(Value.slice q E.R.length c).ownBlock=some j->¬K j
 below:Below w0.heap.size w0 wr
section
variable {P:World->(Nat->Prop)->Nat->Eg->Prop}
theorem EngI.grow (D:EngC P) {b wr w':World} {t:Nat} {E:Eg} {q:Option Addr} {c:Nat} {K:Nat->Prop} (h:EngI P b wr t E q c K) (a:Below wr.heap.size wr w'):EngI P b w' t E q c K:=
 ⟨D.below h.lev a,h.ok,λg d=>⟨(h.top g d).1,Qm (h.top g d).2 a.size⟩,own_below h.own a,h.far,h.below.trans (a.mono h.below.size)⟩
end
end
section
open M
theorem X7 {x l:Nat} (c:1<=l) (b:l<=x) (a:l<=65536):l<=capB (x:Int)/\capB (x:Int)<=65536/\capB (x:Int)<=x:=by unfold capB;omega
theorem X8 (f:Nat->Nat) (l:Nat) (c:1<=l) (a:l<=65536) (b:∀j,l<=f j):∀n,((List.range n).map λj=>capB (f j:Int)).sum<=sumF f n
 | 0=>Qn _
 | n+1=>by have d:=X8 f l c a b n;have:=(X7 c (b n) a).2.2;rw [List.range_succ,List.map_append,List.sum_append];show _+([capB (f n:Int)]).sum<=sumF f n+f n;simp only [List.sum_cons,List.sum_nil];omega
theorem Z68 {c:Cf} {a C:List Int} (h:okCf c=true) (m:Bg c.wd c.di c.lv c.st a=true):(∀b∈B4 c a C,c.le<=(b:Int)/\b<=65536)/\((B4 c a C).sum:Int)<=c.bt:=by
 unfold okCf at h;obtain ⟨-,-,⟨y,x⟩,-,-,⟨q,p⟩,⟨t1,t2⟩,-⟩:=of_decide_eq_true h;unfold Bg at m;simp only [Qq,decide_eq_true_eq] at m;have z:(a.length:Int)<=c.lv:=m.1.2;obtain ⟨l,r⟩:=Qv (show 0<=c.le by omega);have f:c.le*(a.length:Int)<=c.bt:=by refine Int.le_trans (Int.mul_le_mul_of_nonneg_left (show (a.length:Int)<=max c.lv 1 by omega) Qa) t1
 unfold B4 shL;rw [List.map_map,List.length_map,Hy];rw [r] at f q p ⊢;obtain ⟨n,o⟩:=Q' a.length;rw [<-o] at f ⊢;obtain ⟨left,d⟩:=Qv (show 0<=c.bt-(l:Int)*(n:Int) by omega);rw [d,Int.toNat_natCast,Int.toNat_natCast];generalize wtF _=w;have e:(capB ∘ shF w l left n)=λj=>capB ((Bp w l left n j:Nat):Int):=rfl;rw [e];have k:1<=l:=Qa;have i:l<=65536:=Qa;refine ⟨λb s => ?_,?_⟩
 ·obtain ⟨j,-,rfl⟩:=List.mem_map.1 s;have:=X7 k (Mv w l left n j) i;omega
 ·by_cases u:0<n
  ·have t:=X8 (Bp w l left n) l k i (Mv w l left n) n;rw [Zxa w l left n u] at t;have A:((n*l:Nat):Int)=(l:Int)*(n:Int):=by rw [Int.natCast_mul,Int.mul_comm]
   omega
  ·obtain rfl:n=0:=Qa;show ((0:Nat):Int)<=c.bt;simp only [Int.natCast_zero,Int.mul_zero] at d;omega
end
section
open Go Go.RowKit Go.Sort M
theorem Gh:∀(l:List Rt),(Af l).length<=l.length:=by
 intro l;suffices H:∀(n:Nat) (l:List Rt),l.length=n->(Af l).length<=l.length from H l.length l rfl;intro n
 induction n with
 | zero=>intro l a;obtain rfl:=List.eq_nil_of_length_eq_zero a;simp [Af]
 | succ n ih=>intro l a;obtain ⟨l,r,rfl⟩:∃b r,l=b++[r]:=⟨l.dropLast,l.getLast (by intro e;simp [e] at a),(List.dropLast_concat_getLast _).symm⟩;have:=ih l (by simpa using a);rw [Ns];have c:=(Cl r (Cj l).1).length_eq;have d:(outS (Af l) r.k).length<=(Af l).length:=List.length_filter_le _ _;simp only [Qt] at c;simp;omega
def kyA (k:Ky):Value := .agg #[.int .u64 (k.h:Int),.int .u64 (k.l:Int),.int .i64 k.n]
theorem Gi {l:List Rt} {q:Rt} (h:q∈Af l):q∈l:=by have h:=((Cj l).2 q).1 h;unfold lst at h;exact (List.mem_filter.1 (List.mem_of_getLast? h)).1
def fS (N:List Rt) (low:Int) (K:List Ky):List Rt:=Af (K.map λk=>⟨k,hopV N low k⟩)
theorem X9 (N:List Rt) (low:Int) (K:List Ky):(fS N low K).length<=K.length:=by
 have:=Gh (K.map λk=>(⟨k,hopV N low k⟩:Rt))
 rwa [List.length_map] at this
theorem Ya (k:Ky) (g:W64 k.l) (m:Int):(sprK k m).length<=256:=by unfold sprK;rw [List.length_map,Nn _ _ _ _ g];exact Nm _ _ _ _
theorem Od (N:List Rt) (low high:Int) (i:Nat) (h:i<N.length) (a:insB low high N[i]=true):Ao (N.take (i+1)) low high=Ao (N.take i) low high++sprK N[i].k high:=by unfold Ao;rw [List.take_succ_eq_append_getElem h,List.filter_append,List.flatMap_append];congr 1;simp [a]
theorem Yb (N:List Rt) (low high:Int) (i:Nat) (h:i<N.length) (a:insB low high N[i]=false):Ao (N.take (i+1)) low high=Ao (N.take i) low high:=by unfold Ao;rw [List.take_succ_eq_append_getElem h,List.filter_append,List.flatMap_append];simp [a]
theorem Km (N:List Rt) (low high:Int) (a:∀r∈N,r.k.good):∀i,i<=N.length->(Ao (N.take i) low high).length<=256*i
 | 0,_=>by simp [Ao]
 | i+1,h=>by
  have c:=Km N low high a i Qa;have hi:i<N.length:=Qa;cases b:insB low high N[i] with
  | true=>rw [Od N low high i hi b,Qo];have:=Ya N[i].k (a _ (Qp hi)).2 high;omega
  | false=>rw [Yb N low high i hi b];omega
theorem Yc (k:Ky) (m:Int) (j:Nat) (h:j<(Bm k.h k.l k.n m).length):(sprK k m)[j]'(by unfold sprK;rw [List.length_map];exact h)=kyP (Bm k.h k.l k.n m)[j]:=by simp [sprK]
theorem H8 {k:Ky} (g:k.good) (m:Int) {q:Ky} (h:q∈sprK k m):q.good:=by have:=(Az g.1 g.2 q m).1 h;exact ⟨this.2.2.2.2.1,this.2.2.2.2.2.1⟩
structure EngH (P:World->(Nat->Prop)->Nat->Eg->Prop) (w0 wr:World) (t:Nat) (E:Eg) (di:Int) (LV:List Int) (BS:List Nat) (K:Nat->Prop):Prop where
 lev:P wr K t E
 ok:E.ok
 dir:E.di=di
 ns:E.L.map Lv.n=LV
 cs:E.L.map (λV=>V.C.length)=BS
 top:∀g,K g->w0.heap.size<=g/\g<wr.heap.size
 below:Below w0.heap.size w0 wr
section
variable {P:World->(Nat->Prop)->Nat->Eg->Prop}
theorem EngH.grow (D:EngC P) {b wr w':World} {t:Nat} {E:Eg} {d:Int} {e:List Int} {f:List Nat} {K:Nat->Prop} (h:EngH P b wr t E d e f K) (a:Below wr.heap.size wr w'):EngH P b w' t E d e f K:=
 ⟨D.below h.lev a,h.ok,h.dir,h.ns,h.cs,λg c=>⟨(h.top g c).1,Qm (h.top g c).2 a.size⟩,h.below.trans (a.mono h.below.size)⟩
end
end
end Go.Proofs.YtpdphfgpdgadpaaGreat
