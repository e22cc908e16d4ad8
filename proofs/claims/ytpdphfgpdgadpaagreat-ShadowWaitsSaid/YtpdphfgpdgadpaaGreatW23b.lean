import Derived.Test.YtpdphfgpdgadpaaGreatL22d
import Derived.Test.YtpdphfgpdgadpaaGreatW22
import Derived.Deep.Upon
set_option linter.unusedSimpArgs false
set_option linter.unusedVariables false
set_option maxHeartbeats 4000000
set_option maxRecDepth 100000
open Go.Proofs.Tryz
namespace Go.Proofs.YtpdphfgpdgadpaaGreat
open Lib(hid)
open Go Go.RowKit Go.Sort M
def A9 (x:Bool×Rt):List Value:=[.int .u64 (x.2.k.h:Int),.int .u64 (x.2.k.l:Int),.int .i64 x.2.k.n,.int .i64 x.2.v,.bool x.1]
def upcs (W:List (Bool×Rt)):List Value:=W.flatMap A9
def updA (x:Bool×Rt):Value := .agg #[.int .u64 (x.2.k.h:Int),.int .u64 (x.2.k.l:Int),.int .i64 x.2.k.n,.int .i64 x.2.v,.bool x.1]
theorem Eb (L:List (Bool×Rt)):(upcs L).length=L.length*5:=by
 unfold upcs
 induction L with
 | nil=>rfl
 | cons x L ih=>simp only [List.flatMap_cons,Qo,ih,A9,Qt,List.length_nil];omega
theorem Zh (L M:List (Bool×Rt)):upcs (L++M)=upcs L++upcs M:=by simp [upcs]
theorem Zi (x:Bool×Rt) (L:List (Bool×Rt)):upcs (x::L)=A9 x++upcs L:=rfl
theorem Z09 (p:Bool×Rt):upcs [p]=A9 p:=by simp [upcs]
theorem Gk:∀(L:List (Bool×Rt)) (k j:Nat) (h:k<L.length),j<5->(upcs L)[k*5+j]? = (A9 L[k])[j]?
 | x::L,0,j,_,a=>by rw [Zi,List.getElem?_append_left (by simp [A9];omega)];simp
 | x::L,k+1,j,h,a=>by rw [Zi,List.getElem?_append_right (by simp [A9];omega),show (k+1)*5+j-(A9 x).length=k*5+j by simp [A9];omega];rw [Gk L k j (by simpa using h) a];simp
theorem Zj (x:Bool×Rt):∀u∈A9 x,u.oneCell'=true:=by intro u a;simp only [A9,List.mem_cons,List.not_mem_nil,or_false] at a;rcases a with rfl | rfl | rfl | rfl | rfl<;>rfl
theorem Zwp (L:List (Bool×Rt)) (i:Nat):(upcs L).drop (i*5)=upcs (L.drop i):=by
 by_cases h:i<=L.length
 ·have e:upcs L=upcs (L.take i)++upcs (L.drop i):=by rw [<-Zh,List.take_append_drop]
  rw [e,List.drop_append,List.drop_eq_nil_of_le (by rw [Eb,Qs];omega),Eb,Qs,Nat.min_eq_left h,Nat.sub_self];simp
 ·rw [List.drop_eq_nil_of_le (by rw [Eb];omega),List.drop_eq_nil_of_le Qa];rfl
theorem Ig (g o j:Nat):(⟨g,o,none⟩:Addr).add j=⟨g,o+j,none⟩:=by unfold Addr.add;split<;>simp_all
theorem infoU:(prog.info? 58).map (λi=>(i.zero,i.size,i.bytes))=some (some (.agg #[.int .u64 0,.int .u64 0,.int .i64 0,.int .i64 0,.bool false]),5,40):=Qb
def QRow (w:World) (K:Nat->Prop) (v:Value) (W:List (Bool×Rt)):Prop:=
 (v = .slice none 0 0/\W=[])\/∃g o c,v = .slice (some ⟨g,o,none⟩) W.length c/\W.length<=c/\c<=maxLen/\K g/\g<w.heap.size/\(∀j,j<o+c*5->(w.cell? ⟨g,j,none⟩).isSome=true)/\(∀j,w.frozen? ⟨g,j,none⟩=false)/\∀j u,(upcs W)[j]? = some u->w.cell? ⟨g,o+j,none⟩=some u
theorem QRow.touched {w w':World} {K S:Nat->Prop} {v:Value} {W:List (Bool×Rt)} (H:QRow w K v W) (d:Touch S w w') (k:∀j,K j->¬S j):QRow w' K v W:=by
 rcases H with h | ⟨g,o,c,s,r,q,f,e,p,n,m⟩
 ·exact .inl h
 ·have b:=d.block g e (k g f);exact .inr ⟨g,o,c,s,r,q,f,Qm e d.size,λj l=>by rw [World.cell?_of_block (a:=⟨g,j,none⟩) b];exact p j l,λj=>(World.frozen?_of_block (a:=⟨g,j,none⟩) b).trans (n j),λj u i=>(World.cell?_of_block (a:=⟨g,o+j,none⟩) b).trans (m j u i)⟩
theorem QRow.mono {w:World} {K K':Nat->Prop} {v:Value} {W:List (Bool×Rt)} (H:QRow w K v W) (h:∀j,K j->j<w.heap.size->K' j):QRow w K' v W:=by
 rcases H with a | ⟨g,o,c,a,i,f,e,b,d⟩
 ·exact .inl a
 ·exact .inr ⟨g,o,c,a,i,f,h _ e b,b,d⟩
theorem QRow.form {w:World} {K:Nat->Prop} {v:Value} {W:List (Bool×Rt)} (H:QRow w K v W):∃p c,v = .slice p W.length c/\W.length<=c:=by
 rcases H with ⟨h,rfl⟩ | ⟨g,o,c,h,a,-⟩
 ·exact ⟨none,0,h,Qn _⟩
 ·exact ⟨_,c,h,a⟩
theorem QRow.row {w:World} {K:Nat->Prop} {p:Option Addr} {n c:Nat} {W:List (Bool×Rt)} (H:QRow w K (.slice p n c) W):Row w p (upcs W):=by
 rcases H with ⟨h,rfl⟩ | ⟨g,o,c,h,-,-,-,b,-,-,a⟩
 ·exact .inl rfl
 ·injection h with d;exact .inr ⟨g,o,d,b,a⟩
theorem Row.upd {w:World} {p:Option Addr} {L:List (Bool×Rt)} (h:Row w p (upcs L)) {k:Nat} (a:k<L.length):∃g o,p=some ⟨g,o,none⟩/\g<w.heap.size /\
 w.cell? ⟨g,o+k*5,none⟩=some (.int .u64 (L[k].2.k.h:Int))/\w.cell? ⟨g,o+k*5+1,none⟩=some (.int .u64 (L[k].2.k.l:Int))/\w.cell? ⟨g,o+k*5+2,none⟩=some (.int .i64 L[k].2.k.n)/\w.cell? ⟨g,o+k*5+3,none⟩=some (.int .i64 L[k].2.v)/\w.cell? ⟨g,o+k*5+4,none⟩=some (.bool L[k].1):=by
 rcases h with h | ⟨g,o,e,c,b⟩
 ·have:=Eb L;rw [h] at this;simp at this;omega
 ·exact ⟨g,o,e,c,b (k*5) _ (Gk L k 0 a Qa),b (k*5+1) _ (Gk L k 1 a Qa),b (k*5+2) _ (Gk L k 2 a Qa),b (k*5+3) _ (Gk L k 3 a Qa),b (k*5+4) _ (Gk L k 4 a Qa)⟩
theorem QRow.of_own {w:World} {B:Nat} {v:Value} {W:List (Bool×Rt)} (h:w.ownsRow B 58 5 v W.length (upcs W)):QRow w (In B w.heap.size) v W:=by
 rcases h.2 with ⟨e,c⟩ | ⟨g,cap,a,rfl,i,b,c,k,n,m⟩
 ·exact .inl ⟨e,List.length_eq_zero_iff.1 c⟩
 ·have d:=(Array.getElem?_eq_some_iff.1 b).1;refine .inr ⟨g,0,cap,rfl,c,k,⟨i,d⟩,d,λj l => ?_,λj => ?_,λj u f => ?_⟩
  ·rw [cell_of_row w g j a _ (0,0) b,Array.getElem?_eq_getElem Qa];rfl
  ·exact frozen_of_row w g j a _ b
  ·have:=h.cells (g:=g) rfl j u f
   rwa [Ig] at this
theorem QRow.drop {w:World} {K:Nat->Prop} {p:Option Addr} {W:List (Bool×Rt)} {c n:Nat} (H:QRow w K (.slice p W.length c) W) (l:n<=W.length):QRow w K (sliced p n W.length c 5) (W.drop n):=by
 rcases H with ⟨h,rfl⟩ | ⟨g,o,t,h,s,r,k,i,f,e,q⟩
 ·simp only [Value.slice.injEq] at h;obtain ⟨rfl,-,rfl⟩:=h;refine .inl ⟨?_,List.drop_nil⟩;have:n=0:=by simpa using l
  subst this;rfl
 ·simp only [Value.slice.injEq] at h;obtain ⟨rfl,-,rfl⟩:=h;have a:(W.drop n).length=W.length-n:=List.length_drop;unfold sliced;by_cases d:c=n
  ·rw [if_pos d];refine .inr ⟨g,o,c-n,by rw [a],by rw [a];omega,Qa,k,i,λj m=>f j Qa,e,λj u b => ?_⟩;have:(upcs (W.drop n)).length=0:=by rw [Eb,a];omega
   have:=(List.getElem?_eq_some_iff.1 b).1;omega
  ·rw [if_neg d];refine .inr ⟨g,o+n*5,c-n,by rw [a,Option.map_some,Ig],by rw [a];omega,Qa,k,i,λj m=>f j Qa,e,λj u b => ?_⟩;rw [Nat.add_assoc];refine q _ _ ?_;rw [<-b,<-Zwp,List.getElem?_drop]
theorem Zk (b:Nat):∀(a:List Value) (o:Nat) (w:World),(w.setCells b o a).tape=w.tape
 | [],_,_=>rfl
 | v::r,o,w=>by rw [World.setCells,Zk b r];rfl
theorem O1 (b:Nat):∀(a:List Value) (o:Nat) (w:World),(w.setCells b o a).heap.size=w.heap.size
 | [],_,_=>rfl
 | v::r,o,w=>by rw [World.setCells,O1 b r];exact World.size_setCell _ _ _
theorem Zkw (w:World) {K:Nat->Prop} {v:Value} {W:List (Bool×Rt)} (H:QRow w K v W) (x:Bool×Rt) (s:Addr) (c:Nat) (ty:TypeId) (a:∀j u,(A9 x)[j]? = some u->w.cell? (s.add j)=some u) (S:W.length<=1000000) :
 ∃v' w',(Builtin.append_ #[54,54] ty #[v,.slice (some s) 1 c]).run prog w = .ok v' w'/\QRow w' (λj=>K j\/In w.heap.size w'.heap.size j) v' (W++[x])/\Touch K w w':=by
 obtain ⟨t,p,r,l,q⟩:=info_parts infoU;have b:(upcs (W++[x]))=upcs W++A9 x:=by rw [Zh,Z09]
 have d:(W++[x]).length=W.length+1:=by rw [Qo,List.length_singleton]
 rcases H with ⟨rfl,rfl⟩ | ⟨g,o,y,rfl,U,R,J,Q,C,I,F⟩
 ·obtain ⟨v',w',z,D,A,-,-⟩:=run_append_own_at (P:=prog) w w.heap.size 54 ty 58 t _ 5 40 underlying54 p r l q rfl Qd (.slice none 0 0) 0 [] (World.ownsRow_nil _ _ _ _) s 1 c (A9 x) rfl a (Zj x) Qk Qa (Qn _);refine ⟨v',w',z,?_,Touch.of_grown A (λk e=>by simp [Value.ownBlock] at e)⟩;refine (QRow.of_own (B:=w.heap.size) (W:=[]++[x]) ?_).mono λj f _ => .inr f;rw [b,d];exact D
 ·by_cases n:W.length+1<=y
  ·have m:t.size=5:=l;have i:=run_append_room_cells (P:=prog) w 54 ty 58 t underlying54 p g o W.length y s 1 c (A9 x) (by rw [m];rfl) a (Zj x) n
    (λj f=>by have:j<5:=f;rw [m];exact C _ Qa) (λj _=>I _)
   rw [m] at i;refine ⟨_,_,i,?_,?_⟩
   ·refine .inr ⟨g,o,y,by rw [d],Qa,R,.inl J,by rw [O1];exact Q,λj f=>World.isSome_setCells _ _ _ _ _ (C j f),λj=>(World.frozen?_setCells _ _ _ _ _).trans (I j),λj u h => ?_⟩;rw [b] at h;by_cases f:j<W.length*5
    ·rw [List.getElem?_append_left (by rw [Eb];exact f)] at h;rw [World.cell?_setCells_out _ _ _ _ _ (λ_ _ => .inl (by show o+j<o+W.length*5;omega))];exact F j u h
    ·rw [List.getElem?_append_right (by rw [Eb];omega),Eb] at h;have E:=(List.getElem?_eq_some_iff.1 h).1;have O:(A9 x).length=5:=rfl;have:=World.cell?_setCells_in g (A9 x) (o+W.length*5) w (λj f=>C _ Qa) (j-W.length*5) E;rw [show o+W.length*5+(j-W.length*5)=o+j by omega] at this;rw [this,<-h,Qr E]
   ·exact ⟨World.os_setCells _ _ _ _,Zk _ _ _ _,World.output_setCells _ _ _ _,by rw [O1];exact Qn _,λk N L=>World.heap_setCells_other _ _ _ _ N (λe=>L (e▸J))⟩
  ·obtain ⟨v',w',z,D,A⟩:=run_append_arg_grows (P:=prog) w 54 ty 58 t _ 5 40 underlying54 p r l q rfl Qd ⟨g,o,none⟩ W.length y (upcs W) (Eb W) (λj u h=>by rw [Ig];exact F j u h) s 1 c (A9 x) rfl a Qa Qk Qa;refine ⟨v',w',z,?_,Touch.of_grown A (λk e=>by cases e)⟩;refine (QRow.of_own (B:=w.heap.size) (W:=W++[x]) ?_).mono λj f _ => .inr f;rw [b,d];exact D
theorem Zl5 {o:Oper} {a:Act} {w:World} {K2:Act->World->Prop} {Q:Exit->Act->World->Prop} (s y:Operand)
 (k:o.op = .call { callee := .builtin .append,args := #[s,y],argTypes := #[54,54] }) {K:Nat->Prop} {v:Value} {W:List (Bool×Rt)} (H:QRow w K v W) (f:a.eval s=v) (x:Bool×Rt) (d:Addr) (c:Nat) (e:a.eval y = .slice (some d) 1 c) (b:∀j u,(A9 x)[j]? = some u->w.cell? (d.add j)=some u) (l:W.length<=1000000)
 (h:∀v' w',QRow w' (λj=>K j\/In w.heap.size w'.heap.size j) v' (W++[x])->Touch K w w'->K2 (a.put o.dst v') w'):o.wp prog a w K2 Q:=by
 obtain ⟨v',w',i,n,m⟩:=Zkw w H x d c o.type b l;unfold Oper.wp execOp;simp only [k,resolve,invoke,builtin,Sem.run_bind,Sem.run_pure,Result.andThen_ok,List.map_toArray,List.map_cons,List.map_nil,f,e,i];exact h v' w' n m
structure ShdB (w:World) (K:Nat->Prop) (t:Nat) (S:Sh) (e:Nat) (v:Value) (KE:Nat->Prop):Prop where
 lt:t<w.heap.size
 c0:w.cell? ⟨t,0,none⟩=some (.pointer (some ⟨e,0,none⟩))
 c1:w.cell? ⟨t,1,none⟩=some (.int .i64 (S.sl:Int))
 c2:w.cell? ⟨t,2,none⟩=some v
 f:∀j,w.frozen? ⟨t,j,none⟩=false
 eng:EngP w KE e S.E
 que:QRow w (λg=>K g/\g≠t/\¬KE g) v S.W
 kt:K t
 ke:∀j,KE j->K j/\j≠t/\j<w.heap.size
def ShdP (w:World) (K:Nat->Prop) (t:Nat) (S:Sh):Prop:=∃e v a,ShdB w K t S e v a
theorem EngP.mono {w:World} {K K':Nat->Prop} {t:Nat} {E:Eg} (H:EngP w K t E) (h:∀j,K j->K' j):EngP w K' t E:=by obtain ⟨a,v,d,e,X,p,c,H,b⟩:=H;exact ⟨a,v,d,e,X,p,c,H.mono h,b⟩
theorem EngP.old {w:World} {K:Nat->Prop} {t:Nat} {E:Eg} (H:EngP w K t E):EngP w (λj=>K j/\j<w.heap.size) t E:=by obtain ⟨a,v,d,e,X,p,c,H,b⟩:=H;exact ⟨a,v,d,e,X,p,c,H.old,b⟩
theorem ShdB.touched {w w':World} {K U:Nat->Prop} {t:Nat} {S:Sh} {e:Nat} {v:Value} {h:Nat->Prop} (H:ShdB w K t S e v h) (b:Touch U w w') (d:∀j,K j->¬U j):ShdB w' K t S e v h:=
 ⟨Qm H.lt b.size,b.cell H.c0 (d _ H.kt),b.cell H.c1 (d _ H.kt),b.cell H.c2 (d _ H.kt),λj=>(World.frozen?_of_block (a:=⟨t,j,none⟩) (b.block t H.lt (d _ H.kt))).trans (H.f j),H.eng.touched b (λj c=>d _ (H.ke j c).1),
  H.que.touched b (λj c=>d _ c.1),H.kt,λj c=>⟨(H.ke j c).1,(H.ke j c).2.1,Qm (H.ke j c).2.2 b.size⟩⟩
theorem ShdB.below {w w':World} {K:Nat->Prop} {t:Nat} {S:Sh} {e:Nat} {v:Value} {a:Nat->Prop} (H:ShdB w K t S e v a) (b:Below w.heap.size w w'):ShdB w' K t S e v a:=H.touched (U:=λ_=>False) (Touch.quiet b) (λ_ _ x=>x)
theorem ShdB.eng_step {w w':World} {K:Nat->Prop} {t:Nat} {S:Sh} {e:Nat} {v:Value} {k KE':Nat->Prop} {n:Eg} (H:ShdB w K t S e v k) (i:Touch k w w') (o:EngP w' KE' e n) (m:∀j,KE' j->k j\/In w.heap.size w'.heap.size j) :
 ShdB w' (λj=>K j\/In w.heap.size w'.heap.size j) t ⟨n,S.W,S.sl⟩ e v (λj=>KE' j/\j<w'.heap.size):=by
 have b:¬k t:=λh=>(H.ke t h).2.1 rfl;refine ⟨Qm H.lt i.size,i.cell H.c0 b,i.cell H.c1 b,i.cell H.c2 b,λj=>(World.frozen?_of_block (a:=⟨t,j,none⟩) (i.block t H.lt b)).trans (H.f j),o.old,
  ?_,.inl H.kt,λj c => ?_⟩
 ·have l:QRow w (λg=>(K g/\g≠t/\¬k g)/\g<w.heap.size) v S.W:=H.que.mono λj l p=>⟨l,p⟩;refine (l.touched i (λj c=>c.1.2.2)).mono λj c _=>⟨.inl c.1.1,c.1.2.1,λh => ?_⟩;rcases m j h.1 with d | d
  ·exact c.1.2.2 d
  ·have:=d.1;omega
 ·rcases m j c.1 with d | d
  ·exact ⟨.inl (H.ke j d).1,(H.ke j d).2.1,c.2⟩
  ·refine ⟨.inr d,?_,c.2⟩;have:=d.1;have:=H.lt;omega
theorem ShdB.que_step {w w1:World} {K:Nat->Prop} {t:Nat} {S:Sh} {e:Nat} {v v':Value} {l:Nat->Prop} {W':List (Bool×Rt)} (H:ShdB w K t S e v l) (m:Touch (λg=>(K g/\g≠t/\¬l g)/\g<w.heap.size) w w1) (q:QRow w1 (λj=>((K j/\j≠t/\¬l j)/\j<w.heap.size)\/In w.heap.size w1.heap.size j) v' W') :
 ShdB (w1.setCell ⟨t,2,none⟩ v') (λj=>K j\/In w.heap.size (w1.setCell ⟨t,2,none⟩ v').heap.size j) t ⟨S.E,W',S.sl⟩ e v' l/\Touch K w (w1.setCell ⟨t,2,none⟩ v'):=by
 have p:(w1.setCell ⟨t,2,none⟩ v').heap.size=w1.heap.size:=World.size_setCell _ _ _;have i:=m.block t H.lt (λh=>h.1.2.1 rfl);have d:Touch (λj=>j=t) w1 (w1.setCell ⟨t,2,none⟩ v'):=⟨rfl,rfl,rfl,by rw [p];exact Qn _,λk _ r=>Below.heap_setCell w1 ⟨t,2,none⟩ _ k (by simpa using r)⟩;have o:∀j,w1.cell? ⟨t,j,none⟩=w.cell? ⟨t,j,none⟩:=λj=>World.cell?_of_block (a:=⟨t,j,none⟩) i;have n:∀j,j≠2->(w1.setCell ⟨t,2,none⟩ v').cell? ⟨t,j,none⟩=w.cell? ⟨t,j,none⟩:=λj b=>by
  rw [World.cell?_setCell_other]
  ·exact o j
  ·intro e;injection e with _ z;exact b z.symm
 have c:Touch K w (w1.setCell ⟨t,2,none⟩ v'):=(m.mono λ_ _ h=>h.1.1).trans (d.mono λk _ h=>by rw [h];exact H.kt);have u:=(H.eng.old.touched m (λj b x=>x.1.2.2 b.1)).touched d (λj b x=>(H.ke j b.1).2.1 x);refine ⟨⟨Qm H.lt c.size,(n 0 Qd).trans H.c0,(n 1 Qd).trans H.c1,World.cell?_setCell_same _ _ _ ((o 2).trans H.c2),λj => ?_,u.mono λj b=>b.1,?_,.inl H.kt,λj b=>⟨.inl (H.ke j b).1,(H.ke j b).2.1,Qm (H.ke j b).2.2 c.size⟩⟩,c⟩
 ·rw [World.frozen?_setCell];exact (World.frozen?_of_block (a:=⟨t,j,none⟩) i).trans (H.f j)
 ·have s:=H.lt;refine (q.touched d (λj b x => ?_)).mono λj b y => ?_
  ·subst x;rcases b with b | b
   ·exact b.1.2.1 rfl
   ·have:=b.1;omega
  ·rcases b with b | b
   ·exact ⟨.inl b.1.1,b.1.2.1,b.1.2.2⟩
   ·refine ⟨.inr ⟨b.1,y⟩,by have:=b.1;omega,λh => ?_⟩;have A:=(H.ke j h).2.2;have:=b.1;omega
theorem ShdP.below {w w':World} {K:Nat->Prop} {t:Nat} {S:Sh} (H:ShdP w K t S) (a:Below w.heap.size w w'):ShdP w' K t S:=by obtain ⟨e,v,b,H⟩:=H;exact ⟨e,v,b,H.below a⟩
theorem ShdP.touched {w w':World} {K U:Nat->Prop} {t:Nat} {S:Sh} (H:ShdP w K t S) (a:Touch U w w') (b:∀j,K j->¬U j):ShdP w' K t S:=by obtain ⟨e,v,c,H⟩:=H;exact ⟨e,v,c,H.touched a b⟩
theorem Kt (t e:Nat) (w:World) (a:t<w.heap.size) (b:w.cell? ⟨t,0,none⟩=some (.pointer (some ⟨e,0,none⟩))) :
 Calls prog 19 #[.pointer (some ⟨t,0,none⟩)] w λe w'=>e = .returned (.bool false)/\Below w.heap.size w w':=by
 go_enter func19,ntmps19;go_wp2;go_ret;exact ⟨rfl,Qg⟩
theorem Zl (w:World) (K:Nat->Prop) (g:Nat) (E:Eg) (x:Bool×Rt) (z:EngP w K g E) (f:E.ok) (y:x.2.k.good) (u:E.R.length<=300) :
 Calls prog 20 #[updA x,.pointer (some ⟨g,0,none⟩)] w λe w'=>e = .returned (.tuple #[])/\∃K',EngP w' K' g (opE E x)/\Touch K w w'/\∀j,K' j->K j\/In w.heap.size w'.heap.size j:=by
 obtain ⟨b,⟨q,p,o⟩,t⟩:=x;unfold updA;simp only;cases b with
 | true=>
  have hd:opE E (true,⟨⟨q,p,o⟩,t⟩)=E.del ⟨q,p,o⟩:=if_pos rfl;rw [hd];have l:=hid (λW (h:Below w.heap.size w W)=>Zc W K g E ⟨q,p,o⟩ (z.touched (S:=λ_=>False) (Touch.quiet h) (λ_ _ x=>x)) f y u);unfold kyV at l;simp only at l;clear z f y u hd;go_enter func20,ntmps20;go_wp2_with fail;generalize m:World.alloc w _=r;have i:Below w.heap.size w r:=by rw [<-m];go_grown
  refine (l.o _ i).mono ?_;rintro e w1 ⟨rfl,s,c,a,d⟩;have n:=hid (And.intro c (And.intro ((Touch.quiet i:Touch K w r).trans a) (λj (h:s j)=>(d j h).imp id (λh=>(⟨Qw i.size h.1,h.2⟩:In w.heap.size w1.heap.size j)))));clear c a d i l;go_wp2;go_end0;exact ⟨rfl,s,n.o.1,n.o.2.1,n.o.2.2⟩
 | false=>
  have hd:opE E (false,⟨⟨q,p,o⟩,t⟩)=E.put ⟨⟨q,p,o⟩,t⟩:=if_neg Qf;rw [hd];have l:=hid (λW (h:Below w.heap.size w W)=>Zb W K g E ⟨⟨q,p,o⟩,t⟩ (z.touched (S:=λ_=>False) (Touch.quiet h) (λ_ _ x=>x)) f y u);unfold rtA at l;simp only at l;clear z f y u hd;go_enter func20,ntmps20;go_wp2_with fail;generalize m:World.alloc w _=r;have i:Below w.heap.size w r:=by rw [<-m];go_grown
  refine (l.o _ i).mono ?_;rintro e w1 ⟨rfl,s,c,a,d⟩;have n:=hid (And.intro c (And.intro ((Touch.quiet i:Touch K w r).trans a) (λj (h:s j)=>(d j h).imp id (λh=>(⟨Qw i.size h.1,h.2⟩:In w.heap.size w1.heap.size j)))));clear c a d i l;go_wp2;go_end0;exact ⟨rfl,s,n.o.1,n.o.2.1,n.o.2.2⟩
theorem Zm (w:World) (N:Nat->Prop) (t:Nat) (S:Sh) (x:Bool×Rt) (HP:ShdP w N t S) (hl:S.W.length<=1000000) :
 Calls prog 21 #[.pointer (some ⟨t,0,none⟩),updA x] w λe w'=>e = .returned (.tuple #[])/\∃K',ShdP w' K' t (S.add x)/\Touch N w w'/\∀g,K' g->N g\/In w.heap.size w'.heap.size g:=by
 obtain ⟨e,v,Z,H⟩:=HP;obtain ⟨p,c,rfl,a4⟩:=H.que.form;obtain ⟨b,⟨s,r,q⟩,n⟩:=x;unfold updA;simp only;obtain ⟨B,i⟩:∃W:World,W=w.alloc (.cells #[.int .u64 (s:Int),.int .u64 (r:Int),.int .i64 q,.int .i64 n,.bool b] 58):=⟨_,rfl⟩;have A:Below w.heap.size w B:=by rw [i];go_grown
 have a2:B.heap.size=w.heap.size+1:=by rw [i];simp
 have u0:B.cell? ⟨w.heap.size,0,none⟩=some (.int .u64 (s:Int)):=by rw [i];simp [go_sem]
 have u1:B.cell? ⟨w.heap.size,1,none⟩=some (.int .u64 (r:Int)):=by rw [i];simp [go_sem]
 have u2:B.cell? ⟨w.heap.size,2,none⟩=some (.int .i64 q):=by rw [i];simp [go_sem]
 have u3:B.cell? ⟨w.heap.size,3,none⟩=some (.int .i64 n):=by rw [i];simp [go_sem]
 have u4:B.cell? ⟨w.heap.size,4,none⟩=some (.bool b):=by rw [i];simp [go_sem]
 have d:w.heap.size<B.heap.size:=Qa;have HU:=hid (Kt t e B (Qm H.lt A.size) ((A.cell (p:=⟨t,0,none⟩) H.lt).trans H.c0));have O:=hid A;have HH:=hid H;have a1:Hid (QRow w (λg=>(N g/\g≠t/\¬Z g)/\g<w.heap.size) (.slice p S.W.length c) S.W):=hid (H.que.mono λj Y h2=>⟨Y,h2⟩);clear A H a2;go_enter func21,ntmps21;go_upto_region 1 with fail;rw [<-i];clear i;go_wp2_with fail;refine HU.o.mono ?_;rintro e1 w1 ⟨rfl,z⟩;obtain ⟨m,a3⟩:=Ac z;have u0:=(m _ _ d).trans u0;have u1:=(m _ _ d).trans u1;have u2:=(m _ _ d).trans u2;have u3:=(m _ _ d).trans u3;have u4:=(m _ _ d).trans u4;have d:=Qm d z.size;have C:=hid (O.o.trans (z.mono O.o.size));have H1:=hid (HH.o.below C.o);have c2:=H1.o.c2;have cl:=H1.o.lt;clear m a3 z HU O HH;go_wp2_with fail;refine wp_region_noPanic ?_;generalize U:NoPanic _=NQ;refine U7 (λw'=>w'.cell? ⟨t,2,none⟩=some (.slice p S.W.length c)/\w'.cell? ⟨w.heap.size,0,none⟩=some (.int .u64 (s:Int))/\w'.cell? ⟨w.heap.size,1,none⟩=some (.int .u64 (r:Int))/\w'.cell? ⟨w.heap.size,2,none⟩=some (.int .i64 q)/\w'.cell? ⟨w.heap.size,3,none⟩=some (.int .i64 n)/\w'.cell? ⟨w.heap.size,4,none⟩=some (.bool b))
  [0,1,2,3] [4,5] [6,7] [8,9,10] Qb (by rw [<-U];exact λ_ _ _ h=>h) Qb Qb ⟨by simpa [go_sem] using c2,by simpa [go_sem] using u0,by simpa [go_sem] using u1,by simpa [go_sem] using u2,by simpa [go_sem] using u3,by simpa [go_sem] using u4⟩ ?_
 simp only [Ag,List.filterMap_cons,List.filterMap_nil,List.getElem?_toArray,List.getElem?_cons_succ,List.getElem?_cons_zero]
 iterate 4 (quiet_step (fail))
 refine wpQuiet_nil ?_;refine J0 (.slice p S.W.length c) rfl (λw' ⟨c0,_,_,_,_,_⟩=>by go_simp) ?_;refine J0 (.agg #[.int .u64 (s:Int),.int .u64 (r:Int),.int .i64 q,.int .i64 n,.bool b]) rfl (λw' ⟨_,c0,c1,c2,c3,c4⟩=>by go_simp) ?_;refine wpQuiet_nil ?_;intro K X o I;injection I with I;subst I;go_simp;refine X _ _ ⟨by simpa [go_sem,cl] using c2,by simpa [go_sem,d] using u0,by simpa [go_sem,d] using u1,by simpa [go_sem,d] using u2,by simpa [go_sem,d] using u3,by simpa [go_sem,d] using u4⟩ ?_;clear X K;intro K X o I;injection I with I;subst I;obtain ⟨Q,y⟩:∃W:World,W=(w1.alloc (.cells #[.int .u64 (s:Int),.int .u64 (r:Int),.int .i64 q,.int .i64 n,.bool b] 58)).drew:=⟨_,rfl⟩;have F:Below w1.heap.size w1 Q:=by rw [y];go_grown
 have HN:Hid (∀j u,(A9 (b,⟨⟨s,r,q⟩,n⟩))[j]? = some u->Q.cell? ((⟨w1.heap.size,0,none⟩:Addr).add j)=some u):=hid (by rw [y];exact Ee w1 #[.int .u64 (s:Int),.int .u64 (r:Int),.int .i64 q,.int .i64 n,.bool b] 58);rw [<-y];clear y;have HA:=hid (H1.o.below F);have D:=hid (C.o.trans (F.mono C.o.size));have HQ:Hid (QRow Q (λg=>(N g/\g≠t/\¬Z g)/\g<w.heap.size) (.slice p S.W.length c) S.W):=hid ((a1.o.touched (S:=λ_=>False) (Touch.quiet D.o) (λ_ _ x=>x)));have u0:=(F.cell (p:=⟨w.heap.size,0,none⟩) d).trans u0;have u1:=(F.cell (p:=⟨w.heap.size,1,none⟩) d).trans u1;have u2:=(F.cell (p:=⟨w.heap.size,2,none⟩) d).trans u2;have u3:=(F.cell (p:=⟨w.heap.size,3,none⟩) d).trans u3;have u4:=(F.cell (p:=⟨w.heap.size,4,none⟩) d).trans u4;clear c2 cl d F H1 C a1;refine Zl5 (.tmp 11) (.tmp 13) rfl HQ.o rfl (b,⟨⟨s,r,q⟩,n⟩) ⟨w1.heap.size,0,none⟩ 1 rfl HN.o Qa ?_;intro v' w2 hq E;have L:Touch (λg=>(N g/\g≠t/\¬Z g)/\g<Q.heap.size) Q w2:=E.mono λk Y h2=>⟨h2.1,Y⟩;have hS:=HA.o.que_step (W':=S.W++[(b,⟨⟨s,r,q⟩,n⟩)]) L (hq.mono λj Y h2=>Y.imp (λh=>⟨h.1,Qm h.2 D.o.size⟩) id);obtain ⟨p2,d2,rfl,-⟩:=hq.form;rw [show (S.W++[((b,⟨⟨s,r,q⟩,n⟩):Bool×Rt)]).length=S.W.length+1 by rw [Qo];rfl] at hS ⊢;have HS:=hid hS;have J:=L.block t HA.o.lt (λh=>h.1.2.1 rfl);have c2:=(World.cell?_of_block (a:=⟨t,2,none⟩) J).trans HA.o.c2;have f2:=(World.frozen?_of_block (a:=⟨t,2,none⟩) J).trans (HA.o.f 2);have cl:=Qm HA.o.lt E.size;have l:¬((N w.heap.size/\w.heap.size≠t/\¬Z w.heap.size)/\w.heap.size<w.heap.size):=λh=>Nat.lt_irrefl _ h.2;refine X _ _ ⟨c2,E.cell u0 l,E.cell u1 l,E.cell u2 l,E.cell u3 l,E.cell u4 l⟩ ?_;clear X K hq E L hS J HQ HN l u0 u1 u2 u3 u4;show wpList _ _ _ _ _ _;simp only [Ag,List.filterMap_cons,List.filterMap_nil,List.getElem?_toArray,List.getElem?_cons_succ,List.getElem?_cons_zero];subst U;go_wp2_with fail;refine NoPanic.normal ?_;obtain ⟨W5,R⟩:∃W:World,W=w2.setCell ⟨t,2,none⟩ (.slice p2 (S.W.length+1) d2):=⟨_,rfl⟩;have hE:=HS.o;rw [<-R] at hE ⊢;have HE:=hid hE;clear hE HS R c2 f2 cl;go_wp2;go_end0;exact ⟨rfl,_,⟨e,_,Z,HE.o.1⟩,(Touch.quiet D.o).trans HE.o.2,λg hg=>hg.imp id λh=>⟨Qw D.o.size h.1,h.2⟩⟩
theorem Zn (w:World) (K:Nat->Prop) (t:Nat) (S:Sh) (r:Rt) (n:ShdP w K t S) (o:S.W.length<=1000000) :
 Calls prog 13 #[.pointer (some ⟨t,0,none⟩),rtA r] w λe w'=>e = .returned (.tuple #[])/\∃K',ShdP w' K' t (S.add (false,r))/\Touch K w w'/\∀g,K' g->K g\/In w.heap.size w'.heap.size g:=by
 have f:=hid (λW (h:Below w.heap.size w W)=>Zm W K t S (false,r) (n.below h) o);obtain ⟨⟨u,s,q⟩,p⟩:=r;unfold updA at f;unfold rtA;simp only at f ⊢;clear n;go_enter func13,ntmps13;go_wp2_with fail;generalize i:World.alloc w _=l;have d:Below w.heap.size w l:=by rw [<-i];go_grown
 refine (f.o _ d).mono ?_;rintro e w1 ⟨rfl,m,b,a,c⟩;have k:=hid (And.intro b (And.intro ((Touch.quiet d:Touch K w l).trans a) (λj (h:m j)=>(c j h).imp id (λh=>(⟨Qw d.size h.1,h.2⟩:In w.heap.size w1.heap.size j)))));clear b a c d f;go_wp2;go_end0;exact ⟨rfl,m,k.o.1,k.o.2.1,k.o.2.2⟩
theorem Z0c (w:World) (K:Nat->Prop) (t:Nat) (S:Sh) (k:Ky) (o:ShdP w K t S) (p:S.W.length<=1000000) :
 Calls prog 11 #[.pointer (some ⟨t,0,none⟩),kyV k] w λe w'=>e = .returned (.tuple #[])/\∃K',ShdP w' K' t (S.add (true,⟨k,0⟩))/\Touch K w w'/\∀g,K' g->K g\/In w.heap.size w'.heap.size g:=by
 have f:=hid (λW (h:Below w.heap.size w W)=>Zm W K t S (true,⟨k,0⟩) (o.below h) p);obtain ⟨s,r,q⟩:=k;unfold updA at f;unfold kyV;simp only at f ⊢;clear o;go_enter func11,ntmps11;go_wp2_with fail;generalize i:World.alloc w _=m;have d:Below w.heap.size w m:=by rw [<-i];go_grown
 refine (f.o _ d).mono ?_;rintro e w1 ⟨rfl,n,b,a,c⟩;have l:=hid (And.intro b (And.intro ((Touch.quiet d:Touch K w m).trans a) (λj (h:n j)=>(c j h).imp id (λh=>(⟨Qw d.size h.1,h.2⟩:In w.heap.size w1.heap.size j)))));clear b a c d f;go_wp2;go_end0;exact ⟨rfl,n,l.o.1,l.o.2.1,l.o.2.2⟩
theorem Zru (w:World) (K:Nat->Prop) (t:Nat) (S:Sh) (i:ShdP w K t S) (d:S.W≠[]) :
 Calls prog 9 #[.pointer (some ⟨t,0,none⟩)] w λe w'=>e = .returned (.pointer none)/\Below w.heap.size w w':=by
 obtain ⟨e,v,o,H⟩:=i;obtain ⟨p,c,rfl,h⟩:=H.que.form;have l:0<S.W.length:=List.length_pos_iff.2 d;have f:=hid (Kt t e w H.lt H.c0);have j:=hid H;clear H d;go_enter func9,ntmps9;go_wp2_with fail;refine f.o.mono ?_;rintro m w1 ⟨rfl,a⟩;have b:=j.o.below a;have c2:=b.c2;have n:=b.lt;have k:(S.W.length:Int)>0:=Qa;clear b f;go_wp2;go_ret;exact ⟨rfl,a⟩
theorem Zrv (w:World) (K:Nat->Prop) (t:Nat) (S:Sh) (m:ShdP w K t S) (f:S.W=[]) :
 Calls prog 9 #[.pointer (some ⟨t,0,none⟩)] w λe w'=>∃g K2,e = .returned (.pointer (some ⟨g,0,none⟩))/\EngP w' K2 g S.E/\(∀i,K2 i->K i\/In w.heap.size w'.heap.size i)/\Below w.heap.size w w':=by
 obtain ⟨e,v,l,H⟩:=m;obtain ⟨p,c,rfl,j⟩:=H.que.form;have k:S.W.length=0:=by rw [f];rfl
 have h:=hid (Kt t e w H.lt H.c0);have d:=hid H;clear H f;go_enter func9,ntmps9;go_wp2_with fail;refine h.o.mono ?_;rintro n w1 ⟨rfl,a⟩;have b:=d.o.below a;have c2:=b.c2;have q:=b.c0;have o:=b.lt;rw [k] at c2;clear b h;go_wp2;go_ret;exact ⟨e,l,rfl,(d.o.below a).eng,λi hi => .inl (d.o.ke i hi).1,a⟩
end Go.Proofs.YtpdphfgpdgadpaaGreat
