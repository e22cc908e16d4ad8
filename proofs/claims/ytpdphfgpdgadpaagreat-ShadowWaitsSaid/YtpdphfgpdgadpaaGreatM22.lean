import Derived.Test.YtpdphfgpdgadpaaGreatRT1
import Derived.Test.YtpdphfgpdgadpaaGreatM19b
set_option linter.unusedSimpArgs false
set_option linter.unusedVariables false
namespace Go.Proofs.YtpdphfgpdgadpaaGreat
open M
structure Lv where
 n:Int
 s:Nat
 k:Int
 C:List Nat
 T:Tab
def Lv.plc (V:Lv) (q:Ky):List Int:=Go.Proofs.YtpdphfgpdgadpaaGreat.plc V.s q.h q.l q.n V.k V.C.length
def Lv.has (V:Lv) (q:Ky):Bool:=(getT V.T q).isSome
def Lv.turn (V:Lv) (c:Ch):Lv:=
 if c.k.n=V.n then
  if 0<=c.n then { V with C:=if V.has c.k then V.C else addL V.C (V.plc c.k),T:=putF 16 V.T ⟨c.k,c.n⟩ }
  else if V.has c.k then { V with C:=remL V.C (V.plc c.k),T:=(delT V.T c.k).1 } else V
 else V
def Lv.turns (V:Lv) (L:List Ch):Lv:=L.foldl Lv.turn V
theorem Lv.turns_snoc (V:Lv) (L:List Ch) (c:Ch):V.turns (L++[c])=(V.turns L).turn c:=by unfold Lv.turns;rw [List.foldl_append];rfl
def Lv.key (V:Lv) (b a:Nat):Ky:=cutK b a V.n.toNat
def Lv.may (V:Lv) (b a:Nat):Bool:=mayL V.C (V.plc (V.key b a))
def Lv.hit (V:Lv) (b a:Nat):Option Int:=if V.may b a then getT V.T (V.key b a) else none
def rowT (n:Int) (N:List Rt) (c:Ch):List Rt:=if c.k.n=n then Ey N c else N
def Lv.cnt (V:Lv) (N:List Rt) (j:Nat):Nat:=((Aa N).flatMap V.plc).count (j:Int)
structure LvOk (V:Lv) (N:List Rt):Prop where
 kept:Kept V.T N
 small:∀c∈V.C,c<=15
 cov:∀j,j<V.C.length->min 15 (V.cnt N j)<=getN V.C (j:Int)
 len:∀r∈N,r.k.n=V.n
theorem Ny {C:List Nat} {j:Nat} (h:j<C.length):getN C (j:Int)=C[j]:=by unfold getN;rw [if_pos Qa,Int.toNat_natCast,List.getD_eq_getElem?_getD,Qr h];rfl
theorem Wq (C:List Nat) (a v j:Nat) (h:j<C.length):getN (C.set a v) (j:Int)=if a=j then v else getN C (j:Int):=by rw [Ny (by simpa using h),List.getElem_set,Ny h]
theorem Z5c (C:List Nat) (i:Int) (j:Nat) (h:j<C.length) (d:∀c∈C,c<=15):min 15 (getN C (j:Int)+[i].count (j:Int))<=getN (upL C i) (j:Int):=by
 have f:=d _ (Qp h);rw [<-Ny h] at f;unfold upL;by_cases e:i=(j:Int)
 ·subst e;have b:[(j:Int)].count (j:Int)=1:=Qf;rw [b];by_cases a:upB C (j:Int)=true
  ·rw [if_pos a,Wq _ _ _ _ h,if_pos Qf];omega
  ·rw [if_neg a];unfold upB at a;simp only [Qq,decide_eq_true_eq,not_and] at a;have k:=a ⟨Qa,Qa⟩;omega
 ·have b:[i].count (j:Int)=0:=by simp [List.count_cons,e]
  rw [b];split
  ·rename_i a;unfold upB at a;simp only [Qq,decide_eq_true_eq] at a;rw [Wq _ _ _ _ h,if_neg Qa];omega
  ·omega
theorem Wr (C:List Nat) (i:Int) (a:∀c∈C,c<=15):∀c∈upL C i,c<=15:=by
 intro c b;unfold upL at b;split at b
 ·rename_i d;rcases List.mem_or_eq_of_mem_set b with h | h
  ·exact a c h
  ·subst h;have:=G0 a i;unfold upB at d;simp only [Qq,decide_eq_true_eq] at d;omega
 ·exact a c b
theorem Ws:∀(L:List Int) (C:List Nat) (j:Nat),j<C.length->(∀c∈C,c<=15)->min 15 (getN C (j:Int)+L.count (j:Int))<=getN (addL C L) (j:Int)
 | [],C,j,_,_=>by show min 15 (_+0)<=getN C (j:Int);omega
 | i::L,C,j,h,a=>by
  show _<=getN (addL (upL C i) L) (j:Int);have e:=Z5c C i j h a;have d:=Ws L (upL C i) j (by rw [L4];exact h) (Wr C i a);have b:(i::L).count (j:Int)=[i].count (j:Int)+L.count (j:Int):=by rw [show i::L=[i]++L from rfl,List.count_append]
  rw [b];omega
theorem Wt:∀(L:List Int) (C:List Nat),(∀c∈C,c<=15)->∀c∈addL C L,c<=15
 | [],_,h=>h
 | i::L,C,h=>Wt L (upL C i) (Wr C i h)
theorem Zvy {T:Tab} (H:Inv T) {k:Ky} (h:k∉Aa (Ab T)):getT T k=none:=by
 have a:∀b,b<T.B.length->getC (T.bk b) k=none:=by
  intro b j;cases e:getC (T.bk b) k with
  | none=>rfl
  | some v=>obtain ⟨i,hi,-,q,f,c,-⟩:=Gs (by rw [e];rfl:(getC (T.bk b) k).isSome=true);exact absurd (by rw [<-c];exact Db (Ej j (f▸Qp hi))) h
 unfold getT;rw [a _ (H.x1_lt _),a _ (H.x2_lt _)];show (List.find? _ _).map _=none;rw [List.find?_eq_none.2]
 ·rfl
 ·intro r d;simp only [decide_eq_true_eq];intro e;exact h (by rw [<-e];exact Db (List.mem_append_right _ d))
theorem LvOk.get {V:Lv} {N:List Rt} (H:LvOk V N) (q:Ky):getT V.T q=getS N q:=by
 by_cases h:q∈Aa N
 ·unfold Aa at h;obtain ⟨r,a,rfl⟩:=List.mem_map.1 h;rw [H.kept.get a];exact ((Dv H.kept.sort (k:=r.k) (v:=r.v)).2 a).symm
 ·rw [Zvy H.kept.inv (λb=>h ((Cy H.kept.all).mem_iff.1 b)),Dw.2 h]
theorem LvOk.has {V:Lv} {N:List Rt} (H:LvOk V N) (q:Ky):V.has q=true↔q∈Aa N:=by
 unfold Lv.has;rw [H.get];by_cases h:q∈Aa N
 ·unfold Aa at h;obtain ⟨r,a,rfl⟩:=List.mem_map.1 h;rw [(Dv H.kept.sort (k:=r.k) (v:=r.v)).2 a];simp only [Option.isSome_some,true_iff];exact List.mem_map.2 ⟨r,a,rfl⟩
 ·rw [Dw.2 h];simp [h]
theorem Wu {V:Lv} {N M:List Rt} (h:(Aa N).Perm (Aa M)) (j:Nat):V.cnt N j=V.cnt M j:=by unfold Lv.cnt;exact (List.Perm.flatMap_right _ h).count_eq _
theorem Wv (V:Lv) (r:Rt) (N:List Rt) (j:Nat):V.cnt (r::N) j=(V.plc r.k).count (j:Int)+V.cnt N j:=by unfold Lv.cnt Aa;rw [List.map_cons,List.flatMap_cons,List.count_append]
theorem Ww {V W:Lv} (c:V.s=W.s) (b:V.k=W.k) (a:V.C.length=W.C.length) (N:List Rt) (j:Nat):V.cnt N j=W.cnt N j:=by unfold Lv.cnt Lv.plc;rw [c,b,a]
theorem Kh {N:List Rt} {k:Ky} (h:k∉Aa N):outS N k=N:=by unfold outS;rw [List.filter_eq_self];intro r a;simp only [ne_eq,decide_not,Bool.not_eq_true',decide_eq_false_iff_not];intro e;exact h (by rw [<-e];exact List.mem_map.2 ⟨r,a,rfl⟩)
theorem Wx {V:Lv} {N:List Rt} (b:(Aa N).Nodup) {k:Ky} (h:k∈Aa N) (j:Nat):V.cnt N j=(V.plc k).count (j:Int)+V.cnt (outS N k) j:=by unfold Aa at h;obtain ⟨r,a,rfl⟩:=List.mem_map.1 h;rw [Wu (Cy (E4 b a)),Wv]
theorem Z3v {V:Lv} {N:List Rt} (a:Sorted N) (r:Rt) (j:Nat):V.cnt (Ak N r) j=(V.plc r.k).count (j:Int)+V.cnt (outS N r.k) j:=by rw [Wu (Cy (Cl r a)),Wv]
theorem Wz:∀(L:List Int) (C:List Nat),(∀c∈C,c<=15)->∀c∈remL C L,c<=15
 | [],_,h=>h
 | i::L,C,h=>Wz L (Ax C i) (by
  intro c a
  unfold Ax at a
  split at a
  ·rcases List.mem_or_eq_of_mem_set a with b | b
   ·exact h c b
   ·have:=G0 h i
    omega
  ·exact h c a)
theorem LvOk.turn {V:Lv} {N:List Rt} (H:LvOk V N) (c:Ch) (q:c.k.good):LvOk (V.turn c) (rowT V.n N c):=by
 unfold Lv.turn rowT;by_cases f:c.k.n=V.n
 ·rw [if_pos f,if_pos f];unfold Ey;have d:=H.kept.sort.nodup;by_cases l:0<=c.n
  ·rw [if_pos l,if_pos l];refine ⟨H.kept.put 16 ⟨c.k,c.n⟩ q,?_,?_,?_⟩
   ·show ∀x∈(if V.has c.k=true then V.C else addL V.C (V.plc c.k)),x<=15;split
    ·exact H.small
    ·exact Wt _ _ H.small
   ·intro j o;have i:(if V.has c.k=true then V.C else addL V.C (V.plc c.k)).length=V.C.length:=by
     split
     ·rfl
     ·exact I1 _ _
    have a:j<V.C.length:=by rw [<-i];exact o
    rw [Ww (V:={ V with C:=if V.has c.k then V.C else addL V.C (V.plc c.k),T:=putF 16 V.T ⟨c.k,c.n⟩ }) (W:=V) rfl rfl i,Z3v H.kept.sort];show _<=getN (if V.has c.k=true then V.C else addL V.C (V.plc c.k)) (j:Int);by_cases b:V.has c.k=true
    ·rw [if_pos b];have:=Wx (V:=V) d ((H.has _).1 b) j;have:=H.cov j a;simp only at *
     omega
    ·rw [if_neg b,Kh (λh=>b ((H.has _).2 h))];have s:=Ws (V.plc c.k) V.C j a H.small;have:=H.cov j a;simp only at *
     omega
   ·intro r m;show r.k.n=V.n;rcases (Dt H.kept.sort).1 m with e | ⟨e,-⟩
    ·rw [e];exact f
    ·exact H.len r e
  ·rw [if_neg l,if_neg l];by_cases b:V.has c.k=true
   ·rw [if_pos b];refine ⟨H.kept.del c.k,?_,?_,λr m=>H.len r (A6.1 m).1⟩
    ·exact Wz _ _ H.small
    ·intro j o;have i:(remL V.C (V.plc c.k)).length=V.C.length:=I2 _ _;have a:j<V.C.length:=by rw [<-i];exact o
     rw [Ww (V:={ V with C:=remL V.C (V.plc c.k),T:=(delT V.T c.k).1 }) (W:=V) rfl rfl i];show _<=getN (remL V.C (V.plc c.k)) (j:Int);have p:getN V.C (j:Int)<=15:=by have:=G0 H.small (j:Int);omega
     rw [I3 _ _ _ a p];have s:=Wx (V:=V) d ((H.has _).1 b) j;have t:=H.cov j a;split<;>omega
   ·rw [if_neg b,Kh (λh=>b ((H.has _).2 h))];exact H
 ·rw [if_neg f,if_neg f];exact H
theorem LvOk.sure {V:Lv} {N:List Rt} (H:LvOk V N) {q:Ky} (h:q∈Aa N):mayL V.C (V.plc q)=true:=by refine Z2i λi hi => ?_;obtain ⟨b,a⟩:=Z71 V.s q.h q.l q.n V.k V.C.length i hi;have b:0<=(V.plc q)[i]:=b;have a:(V.plc q)[i]<(V.C.length:Int):=a;have c:(V.plc q)[i]∈(Aa N).flatMap V.plc:=List.mem_flatMap.2 ⟨q,h,Qp hi⟩;obtain ⟨j,d⟩:=Qv b;rw [d] at a c ⊢;have f:=H.cov j Qa;have e:0<V.cnt N j:=List.count_pos_iff.2 c;omega
theorem LvOk.hit {V:Lv} {N:List Rt} (H:LvOk V N) (b a:Nat):V.hit b a=getS N (V.key b a):=by
 unfold Lv.hit;rw [H.get];by_cases h:V.key b a∈Aa N
 ·rw [show V.may b a=true from H.sure h,if_pos rfl]
 ·rw [Dw.2 h];split<;>rfl
theorem Zqu {L:List Rt} (i:(Aa L).Nodup) (q:Rt):q∈Af L↔q∈L:=by
 rw [(Cj L).2];constructor
 ·intro e;unfold lst at e;exact (List.mem_filter.1 (List.mem_of_getLast? e)).1
 ·intro c;unfold lst;have a:∀x∈L.filter (λr=>decide (r.k=q.k)),x=q:=λx h=>by obtain ⟨j,b⟩:=List.mem_filter.1 h;have b:x.k=q.k:=of_decide_eq_true b;exact Nv i j c b
  cases f:(L.filter λr=>decide (r.k=q.k)).getLast? with
  | none=>have:=List.getLast?_eq_none_iff.1 f;have d:q∈L.filter (λr=>decide (r.k=q.k)):=List.mem_filter.2 ⟨c,Qf⟩;rw [this] at d;cases d
  | some x=>rw [a x (List.mem_of_getLast? f)]
theorem Kept.row {T:Tab} {N:List Rt} (H:Kept T N):allT T=N:=
 Du (Cj _).1 H.sort λq=>by show q∈Af (Ab T)↔_;rw [Zqu H.inv.keys,H.all.mem_iff]
def newV (n:Int) (s:Nat) (k:Int) (m b:Nat):Lv:=⟨n,s,k,List.replicate m 0,A2 (mixN s) b⟩
theorem Z52 (n:Int) (s:Nat) (k:Int) (m b:Nat) (f:1<=b) (e:b<=65536):LvOk (newV n s k m b) []:=by
 refine ⟨Kept.empty (Ca s) f e,?_,?_,?_⟩
 ·intro c a;have a:c∈List.replicate m 0:=a;rw [List.eq_of_mem_replicate a];omega
 ·intro j h;show min 15 (List.count _ (List.flatMap _ []))<=_;simp
 ·intro r d;cases d
def badV (n k m b:Int):Prop:=¬(1<=n/\n<=128/\(1<=k/\k<=16/\1<=m/\m<=65536)/\1<=b/\b<=65536)
def Bn (n:Int) (N:List Rt) (L:List Ch):List Rt:=L.foldl (rowT n) N
theorem Nz (n:Int) (N:List Rt) (L:List Ch) (c:Ch):Bn n N (L++[c])=rowT n (Bn n N L) c:=by unfold Bn;rw [List.foldl_append];rfl
theorem Z7n (V:Lv) (c:Ch):(V.turn c).n=V.n:=by
 unfold Lv.turn;split
 ·split
  ·rfl
  ·split<;>rfl
 ·rfl
theorem Z7m (V:Lv) (c:Ch):(V.turn c).s=V.s/\(V.turn c).k=V.k/\(V.turn c).C.length=V.C.length:=by
 unfold Lv.turn;split
 ·split
  ·refine ⟨rfl,rfl,?_⟩;show (if V.has c.k=true then V.C else addL V.C (V.plc c.k)).length=_;split
   ·rfl
   ·exact I1 _ _
  ·split
   ·exact ⟨rfl,rfl,I2 _ _⟩
   ·exact ⟨rfl,rfl,rfl⟩
 ·exact ⟨rfl,rfl,rfl⟩
theorem Hw (V:Lv):∀(L:List Ch),(V.turns L).n=V.n:=by
 intro L
 induction L generalizing V with
 | nil=>rfl
 | cons c L ih=>show ((V.turn c).turns L).n=V.n;rw [ih,Z7n]
theorem Z5d (V:Lv):∀(L:List Ch),(V.turns L).s=V.s/\(V.turns L).k=V.k/\(V.turns L).C.length=V.C.length:=by
 intro L
 induction L generalizing V with
 | nil=>exact ⟨rfl,rfl,rfl⟩
 | cons c L ih=>show ((V.turn c).turns L).s=V.s/\((V.turn c).turns L).k=V.k/\((V.turn c).turns L).C.length=V.C.length;obtain ⟨h,f,e⟩:=ih (V.turn c);obtain ⟨d,b,a⟩:=Z7m V c;exact ⟨h.trans d,f.trans b,e.trans a⟩
theorem Z1u (n:Int) (N:List Rt) (h:Sorted N) (c:Ch):(rowT n N c).length<=N.length+1:=by
 unfold rowT Ey;have a:(outS N c.k).length<=N.length:=List.length_filter_le _ _;split
 ·split
  ·have:=(Cl ⟨c.k,c.n⟩ h).length_eq;simp only [Qt] at this;omega
  ·omega
 ·omega
theorem LvOk.turns {V:Lv} {N:List Rt} (H:LvOk V N):∀(L:List Ch),(∀c∈L,c.k.good)->LvOk (V.turns L) (Bn V.n N L)/\(Bn V.n N L).length<=N.length+L.length:=by
 intro L;suffices l:∀(m:Nat) (L:List Ch),L.length=m->(∀c∈L,c.k.good)->LvOk (V.turns L) (Bn V.n N L)/\(Bn V.n N L).length<=N.length+L.length from l L.length L rfl;intro m
 induction m with
 | zero=>intro L a _;obtain rfl:=List.eq_nil_of_length_eq_zero a;exact ⟨H,Nat.le_add_right _ _⟩
 | succ m ih=>intro L a b;obtain ⟨L,c,rfl⟩:∃j c,L=j++[c]:=⟨L.dropLast,L.getLast (by intro e;simp [e] at a),(List.dropLast_concat_getLast _).symm⟩;obtain ⟨f,p⟩:=ih L (by simpa using a) (λx h=>b x (List.mem_append_left _ h));have i:=b c (List.mem_append_right _ Qf);rw [Lv.turns_snoc,Nz];have d:=f.turn c i;rw [Hw] at d;have o:=Z1u V.n _ f.kept.sort c;rw [Qo,List.length_singleton];exact ⟨d,Qa⟩
theorem Z61 {T:Tab}:T.st.length<=(Ab T).length:=by unfold Ab;rw [Qo];omega
theorem LvOk.st {V:Lv} {N:List Rt} (H:LvOk V N):V.T.st.length<=N.length:=by have:=Z61 (T:=V.T);rw [H.kept.len] at this;exact this
theorem Gc (a:Rt) (A:List Rt) (k:Ky):getS (a::A) k=if a.k=k then some a.v else getS A k:=by unfold getS;rw [List.find?_cons];by_cases h:a.k=k<;>simp [h]
theorem Ki {a:Ky} {B:List Rt} (d:∀b∈B,An a b.k=true):getS B a=none:=by rw [Dw];unfold Aa;rw [List.mem_map];rintro ⟨b,c,e⟩;have:=d b c;rw [e,Bf] at this;cases this
theorem of_later {a:Ky} {A B:List Rt} (ha:∀b∈A,An a b.k=true) (j:∀b∈B,An a b.k=true):∀c∈ofS A B,An a c.k=true:=by
 intro c i;have h:=J8 ((Bz A B c).1 i).1;unfold Aa at h;obtain ⟨r,f,e⟩:=List.mem_map.1 h;rw [<-e];rcases List.mem_append.1 f with d | d
 ·exact ha r d
 ·exact j r d
theorem Z5w {a:Rt} {A B:List Rt} (i:Sorted (a::A)) (d:∀b∈B,An a.k b.k=true):ofS (a::A) B=⟨a.k,a.v,-1⟩::ofS A B:=by
 obtain ⟨ha,-⟩:=List.pairwise_cons.1 i;have f:=Ki ha;have n2:=Ki d;refine (J9 (List.pairwise_cons.2 ⟨of_later ha d,Ff A B⟩) λc => ?_).symm;rw [List.mem_cons,Bz];obtain ⟨k,o,n⟩:=c;by_cases e:a.k=k
 ·subst e;unfold chS;simp only [Gc,if_true,f,n2,ne_eq,not_true_eq_false,false_and,or_false];constructor
  ·intro h;injection h with _ l j;rw [l,j];exact ⟨Qf,rfl⟩
  ·rintro ⟨-,h⟩;exact h
 ·unfold chS;simp only [Gc,if_neg e];constructor
  ·rintro (h | h)
   ·injection h with h;exact absurd h.symm e
   ·exact h
  ·exact .inr
theorem Z5x {a b:Rt} {A B:List Rt} (q:Sorted (a::A)) (p:Sorted (b::B)) (h:a.k=b.k):ofS (a::A) (b::B)=(if a.v=b.v then [] else [⟨b.k,a.v,b.v⟩])++ofS A B:=by
 obtain ⟨ha,-⟩:=List.pairwise_cons.1 q;obtain ⟨i,-⟩:=List.pairwise_cons.1 p;rw [<-h] at i;have j:=Ki ha;have n2:=Ki i;have m:=of_later ha i;have l:Fe ((if a.v=b.v then [] else [⟨b.k,a.v,b.v⟩])++ofS A B):=by
  by_cases e:a.v=b.v
  ·rw [if_pos e];exact Ff A B
  ·rw [if_neg e,<-h];exact List.pairwise_cons.2 ⟨m,Ff A B⟩
 refine (J9 l λc => ?_).symm;rw [List.mem_append,Bz];obtain ⟨k,o,n⟩:=c;by_cases e:a.k=k
 ·subst e;unfold chS;simp only [Gc,if_true,<-h,j,n2,ne_eq,not_true_eq_false,false_and,or_false];by_cases d:a.v=b.v
  ·rw [if_pos d,d];simp
  ·rw [if_neg d];simp [d]
 ·unfold chS;have d:¬b.k=k:=by rw [<-h];exact e
  simp only [Gc,if_neg e,if_neg d];constructor
  ·rintro (f | f)
   ·split at f
    ·cases f
    ·simp at f;exact absurd f.1.symm d
   ·exact f
  ·exact .inr
def De:List Rt->List Rt->Bool
 | [],_=>false
 | _::_,[]=>true
 | a::_,b::_=>An a.k b.k
theorem W6 {a:Rt} {A B:List Rt} (e:Sorted (a::A)) (d:Sorted B) (h:De (a::A) B=true):ofS (a::A) B=⟨a.k,a.v,-1⟩::ofS A B:=by
 refine Z5w e λq c => ?_;rcases B with _ | ⟨b,B⟩
 ·cases c
 ·have h:An a.k b.k=true:=h;rcases List.mem_cons.1 c with rfl | c
  ·exact h
  ·exact D4 h ((List.pairwise_cons.1 d).1 q c)
theorem Zr6 {b:Rt} {A B:List Rt} (c:Sorted A) (a:Sorted (b::B)) (h:De (b::B) A=true):ofS A (b::B)=⟨b.k,-1,b.v⟩::ofS A B:=by rw [Wi,W6 a c h,List.map_cons,<-Wi];rfl
theorem Zwd {A B:List Rt} (d:De A B=false) (c:De B A=false):(A=[]/\B=[])\/∃a f b B',A=a::f/\B=b::B'/\a.k=b.k:=by
 rcases A with _ | ⟨a,A⟩<;>rcases B with _ | ⟨b,B⟩
 ·exact .inl ⟨rfl,rfl⟩
 ·cases c
 ·cases d
 ·refine .inr ⟨a,A,b,B,rfl,rfl,?_⟩;by_cases e:a.k=b.k
  ·exact e
  ·have:=Fu e;have d:An a.k b.k=false:=d;have c:An b.k a.k=false:=c;rw [d,c] at this;cases this
def Ck (p q:Ky):Bool:=decide (min p.n q.n<=(Bi p.h p.l q.h q.l:Int))
def A0 (p:Ky) (N:List Rt):List Rt:=N.filter λr=>Ck p r.k
theorem W7 (P:Ky->Bool) (L:List Rt):Af (L.filter λr=>P r.k)=(Af L).filter λr=>P r.k:=by
 obtain ⟨f,d⟩:=Cj L;obtain ⟨c,b⟩:=Cj (L.filter λr=>P r.k);refine Du c (List.Pairwise.filter _ f) λq => ?_;rw [b,List.mem_filter,d];unfold lst;rw [List.filter_filter];by_cases a:P q.k=true
 ·have:(L.filter λr=>decide (r.k=q.k)&&P r.k)=L.filter λr=>decide (r.k=q.k):=List.filter_congr λr _=>by
   by_cases e:r.k=q.k
   ·rw [e,a];simp
   ·simp [e]
  rw [this];simp [a]
 ·have:(L.filter λr=>decide (r.k=q.k)&&P r.k)=[]:=List.filter_eq_nil_iff.2 λr _=>by
   by_cases e:r.k=q.k
   ·rw [e];simp [a]
   ·simp [e]
  rw [this];simp [a]
theorem Kj (P:Ky->Bool) (N:List Rt) (k:Ky):getS (N.filter λr=>P r.k) k=if P k=true then getS N k else none:=by
 induction N with
 | nil=>simp [getS]
 | cons a N ih=>
  rw [List.filter_cons,Gc];by_cases h:P a.k=true
  ·rw [if_pos h,Gc,ih];by_cases e:a.k=k
   ·rw [if_pos e,if_pos e,if_pos (by rw [<-e];exact h)]
   ·rw [if_neg e,if_neg e]
  ·rw [if_neg h,ih];by_cases e:a.k=k
   ·rw [if_neg (by rw [<-e];exact h),if_neg (by rw [<-e];exact h)]
   ·rw [if_neg e]
theorem W8 (b a m x:Nat) (h:x<=m):cutK (cutK b a m).h (cutK b a m).l x=cutK b a x:=by unfold cutK;simp only;rw [Gl,Gl,Nat.min_eq_right h,Nat.min_eq_right Qa]
theorem N0 {d c m m':Nat} (a:W64 d) (b:W64 c) (j:m<=128):Ck (cutK d c m) (cutK d c m')=true:=by unfold Ck;have g:=Sk (m:=m) a b;have f:=Sk (m:=m') a b;have h:=(Zrz (m:=min m m') (m':=min m m') g.1 g.2 f.1 f.2 Qa).1 (by rw [W8 _ _ _ _ (Nat.min_le_left _ _),W8 _ _ _ _ (Nat.min_le_right _ _)]);have i:(cutK d c m).n=(m:Int):=rfl;have e:(cutK d c m').n=(m':Int):=rfl;rw [decide_eq_true_eq,i,e];have:=h.2;omega
theorem W9 {N:List Rt} (C:Sorted N) (K:∀r∈N,W64 r.k.h/\W64 r.k.l) {p k:Ky} (z:W64 p.h/\W64 p.l) {low high:Int} (B:low<high) (J:k∈sprK p high):getS (setS (A0 p N) low high) k=getS (setS N low high) k:=by
 obtain ⟨k1,X,U,S,y,x,R,F⟩:=(Az z.1 z.2 _ _).1 J;obtain ⟨m,A,f⟩:=(Ei _ _ _).1 F;have w:Sorted (A0 p N):=List.Pairwise.filter _ C;have c:∀j:Ky,hasB j.h j.l j.n k.h k.l=true->Ck p j=true:=λj a=>by obtain ⟨m',d,t⟩:=(Ei _ _ _).1 a;rw [f,t];exact N0 y x A
 have i:k∈Ao (A0 p N) low high↔k∈Ao N low high:=by
  rw [Ez,Ez];constructor
  ·rintro ⟨j,a,q⟩;refine ⟨j,?_,q⟩;unfold Aa A0 at a;obtain ⟨r,s,e⟩:=List.mem_map.1 a;exact List.mem_map.2 ⟨r,(List.mem_filter.1 s).1,e⟩
  ·rintro ⟨j,a,q,Q,E⟩;refine ⟨j,?_,q,Q,E⟩;have o:=Hv K a;have O:=((Az o.1 o.2 _ _).1 E).2.2.2.2.2.2.2;unfold Aa at a;obtain ⟨r,s,e⟩:=List.mem_map.1 a;exact List.mem_map.2 ⟨r,List.mem_filter.2 ⟨s,by rw [e];exact c j O⟩,e⟩
 have D:∀m:Nat,m<129->depV (A0 p N) k.h k.l m=depV N k.h k.l m:=λm' d=>by rw [Fg,Fg];unfold A0;rw [Kj,if_pos];rw [f];exact N0 y x A
 rw [Hu B,Hu B];have I:hopV (A0 p N) low k=hopV N low k:=by
  unfold hopV;rw [Kf w,Kf C];have L:As (depV (A0 p N) k.h k.l) low k.n 129=As (depV N k.h k.l) low k.n 129:=I9 λm' d=>by rw [D m' d]
  rw [L];cases u:As (depV N k.h k.l) low k.n 129 with
  | none=>rfl
  | some b=>have q:=(D5.1 u).1;show (depV (A0 p N) k.h k.l b).getD 0=(depV N k.h k.l b).getD 0;rw [D b q]
 rw [I];by_cases h:k∈Ao N low high
 ·rw [if_pos h,if_pos (i.2 h)]
 ·rw [if_neg h,if_neg (λe=>h (i.1 e))]
theorem N3 {N:List Rt} (h:Sorted N) (p:Ky):Sorted (A0 p N):=List.Pairwise.filter _ h
theorem Xa {p:Ky} {N:List Rt} {r:Rt} (h:r∈A0 p N):r∈N:=(List.mem_filter.1 h).1
theorem Z2c {N:List Rt} (c:Sorted N) (p:Ky) (a:Int) (f:Ck p p=true):lvlM (A0 p N) p a=A0 p (lvlM N p a):=by
 have b:=N3 c p;refine Wf (Kg b p a) (N3 (Kg c p a) p) λk => ?_;have d:∀k,getS (A0 p N) k=if Ck p k=true then getS N k else none:=λk=>Kj (Ck p) N k
 have i:getS (A0 p (lvlM N p a)) k=if Ck p k=true then getS (lvlM N p a) k else none:=Kj (Ck p) _ k
 rw [i];unfold lvlM;by_cases h:0<=a
 ·rw [if_pos h,if_pos h,J7 (Cm _ b),J7 (Cm _ c),Fc b,Fc c,d];by_cases e:k=p
  ·subst e;simp [f]
  ·simp only [if_neg e]
 ·rw [if_neg h,if_neg h,Fc b,Fc c,d];by_cases e:k=p
  ·subst e;simp
  ·simp only [if_neg e]
theorem Z5v {N:List Rt} (i:Sorted N) (s:∀r∈N,W64 r.k.h/\W64 r.k.l) {p:Ky} (d:W64 p.h/\W64 p.l) (a:Int) {low high:Int} (q:low<high) :
 ofS (setS (A0 p N) low high) (setS (lvlM (A0 p N) p a) low high)=ofS (setS N low high) (setS (lvlM N p a) low high):=by
 have y:=N3 i p;have x:∀r∈A0 p N,W64 r.k.h/\W64 r.k.l:=λr A=>s r (Xa A);have z:=Wn s d i a;have C:=Kg i p a;have key:∀k,k∈sprK p high->getS (setS (A0 p N) low high) k=getS (setS N low high) k/\getS (setS (lvlM (A0 p N) p a) low high) k=getS (setS (lvlM N p a) low high) k:=λk w=>by
  refine ⟨W9 i s d q w,?_⟩;have f:=(Az d.1 d.2 _ _).1 w;obtain ⟨m,B,u⟩:=(Ei _ _ _).1 f.2.2.2.2.2.2.2;have b:Ck p p=true:=by rw [u];exact N0 f.2.2.2.2.1 f.2.2.2.2.2.1 B
  rw [Z2c i p a b];exact W9 C z d q w
 refine J9 (Ff _ _) λc => ?_;constructor
 ·intro t;have f:=(few y x d a q t).2.2.2.2;obtain ⟨j,e⟩:=(Bz _ _ c).1 t;obtain ⟨o,n⟩:=key _ f;rw [o,n] at j;refine ⟨j,?_⟩;unfold chS at e ⊢;rw [o,n] at e;exact e
 ·rintro ⟨j,e⟩;have t:c∈ofS (setS N low high) (setS (lvlM N p a) low high):=(Bz _ _ c).2 ⟨j,e⟩;have f:=(few i s d a q t).2.2.2.2;obtain ⟨o,n⟩:=key _ f;refine (Bz _ _ c).2 ⟨by rw [o,n];exact j,?_⟩;unfold chS at e ⊢;rw [o,n];exact e
theorem Z8a {N:List Rt} (i:Sorted N) (e:∀r∈N,W64 r.k.h/\W64 r.k.l) {p:Ky} (d:W64 p.h/\W64 p.l) (a:Int) {low high:Int} (h:p.n<=low\/high<p.n):ofS (setS N low high) (setS (lvlM N p a) low high)=[]:=by
 by_cases b:low<high
 ·cases f:ofS (setS N low high) (setS (lvlM N p a) low high) with
  | nil=>rfl
  | cons c L=>have:=few i e d a b (c:=c) (by rw [f];exact List.mem_cons_self);omega
 ·unfold setS;rw [if_neg b,if_neg b];exact Wh _
theorem Zw7 (p:Ky) (L:List Rt):Af (A0 p L)=A0 p (Af L):=W7 (Ck p) L
theorem Z1o (p:Ky) (a:Int) (L:List Rt):Af (if 0<=a then outS L p++[⟨p,a⟩] else outS L p)=lvlM (Af L) p a:=by
 have e:Af (outS L p)=outS (Af L) p:=by have h:=W7 (λk => !decide (k=p)) L;unfold outS;simpa using h
 unfold lvlM;by_cases h:0<=a
 ·rw [if_pos h,if_pos h,Ns,e]
 ·rw [if_neg h,if_neg h,e]
theorem Xb {A B:List Rt} (f:∀r∈A,r.k.good) (d:∀r∈B,r.k.good):∀c∈ofS A B,c.k.good:=by
 intro c b;have:=J8 ((Bz _ _ _).1 b).1;unfold Aa at this;obtain ⟨r,a,e⟩:=List.mem_map.1 this;rw [<-e];rcases List.mem_append.1 a with h | h
 ·exact f r h
 ·exact d r h
theorem Gd {N:List Rt} (f:∀r∈N,r.k.good) {low high:Int} {r:Rt} (c:r∈setS N low high):r.k.good/\r.k.n=high:=by have h:=((Ex _ _ _ _).1 c).2.1;obtain ⟨j,e,-,-,d⟩:=Ez.1 h;have a:=Hv (N:=N) f e;have b:=(Az a.1 a.2 _ _).1 d;exact ⟨⟨b.2.2.2.2.1,b.2.2.2.2.2.1⟩,b.2.2.2.1⟩
theorem Xc {N:List Rt} (d:∀r∈N,0<=r.v) (low high:Int):∀r∈setS N low high,0<=r.v:=by
 intro r c;rw [((Ex _ _ _ _).1 c).2.2];unfold hopV hopK;cases e:lngI N (Aw r.k.h r.k.l low r.k.n) N.length with
 | none=>exact Int.le_refl _
 | some b=>have h:=Gq N (Aw r.k.h r.k.l low r.k.n) N.length (Qn _);rw [e] at h;obtain ⟨a,-⟩:=h;show 0<=(N.getD b _).v;rw [getD_at a];exact d _ (Qp a)
theorem Z5k {A B:List Rt} (d:Sorted A) (b:Sorted B) (j:∀r∈A,0<=r.v) (f:∀r∈B,0<=r.v) {m:Int} (l:∀r∈A,r.k.n=m) (nB:∀r∈B,r.k.n=m):Bn m A (ofS A B)=B:=by
 have p:∀c∈ofS A B,c.k.n=m:=λc q=>by
  have:=J8 ((Bz _ _ _).1 q).1;unfold Aa at this;obtain ⟨r,o,e⟩:=List.mem_map.1 this;rw [<-e];rcases List.mem_append.1 o with h | h
  ·exact l r h
  ·exact nB r h
 have key:∀i,i<=(ofS A B).length->MidC A B i (Bn m A ((ofS A B).take i)):=by
  intro i
  induction i with
  | zero=>intro _;exact MidC.start d
  | succ i ih=>intro hi;have a:i<(ofS A B).length:=hi;have h:=((ih Qa).now d b j f a).2;rw [List.take_succ_eq_append_getElem a,Nz];unfold rowT;rw [if_pos (p _ (Qp a))];exact h
 have h:=key _ (Qn _);rw [List.take_length] at h;exact h.done b
def B2 (R R':List Rt):Int->List Lv->List Lv
 | _,[]=>[]
 | a,V::L=>V.turns (ofS (setS R a V.n) (setS R' a V.n))::B2 R R' V.n L
def EgLv (R:List Rt):Int->List Lv->Prop
 | _,[]=>True
 | a,V::L=>((0<=a/\a<V.n/\V.n-a<=8/\V.n<=128)/\LvOk V (setS R a V.n))/\EgLv R V.n L
def topE:Int->List Lv->Int
 | a,[]=>a
 | _,V::L=>topE V.n L
structure C4 (R:List Rt):Prop where
 sort:Sorted R
 good:∀r∈R,r.k.good
 pos:∀r∈R,0<=r.v
theorem Xd {R R':List Rt} (h:C4 R) (c:C4 R'):∀(L:List Lv) (a:Int),EgLv R a L->EgLv R' a (B2 R R' a L)
 | [],_,_=>trivial
 | V::L,a,⟨⟨j,i⟩,f⟩=>by have d:=i.turns (ofS (setS R a V.n) (setS R' a V.n)) (Xb (λr b=>(Gd h.good b).1) (λr b=>(Gd c.good b).1));rw [Z5k (Ga _ _ _) (Ga _ _ _) (Xc h.pos _ _) (Xc c.pos _ _) (λr b=>(Gd h.good b).2) (λr b=>(Gd c.good b).2)] at d;have e:=Xd h c L V.n f;unfold B2 EgLv;rw [Hw];exact ⟨⟨j,d.1⟩,e⟩
theorem Xe (R R':List Rt):∀(L:List Lv) (a:Int),topE a (B2 R R' a L)=topE a L
 | [],_=>rfl
 | V::L,a=>by unfold B2 topE;rw [Hw];exact Xe R R' L V.n
theorem Hx (R R':List Rt):∀(L:List Lv) (a:Int),(B2 R R' a L).length=L.length
 | [],_=>rfl
 | V::L,a=>by unfold B2;rw [Qt,Qt,Hx R R' L V.n]
theorem Xf {R:List Rt}:∀(L:List Lv) (a:Int),EgLv R a L->a<=topE a L
 | [],_,_=>Int.le_refl _
 | V::L,a,⟨⟨c,_⟩,b⟩=>by have:=Xf L V.n b;unfold topE;omega
def A8 (b a:Nat):List Lv->Option Int×List Int
 | []=>(none,[])
 | V::M=>if V.may b a then (match V.hit b a with
  | some v=>(some v,[V.n])
  | none=>((A8 b a M).1,V.n::(A8 b a M).2)) else A8 b a M
theorem N4 (b a:Nat) (V:Lv) (M:List Lv):(A8 b a (V::M)).1=(V.hit b a).or (A8 b a M).1:=by
 rw [show A8 b a (V::M)=if V.may b a then (match V.hit b a with
  | some v=>(some v,[V.n])
  | none=>((A8 b a M).1,V.n::(A8 b a M).2)) else A8 b a M from rfl]
 by_cases h:V.may b a=true
 ·rw [if_pos h];cases V.hit b a<;>rfl
 ·rw [if_neg h];unfold Lv.hit;rw [if_neg h];rfl
theorem Xg (b a:Nat):∀(X Y:List Lv),(A8 b a (X++Y)).1=(A8 b a X).1.or (A8 b a Y).1
 | [],_=>rfl
 | V::X,Y=>by rw [List.cons_append,N4,N4,Xg b a X Y,Option.or_assoc]
theorem N5 {N:List Rt} (h:Sorted N) (c a m:Nat) (low:Int):hopK N low (cutK c a m)=(As (depV N c a) low (m:Int) 129).bind (depV N c a):=by
 unfold hopK;rw [We];rcases Lk (N:=N) c a low (m:Int) with ⟨e,d⟩ | ⟨b,f,j,e,d,i⟩
 ·rw [e,d];rfl
 ·rw [e,d];show some (N.getD b _).v=depV N c a j;rw [getD_at f,P4 h.nodup (Qp f) i]
theorem Xh {D:Nat->Option Int} {low high:Int} {b f:Nat} (h:As D low high f=some b):∃v,D b=some v:=by
 have:=(D5.1 h).2.1.2.2;cases e:D b with
 | none=>rw [e] at this;cases this
 | some v=>exact ⟨v,rfl⟩
theorem Zy4 {R:List Rt} (h:C4 R) {V:Lv} {a:Int} (y:0<=a) (x:a<V.n) (u:V.n-a<=8) (w:V.n<=128) (s:LvOk V (setS R a V.n)) {d c:Nat} (p:W64 d) (o:W64 c) :
 V.hit d c=(As (depV R d c) a V.n 129).bind (depV R d c):=by
 rw [s.hit];obtain ⟨n,l⟩:=Qv (show 0<=V.n by omega);have r:V.key d c=cutK d c n:=by unfold Lv.key;rw [l];rfl
 rw [r,l,Hu Qa];have e:=Zzb (N:=R) h.good (low:=a) p o (show n<=128 by omega) Qa;have m:=N5 h.sort d c n a;rcases Lk (N:=R) d c a (n:Int) with ⟨k,f⟩ | ⟨b,t,j,k,f,z⟩
 ·rw [if_neg,f]
  ·rfl
  ·intro i;have:=Nx.2 (e.1 i);rw [k] at this;cases this
 ·rw [if_pos (e.2 (Nx.1 (by rw [k];rfl)))];rw [<-m];unfold hopV;rw [m,f];obtain ⟨v,q⟩:=Xh f;show some ((depV R d c j).getD 0)=depV R d c j;rw [q];rfl
theorem Zy2 {R:List Rt} (h:C4 R) {d c:Nat} (i:W64 d) (f:W64 c):∀(L:List Lv) (a:Int),EgLv R a L->(A8 d c L.reverse).1=(As (depV R d c) a (topE a L) 129).bind (depV R d c)
 | [],a,_=>by have:As (depV R d c) a a 129=none:=Gr.2 λm _ g=>Qa;show none=(As (depV R d c) a a 129).bind _;rw [this];rfl
 | V::L,a,⟨⟨⟨s,r,q,p⟩,o⟩,j⟩=>by
  have k:=Zy2 h i f L V.n j;have t:=Xf L V.n j;rw [List.reverse_cons,Xg,N4,k,Zy4 h s r q p o i f];show _=(As (depV R d c) a (topE V.n L) 129).bind (depV R d c);cases e:As (depV R d c) V.n (topE V.n L) 129 with
  | some b=>rw [Zv9 Qa e];obtain ⟨v,l⟩:=Xh e;show (depV R d c b).or _=depV R d c b;rw [l];rfl
  | none=>rw [Zwa (high':=V.n) (λm _=>Qa) e];show Option.or none (Option.or _ none)=_;rw [Option.or_none];rfl
def upS (R:List Rt) (d:Int):List Rt:=R.filter λr=>decide (r.k.n<=d)
theorem Xi (R:List Rt) (d:Int) (b a m:Nat):depV (upS R d) b a m=if (m:Int)<=d then depV R b a m else none:=by
 rw [Fg,Fg];have:=Kj (λk=>decide (k.n<=d)) R (cutK b a m);unfold upS;rw [this];have c:(cutK b a m).n=(m:Int):=rfl;rw [c];by_cases h:(m:Int)<=d
 ·rw [if_pos (by simpa using h),if_pos h]
 ·rw [if_neg (by simpa using h),if_neg h]
theorem Z3n {R:List Rt} (h:Sorted R) (c a d:Nat):hopK (upS R (d:Int)) (-1) (cutK c a d)=(As (depV R c a) (-1) (d:Int) 129).bind (depV R c a):=by
 have i:Sorted (upS R (d:Int)):=List.Pairwise.filter _ h;rw [N5 i];have j:As (depV (upS R (d:Int)) c a) (-1) (d:Int) 129=As (depV R c a) (-1) (d:Int) 129:=I9 λm _=>by
  rw [Xi];by_cases g:(m:Int)<=(d:Int)
  ·rw [if_pos g]
  ·rw [if_neg g];constructor
   ·rintro ⟨_,f,_⟩;exact absurd f g
   ·rintro ⟨_,f,_⟩;exact absurd f g
 rw [j];cases e:As (depV R c a) (-1) (d:Int) 129 with
 | none=>rfl
 | some b=>have:=(D5.1 e).2.1.2.1;show depV (upS R (d:Int)) c a b=depV R c a b;rw [Xi,if_pos this]
theorem Xj (b a:Nat):∀(M:List Lv),(A8 b a M).2.Sublist (M.map Lv.n)
 | []=>List.Sublist.slnil
 | V::M=>by
  have c:=Xj b a M;rw [show A8 b a (V::M)=if V.may b a then (match V.hit b a with
   | some v=>(some v,[V.n])
   | none=>((A8 b a M).1,V.n::(A8 b a M).2)) else A8 b a M from rfl]
  rw [List.map_cons];by_cases h:V.may b a=true
  ·rw [if_pos h];cases V.hit b a with
   | some v=>exact List.Sublist.cons_cons _ (List.nil_sublist _)
   | none=>exact List.Sublist.cons_cons _ c
  ·rw [if_neg h];exact List.Sublist.cons _ c
theorem Xk {R:List Rt}:∀(L:List Lv) (a:Int),EgLv R a L->(∀x∈L.map Lv.n,a<x)/\(L.map Lv.n).Pairwise (· < ·)
 | [],_,_=>⟨λx b=>(by cases b),List.Pairwise.nil⟩
 | V::L,a,⟨⟨⟨_,d,_,_⟩,_⟩,e⟩=>by
  obtain ⟨c,f⟩:=Xk L V.n e;rw [List.map_cons];refine ⟨λx b => ?_,List.pairwise_cons.2 ⟨c,f⟩⟩;rcases List.mem_cons.1 b with rfl | b
  ·exact d
  ·exact Int.lt_trans d (c x b)
theorem Zq3 {R:List Rt} {L:List Lv} {a:Int} (h:EgLv R a L) (c b:Nat):(A8 c b L.reverse).2.Pairwise (· > ·):=by refine List.Pairwise.sublist (Xj c b L.reverse) ?_;rw [List.map_reverse,List.pairwise_reverse];exact (Xk L a h).2
end Go.Proofs.YtpdphfgpdgadpaaGreat
