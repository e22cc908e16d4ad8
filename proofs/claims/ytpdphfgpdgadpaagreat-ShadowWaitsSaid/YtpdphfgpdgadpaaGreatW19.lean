import Derived.Test.YtpdphfgpdgadpaaGreatW19a
set_option linter.unusedSimpArgs false
set_option linter.unusedVariables false
set_option maxHeartbeats 4000000
set_option maxRecDepth 100000
open Go.Proofs.Tryz
namespace Go.Proofs.YtpdphfgpdgadpaaGreat
open Lib(hid)
open Go Go.RowKit Go.Sort M
theorem Zl8 (D:List Rt) (i:Nat) (v:Rt) (h:i<D.length):(D.set i v).take (i+1)=D.take i++[v]:=by rw [List.take_succ_eq_append_getElem (by rw [List.length_set];exact h),List.getElem_set_self,List.take_set];congr 1;rw [List.set_eq_of_length_le (by rw [Qs];omega)]
theorem Zz2 {D L:List Rt} {j:Nat} (h:D.drop j=L.drop j):D.drop (j+1)=L.drop (j+1):=by have:=congrArg (List.drop 1) h;simpa [List.drop_drop] using this
theorem drop_at {D L:List Rt} {j:Nat} (h:D.drop j=L.drop j) (b:j<D.length) (a:j<L.length):D[j]=L[j]:=by rw [List.drop_eq_getElem_cons b,List.drop_eq_getElem_cons a] at h;injection h
theorem Zrx (g:Nat) (lb:Array Value) (P:Rt->Bool) (B:Nat) (w0:World) (eg:∀args w,(callFunc g args).run prog w = .ok (.enter g args) w) (hP:Y3 g lb P B w0) (p:Option Addr) (c:Nat) (L:List Rt) (w:World)
 (hO:w.ownsRow B 34 4 (.slice p L.length c) L.length (rcs L)) (hg:∀x∈L,x.k.good) (ap:Below B w0 w) (hB:B<=w.heap.size) (hl:L.length<=1000000) :
 Calls prog 128 #[.slice p L.length c,.func (.func g) #[] lb] w λe w'=>
  ∃p' c',e = .returned (.slice p' (L.filter λr => !P r).length c')/\w'.ownsRow B 34 4 (.slice p' (L.filter λr => !P r).length c') (L.filter λr => !P r).length (rcs (L.filter λr => !P r))/\Below B w w':=by
 have a3:=Zzg g lb P B w0 eg hP p c L w (Row.of_own hO) hg ap hB hl;obtain ⟨M,hM⟩:∃M,M=L.filter λr => !P r:=⟨_,rfl⟩;rw [<-hM] at a3 ⊢;have av:=hid a3;have E:=hid hO;have HP:=hid hP;have HG:=hid hg;have HM:=hid hM;clear a3 hO hP hg hM;go_enter func128,ntmps128;go_wp2_with fail;refine av.o.mono ?_;rintro e w1 ⟨J,h1⟩;have F:Below B w w1:=J.mono hB;have A:=hid (own_below E.o J);have bi:=F.size;have ba:B<=w1.heap.size:=by have:=J.size;omega
 clear av E J;rcases h1 with ⟨i0,ax,rfl,am⟩ | ⟨rfl,ar⟩
 ·obtain ⟨a,c5,bb,b,z,be,-,az,bg,-,-⟩:=Dm A.o Qa;injection b with b _ a9;subst b a9;have aw:=hid am;have bc:((i0:Int) == -1)=false:=by rw [beq_eq_false_iff_ne];omega
  obtain ⟨n,hn⟩:=Q' L.length;have HN:=hid hn;rw [<-hn] at A ax hl az ⊢;clear am hn;go_wp2;go_loopg [5,6] n (λkx s5 s6 wr=>∃(i j:Nat) (D:List Rt),s5 = .int .i64 (i:Int)/\s6 = .int .i64 (j:Int)/\n-j<=kx/\j<=n/\i<j/\Hid (D.length=n)/\Hid ((L.take j).filter (λr => !P r)=D.take i)/\Hid (D.drop j=L.drop j) /\
   Hid (wr.ownsRow B 34 4 (.slice (some ⟨a,0,none⟩) n c) n (rcs D))/\Below B w1 wr)
  case atStart=>exact ⟨i0,i0+1,L,rfl,Qj,Qa,Qa,Qa,hid HN.o.symm,aw,hid rfl,A,Below.refl _ _⟩
  case round=>
   clear A aw;obtain ⟨i,j,D,rfl,rfl,k1,k2,k3,C,ad,ae,E,hb⟩:=hrel;have hz:=hb.size;by_cases hj:j<n
   ·have al:j<D.length:=by rw [C.o];exact hj
    have a4:i<D.length:=Qa;have a2:j<L.length:=by rw [<-HN.o];exact hj
    obtain ⟨g',o',o,y,x0,x1,x2,x3⟩:=(Row.of_own E.o).rt al;injection o with o;injection o with ab aa;subst ab aa;obtain ⟨g',o',o,-,z0,z1,z2,z3⟩:=(Row.of_own E.o).rt a4;injection o with o;injection o with ab aa;subst ab aa;simp only [Nat.zero_add] at x0 x1 x2 x3 z0 z1 z2 z3;have au:=drop_at ae.o al a2;rw [au] at x0 x1 x2 x3;have ak:L.take (j+1)=L.take j++[L[j]]:=List.take_succ_eq_append_getElem a2;have t:(L.take (j+1)).filter (λr => !P r)=D.take i++(if P L[j]=true then [] else [L[j]]):=by rw [ak,List.filter_append,ad.o];congr 1;cases h:P L[j]<;>simp [h]
    have I:=Zz2 ae.o;have a5:=HG.o _ (Qp a2);have hk:=λ(W:World) (h:Below B w1 W)=>HP.o W L[j] a5 ((ap.trans F).trans h);have i1:(0:Int)<=(j:Int):=Qa;have i2:(j:Int)<(n:Int):=Qa;have i3:(0:Int)<=(i:Int):=Qa;have i4:(i:Int)<(n:Int):=Qa;generalize D[i]=q at *
    generalize L[j]=r at *
    have Z:=Zl8 D i r a4;have a7:(D.set i r).drop (j+1)=L.drop (j+1):=by rw [List.drop_set_of_lt Qa];exact I
    have a1:=J3 D i r a4;obtain ⟨⟨X,U,S⟩,v⟩:=r;unfold rtA at hk;simp only at hk x0 x1 x2 x3;have HK:=hid hk;have K:=hid (E.o.alloc (.cells #[.int .u64 (X:Int),.int .u64 (U:Int),.int .i64 S,.int .i64 v] 34));have u:Below B w1 (wr.alloc (.cells #[.int .u64 (X:Int),.int .u64 (U:Int),.int .i64 S,.int .i64 v] 34)):=hb.alloc Qa _;clear hk au ak;cases hv:P ⟨⟨X,U,S⟩,v⟩ with
    | true=>
     rw [hv,if_pos rfl,List.append_nil] at t;rw [hv] at HK;have ac:=hid t;have b6:=hid I;clear t I Z a7 a1;go_wp2_with (go_at_fn g;refine (HK.o _ u).mono ?_;rintro e w3 ⟨rfl,d⟩);have Y:=u.trans (d.mono Qe);have l:=hid (own_below K.o d);clear HK d u K E hb;go_wp2;go_roundg (n-(j+1))
     case measure=>omega
     case rel=>exact ⟨i,j+1,D,rfl,Qj,Qa,Qa,Qa,C,ac,b6,l,Y⟩
    | false=>
     rw [hv,if_neg Qf,<-Z] at t;rw [hv] at HK;have ac:=hid t;have b5:=hid a7;have b3:=hid a1;clear t I Z a7 a1;go_wp2_with fail;go_at_fn g;refine (HK.o _ u).mono ?_;rintro e w3 ⟨rfl,d⟩;have Y:=u.trans (d.mono Qe);have l:=own_below K.o d;obtain ⟨f,-⟩:=Ac d;have y0:=(f wr.heap.size 0 Qf).trans (show _=some (Value.int .u64 (X:Int)) by simp [go_sem]);have y1:=(f wr.heap.size 1 Qf).trans (show _=some (Value.int .u64 (U:Int)) by simp [go_sem]);have y2:=(f wr.heap.size 2 Qf).trans (show _=some (Value.int .i64 S) by simp [go_sem]);have y3:=(f wr.heap.size 3 Qf).trans (show _=some (Value.int .i64 v) by simp [go_sem]);have z0:=(f a (i*4) Qe).trans ((show (wr.alloc _).cell? _=wr.cell? _ from (Below.refl wr.heap.size wr).alloc (Qn _) _ |>.cell (p:=⟨a,i*4,none⟩) y).trans z0);have z1:=(f a (i*4+1) Qe).trans ((show (wr.alloc _).cell? _=wr.cell? _ from (Below.refl wr.heap.size wr).alloc (Qn _) _ |>.cell (p:=⟨a,i*4+1,none⟩) y).trans z1);have z2:=(f a (i*4+2) Qe).trans ((show (wr.alloc _).cell? _=wr.cell? _ from (Below.refl wr.heap.size wr).alloc (Qn _) _ |>.cell (p:=⟨a,i*4+2,none⟩) y).trans z2);have z3:=(f a (i*4+3) Qe).trans ((show (wr.alloc _).cell? _=wr.cell? _ from (Below.refl wr.heap.size wr).alloc (Qn _) _ |>.cell (p:=⟨a,i*4+3,none⟩) y).trans z3);have f0:=l.frozenAt (i*4);have f1:=l.frozenAt (i*4+1);have f2:=l.frozenAt (i*4+2);have f3:=l.frozenAt (i*4+3);have s0:=l.stored (i*4) (.int .u64 (X:Int));have s1:=s0.1.stored (i*4+1) (.int .u64 (U:Int));have s2:=s1.1.stored (i*4+2) (.int .i64 S);have s3:=s2.1.stored (i*4+3) (.int .i64 v);have h4:=s3.1;rw [b3.o] at h4;have b0:Below B w1 ((((w3.setCell ⟨a,i*4,none⟩ (.int .u64 (X:Int))).setCell ⟨a,i*4+1,none⟩ (.int .u64 (U:Int))).setCell ⟨a,i*4+2,none⟩ (.int .i64 S)).setCell ⟨a,i*4+3,none⟩ (.int .i64 v)):=
      (((Y.setCell z _).setCell z _).setCell z _).setCell z _
     have H4:=hid h4;have b9:a<w3.heap.size:=by have:=d.size;simp at this;omega
     have b7:wr.heap.size<w3.heap.size:=by have:=d.size;simp at this;omega
     have b8:a≠wr.heap.size:=Qa;clear HK d u K E hb f s0 s1 s2 s3 h4 l x0 x1 x2 x3;go_wp2;go_roundg (n-(j+1))
     case measure=>omega
     case rel=>exact ⟨i+1,j+1,D.set i ⟨⟨X,U,S⟩,v⟩,Qj,Qj,Qa,Qa,Qa,hid (by rw [List.length_set];exact C.o),ac,b5,H4,b0⟩
   ·obtain ⟨bj,c7,s,b,-,y,a6,bd,ay,an,aj⟩:=Dm E.o Qa;injection b with b _ a9;injection b with b;injection b with b;subst b a9;have a8:M=D.take i:=by rw [HM.o,<-ad.o,List.take_of_length_le (by rw [<-HN.o];omega)]
    have aq:M.length=i:=by rw [a8,Qs,C.o];omega
    obtain ⟨m,hm⟩:∃m,n-i=m+1:=⟨n-i-1,Qa⟩;obtain ⟨R,af,ag,ah⟩:=Zwg (m+1);have Q:i*4+R.length<=s.size:=by rw [ag,an];omega
    have bf:∀ty,(Builtin.clear_ #[27] ty #[.slice (some ⟨a,i*4,none⟩) (n-i) (c-i)]).run prog wr = .ok (.tuple #[]) (wr.setRow a (splice s.toList (i*4) R).toArray):=λty=>by rw [hm];exact Zkv wr _ _ ty _ R m underlying27 Nl af ah a (i*4) _ _ _ a6 Q
    have ai:=setRow_heap wr a s (splice s.toList (i*4) R).toArray 34 (0,0) a6;have O:=Hi wr a (splice s.toList (i*4) R).toArray;have N:(wr.setRow a (splice s.toList (i*4) R).toArray).ownsRow B 34 4 (.slice (some ⟨a,0,none⟩) i c) i (rcs M):=by
     refine Do z ai Qa ay ?_ ?_
     ·rw [List.size_toArray,length_splice _ _ _ (by rw [Array.length_toList];exact Q),Array.length_toList,an]
     ·rw [List.toList_toArray,M6 _ _ _ _ (Qn _) (by rw [Array.length_toList];omega),a8,<-Jn,<-aj,List.take_take,Nat.min_eq_left Qa]
    have ao:Below B w1 (wr.setRow a (splice s.toList (i*4) R).toArray):=hb.grown O Qa (λk e=>by injection e with e;omega);have HF:=hid (And.intro N (F.trans ao));have b4:=hid aq;have j1:(0:Int)<=(i:Int):=Qa;have j2:(i:Int)<=(n:Int):=Qa;have j3:(i:Int)<=(c:Int):=Qa;have j4:(n:Int)<=(c:Int):=Qa;have j5:i<c:=Qa;clear N ao ai O a8 aq af ag ah hm E ad ae C a6 aj;go_wp2;go_ret;rw [b4.o];exact ⟨some ⟨a,0,none⟩,c,rfl,HF.o.1,HF.o.2⟩
 ·have HL:=hid ar;clear ar;go_wp2;go_ret;rw [HL.o];exact ⟨p,c,rfl,A.o,F⟩
theorem Zk3 (g:Nat) (lb:Array Value) (m:∀args w,(callFunc g args).run prog w = .ok (.enter g args) w) (v:Bool) (r:Rt) (b:Nat) (w:World) (l:b<w.heap.size) (j:w.cell? ⟨b,0,none⟩=some (.func (.func g) #[] lb))
 (hF:∀W,Below w.heap.size w W->Calls prog g (#[kyA r.k]++lb) W λe w'=>e = .returned (.bool v)/\Below W.heap.size W w') :
 Calls prog 129 #[rtA r,.pointer (some ⟨b,0,none⟩)] w λe w'=>e = .returned (.bool (!v))/\Below w.heap.size w w':=by
 obtain ⟨⟨i,h,f⟩,x⟩:=r;unfold kyA at hF;unfold rtA;simp only at hF ⊢;have d:=hid hF;clear hF;go_enter func129,ntmps129;go_wp2_with fail;go_at_fn g;refine (d.o _ Qg).mono ?_;rintro e w1 ⟨rfl,c⟩;have a:Below w.heap.size w w1:=Below.trans Qg (c.mono Qf);clear c d;cases v
 ·go_wp2;go_ret;exact ⟨rfl,a⟩
 ·go_wp2;go_ret;exact ⟨rfl,a⟩
theorem Y4 (g:Nat) (lb:Array Value) (U:∀args w,(callFunc g args).run prog w = .ok (.enter g args) w) (P:Ky->Bool) (p:Option Addr) (c:Nat) (L:List Rt) (w:World) (D:Row w p (rcs L)) (Q:p=none->c=0) (C:∀x∈L,x.k.good) (R:L.length<=1000000)
 (hF:∀W (k:Ky),k.good->Below w.heap.size w W->Calls prog g (#[kyA k]++lb) W λe w'=>e = .returned (.bool (P k))/\Below W.heap.size W w') :
 Calls prog 102 #[.slice p L.length c,.func (.func g) #[] lb] w λe w'=>Cw w w' e (L.filter λr=>P r.k):=by
 have l:=λW (h:Row W p (rcs L))=>Ol p c L W h Q Qa;have s:=enters_of func129 Qb rfl;have i:∀(w1:World),Below (w.heap.size+1) (w.alloc (.cells #[.func (.func g) #[] lb] 85)) w1->∀(q:Option Addr) (d:Nat),w1.ownsRow (w.heap.size+1) 34 4 (.slice q L.length d) L.length (rcs L) ->
  Calls prog 128 #[.slice q L.length d,.func (.func 129) #[] #[.pointer (some ⟨w.heap.size,0,none⟩)]] w1 λe w'=>
  ∃B F,e = .returned (.slice B (L.filter λr=>P r.k).length F)/\w'.ownsRow (w.heap.size+1) 34 4 (.slice B (L.filter λr=>P r.k).length F) (L.filter λr=>P r.k).length (rcs (L.filter λr=>P r.k))/\Below (w.heap.size+1) w1 w':=by
  intro w1 a q d o;have h:=Zrx 129 #[.pointer (some ⟨w.heap.size,0,none⟩)] (λr => !P r.k) (w.heap.size+1) w1 s ?_ q d L w1 o C (Below.refl _ _) (by have:=a.size;simpa using this) R
  ·simpa only [Bool.not_not] using h
  ·intro W r O S;have j:Below (w.heap.size+1) (w.alloc (.cells #[.func (.func g) #[] lb] 85)) W:=a.trans S;have N:w.heap.size<W.heap.size:=by have:=j.size;simp at this;omega
   refine Zk3 g lb U (P r.k) r w.heap.size W N ?_ ?_
   ·exact (j.cell (p:=⟨w.heap.size,0,none⟩) Qf).trans Qi
   ·intro W' z;refine hF W' r.k O (Below.trans (b:=w.alloc (.cells #[.func (.func g) #[] lb] 85)) Qg ((j.mono Qa).trans (z.mono Qa)))
 have t:=hid l;have f:=hid i;have I:=hid D;obtain ⟨M,E⟩:∃M,M=L.filter λr=>P r.k:=⟨_,rfl⟩;rw [<-E] at f ⊢;clear l i D hF E C s;go_enter func102,ntmps102;go_wp2_with fail;refine (t.o _ (I.o.below Qg)).mono ?_;rintro e w1 ⟨q,d,rfl,o,a⟩;have u:=a.size;simp only [World.size_alloc] at u o a;have J:=hid o;clear o t;go_wp2_with fail;refine (f.o _ a _ _ J.o).mono ?_;rintro e w2 ⟨K,d2,rfl,n,m⟩;have y:Below w.heap.size w w2:=Below.trans Qg ((a.mono Qa).trans (m.mono Qa));have A:=hid (A7 n (show w.heap.size<=w.heap.size+1 by omega));clear n a m J f I;go_wp2;go_ret;exact ⟨K,d2,rfl,A.o,y⟩
theorem Zot (p k:Ky) (f:p.good) (gk:k.good) (b:Nat) (w:World) (C:b<w.heap.size) (E:w.cell? ⟨b,0,none⟩=some (.int .u64 (p.h:Int))) (D:w.cell? ⟨b,1,none⟩=some (.int .u64 (p.l:Int))) (c2:w.cell? ⟨b,2,none⟩=some (.int .i64 p.n)) :
 Calls prog 103 #[kyA k,.pointer (some ⟨b,0,none⟩)] w λe w'=>e = .returned (.bool (Ck p k))/\Below w.heap.size w w':=by
 have i:=hid (Zv7 p.h p.l k.h k.l f.1 f.2 gk.1 gk.2);unfold Ck kyA;have x:∀(j:Array TypeId) (t:TypeId) (w:World),(Builtin.min_ j t #[.int .i64 p.n,.int .i64 k.n]).run prog w = .ok (.int .i64 (min p.n k.n)) w:=by
  intro j t w;have e:(if k.n<p.n then k.n else p.n)=min p.n k.n:=by split<;>omega
  rw [<-e];simp [Builtin.min_,Builtin.min2]
 obtain ⟨m,o⟩:=Q' (min p.n k.n);obtain ⟨q,a⟩:=Q' (Bi p.h p.l k.h k.l);rw [<-o] at x ⊢;rw [<-a] at i ⊢;obtain ⟨B,A,z⟩:=k;obtain ⟨ph,pl,y⟩:=p;simp only at *
 clear o a f gk;go_enter func103,ntmps103;go_wp2_with fail;have r:=Ad;refine Am Qb Qb ?_;repeat (any_goals (first|go_big_quiet_step ((exact i.o.at _ _ _))|quiet_step ((exact i.o.at _ _ _))))
 refine wpQuiet_nil ?_;clear r;intro w1 c;obtain ⟨u,s⟩:=Ac c;have d:Below w.heap.size w w1:=by
  refine Below.trans ?_ (c.mono ?_)
  ·go_grown
  ·first|omega|go_size
 go_wp2;go_ret;exact ⟨rfl,d⟩
theorem Zjj (p k:Ky) (b:Nat) (w:World) (j:b<w.heap.size) (o:w.cell? ⟨b,0,none⟩=some (.int .u64 (p.h:Int))) (m:w.cell? ⟨b,1,none⟩=some (.int .u64 (p.l:Int))) (c2:w.cell? ⟨b,2,none⟩=some (.int .i64 p.n)) :
 Calls prog 105 #[kyA k,.pointer (some ⟨b,0,none⟩)] w λe w'=>e = .returned (.bool (decide (k≠p)))/\Below w.heap.size w w':=by
 obtain ⟨f,d,c⟩:=k;obtain ⟨ph,pl,a⟩:=p;have i:=Yv f d c ph pl a;rw [show (!decide (f=ph/\d=pl/\c=a))=decide ((⟨f,d,c⟩:Ky)≠⟨ph,pl,a⟩) by
  rw [<-decide_not,decide_eq_decide,ne_eq,Ky.mk.injEq]] at i
 generalize decide ((⟨f,d,c⟩:Ky)≠⟨ph,pl,a⟩)=r at *
 unfold kyA;simp only at *
 go_enter func105,ntmps105;go_wp2;go_ret;exact ⟨rfl,Qg⟩
theorem Z2d (p:Option Addr) (c:Nat) (L:List Rt) (k:Ky) (w:World) (r:Row w p (rcs L)) (z:p=none->c=0) (o:∀x∈L,x.k.good) (gk:k.good) (A:L.length<=1000000) :
 Calls prog 87 #[.slice p L.length c,kyA k] w λe w'=>Cw w w' e (A0 k L):=by
 obtain ⟨l,j,i⟩:=k;have t:=enters_of func103 Qb rfl;have b:∀W,Below w.heap.size w W->w.heap.size<W.heap.size->W.cell? ⟨w.heap.size,0,none⟩=some (.int .u64 (l:Int))->W.cell? ⟨w.heap.size,1,none⟩=some (.int .u64 (j:Int))->W.cell? ⟨w.heap.size,2,none⟩=some (.int .i64 i) ->
  Calls prog 102 #[.slice p L.length c,.func (.func 103) #[] #[.pointer (some ⟨w.heap.size,0,none⟩)]] W λe w'=>Cw W w' e (A0 ⟨l,j,i⟩ L):=by
  intro W B m D C c2;refine Y4 103 _ t (Ck ⟨l,j,i⟩) p c L W (r.below B) z o A ?_;intro W' y n a;exact Zot ⟨l,j,i⟩ y gk n w.heap.size W' (by have:=a.size;omega) ((a.cell (p:=⟨w.heap.size,0,none⟩) m).trans D) ((a.cell (p:=⟨w.heap.size,1,none⟩) m).trans C) ((a.cell (p:=⟨w.heap.size,2,none⟩) m).trans c2)
 have h:=hid b;clear b t r o;unfold kyA;simp only;go_enter func87,ntmps87;go_wp2_with fail;refine (h.o _ Qg Qf Qi Qi Qi).mono ?_;rintro e w1 ⟨q,d,rfl,s,f⟩;have u:=hid (And.intro (A7 s (show w.heap.size<=_ by simp)) (Below.trans (show Below w.heap.size w (w.alloc _) by go_grown) (f.mono Qf)));clear s f h;go_wp2;go_ret;exact ⟨q,d,rfl,u.o.1,u.o.2⟩
theorem Zqh (p:Option Addr) (c:Nat) (L:List Rt) (k:Ky) (w:World) (o:Row w p (rcs L)) (y:p=none->c=0) (n:∀x∈L,x.k.good) (z:L.length<=1000000) :
 Calls prog 88 #[.slice p L.length c,kyA k] w λe w'=>Cw w w' e (outS L k):=by
 obtain ⟨l,j,i⟩:=k;have s:=enters_of func105 Qb rfl;have b:∀W,Below w.heap.size w W->w.heap.size<W.heap.size->W.cell? ⟨w.heap.size,0,none⟩=some (.int .u64 (l:Int))->W.cell? ⟨w.heap.size,1,none⟩=some (.int .u64 (j:Int))->W.cell? ⟨w.heap.size,2,none⟩=some (.int .i64 i) ->
  Calls prog 102 #[.slice p L.length c,.func (.func 105) #[] #[.pointer (some ⟨w.heap.size,0,none⟩)]] W λe w'=>Cw W w' e (outS L ⟨l,j,i⟩):=by
  intro W A m D C c2;refine Y4 105 _ s (λq=>decide (q≠⟨l,j,i⟩)) p c L W (o.below A) y n z ?_;intro W' u B a;exact Zjj ⟨l,j,i⟩ u w.heap.size W' (by have:=a.size;omega) ((a.cell (p:=⟨w.heap.size,0,none⟩) m).trans D) ((a.cell (p:=⟨w.heap.size,1,none⟩) m).trans C) ((a.cell (p:=⟨w.heap.size,2,none⟩) m).trans c2)
 have h:=hid b;clear b s o n;unfold kyA;simp only;go_enter func88,ntmps88;go_wp2_with fail;refine (h.o _ Qg Qf Qi Qi Qi).mono ?_;rintro e w1 ⟨q,d,rfl,r,f⟩;have t:=hid (And.intro (A7 r (show w.heap.size<=_ by simp)) (Below.trans (show Below w.heap.size w (w.alloc _) by go_grown) (f.mono Qf)));clear r f h;go_wp2;go_ret;exact ⟨q,d,rfl,t.o.1,t.o.2⟩
theorem Oo (N:List Rt) (low high:Int) (a:∀r∈N,r.k.good):(setS N low high).length<=256*N.length:=by
 unfold setS;split
 ·have c:=X9 N low (Ao N low high);have b:=Km N low high a N.length (Qn _);rw [List.take_length] at b;unfold fS at c;omega
 ·simp
def Z46:Prop:=∀(p:Option Addr) (c:Nat) (L:List Rt) (k:Ky) (a low high:Int) (W:World),Row W p (rcs L)->(∀x∈L,x.k.good)->k.good->(p=none->c=0)->L.length<=c->L.length<=300 ->
 Calls prog 75 #[.slice p L.length c,kyA k,.int .i64 a,.int .i64 low,.int .i64 high] W λe w'=>Wl 158 W w' e (ofS (setS (Af L) low high) (setS (lvlM (Af L) k a) low high))
theorem E1 {w:World} {B n m d k:Nat} {e:TypeId} {q:Option Addr} {xs:List Value} (h:w.ownsRow B e k (.slice q n d) m xs) (b:q=none):d=0:=by
 subst b;rcases h.2 with ⟨a,_⟩ | ⟨g,cap,c,a,_⟩
 ·injection a
 ·injection a with a;cases a
theorem Z2u:Z46:=by
 intro p c L k a low high w hR hg gk hp hc hl;have z:=(Cj L).1;have U:∀x∈Af L,x.k.good:=λx D=>hg x (Gi D);by_cases E:k.n<=low\/high<k.n
 ·rw [Z8a z U gk a E];obtain ⟨kh,kl,A⟩:=k;unfold kyA;simp only at E ⊢;clear hR hg U z;by_cases h1:A<=low
  ·go_enter func75,ntmps75;go_wp2;go_ret;exact ⟨none,0,rfl,World.ownsRow_nil _ _ _ _,Qg⟩
  ·have h2:high<A:=Qa;have h3:¬A<=low:=h1;go_enter func75,ntmps75;go_wp2;go_ret;exact ⟨none,0,rfl,World.ownsRow_nil _ _ _ _,Qg⟩
 ·have h1:low<k.n:=Qa;have h2:k.n<=high:=Qa;have aq:low<high:=Qa;rw [<-Z5v z U gk a aq,<-Zw7 k L,<-Z1o k a (A0 k L)];have hN:=λW (h:Below w.heap.size w W)=>Z2d p c L k W (hR.below h) hp hg gk Qa;obtain ⟨F,hF⟩:=Q' (A0 k L);have ax:F.length<=300:=by rw [hF];exact Qw (List.length_filter_le _ _) hl
  have B:∀x∈F,x.k.good:=λx D=>hg x (Xa (by rw [<-hF];exact D));rw [<-hF] at hN ⊢;have hW:=λ(q:Option Addr) d W (h:Row W q (rcs F)) (hq:q=none->d=0)=>Zqh q d F k W h hq B Qa;obtain ⟨T,hT⟩:=Q' (if 0<=a then outS F k++[⟨k,a⟩] else outS F k);have ap:(outS F k).length<=F.length:=List.length_filter_le _ _;have aw:T.length<=301:=by
   rw [hT];split
   ·rw [Qo,List.length_singleton];omega
   ·omega
  have a7:∀x∈T,x.k.good:=λx D=>by
   rw [hT] at D;split at D
   ·rcases List.mem_append.1 D with h | h
    ·exact B x (A6.1 h).1
    ·rw [List.mem_singleton.1 h];exact gk
   ·exact B x (A6.1 D).1
  rw [<-hT];have a9:=λ(q:Option Addr) d W (h:Row W q (rcs F)) (hq:q=none->d=0) (hd:F.length<=d)=>Om q d F low high W h B hq hd Qa;have a8:=λ(q:Option Addr) d W (h:Row W q (rcs T)) (hq:q=none->d=0) (hd:T.length<=d)=>Om q d T low high W h a7 hq hd Qa;have s1:=Oo (Af F) low high (λx D=>B x (Gi D));have s2:=Oo (Af T) low high (λx D=>a7 x (Gi D));have l1:=Gh F;have l2:=Gh T;have Q:=λ(p q:Option Addr) c d W (h1:Row W p (rcs (setS (Af F) low high))) (h2:Row W q (rcs (setS (Af T) low high))) (h3:(setS (Af F) low high).length<=c) (h4:(setS (Af T) low high).length<=d)=>Zws p q c d _ _ W h1 h2 (Ga _ _ _) (Ga _ _ _) h3 h4 Qa Qa;obtain ⟨X,hX⟩:=Q' (setS (Af F) low high);obtain ⟨Y,hY⟩:=Q' (setS (Af T) low high);rw [<-hX] at a9 Q;rw [<-hY] at a8 Q;rw [<-hX,<-hY];obtain ⟨R,aj⟩:=Q' (ofS X Y);rw [<-aj] at Q ⊢;obtain ⟨O,hO⟩:=Q' (outS F k);rw [<-hO] at hW hT ap;have HN:=hid hN;have HW:=hid hW;have an:=hid a9;have am:=hid a8;have al:=hid Q;have HT:=hid hT;clear hN hW a9 a8 Q hT s1 s2 l1 l2 hX hY aj hO hF B a7 hR hg U z E;obtain ⟨kh,kl,A⟩:=k;unfold kyA at *
  simp only at *
  have n1:¬A<=low:=Qa;have n2:¬high<A:=Qa;go_enter func75,ntmps75;go_wp2_with fail;have ai:Below w.heap.size w (w.alloc (.cells #[.int .u64 (kh:Int),.int .u64 (kl:Int),.int .i64 A] 32)):=Qg;refine (HN.o _ ai).mono ?_;rintro e w1 ⟨p1,c1,rfl,ag,a1⟩;obtain ⟨Z,-⟩:=Ac a1;have b0:=(Z w.heap.size 0 Qf).trans (show _=some (Value.int .u64 (kh:Int)) by simp [go_sem]);have b1:=(Z w.heap.size 1 Qf).trans (show _=some (Value.int .u64 (kl:Int)) by simp [go_sem]);have b2:=(Z w.heap.size 2 Qf).trans (show _=some (Value.int .i64 A) by simp [go_sem]);have ae:Below w.heap.size w w1:=ai.trans (a1.mono Qf);have S:w.heap.size<w1.heap.size:=by have:=a1.size;simp at this;omega
  have C:=hid ag;have a3:=ae.size;clear ag a1 Z HN;go_wp2_with fail;refine (HW.o _ _ _ (Row.of_own C.o) (E1 C.o)).mono ?_;rintro e w2 ⟨p2,c2,rfl,af,f⟩;have b0:=(f.cell (p:=⟨w.heap.size,0,none⟩) S).trans b0;have b1:=(f.cell (p:=⟨w.heap.size,1,none⟩) S).trans b1;have b2:=(f.cell (p:=⟨w.heap.size,2,none⟩) S).trans b2;have a5:=ae.trans (f.mono a3);have av:=Qm S f.size;have au:=f.size;have ac:=hid af;have ao:=hid (own_below C.o f);clear af HW;by_cases hh:0<=a
  ·have a2:T=O++[⟨⟨kh,kl,A⟩,a⟩]:=by rw [HT.o,if_pos hh]
   have ar:=hid a2;have ak:=ac.o.alloc (.cells #[.int .u64 (kh:Int),.int .u64 (kl:Int),.int .i64 A,.int .i64 a] 34);have aa:=hid ak;have a4:Hid (∀j u,(rcs [⟨⟨kh,kl,A⟩,a⟩])[j]? = some u->(w2.alloc (.cells #[.int .u64 (kh:Int),.int .u64 (kl:Int),.int .i64 A,.int .i64 a] 34)).cell? ((⟨w2.heap.size,0,none⟩:Addr).add j)=some u):=by rw [Fo];exact hid (Fp Qi Qi Qi Qi)
   clear a2 ak ac;go_wp2_with (at_builtin;go_loud (refine Ib rfl (.tmp 31) (.tmp 35) rfl w1.heap.size _ O [⟨⟨kh,kl,A⟩,a⟩] T ar.o rfl ⟨w2.heap.size,0,none⟩ 1 rfl aa.o a4.o Qe Qe ?_));intro v4 w4 o ah _;obtain ⟨p4,c4,rfl⟩:=Aq o;have a6:Below w1.heap.size w2 w4:=((Below.refl w1.heap.size w2).alloc Qa _).grown ah Qe (λk e=>(aa.o.lt k e).1);have ad:=a5.trans (a6.mono a3);have ab:=hid o;have t:=hid (own_below C.o (f.trans a6));clear o ah aa a4 b0 b1 b2 ao a6 C f;go_wp2_with fail;refine (an.o _ _ _ (Row.of_own t.o) (E1 t.o) (C6 t.o)).mono ?_;rintro e w5 ⟨p5,c5,rfl,K,s⟩;have m:=(ad).trans (s.mono (ad).size);have b:=hid K;have l:=hid (own_below ab.o s);clear K;go_wp2_with fail;refine (am.o _ _ _ (Row.of_own l.o) (E1 l.o) (C6 l.o)).mono ?_;rintro e w6 ⟨p6,c6,rfl,J,r⟩;have i:=m.trans (r.mono m.size);have y:=hid J;have b:=hid (own_below b.o r);clear J;go_wp2_with fail;refine (al.o _ _ _ _ _ (Row.of_own b.o) (Row.of_own y.o) (C6 b.o) (C6 y.o)).mono ?_;rintro e w7 ⟨p7,c7,rfl,I,N⟩;have HF:=hid (And.intro (A7 I i.size) (i.trans (N.mono i.size)));clear I N s r b y l m i;go_wp2;go_ret;exact ⟨p7,c7,rfl,HF.o.1,HF.o.2⟩
  ·have a2:T=O:=by rw [HT.o,if_neg hh]
   subst a2;have ab:=ac;have t:=ao;clear b0 b1 b2 C f;go_wp2_with fail;refine (an.o _ _ _ (Row.of_own t.o) (E1 t.o) (C6 t.o)).mono ?_;rintro e w5 ⟨p5,c5,rfl,K,s⟩;have m:=(a5).trans (s.mono (a5).size);have b:=hid K;have l:=hid (own_below ab.o s);clear K;go_wp2_with fail;refine (am.o _ _ _ (Row.of_own l.o) (E1 l.o) (C6 l.o)).mono ?_;rintro e w6 ⟨p6,c6,rfl,J,r⟩;have i:=m.trans (r.mono m.size);have y:=hid J;have b:=hid (own_below b.o r);clear J;go_wp2_with fail;refine (al.o _ _ _ _ _ (Row.of_own b.o) (Row.of_own y.o) (C6 b.o) (C6 y.o)).mono ?_;rintro e w7 ⟨p7,c7,rfl,I,N⟩;have HF:=hid (And.intro (A7 I i.size) (i.trans (N.mono i.size)));clear I N s r b y l m i;go_wp2;go_ret;exact ⟨p7,c7,rfl,HF.o.1,HF.o.2⟩
end Go.Proofs.YtpdphfgpdgadpaaGreat
