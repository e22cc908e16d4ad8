import Derived.Test.YtgfjmgebecmbiaaGreatM5
set_option linter.unusedSimpArgs false
set_option linter.unusedVariables false
set_option maxHeartbeats 400000
namespace Go.Proofs.YtgfjmgebecmbiaaGreat
open Lib(hid)
open Go.RowKit Go.Sort M
def Zbx (n:Int):Nat:=(n%18446744073709551616).toNat
theorem Zwl (n:Int):W64 (Zbx n):=W64.mk (by unfold Zbx;omega)
theorem Zwm (x:Nat) (h:W64 x):Zbx (x:Int)=x:=by
 have:=h.lt
 unfold Zbx
 omega
theorem Zwk (n:Int):IntKind.u64.wrap n=(Zbx n:Int):=by
 rw [IntKind.wrap_u64]
 unfold Zbx
 omega
def mixZ (x:Int):Int:=(mixN (Zbx x):Nat)
theorem Zfd (x:Nat) (h:W64 x):mixZ (x:Int)=(mixN x:Nat):=by unfold mixZ;rw [Zwm x h]
theorem Z4b (x:Int):IntKind.u64.wrap (x+11400714819323198485)=(addW 11400714819323198485 (Zbx x):Nat):=by
 rw [IntKind.wrap_u64]
 unfold addW Zbx
 omega
theorem Zsw (c x:Nat):IntKind.u64.wrap ((x:Int)*(c:Int))=(mulW c x:Nat):=by
 rw [IntKind.wrap_u64,<-Int.natCast_mul]
 unfold mulW
 omega
theorem Zlz (x s:Nat) (h:W64 x):bits BinOp.xor IntKind.u64 (x:Int) ((x:Int)/(2^s:Nat))=(xsh s x:Nat):=by
 rw [<-Int.natCast_ediv,bits_xor_u64_nat _ _ h.lt (Nat.lt_of_le_of_lt (Nat.div_le_self _ _) h.lt)]
 rfl
theorem Z8a (x:Int) :
 bits BinOp.xor IntKind.u64 (IntKind.u64.wrap (bits BinOp.xor IntKind.u64 (IntKind.u64.wrap (bits BinOp.xor IntKind.u64 (IntKind.u64.wrap (x+11400714819323198485)) (IntKind.u64.wrap (x+11400714819323198485)/1073741824)*13787848793156543929)) (IntKind.u64.wrap (bits BinOp.xor IntKind.u64 (IntKind.u64.wrap (x+11400714819323198485)) (IntKind.u64.wrap (x+11400714819323198485)/1073741824)*13787848793156543929)/134217728)*10723151780598845931))
  (IntKind.u64.wrap (bits BinOp.xor IntKind.u64 (IntKind.u64.wrap (bits BinOp.xor IntKind.u64 (IntKind.u64.wrap (x+11400714819323198485)) (IntKind.u64.wrap (x+11400714819323198485)/1073741824)*13787848793156543929)) (IntKind.u64.wrap (bits BinOp.xor IntKind.u64 (IntKind.u64.wrap (x+11400714819323198485)) (IntKind.u64.wrap (x+11400714819323198485)/1073741824)*13787848793156543929)/134217728)*10723151780598845931)/2147483648)=mixZ x:=by
 have e1:=Z4b x
 have w1:=Z8y 11400714819323198485 (Zbx x)
 have e2:=Zlz _ 30 w1
 have w2:=Z7i 30 _ w1
 have e3:=Zsw 13787848793156543929 (xsh 30 (addW 11400714819323198485 (Zbx x)))
 have w3:=Zyh 13787848793156543929 (xsh 30 (addW 11400714819323198485 (Zbx x)))
 have e4:=Zlz _ 27 w3
 have e5:=Zsw 10723151780598845931 (xsh 27 (mulW 13787848793156543929 (xsh 30 (addW 11400714819323198485 (Zbx x)))))
 have w5:=Zyh 10723151780598845931 (xsh 27 (mulW 13787848793156543929 (xsh 30 (addW 11400714819323198485 (Zbx x)))))
 have e6:=Zlz _ 31 w5
 simp only [Nat.reducePow,Int.cast_ofNat_Int] at e2 e3 e4 e5 e6
 rw [e1,e2,e3,e4,e5,e6]
 rfl
theorem Zjx (x:Int):Zak Tryz.prog 27 #[.int .u64 x] (.int .u64 (mixZ x)):=by
 intro w
 go_enter Tryz.func27,Tryz.ntmps27
 go_wp2
 go_ret
 exact ⟨Zbb (Z8a x),by go_grown⟩
theorem Zgn (x y:Nat) (h:W64 x) (h2:W64 y):bits BinOp.xor IntKind.u64 (x:Int) (y:Int)=(x ^^^ y:Nat):=bits_xor_u64_nat _ _ h.lt h2.lt
theorem Z6b (s h l:Nat) (n:Int) (hs:W64 s) (hh:W64 h) (hl:W64 l) :
 mixZ (bits BinOp.xor IntKind.u64 (mixZ (bits BinOp.xor IntKind.u64 (mixZ (bits BinOp.xor IntKind.u64 (s:Int) (h:Int))) (l:Int))) (IntKind.u64.wrap n))=(Zed s h l (Zbx n):Nat):=by
 rw [Zgn s h hs hh,Zfd _ (Nat.xor_lt_two_pow hs hh),Zgn _ l (Zdl _) hl,Zfd _ (Nat.xor_lt_two_pow (Zdl _) hl),Zwk,Zgn _ _ (Zdl _) (Zwl n),Zfd _ (Nat.xor_lt_two_pow (Zdl _) (Zwl n))]
 rfl
theorem Ztg (s h l:Nat) (n:Int) (hs:W64 s) (hh:W64 h) (hl:W64 l) :
 Zak Tryz.prog 144 #[.int .u64 s,.agg #[.int .u64 h,.int .u64 l,.int .i64 n]] (.int .u64 (Zed s h l (Zbx n))):=by
 intro w
 have he:=hid (Z6b s h l n hs hh hl)
 go_enter Tryz.func144,Tryz.ntmps144
 go_wp2_with fail
 have kg:=Zaa
 refine Zab (by kernel_rfl) (by kernel_rfl) ?_
 repeat (any_goals (first|go_big_quiet_step (first|(go_at_call 27;exact Zak.at (Zjx _) _ _ _))|quiet_step (first|(go_at_call 27;exact Zak.at (Zjx _) _ _ _))))
 refine wpQuiet_nil ?_
 clear kg
 intro w1 hb1
 obtain ⟨hc1,hf1⟩:=Zaf hb1
 have hw1:Below w.heap.size w w1:=by
  refine Below.trans ?_ (hb1.mono ?_)
  ·go_grown
  ·first|omega|go_size
 go_wp2
 go_ret
 exact ⟨Zbb he.out,by go_grown⟩
end Go.Proofs.YtgfjmgebecmbiaaGreat
namespace Go.Proofs.YtgfjmgebecmbiaaGreat.M
open Lib(hid)
def redN (x m:Nat):Nat:=x*m/2^64
theorem Zxm (x m:Nat) (hx:W64 x) (hm:0<m):redN x m<m:=by
 unfold redN
 rw [Nat.div_lt_iff_lt_mul (by decide),Nat.mul_comm m]
 exact Nat.mul_lt_mul_of_pos_right hx hm
end Go.Proofs.YtgfjmgebecmbiaaGreat.M
namespace Go.Proofs.YtgfjmgebecmbiaaGreat
open Lib(hid)
section
open Go.RowKit Go.Sort
def ics (L:List Int):List Value:=L.map fun x => .int .i64 x
theorem Zmu (L:List Int):(ics L).length=L.length:=by simp [ics]
theorem Zfh (L M:List Int):ics (L++M)=ics L++ics M:=by simp [ics]
theorem Zzc (x:Int):ics [x]=[.int .i64 x]:=rfl
theorem Zte (L:List Int) (k:Nat) (h:k<L.length):(ics L)[k]? = some (.int .i64 L[k]):=by simp [ics,h]
theorem Znz (xs:List Value) (k:Nat) (u:Value) (h:k<xs.length):(xs.set k u).take (k+1)=xs.take k++[u]:=by
 rw [List.take_succ_eq_append_getElem (by rw [List.length_set];exact h),List.take_set_of_le (Nat.le_refl _)]
 simp
def IRow (w:World) (p:Option Addr) (L:List Int):Prop:=L=[]\/∃g o,p=some ⟨g,o,none⟩/\g<w.heap.size/\∀j u,(ics L)[j]? = some u->w.cell? ⟨g,o+j,none⟩=some u
theorem IRow.below {w w':World} {p:Option Addr} {L:List Int} (h:IRow w p L) (hb:Below w.heap.size w w'):IRow w' p L:=by
 rcases h with h | ⟨g,o,e,hg,hc⟩
 ·exact .inl h
 ·exact .inr ⟨g,o,e,Nat.lt_of_lt_of_le hg hb.size,fun j u hu=>(hb.cell (p:=⟨g,o+j,none⟩) hg).trans (hc j u hu)⟩
theorem IRow.of_own {w:World} {B n c:Nat} {e:TypeId} {p:Option Addr} {L:List Int} (h:w.ownsRow B e 1 (.slice p n c) n (ics L)):IRow w p L:=by
 by_cases h0:L=[]
 ·exact .inl h0
 ·have hc:=fun g hg=>h.cells (g:=g) hg
  have hl:=h.lt
  rcases h.2 with ⟨e,h1⟩ | ⟨g,cap,cur,e,-,-,-,-,-,-⟩
  ·have:=h.1
   rw [Zmu,h1] at this
   exact absurd (List.length_eq_zero_iff.1 (by omega)) h0
  ·injection e with e1 e2 e3
   subst e1
   refine .inr ⟨g,0,rfl,(hl g rfl).2,fun j u hu => ?_⟩
   have:=hc g rfl j u hu
   rw [Nat.zero_add]
   rwa [show (⟨g,0,none⟩:Addr).add j=⟨g,j,none⟩ by unfold Addr.add;split<;>simp_all] at this
theorem IRow.at {w:World} {p:Option Addr} {L:List Int} (h:IRow w p L) {k:Nat} (hk:k<L.length):∃g o,p=some ⟨g,o,none⟩/\g<w.heap.size/\w.cell? ⟨g,o+k,none⟩=some (.int .i64 L[k]):=by
 rcases h with h | ⟨g,o,e,hg,hc⟩
 ·rw [h] at hk
  simp at hk
 ·exact ⟨g,o,e,hg,hc k _ (Zte L k hk)⟩
def Zp2 (f:FuncId) (args:Array Value) (L:List Int):Prop:=∀w,Calls Tryz.prog f args w fun e w'=>∃p c,e = .returned (.slice p L.length c)/\w'.ownsRow w.heap.size 3 1 (.slice p L.length c) L.length (ics L)/\Below w.heap.size w w'
theorem Z20:(Tryz.prog.info? 3).map (fun i=>(i.zero,i.size,i.bytes))=some (some (.int .i64 0),1,8):=by kernel_rfl
theorem Zq2 {w:World} {g:Nat} {v:Value} (h:w.cell? ⟨g,0,none⟩=some v):∀j u,[v][j]? = some u->w.cell? ((⟨g,0,none⟩:Addr).add j)=some u:=by
 intro j u hj
 match j,hj with
 | 0,hj=>simp only [List.getElem?_cons_zero,Option.some.injEq] at hj;subst hj;simpa [Addr.add] using h
end
section
open Go.RowKit Go.Sort M
def redI (x:Nat) (m:Int):Int:=if m<1 then 0 else (redN x m.toNat:Nat)
theorem Zxn {x:Nat} {m:Int} (h:m<1):redI x m=0:=if_pos h
theorem Zsj (x m:Nat) (h:0<m):redI x (m:Int)=(redN x m:Nat):=by
 unfold redI
 rw [if_neg (by omega),Int.toNat_natCast]
theorem Zjr (x:Nat) (m:Int):0<=redI x m:=by
 unfold redI
 split<;>omega
theorem Zxo {x:Nat} {m:Int} (hx:W64 x) (h:1<=m):redI x m<m:=by
 obtain ⟨k,rfl⟩:=Int.eq_ofNat_of_zero_le (show 0<=m by omega)
 rw [Zsj x k (by omega)]
 have:=Zxm x k hx (by omega)
 omega
def Zkw (h i:Nat) (m:Int):Int:=redI (mixN (h ^^^ i)) m
end
section
open M
def b1 (s:Nat) (k:Ky) (n:Nat):Nat:=(Zkw (Zed s k.h k.l (Zbx k.n)) 1 n).toNat
def b2 (s:Nat) (k:Ky) (n:Nat):Nat:=(Zkw (Zed s k.h k.l (Zbx k.n)) 2 n).toNat
theorem Zjc (h i n:Nat) (hn:1<=n):∃j:Nat,Zkw h i n=(j:Int)/\j<n:=by
 have h0:=Zjr (mixN (h ^^^ i)) (n:Int)
 have h1:=Zxo (x:=mixN (h ^^^ i)) (m:=(n:Int)) (Zdl _) (by omega)
 exact ⟨(Zkw h i n).toNat,by unfold Zkw;omega,by unfold Zkw;omega⟩
theorem Z8t {s n:Nat} {k:Ky} (hn:1<=n):b1 s k n<n:=by
 obtain ⟨j,h,hl⟩:=Zjc (Zed s k.h k.l (Zbx k.n)) 1 n hn
 unfold b1
 rw [h]
 simpa using hl
theorem Z8r {s n:Nat} {k:Ky} (hn:1<=n):b2 s k n<n:=by
 obtain ⟨j,h,hl⟩:=Zjc (Zed s k.h k.l (Zbx k.n)) 2 n hn
 unfold b2
 rw [h]
 simpa using hl
theorem Z8u {s n:Nat} {k:Ky} (hn:1<=n):Zkw (Zed s k.h k.l (Zbx k.n)) 1 n=(b1 s k n:Int):=by
 obtain ⟨j,h,hl⟩:=Zjc (Zed s k.h k.l (Zbx k.n)) 1 n hn
 unfold b1
 rw [h]
 simp
theorem Z8s {s n:Nat} {k:Ky} (hn:1<=n):Zkw (Zed s k.h k.l (Zbx k.n)) 2 n=(b2 s k n:Int):=by
 obtain ⟨j,h,hl⟩:=Zjc (Zed s k.h k.l (Zbx k.n)) 2 n hn
 unfold b2
 rw [h]
 simp
structure Tab where
 s:Nat
 B:List (List Pl)
 st:List Rt
def Tab.x1 (T:Tab) (k:Ky):Nat:=b1 T.s k T.B.length
def Tab.x2 (T:Tab) (k:Ky):Nat:=b2 T.s k T.B.length
def Tab.other (T:Tab) (k:Ky) (b:Nat):Nat:=if b=T.x1 k then T.x2 k else T.x1 k
def Tab.bk (T:Tab) (i:Nat):List Pl:=T.B.getD i []
def Tab.set (T:Tab) (i:Nat) (C:List Pl):Tab:={ T with B:=T.B.set i C }
def Zau (a b:Ky):Bool:=lessB a.h a.l a.n b.h b.l b.n
def Zao:List Rt->Rt->List Rt
 | [],r=>[r]
 | a::l,r=>if Zau a.k r.k then a::Zao l r else if a.k=r.k then r::l else r::a::l
def outS (l:List Rt) (k:Ky):List Rt:=l.filter fun r=>decide (r.k≠k)
def Zaw (l:List Rt) (k:Ky):Option Nat:=l.findIdx? fun r=>decide (r.k=k)
def Zae (T:Tab):List Rt:=T.B.flatMap allC++T.st
def kOut (T:Tab) (b i:Nat) (r:Rt):Rt:=((Zfr (T.bk b) ((i%4:Nat):Int) r.k r.v).map Prod.fst).getD ⟨⟨0,0,0⟩,0⟩
def kTab (T:Tab) (b i:Nat) (r:Rt):Tab:=T.set b (((Zfr (T.bk b) ((i%4:Nat):Int) r.k r.v).map Prod.snd).getD (T.bk b))
def kNew (T:Tab) (b i:Nat) (r:Rt):Nat:=(kTab T b i r).other (kOut T b i r).k b
def Zdo:Nat->Nat->Tab->Nat->Rt->Tab×Option Rt
 | 0,_,T,_,r=>(T,some r)
 | f+1,i,T,b,r=>
  match putC ((kTab T b i r).bk (kNew T b i r)) (kOut T b i r).k (kOut T b i r).v with
  | some C=>((kTab T b i r).set (kNew T b i r) C,none)
  | none=>Zdo f (i+1) (kTab T b i r) (kNew T b i r) (kOut T b i r)
def Zix (T:Tab) (r:Rt):Tab×Option Rt:=
 if (getC (T.bk (T.x1 r.k)) r.k).isSome then (T.set (T.x1 r.k) ((putC (T.bk (T.x1 r.k)) r.k r.v).getD (T.bk (T.x1 r.k))),none)
 else if (getC (T.bk (T.x2 r.k)) r.k).isSome then (T.set (T.x2 r.k) ((putC (T.bk (T.x2 r.k)) r.k r.v).getD (T.bk (T.x2 r.k))),none)
 else if (Zaw T.st r.k).isSome then ({ T with st:=Zao T.st r },none)
 else
  match putC (T.bk (T.x1 r.k)) r.k r.v with
  | some C=>(T.set (T.x1 r.k) C,none)
  | none=>
   match putC (T.bk (T.x2 r.k)) r.k r.v with
   | some C=>(T.set (T.x2 r.k) C,none)
   | none=>Zdo 16 0 T (T.x2 r.k) r
def stay (T:Tab) (r:Rt):Tab×Bool:=
 match (Zix T r).2 with
 | none=>((Zix T r).1,false)
 | some q=>({ (Zix T r).1 with st:=Zao (Zix T r).1.st q },true)
def Zbq (s n:Nat):Tab:=⟨s,List.replicate n [none,none,none,none],[]⟩
def grows (p:Tab×Bool):Bool:=p.2&&(decide (8<p.1.st.length)&&decide (p.1.B.length<65536))
def grown (T:Tab):Tab:=Zbq (mixN T.s) (min (2*T.B.length) 65536)
def putF:Nat->Tab->Rt->Tab
 | 0,T,r=>(stay T r).1
 | d+1,T,r=>if grows (stay T r) then (Zae (stay T r).1).foldl (putF d) (grown (stay T r).1) else (stay T r).1
def getT (T:Tab) (k:Ky):Option Int:=
 match getC (T.bk (T.x1 k)) k with
 | some v=>some v
 | none=>
  match getC (T.bk (T.x2 k)) k with
  | some v=>some v
  | none=>(T.st.find? fun r=>decide (r.k=k)).map Rt.v
def Zjs (T:Tab) (k:Ky):List Int:=if (getC (T.bk (T.x1 k)) k).isSome then [(T.x1 k:Int)] else [(T.x1 k:Int),(T.x2 k:Int)]
def delT (T:Tab) (k:Ky):Tab×Bool:=
 match takeC (T.bk (T.x1 k)) k with
 | some C=>(T.set (T.x1 k) C,true)
 | none=>
  match takeC (T.bk (T.x2 k)) k with
  | some C=>(T.set (T.x2 k) C,true)
  | none=>({ T with st:=outS T.st k },decide ((outS T.st k).length<T.st.length))
def Zap (l:List Rt):List Rt:=l.foldl Zao []
def allT (T:Tab):List Rt:=Zap (Zae T)
def Zad (L:List Rt):List Ky:=L.map Rt.k
theorem Za6 {L M:List Rt} (h:L.Perm M):(Zad L).Perm (Zad M):=h.map _
theorem Zhk (x:Pl) (C:List Pl):allC (x::C)=x.toList++allC C:=by
 cases x<;>rfl
theorem set_perm:∀(C:List Pl) (i:Nat) (hi:i<C.length) (x:Pl),(C[i].toList++allC (C.set i x)).Perm (x.toList++allC C)
 | y::C,0,_,x=>by
  show (y.toList++allC (x::C)).Perm (x.toList++allC (y::C))
  rw [Zhk,Zhk]
  exact List.perm_append_comm_assoc _ _ _
 | y::C,i+1,hi,x=>by
  have ih:=set_perm C i (by simpa using hi) x
  show ((C[i]'(by simpa using hi)).toList++allC (y::C.set i x)).Perm (x.toList++allC (y::C))
  rw [Zhk,Zhk,List.perm_iff_count]
  intro a
  have:=ih.count_eq a
  simp only [List.count_append] at *
  omega
theorem Zny:∀(B:List (List Pl)) (i:Nat) (hi:i<B.length) (C:List Pl),(allC B[i]++(B.set i C).flatMap allC).Perm (allC C++B.flatMap allC)
 | D::B,0,_,C=>by
  show (allC D++(C::B).flatMap allC).Perm (allC C++(D::B).flatMap allC)
  rw [List.flatMap_cons,List.flatMap_cons]
  exact List.perm_append_comm_assoc _ _ _
 | D::B,i+1,hi,C=>by
  have ih:=Zny B i (by simpa using hi) C
  show (allC (B[i]'(by simpa using hi))++(D::B.set i C).flatMap allC).Perm (allC C++(D::B).flatMap allC)
  rw [List.flatMap_cons,List.flatMap_cons,List.perm_iff_count]
  intro a
  have:=ih.count_eq a
  simp only [List.count_append] at *
  omega
theorem Zrw (T:Tab) (i:Nat) (hi:i<T.B.length):T.bk i=T.B[i]:=by
 unfold Tab.bk
 rw [List.getD_eq_getElem?_getD,List.getElem?_eq_getElem hi]
 rfl
theorem Zhg (T:Tab) (i:Nat) (hi:i<T.B.length) (j:Nat) (hj:j<(T.bk i).length) (x:Pl):((T.bk i)[j].toList++Zae (T.set i ((T.bk i).set j x))).Perm (x.toList++Zae T):=by
 have h1:=Zny T.B i hi ((T.bk i).set j x)
 have h2:=set_perm (T.bk i) j hj x
 rw [<-Zrw T i hi] at h1
 rw [List.perm_iff_count]
 intro a
 have e1:=h1.count_eq a
 have e2:=h2.count_eq a
 unfold Zae Tab.set
 simp only [List.count_append] at *
 omega
theorem Zc4:∀{L:List Rt} {r:Rt},(Zad L).Nodup->r∈L->L.Perm (r::outS L r.k)
 | a::L,r,hn,hm=>by
  unfold Zad at hn
  rw [List.map_cons,List.nodup_cons] at hn
  have hin:∀q∈L,q.k≠a.k:=fun q hq e=>hn.1 (e▸List.mem_map_of_mem hq)
  rw [List.mem_cons] at hm
  rcases hm with rfl | hm
  ·have:outS (r::L) r.k=L:=by
    unfold outS
    rw [List.filter_cons_of_neg (by simp),List.filter_eq_self.2 (fun q hq=>by simpa using hin q hq)]
   rw [this]
  ·have ne:a.k≠r.k:=fun e=>hin r hm e.symm
   have:outS (a::L) r.k=a::outS L r.k:=by
    unfold outS
    rw [List.filter_cons_of_pos (by simpa using ne)]
   rw [this]
   exact ((Zc4 hn.2 hm).cons a).trans (List.Perm.swap _ _ _)
theorem Zg1 {L M:List Rt} (h:L.Perm M) (k:Ky):(outS L k).Perm (outS M k):=h.filter _
theorem Zbm {L:List Rt} {k:Ky} (h:k∉Zad L):outS L k=L:=by
 unfold outS
 refine List.filter_eq_self.2 fun q hq => ?_
 simp only [decide_eq_true_eq]
 intro e
 exact h (List.mem_map.2 ⟨q,hq,e⟩)
theorem Zay {L:List Rt} {k:Ky} {q:Rt}:q∈outS L k↔q∈L/\q.k≠k:=by simp [outS]
theorem Zcd {L:List Rt} {q:Rt} (h:q∈L):q.k∈Zad L:=List.mem_map_of_mem h
theorem Za0 (a:Ky):Zau a a=false:=Zvq _ _ _
theorem Zbh {a b c:Ky} (h:Zau a b=true) (g:Zau b c=true):Zau a c=true:=Zq7 _ _ _ _ _ _ _ _ _ h g
theorem Zb3 {a b:Ky} (h:a≠b):Zau b a = !Zau a b:=Zq8 _ _ _ _ _ _ (fun ⟨e1,e2,e3⟩=>h (by cases a;cases b;simp_all))
def Sorted (L:List Rt):Prop:=L.Pairwise fun a b=>Zau a.k b.k=true
theorem Sorted.nodup {L:List Rt} (h:Sorted L):(Zad L).Nodup:=by
 unfold Zad List.Nodup
 rw [List.pairwise_map]
 refine List.Pairwise.imp (fun {a b} hab e => ?_) h
 rw [e,Za0] at hab
 cases hab
theorem Za7:∀{L:List Rt} (r:Rt),Sorted L->(Zao L r).Perm (r::outS L r.k)
 | [],r,_=>by simp [Zao,outS]
 | a::L,r,h=>by
  have h1:=List.pairwise_cons.1 h
  unfold Zao
  split
  ·rename_i hl
   have ne:a.k≠r.k:=fun e=>by rw [e,Za0] at hl;cases hl
   have:outS (a::L) r.k=a::outS L r.k:=by
    unfold outS
    rw [List.filter_cons_of_pos (by simpa using ne)]
   rw [this]
   exact ((Za7 r h1.2).cons a).trans (List.Perm.swap _ _ _)
  ·rename_i hl
   split
   ·rename_i he
    have:outS (a::L) r.k=L:=by
     unfold outS
     rw [List.filter_cons_of_neg (by simp [he])]
     refine List.filter_eq_self.2 fun q hq => ?_
     simp only [decide_eq_true_eq]
     intro e
     have:=h1.1 q hq
     rw [e,he,Za0] at this
     cases this
    rw [this]
   ·rename_i he
    rw [Zbm]
    intro hm
    unfold Zad at hm
    rw [List.mem_map] at hm
    obtain ⟨q,hq,e⟩:=hm
    rw [List.mem_cons] at hq
    rcases hq with rfl | hq
    ·exact he e
    ·have:=h1.1 q hq
     rw [e] at this
     exact hl this
theorem Zj6 {L:List Rt} {r q:Rt} (h:Sorted L) (hq:q∈Zao L r):q=r\/q∈L:=by
 have:=(Za7 r h).mem_iff.1 hq
 rw [List.mem_cons] at this
 exact this.imp id (fun h=>(Zay.1 h).1)
theorem Zaq:∀{L:List Rt} (r:Rt),Sorted L->Sorted (Zao L r)
 | [],r,_=>by simp [Zao,Sorted]
 | a::L,r,h=>by
  have h1:=List.pairwise_cons.1 h
  unfold Zao
  split
  ·rename_i hl
   refine List.pairwise_cons.2 ⟨fun q hq => ?_,Zaq r h1.2⟩
   rcases Zj6 h1.2 hq with rfl | hq
   ·exact hl
   ·exact h1.1 q hq
  ·rename_i hl
   split
   ·rename_i he
    exact List.pairwise_cons.2 ⟨fun q hq=>by rw [<-he];exact h1.1 q hq,h1.2⟩
   ·rename_i he
    have hr:Zau r.k a.k=true:=by
     rw [Zb3 he]
     simpa using hl
    refine List.pairwise_cons.2 ⟨fun q hq => ?_,h⟩
    rw [List.mem_cons] at hq
    rcases hq with rfl | hq
    ·exact hr
    ·exact Zbh hr (h1.1 q hq)
theorem Zav {L:List Rt} (k:Ky) (h:Sorted L):Sorted (outS L k):=List.Pairwise.filter _ h
theorem Zgv:∀{L M:List Rt},Sorted L->Sorted M->L.Perm M->L=M
 | [],M,_,_,h=>by rw [List.nil_perm.1 h]
 | a::L,[],_,_,h=>absurd h.length_eq (by simp)
 | a::L,b::M,hL,hM,h=>by
  have hl:=List.pairwise_cons.1 hL
  have hm:=List.pairwise_cons.1 hM
  have e:a=b:=by
   have h1:a∈b::M:=h.mem_iff.1 (by simp)
   have h2:b∈a::L:=h.mem_iff.2 (by simp)
   rw [List.mem_cons] at h1 h2
   rcases h1 with rfl | h1
   ·rfl
   ·rcases h2 with e | h2
    ·exact e.symm
    ·have:=Zbh (hl.1 b h2) (hm.1 a h1)
     rw [Za0] at this
     cases this
  subst e
  rw [Zgv hl.2 hm.2 ((List.perm_cons a).1 h)]
def cutK (ah al m:Nat):Ky:=⟨cutW ah m,cutW al (m-64),(m:Int)⟩
theorem Zts (w n:Nat):cutW (cutW w n) n=cutW w n:=by
 unfold cutW
 rw [Nat.mul_div_cancel _ (Nat.two_pow_pos _)]
theorem Zdn (k:Ky) (ah al:Nat):hasB k.h k.l k.n ah al=true↔∃m:Nat,m<=128/\k=cutK ah al m:=by
 unfold hasB Zan
 simp only [Bool.and_eq_true,decide_eq_true_eq]
 constructor
 ·rintro ⟨⟨h1,h2,-,-⟩,h3,h4⟩
  refine ⟨k.n.toNat,by omega,?_⟩
  obtain ⟨h,l,n⟩:=k
  simp only at h1 h2 h3 h4
  unfold cutK
  simp only
  rw [h3,h4,Int.toNat_of_nonneg h1]
 ·rintro ⟨m,hm,rfl⟩
  unfold cutK
  simp only [Int.toNat_natCast]
  exact ⟨⟨by omega,by omega,Zts _ _,Zts _ _⟩,trivial,trivial⟩
def lngI (L:List Rt) (c:Rt->Bool):Nat->Option Nat
 | 0=>none
 | j+1=>
  match lngI L c j with
  | none=>if c (L.getD j ⟨⟨0,0,0⟩,0⟩)=true then some j else none
  | some b=>if c (L.getD j ⟨⟨0,0,0⟩,0⟩)=true/\(L.getD b ⟨⟨0,0,0⟩,0⟩).k.n<(L.getD j ⟨⟨0,0,0⟩,0⟩).k.n then some j else some b
theorem getD_at {L:List Rt} {i:Nat} (h:i<L.length):L.getD i ⟨⟨0,0,0⟩,0⟩=L[i]:=by
 rw [List.getD_eq_getElem?_getD,List.getElem?_eq_getElem h]
 rfl
def Z9k (L:List Rt) (c:Rt->Bool) (j:Nat):Option Nat->Prop
 | none=>∀i (h:i<L.length),i<j->c L[i]=false
 | some b=>∃hb:b<L.length,b<j/\c L[b]=true/\∀i (h:i<L.length),i<j->c L[i]=true->L[i].k.n<=L[b].k.n
theorem Zoy (L:List Rt) (c:Rt->Bool):∀j,j<=L.length->Z9k L c j (lngI L c j)
 | 0,_=>fun i _ h=>absurd h (by omega)
 | j+1,hj=>by
  have ih:=Zoy L c j (by omega)
  have hjl:j<L.length:=by omega
  unfold lngI
  rw [getD_at hjl]
  cases e:lngI L c j with
  | none=>
   rw [e] at ih
   have ih:∀i (h:i<L.length),i<j->c L[i]=false:=ih
   by_cases hc:c L[j]=true
   ·simp only [hc,if_true]
    refine ⟨hjl,by omega,hc,fun i hi hlt hci => ?_⟩
    by_cases hij:i=j
    ·subst hij;exact Int.le_refl _
    ·rw [ih i hi (by omega)] at hci;cases hci
   ·simp only [hc]
    intro i hi hlt
    by_cases hij:i=j
    ·subst hij;simpa using hc
    ·exact ih i hi (by omega)
  | some b=>
   rw [e] at ih
   obtain ⟨hb,hbj,hcb,hmax⟩:=ih
   simp only [getD_at hb]
   by_cases hc:c L[j]=true/\L[b].k.n<L[j].k.n
   ·rw [if_pos hc]
    refine ⟨hjl,by omega,hc.1,fun i hi hlt hci => ?_⟩
    by_cases hij:i=j
    ·subst hij;exact Int.le_refl _
    ·have:=hmax i hi (by omega) hci;omega
   ·rw [if_neg hc]
    refine ⟨hb,by omega,hcb,fun i hi hlt hci => ?_⟩
    by_cases hij:i=j
    ·subst hij
     by_cases h2:L[b].k.n<L[i].k.n
     ·exact absurd ⟨hci,h2⟩ hc
     ·omega
    ·exact hmax i hi (by omega) hci
def Za8 (ah al:Nat) (low high:Int) (r:Rt):Bool:=decide (low<r.k.n)&&(decide (r.k.n<=high)&&hasB r.k.h r.k.l r.k.n ah al)
def depV (N:List Rt) (ah al m:Nat):Option Int:=(N.find? fun r=>decide (r.k=cutK ah al m)).map Rt.v
def Zbi (D:Nat->Option Int) (low high:Int):Nat->Option Nat
 | 0=>none
 | f+1=>if low<(f:Int)/\(f:Int)<=high/\(D f).isSome=true then some f else Zbi D low high f
theorem Zdy {D:Nat->Option Int} {low high:Int}:∀{f:Nat},Zbi D low high f=none↔∀m,m<f->¬(low<(m:Int)/\(m:Int)<=high/\(D m).isSome=true)
 | 0=>⟨fun _ m h=>absurd h (by omega),fun _=>rfl⟩
 | f+1=>by
  unfold Zbi
  split
  ·rename_i h
   exact ⟨fun e=>by (cases e),fun g=>absurd h (g f (by omega))⟩
  ·rename_i h
   rw [Zdy (f:=f)]
   refine ⟨fun g m hm => ?_,fun g m hm=>g m (by omega)⟩
   by_cases e:m=f
   ·subst e;exact h
   ·exact g m (by omega)
theorem Zce {D:Nat->Option Int} {low high:Int} {b:Nat}:∀{f:Nat},Zbi D low high f=some b↔b<f/\(low<(b:Int)/\(b:Int)<=high/\(D b).isSome=true)/\∀m,b<m->m<f->¬(low<(m:Int)/\(m:Int)<=high/\(D m).isSome=true)
 | 0=>⟨fun e=>by (cases e),fun h=>absurd h.1 (by omega)⟩
 | f+1=>by
  unfold Zbi
  split
  ·rename_i h
   constructor
   ·intro e
    injection e with e
    subst e
    exact ⟨by omega,h,fun m h1 h2=>absurd h2 (by omega)⟩
   ·rintro ⟨h1,h2,h3⟩
    by_cases e:b=f
    ·rw [e]
    ·exact absurd h (h3 f (by omega) (by omega))
  ·rename_i h
   rw [Zce (f:=f)]
   constructor
   ·rintro ⟨h1,h2,h3⟩
    refine ⟨by omega,h2,fun m hb hm => ?_⟩
    by_cases e:m=f
    ·subst e;exact h
    ·exact h3 m hb (by omega)
   ·rintro ⟨h1,h2,h3⟩
    have hbf:b≠f:=fun e=>h (e▸h2)
    exact ⟨by omega,h2,fun m hb hm=>h3 m hb (by omega)⟩
theorem Zm2 {N:List Rt} {ah al m:Nat}:(depV N ah al m).isSome=true↔∃r∈N,r.k=cutK ah al m:=by
 unfold depV
 rw [Option.isSome_map,List.find?_isSome]
 simp
theorem Z0z {N:List Rt} (hn:(Zad N).Nodup) {ah al m:Nat} {r:Rt} (hr:r∈N) (hk:r.k=cutK ah al m):depV N ah al m=some r.v:=by
 unfold depV
 cases e:N.find? (fun r=>decide (r.k=cutK ah al m)) with
 | none=>
  rw [List.find?_eq_none] at e
  exact absurd (decide_eq_true hk) (e r hr)
 | some q=>
  have hq:=List.mem_of_find?_eq_some e
  have hqk:q.k=cutK ah al m:=by simpa using List.find?_some e
  obtain ⟨i,hi,rfl⟩:=List.getElem_of_mem hr
  obtain ⟨j,hj,rfl⟩:=List.getElem_of_mem hq
  have:i=j:=by
   unfold Zad at hn
   exact (List.getElem_inj (xs:=N.map Rt.k) (h₀:=by simpa using hi) (h₁:=by simpa using hj) hn).1 (by simp [hk,hqk])
  subst this
  rfl
theorem Zkl {N:List Rt} (ah al:Nat) (low high:Int) :
 (lngI N (Za8 ah al low high) N.length=none/\Zbi (depV N ah al) low high 129=none) \/
 ∃b,∃hb:b<N.length,∃m:Nat,lngI N (Za8 ah al low high) N.length=some b/\Zbi (depV N ah al) low high 129=some m/\N[b].k=cutK ah al m:=by
 have hl:=Zoy N (Za8 ah al low high) N.length (Nat.le_refl _)
 have hc:∀r:Rt,Za8 ah al low high r=true↔low<r.k.n/\r.k.n<=high/\∃m:Nat,m<=128/\r.k=cutK ah al m:=fun r=>by
  unfold Za8
  simp only [Bool.and_eq_true,decide_eq_true_eq,Zdn]
 cases e:lngI N (Za8 ah al low high) N.length with
 | none=>
  rw [e] at hl
  have hl:∀i (h:i<N.length),i<N.length->Za8 ah al low high N[i]=false:=hl
  refine .inl ⟨rfl,Zdy.2 fun m hm h => ?_⟩
  obtain ⟨r,hr,hk⟩:=Zm2.1 h.2.2
  obtain ⟨i,hi,rfl⟩:=List.getElem_of_mem hr
  have h1:=hl i hi hi
  have h2:=(hc N[i]).2 ⟨by rw [hk];exact h.1,by rw [hk];exact h.2.1,m,by omega,hk⟩
  rw [h1] at h2
  cases h2
 | some b=>
  rw [e] at hl
  obtain ⟨hb,-,hcb,hmax⟩:=hl
  obtain ⟨h1,h2,m,hm,hk⟩:=(hc N[b]).1 hcb
  have hkn:N[b].k.n=(m:Int):=by rw [hk];rfl
  refine .inr ⟨b,hb,m,rfl,Zce.2 ⟨by omega,⟨by omega,by omega,Zm2.2 ⟨_,List.getElem_mem hb,hk⟩⟩,fun m' hm' hm2 h => ?_⟩,hk⟩
  obtain ⟨r,hr,hk'⟩:=Zm2.1 h.2.2
  obtain ⟨i,hi,rfl⟩:=List.getElem_of_mem hr
  have hn':N[i].k.n=(m':Int):=by rw [hk'];rfl
  have:=hmax i hi hi ((hc N[i]).2 ⟨by rw [hn'];exact h.1,by rw [hn'];exact h.2.1,m',by omega,hk'⟩)
  omega
theorem Zo7 {k:Ky} {r:Rt}:hasK k (some r)=true↔r.k=k:=by simp [hasK]
theorem Zi8 {C:List Pl} {k:Ky} (h:C.findIdx? (hasK k)=none):∀r,some r∈C->r.k≠k:=by
 intro r hr e
 have:=(List.findIdx?_eq_none_iff.1 h) _ hr
 rw [Zo7.2 e] at this
 cases this
theorem Zpa {C:List Pl} {k:Ky} (h:getC C k=none):C.findIdx? (hasK k)=none:=by
 rcases Zbp (hasK k) C with ⟨i,hi,h1,-,h3⟩ | ⟨h1,-⟩
 ·rw [Zmy hi h1 h3] at h
  cases h
 ·exact h1
theorem Zzd {C:List Pl} {k:Ky} {i:Nat} (hi:i<C.length) (h:hasK k C[i]=true):∃q,C[i]=some q/\q.k=k:=by
 cases e:C[i] with
 | none=>rw [e] at h;cases h
 | some q=>exact ⟨q,rfl,Zo7.1 (e▸h)⟩
theorem Ze0 {C:List Pl} {k:Ky} (h:(getC C k).isSome=true):∃i,∃hi:i<C.length,C.findIdx? (hasK k)=some i/\∃q,C[i]=some q/\q.k=k/\getC C k=some q.v:=by
 rcases Zbp (hasK k) C with ⟨i,hi,h1,-,h3⟩ | ⟨h1,-⟩
 ·obtain ⟨q,e,hq⟩:=Zzd hi h3
  exact ⟨i,hi,h1,q,e,hq,by rw [Zmy hi h1 h3,e];rfl⟩
 ·rw [Zpb h1] at h
  cases h
theorem Zsn {C:List Pl} {k:Ky} {v:Int} {i:Nat} (h:C.findIdx? (hasK k)=some i):putC C k v=some (C.set i (some ⟨k,v⟩)):=by
 unfold putC
 rw [h]
theorem Zxw {C C':List Pl} {k:Ky} {v:Int} (hm:C.findIdx? (hasK k)=none) (h:putC C k v=some C'):∃j,∃hj:j<C.length,C'=C.set j (some ⟨k,v⟩)/\C[j]=none:=by
 unfold putC at h
 rw [hm] at h
 rcases Zbp Option.isNone C with ⟨i,hi,h1,-,h3⟩ | ⟨h1,-⟩
 ·simp only [h1,Option.some.injEq] at h
  exact ⟨i,hi,h.symm,by simpa using h3⟩
 ·simp only [h1] at h
  cases h
theorem Zoe {C:List Pl} {k:Ky} {v:Int} (h:putC C k v=none):C.findIdx? (hasK k)=none/\∀x∈C,x.isSome=true:=by
 unfold putC at h
 rcases Zbp (hasK k) C with ⟨i,hi,h1,-,h3⟩ | ⟨h1,-⟩
 ·simp only [h1] at h
  cases h
 ·refine ⟨h1,?_⟩
  simp only [h1] at h
  rcases Zbp Option.isNone C with ⟨i,hi,h2,-,h3⟩ | ⟨h2,-⟩
  ·simp only [h2] at h
   cases h
  ·intro x hx
   have:=(List.findIdx?_eq_none_iff.1 h2) x hx
   cases x with
   | none=>cases this
   | some r=>rfl
theorem Zjl (C:List Pl) (k:Ky):(takeC C k=none/\C.findIdx? (hasK k)=none)\/∃j,∃hj:j<C.length,∃q,takeC C k=some (C.set j none)/\C[j]=some q/\q.k=k:=by
 unfold takeC
 rcases Zbp (hasK k) C with ⟨i,hi,h1,-,h3⟩ | ⟨h1,-⟩
 ·obtain ⟨q,e,hq⟩:=Zzd hi h3
  exact .inr ⟨i,hi,q,by rw [h1],e,hq⟩
 ·exact .inl ⟨by rw [h1],h1⟩
theorem Zui {C:List Pl} {i:Nat} (hi:i<C.length) (hf:∀x∈C,x.isSome=true) (k:Ky) (v:Int):∃q,C[i]=some q/\Zfr C (i:Int) k v=some (q,C.set i (some ⟨k,v⟩)):=by
 obtain ⟨q,e⟩:=Option.isSome_iff_exists.1 (hf _ (List.getElem_mem hi))
 refine ⟨q,e,?_⟩
 unfold Zfr
 rw [if_pos (by omega),Int.toNat_natCast,List.getD_eq_getElem?_getD,List.getElem?_eq_getElem hi,e]
 rfl
structure Inv (T:Tab):Prop where
 lo:1<=T.B.length
 hi:T.B.length<=65536
 four:∀i,i<T.B.length->(T.bk i).length=4
 word:W64 T.s
 good:∀r∈Zae T,r.k.good
 home:∀i,i<T.B.length->∀r,some r∈T.bk i->i=T.x1 r.k\/i=T.x2 r.k
 keys:(Zad (Zae T)).Nodup
 sort:Sorted T.st
theorem Inv.x1_lt {T:Tab} (H:Inv T) (k:Ky):T.x1 k<T.B.length:=Z8t H.lo
theorem Inv.x2_lt {T:Tab} (H:Inv T) (k:Ky):T.x2 k<T.B.length:=Z8r H.lo
theorem Zpu (T:Tab) (i:Nat) (hi:i<T.B.length) (C:List Pl) (k:Nat):(T.set i C).bk k=if k=i then C else T.bk k:=by
 unfold Tab.bk Tab.set
 simp only [List.getD_eq_getElem?_getD,List.getElem?_set]
 by_cases e:i=k
 ·subst e
  rw [if_pos rfl,if_pos hi,if_pos rfl]
  rfl
 ·rw [if_neg e,if_neg (fun x=>e x.symm)]
theorem Zci (T:Tab) (i:Nat) (C:List Pl):(T.set i C).B.length=T.B.length:=List.length_set
theorem Z7t (T:Tab) (i:Nat) (C:List Pl) (k:Ky):(T.set i C).x1 k=T.x1 k:=by unfold Tab.x1;rw [Zci];rfl
theorem Z7s (T:Tab) (i:Nat) (C:List Pl) (k:Ky):(T.set i C).x2 k=T.x2 k:=by unfold Tab.x2;rw [Zci];rfl
theorem Zir {T:Tab} {i:Nat} (hi:i<T.B.length) {r:Rt} (h:some r∈T.bk i):r∈Zae T:=by
 unfold Zae
 rw [Zrw T i hi] at h
 refine List.mem_append_left _ (List.mem_flatMap.2 ⟨T.B[i],List.getElem_mem hi,?_⟩)
 unfold allC
 exact List.mem_filterMap.2 ⟨some r,h,rfl⟩
theorem Z2e {T:Tab} {r:Rt} (h:r∈Zae T):(∃i,i<T.B.length/\some r∈T.bk i)\/r∈T.st:=by
 unfold Zae at h
 rw [List.mem_append,List.mem_flatMap] at h
 rcases h with ⟨C,hC,h⟩ | h
 ·obtain ⟨i,hi,rfl⟩:=List.getElem_of_mem hC
  unfold allC at h
  rw [List.mem_filterMap] at h
  obtain ⟨x,hx,e⟩:=h
  simp only [id] at e
  subst e
  exact .inl ⟨i,hi,by rw [Zrw T i hi];exact hx⟩
 ·exact .inr h
theorem Inv.place {T:Tab} (H:Inv T) {i:Nat} (hi:i<T.B.length) {j:Nat} (hj:j<(T.bk i).length) {x:Pl} (hx:∀r,x=some r->r.k.good/\(i=T.x1 r.k\/i=T.x2 r.k))
 (hk:(Zad (Zae (T.set i ((T.bk i).set j x)))).Nodup):Inv (T.set i ((T.bk i).set j x)):=by
 refine ⟨by rw [Zci];exact H.lo,by rw [Zci];exact H.hi,fun k hkl => ?_,H.word,fun r hr => ?_,fun k hkl r hr => ?_,hk,H.sort⟩
 ·rw [Zci] at hkl
  rw [Zpu T i hi]
  split
  ·rw [List.length_set];exact H.four i hi
  ·exact H.four k hkl
 ·have hp:=(Zhg T i hi j hj x).mem_iff.1 (List.mem_append_right _ hr)
  rw [List.mem_append] at hp
  rcases hp with hp | hp
  ·exact (hx r (by simpa using hp)).1
  ·exact H.good r hp
 ·rw [Zci] at hkl
  rw [Z7t,Z7s]
  rw [Zpu T i hi] at hr
  split at hr
  ·rename_i e
   rcases List.mem_or_eq_of_mem_set hr with h | h
   ·exact e▸H.home i hi r h
   ·exact e▸(hx r h.symm).2
  ·exact H.home k hkl r hr
theorem Z0e {T:Tab} (H:Inv T) {i:Nat} (hi:i<T.B.length) {j:Nat} (hj:j<(T.bk i).length) {q r:Rt} (hq:(T.bk i)[j]=some q) (he:q.k=r.k) :
 (Zad (Zae (T.set i ((T.bk i).set j (some r))))).Nodup/\(Zae (T.set i ((T.bk i).set j (some r)))).Perm (r::outS (Zae T) r.k):=by
 have hp:=Zhg T i hi j hj (some r)
 rw [hq] at hp
 have hk:=Za6 hp
 have hk2:(Zad (Zae (T.set i ((T.bk i).set j (some r))))).Perm (Zad (Zae T)):=by
  unfold Zad at *
  simp only [Option.toList_some,List.singleton_append,List.map_cons,he] at hk
  exact (List.perm_cons _).1 hk
 have hn:=hk2.nodup_iff.2 H.keys
 refine ⟨hn,?_⟩
 have hm:r∈Zae (T.set i ((T.bk i).set j (some r))):=by
  refine Zir (i:=i) (by rw [Zci];exact hi) ?_
  rw [Zpu T i hi,if_pos rfl]
  exact List.mem_set hj _
 have ho:=Zg1 hp r.k
 have e1:outS ((some q).toList++Zae (T.set i ((T.bk i).set j (some r)))) r.k=outS (Zae (T.set i ((T.bk i).set j (some r)))) r.k:=by simp [outS,he]
 have e2:outS ((some r).toList++Zae T) r.k=outS (Zae T) r.k:=by simp [outS]
 rw [e1,e2] at ho
 exact (Zc4 hn hm).trans (ho.cons r)
theorem Z0f {T:Tab} (H:Inv T) {i:Nat} (hi:i<T.B.length) {j:Nat} (hj:j<(T.bk i).length) {r:Rt} (hq:(T.bk i)[j]=none) (he:r.k∉Zad (Zae T)) :
 (Zad (Zae (T.set i ((T.bk i).set j (some r))))).Nodup/\(Zae (T.set i ((T.bk i).set j (some r)))).Perm (r::Zae T):=by
 have hp:=Zhg T i hi j hj (some r)
 rw [hq] at hp
 simp only [Option.toList_none,List.nil_append,Option.toList_some,List.singleton_append] at hp
 refine ⟨(Za6 hp).nodup_iff.2 ?_,hp⟩
 unfold Zad at *
 rw [List.map_cons,List.nodup_cons]
 exact ⟨he,H.keys⟩
theorem Z0g {T:Tab} (H:Inv T) {i:Nat} (hi:i<T.B.length) {j:Nat} (hj:j<(T.bk i).length) {q:Rt} (hq:(T.bk i)[j]=some q) :
 (Zad (Zae (T.set i ((T.bk i).set j none)))).Nodup/\(Zae (T.set i ((T.bk i).set j none))).Perm (outS (Zae T) q.k):=by
 have hp:=Zhg T i hi j hj none
 rw [hq] at hp
 simp only [Option.toList_none,List.nil_append,Option.toList_some,List.singleton_append] at hp
 have hn:=(Za6 hp).nodup_iff.2 H.keys
 unfold Zad at hn
 rw [List.map_cons,List.nodup_cons] at hn
 refine ⟨hn.2,?_⟩
 have ho:=Zg1 hp q.k
 have e1:outS (q::Zae (T.set i ((T.bk i).set j none))) q.k=Zae (T.set i ((T.bk i).set j none)):=by
  rw [show outS (q::Zae (T.set i ((T.bk i).set j none))) q.k=outS (Zae (T.set i ((T.bk i).set j none))) q.k by simp [outS]]
  exact Zbm hn.1
 rw [e1] at ho
 exact ho
theorem Z0d {T:Tab} (H:Inv T) {i:Nat} (hi:i<T.B.length) {j:Nat} (hj:j<(T.bk i).length) {q r:Rt} (hq:(T.bk i)[j]=some q) (he:r.k∉Zad (Zae T)) :
 (Zad (Zae (T.set i ((T.bk i).set j (some r))))).Nodup/\(q::Zae (T.set i ((T.bk i).set j (some r)))).Perm (r::Zae T)/\q.k∉Zad (Zae (T.set i ((T.bk i).set j (some r)))):=by
 have hp:=Zhg T i hi j hj (some r)
 rw [hq] at hp
 simp only [Option.toList_some,List.singleton_append] at hp
 have hn:(Zad (q::Zae (T.set i ((T.bk i).set j (some r))))).Nodup:=by
  refine (Za6 hp).nodup_iff.2 ?_
  unfold Zad at *
  rw [List.map_cons,List.nodup_cons]
  exact ⟨he,H.keys⟩
 unfold Zad at *
 rw [List.map_cons,List.nodup_cons] at hn
 exact ⟨hn.2,hp,hn.1⟩
end
end Go.Proofs.YtgfjmgebecmbiaaGreat
