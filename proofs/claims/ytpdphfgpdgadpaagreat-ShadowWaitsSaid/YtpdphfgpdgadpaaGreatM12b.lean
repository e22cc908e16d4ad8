import Derived.Test.YtpdphfgpdgadpaaGreatRows
import Derived.WalkKit
import Derived.WalkSpells
import Derived.WalkLawsBesides
import Derived.Handy
import Derived.Lib.Hide
import Derived.Test.YtpdphfgpdgadpaaGreatRow
set_option linter.unusedSimpArgs false
set_option linter.unusedVariables false
set_option maxHeartbeats 400000
open Go.Proofs.Tryz
namespace Go.Proofs.YtpdphfgpdgadpaaGreat
open Lib(hid)
section
open Go.RowKit Go.Sort M
def D2 (n:Int):Nat:=(2^64-1) ^^^ ((2^64-1)/2^n.toNat)
theorem Zzs (n:Int) (b:0<=n):bits BinOp.xor IntKind.u64 IntKind.u64.max (18446744073709551615/2^n.toNat)=(D2 n:Int):=by
 obtain ⟨k,rfl⟩:=Qv b;unfold D2;have a:(2^64-1)/2^k<2^64:=Nat.lt_of_le_of_lt (Nat.div_le_self _ _) Qd;have e:(18446744073709551615/2^(k:Int).toNat:Int)=(((2^64-1)/2^k:Nat):Int):=by rw [Int.toNat_natCast,Int.natCast_ediv];simp
 rw [e,show IntKind.u64.max=((2^64-1:Nat):Int) from by decide,bits_xor_u64_nat _ _ Qd (by simpa using a)];simp
theorem Ef (n:Int) (w:World) (a:0<=n) (b:n<=64) :
 Calls prog 93 #[.int .i64 n] w λe w'=>e = .returned (.int .u64 (D2 n))/\w=w':=by
 go_enter func93,ntmps93;go_wp2;go_ret;exact ⟨by show Ending.returned (.int .u64 _)=_;rw [Zzs n a],rfl⟩
theorem Pj (x:Nat) (m:Int) (a:W64 x) (d:0<=m) (c:m<=64):bits BinOp.and IntKind.u64 (x:Int) (D2 m)=(cutW x m.toNat:Nat):=by
 have b:D2 m<2^64:=by unfold D2;exact Nat.xor_lt_two_pow Qd (Nat.lt_of_le_of_lt (Nat.div_le_self _ _) Qd)
 rw [bits_and_u64_nat _ _ a.lt (by simpa using b)];unfold D2;rw [Zr x m.toNat a Qa]
theorem Im (hi lo:Nat) (n m k:Int) (ha:W64 hi) (a:W64 lo) (e:0<=m) (d:m<=64) (c:0<=k) (b:k<=64) (h:m.toNat=min n.toNat 64) (f:k.toNat=min (n.toNat-64) 64) :
 Ending.returned (.agg #[.int .u64 (bits BinOp.and IntKind.u64 (hi:Int) (D2 m)),.int .u64 (bits BinOp.and IntKind.u64 (lo:Int) (D2 k))]) =
  Ending.returned (.agg #[.int .u64 (cutW hi n.toNat:Nat),.int .u64 (cutW lo (n.toNat-64):Nat)]):=by
 rw [Pj hi m ha e d,Pj lo k a c b,h,f];have g:∀x k,cutW x (min k 64)=cutW x k:=λx k=>by unfold cutW;rw [show 64-min k 64=64-k by omega]
 rw [g,g]
theorem Pk (hi lo:Nat) (n:Int) (ha:W64 hi) (h:W64 lo) :
 Aj prog 78 #[.agg #[.int .u64 hi,.int .u64 lo],.int .i64 n] (.agg #[.int .u64 (cutW hi n.toNat),.int .u64 (cutW lo (n.toNat-64))]):=by
 intro w;have i:=cell_regrown (w:=(w.alloc (.cells #[.int .u64 hi,.int .u64 lo] 24)).alloc (.cells #[.int .u64 0,.int .u64 0] 24)) (a:=⟨w.heap.size,0,none⟩) (v := .int .u64 hi) Qi;have k1:=cell_regrown (w:=(w.alloc (.cells #[.int .u64 hi,.int .u64 lo] 24)).alloc (.cells #[.int .u64 0,.int .u64 0] 24)) (a:=⟨w.heap.size,1,none⟩) (v := .int .u64 lo) Qi;by_cases m:n<=0
 ·go_enter func78,ntmps78;go_wp2_with fail;have e:=Ad;refine A1 14 Qb Qb ?_;simp only [List.take_succ_cons,List.take_zero,List.drop_succ_cons,List.drop_zero];repeat (any_goals (first|go_big_quiet_step (first|(go_at_call 93;exact Aj.at (Aj.still λw=>Ef _ w Qa Qa) _ _ _))|quiet_step (first|(go_at_call 93;exact Aj.at (Aj.still λw=>Ef _ w Qa Qa) _ _ _))))
  refine wpQuiet_nil ?_;clear e;intro w1 b;obtain ⟨d,c⟩:=Ac b;have f:Below w.heap.size w w1:=by
   refine Below.trans ?_ (b.mono ?_)
   ·go_grown
   ·first|omega|go_size
  go_wp2;refine bodyPost_ret (by simp [results,Tryz.results78,go_sem,d,c];try rfl) rfl ?_;exact ⟨Im hi lo n _ _ ha h Qa Qa Qa Qa Qa Qa,Qg⟩
 by_cases l:n<=64
 ·go_enter func78,ntmps78;go_wp2_with fail;have e:=Ad;refine A1 14 Qb Qb ?_;simp only [List.take_succ_cons,List.take_zero,List.drop_succ_cons,List.drop_zero];repeat (any_goals (first|go_big_quiet_step (first|(go_at_call 93;exact Aj.at (Aj.still λw=>Ef _ w Qa Qa) _ _ _))|quiet_step (first|(go_at_call 93;exact Aj.at (Aj.still λw=>Ef _ w Qa Qa) _ _ _))))
  refine wpQuiet_nil ?_;clear e;intro w1 b;obtain ⟨d,c⟩:=Ac b;have f:Below w.heap.size w w1:=by
   refine Below.trans ?_ (b.mono ?_)
   ·go_grown
   ·first|omega|go_size
  go_wp2;refine bodyPost_ret (by simp [results,Tryz.results78,go_sem,d,c];try rfl) rfl ?_;exact ⟨Im hi lo n _ _ ha h Qa Qa Qa Qa Qa Qa,Qg⟩
 by_cases k:n<=128
 ·go_enter func78,ntmps78;go_wp2_with fail;have e:=Ad;refine A1 14 Qb Qb ?_;simp only [List.take_succ_cons,List.take_zero,List.drop_succ_cons,List.drop_zero];repeat (any_goals (first|go_big_quiet_step (first|(go_at_call 93;exact Aj.at (Aj.still λw=>Ef _ w Qa Qa) _ _ _))|quiet_step (first|(go_at_call 93;exact Aj.at (Aj.still λw=>Ef _ w Qa Qa) _ _ _))))
  refine wpQuiet_nil ?_;clear e;intro w1 b;obtain ⟨d,c⟩:=Ac b;have f:Below w.heap.size w w1:=by
   refine Below.trans ?_ (b.mono ?_)
   ·go_grown
   ·first|omega|go_size
  go_wp2;refine bodyPost_ret (by simp [results,Tryz.results78,go_sem,d,c];try rfl) rfl ?_;exact ⟨Im hi lo n _ _ ha h Qa Qa Qa Qa Qa Qa,Qg⟩
 by_cases j:128<n
 ·go_enter func78,ntmps78;go_wp2_with fail;have e:=Ad;refine A1 14 Qb Qb ?_;simp only [List.take_succ_cons,List.take_zero,List.drop_succ_cons,List.drop_zero];repeat (any_goals (first|go_big_quiet_step (first|(go_at_call 93;exact Aj.at (Aj.still λw=>Ef _ w Qa Qa) _ _ _))|quiet_step (first|(go_at_call 93;exact Aj.at (Aj.still λw=>Ef _ w Qa Qa) _ _ _))))
  refine wpQuiet_nil ?_;clear e;intro w1 b;obtain ⟨d,c⟩:=Ac b;have f:Below w.heap.size w w1:=by
   refine Below.trans ?_ (b.mono ?_)
   ·go_grown
   ·first|omega|go_size
  go_wp2;refine bodyPost_ret (by simp [results,Tryz.results78,go_sem,d,c];try rfl) rfl ?_;exact ⟨Im hi lo n _ _ ha h Qa Qa Qa Qa Qa Qa,Qg⟩
 omega
end
section
open M
structure Ky where
 h:Nat
 l:Nat
 n:Int
deriving DecidableEq
def Ky.good (k:Ky):Prop:=W64 k.h/\W64 k.l
structure Rt where
 k:Ky
 v:Int
deriving DecidableEq
abbrev Pl:=Option Rt
def hasK (k:Ky) (x:Pl):Bool:=
 match x with
 | some r=>decide (r.k=k)
 | none=>false
def idxI (p:Pl->Bool) (C:List Pl):Int:=
 match C.findIdx? p with
 | some i=>(i:Int)
 | none => -1
def putC (C:List Pl) (k:Ky) (v:Int):Option (List Pl):=
 match C.findIdx? (hasK k) with
 | some i=>some (C.set i (some ⟨k,v⟩))
 | none=>
  match C.findIdx? Option.isNone with
  | some i=>some (C.set i (some ⟨k,v⟩))
  | none=>none
def takeC (C:List Pl) (k:Ky):Option (List Pl):=
 match C.findIdx? (hasK k) with
 | some i=>some (C.set i none)
 | none=>none
def getC (C:List Pl) (k:Ky):Option Int:=
 match C.findIdx? (hasK k) with
 | some i=>(C.getD i none).map Rt.v
 | none=>none
def Bo (C:List Pl) (i:Int) (k:Ky) (v:Int):Option (Rt×List Pl):=
 if 0<=i then
  match C.getD i.toNat none with
  | some r=>some (r,C.set i.toNat (some ⟨k,v⟩))
  | none=>none
 else none
def allC (C:List Pl):List Rt:=C.filterMap id
def xh (x:Pl):Nat:=match x with | some r=>r.k.h | none=>0
def xl (x:Pl):Nat:=match x with | some r=>r.k.l | none=>0
def xn (x:Pl):Int:=match x with | some r=>r.k.n | none=>0
def xv (x:Pl):Int:=match x with | some r=>r.v | none=>0
theorem Z6h (k:Ky) (x:Pl):hasK k x=(x.isSome&&decide (xh x=k.h/\xl x=k.l/\xn x=k.n)):=by
 cases x with
 | none=>rfl
 | some r=>obtain ⟨⟨a,b,c⟩,v⟩:=r;obtain ⟨d,e,f⟩:=k;rw [Bool.eq_iff_iff];simp [hasK,xh,xl,xn];exact decide_eq_true_iff.symm
theorem Z6f {p:Pl->Bool} {C:List Pl} {i:Nat} (hi:i<C.length) (h:p C[i]=true) (b:∀j (a:j<C.length),j<i->p C[j]=false):C.findIdx? p=some i:=by rw [List.findIdx?_eq_some_iff_getElem];exact ⟨hi,h,λj a=>by simp [b j Qa a]⟩
theorem Z24 {p:Pl->Bool} {C:List Pl} (c:∀j (a:j<C.length),p C[j]=false):C.findIdx? p=none:=by rw [List.findIdx?_eq_none_iff];intro x b;obtain ⟨j,a,rfl⟩:=List.getElem_of_mem b;exact c j a
theorem Pm {p:Pl->Bool} {C:List Pl} {i:Nat} (hi:i<C.length) (h:p C[i]=true) (a:∀j (b:j<C.length),j<i->p C[j]=false):idxI p C=i:=by unfold idxI;rw [Z6f hi h a]
theorem Pn {p:Pl->Bool} {C:List Pl} (a:∀j (b:j<C.length),p C[j]=false):idxI p C = -1:=by unfold idxI;rw [Z24 a]
theorem C8 (p:Pl->Bool) (C:List Pl):(∃i,∃hi:i<C.length,C.findIdx? p=some i/\idxI p C=i/\p C[i]=true)\/(C.findIdx? p=none/\idxI p C = -1):=by
 cases h:C.findIdx? p with
 | none=>exact .inr ⟨rfl,by unfold idxI;rw [h]⟩
 | some i=>have:=List.findIdx?_eq_some_iff_getElem.1 h;exact .inl ⟨i,this.1,rfl,by unfold idxI;rw [h],this.2.1⟩
theorem Lc (C:List Pl):(allC C).length<=C.length:=List.length_filterMap_le _ _
theorem Z0x (C:List Pl) (i:Nat) (h:i<C.length):allC (C.take (i+1))=allC (C.take i)++(C[i]).toList:=by unfold allC;rw [List.take_succ_eq_append_getElem h,List.filterMap_append];cases C[i]<;>rfl
theorem Ld {C:List Pl} {k:Ky} {i:Nat} (hi:i<C.length) (h:C.findIdx? (hasK k)=some i) (a:hasK k C[i]=true):getC C k=some (xv C[i]):=by
 unfold getC;rw [h];simp only [List.getD_eq_getElem?_getD,Qr hi,Option.getD_some];cases e:C[i] with
 | none=>rw [e] at a;cases a
 | some r=>rfl
theorem Po {C:List Pl} {k:Ky} (h:C.findIdx? (hasK k)=none):getC C k=none:=by unfold getC;rw [h]
end
section
open Go.RowKit Go.Sort M
def Ae (r:Rt):List Value:=[.int .u64 (r.k.h:Int),.int .u64 (r.k.l:Int),.int .i64 r.k.n,.int .i64 r.v]
def rcs (L:List Rt):List Value:=L.flatMap Ae
theorem Bd (L:List Rt):(rcs L).length=L.length*4:=by
 unfold rcs
 induction L with
 | nil=>rfl
 | cons x L ih=>simp only [List.flatMap_cons,Qo,ih,Ae,Qt,List.length_nil];omega
theorem C9 (L M:List Rt):rcs (L++M)=rcs L++rcs M:=by simp [rcs]
theorem Eh (x:Rt) (L:List Rt):rcs (x::L)=Ae x++rcs L:=rfl
theorem Fo (p:Rt):rcs [p]=Ae p:=by simp [rcs]
theorem Da:∀(L:List Rt) (k j:Nat) (h:k<L.length),j<4->(rcs L)[k*4+j]? = (Ae L[k])[j]?
 | x::L,0,j,_,a=>by rw [Eh,List.getElem?_append_left (by simp [Ae];omega)];simp
 | x::L,k+1,j,h,a=>by rw [Eh,List.getElem?_append_right (by simp [Ae];omega),show (k+1)*4+j-(Ae x).length=k*4+j by simp [Ae];omega];rw [Da L k j (by simpa using h) a];simp
theorem Io (L:List Rt):∀u∈rcs L,u.oneCell'=true:=by intro u a;unfold rcs at a;rw [List.mem_flatMap] at a;obtain ⟨p,-,b⟩:=a;simp only [Ae,List.mem_cons,List.not_mem_nil,or_false] at b;rcases b with rfl | rfl | rfl | rfl<;>rfl
theorem Row.rt {w:World} {p:Option Addr} {L:List Rt} (h:Row w p (rcs L)) {k:Nat} (a:k<L.length):∃g o,p=some ⟨g,o,none⟩/\g<w.heap.size /\
 w.cell? ⟨g,o+k*4,none⟩=some (.int .u64 (L[k].k.h:Int))/\w.cell? ⟨g,o+k*4+1,none⟩=some (.int .u64 (L[k].k.l:Int))/\w.cell? ⟨g,o+k*4+2,none⟩=some (.int .i64 L[k].k.n)/\w.cell? ⟨g,o+k*4+3,none⟩=some (.int .i64 L[k].v):=by
 rcases h with h | ⟨g,o,e,c,b⟩
 ·have:=Bd L;rw [h] at this;simp at this;omega
 ·exact ⟨g,o,e,c,b (k*4) _ (Da L k 0 a Qa),b (k*4+1) _ (Da L k 1 a Qa),b (k*4+2) _ (Da L k 2 a Qa),b (k*4+3) _ (Da L k 3 a Qa)⟩
def Cw (w w':World) (e:Ending) (L:List Rt):Prop:=∃p c,e = .returned (.slice p L.length c)/\w'.ownsRow w.heap.size 34 4 (.slice p L.length c) L.length (rcs L)/\Below w.heap.size w w'
theorem D3:(prog.info? 34).map (λi=>(i.zero,i.size,i.bytes))=some (some (.agg #[.int .u64 0,.int .u64 0,.int .i64 0,.int .i64 0]),4,32):=Qb
theorem Fp {w:World} {g:Nat} {a b c d:Value} (m:w.cell? ⟨g,0,none⟩=some a) (l:w.cell? ⟨g,1,none⟩=some b) (k:w.cell? ⟨g,2,none⟩=some c) (i:w.cell? ⟨g,3,none⟩=some d) :
 ∀j u,[a,b,c,d][j]? = some u->w.cell? ((⟨g,0,none⟩:Addr).add j)=some u:=by
 intro j u e;have f:j<4:=(List.getElem?_eq_some_iff.1 e).1;have h:(⟨g,0,none⟩:Addr).add j=⟨g,j,none⟩:=by unfold Addr.add;split<;>simp_all
 rw [h];rcases (show j=0\/j=1\/j=2\/j=3 by omega) with rfl | rfl | rfl | rfl<;>(simp only [List.getElem?_cons_zero,List.getElem?_cons_succ,Option.some.injEq] at e;subst e;assumption)
theorem Le {w:World} {B n:Nat} {e:TypeId} {v:Value} {L:List Rt} {x:Rt} (h:w.ownsRow B e 4 v (n+1) (rcs L++Ae x)) (a:n=L.length):w.ownsRow B e 4 v (L++[x]).length (rcs (L++[x])):=by rw [C9,Fo,Qo,<-a];exact h
end
section
open Go.ChangeShapes Go.WideShapes Go.ChangeAt Go.RowKit Go.Joins Go.Deep M
theorem RowA.rts {w:World} {p:Option Addr} {L:List Rt} (h:RowA 4 Ae w p L):Row w p (rcs L):=by
 rcases h with h | ⟨g,o,e,c,d⟩
 ·subst h;exact .inl rfl
 ·refine .inr ⟨g,o,e,c,λj u b => ?_⟩;have i:j<L.length*4:=by
   have:=(List.getElem?_eq_some_iff.1 b).1
   rwa [Bd] at this
  have f:j/4*4+j%4=j:=Qa;have a:j/4<L.length:=Qa;rw [<-f,Da L (j/4) (j%4) a Qa] at b;have:=d (j/4) a (j%4) u b;rw [show o+j/4*4+j%4=o+j by omega] at this;exact this
section
variable {H:Type} {enc:TypeId×Value->H} {w:World} {base:Nat} {spare:Nat->Bool} {held:Bool} {r:Reach} {b0:Nat}
end
end
end Go.Proofs.YtpdphfgpdgadpaaGreat
namespace Go.Proofs.YtpdphfgpdgadpaaGreat.M
open Lib(hid)
def xsh (s x:Nat):Nat:=x ^^^ (x/2^s)
def mulW (c x:Nat):Nat:=x*c%2^64
def addW (c x:Nat):Nat:=(x+c)%2^64
def mixN (x:Nat):Nat:=xsh 31 (mulW 10723151780598845931 (xsh 27 (mulW 13787848793156543929 (xsh 30 (addW 11400714819323198485 x)))))
theorem Pp (s x:Nat) (h:W64 x):W64 (xsh s x):=Nat.xor_lt_two_pow h (Nat.lt_of_le_of_lt (Nat.div_le_self _ _) h)
theorem Lf (c x:Nat):W64 (mulW c x):=Nat.mod_lt _ Qd
theorem Z8x (c x:Nat):W64 (addW c x):=Nat.mod_lt _ Qd
theorem Ca (x:Nat):W64 (mixN x):=Pp _ _ (Lf _ _)
def Be (a h l:Nat) (n:Nat):Nat:=mixN (mixN (mixN (a ^^^ h) ^^^ l) ^^^ n)
end Go.Proofs.YtpdphfgpdgadpaaGreat.M
namespace Go.Proofs.YtpdphfgpdgadpaaGreat
open Lib(hid)
open Go.RowKit Go.Sort M
def Av (n:Int):Nat:=(n%18446744073709551616).toNat
theorem Pq (n:Int):W64 (Av n):=W64.mk (by unfold Av;omega)
theorem Zwl (x:Nat) (h:W64 x):Av (x:Int)=x:=by have:=h.lt;unfold Av;omega
theorem Zwj (n:Int):IntKind.u64.wrap n=(Av n:Int):=by rw [IntKind.wrap_u64];unfold Av;omega
def mixZ (x:Int):Int:=(mixN (Av x):Nat)
theorem Fq (x:Nat) (h:W64 x):mixZ (x:Int)=(mixN x:Nat):=by unfold mixZ;rw [Zwl x h]
theorem Z39 (x:Int):IntKind.u64.wrap (x+11400714819323198485)=(addW 11400714819323198485 (Av x):Nat):=by rw [IntKind.wrap_u64];unfold addW Av;omega
theorem Pr (c x:Nat):IntKind.u64.wrap ((x:Int)*(c:Int))=(mulW c x:Nat):=by rw [IntKind.wrap_u64,<-Int.natCast_mul];unfold mulW;omega
theorem Lg (x s:Nat) (h:W64 x):bits BinOp.xor IntKind.u64 (x:Int) ((x:Int)/(2^s:Nat))=(xsh s x:Nat):=by rw [<-Int.natCast_ediv,bits_xor_u64_nat _ _ h.lt (Nat.lt_of_le_of_lt (Nat.div_le_self _ _) h.lt)];rfl
theorem Z8e (x:Int) :
 bits BinOp.xor IntKind.u64 (IntKind.u64.wrap (bits BinOp.xor IntKind.u64 (IntKind.u64.wrap (bits BinOp.xor IntKind.u64 (IntKind.u64.wrap (x+11400714819323198485)) (IntKind.u64.wrap (x+11400714819323198485)/1073741824)*13787848793156543929)) (IntKind.u64.wrap (bits BinOp.xor IntKind.u64 (IntKind.u64.wrap (x+11400714819323198485)) (IntKind.u64.wrap (x+11400714819323198485)/1073741824)*13787848793156543929)/134217728)*10723151780598845931))
  (IntKind.u64.wrap (bits BinOp.xor IntKind.u64 (IntKind.u64.wrap (bits BinOp.xor IntKind.u64 (IntKind.u64.wrap (x+11400714819323198485)) (IntKind.u64.wrap (x+11400714819323198485)/1073741824)*13787848793156543929)) (IntKind.u64.wrap (bits BinOp.xor IntKind.u64 (IntKind.u64.wrap (x+11400714819323198485)) (IntKind.u64.wrap (x+11400714819323198485)/1073741824)*13787848793156543929)/134217728)*10723151780598845931)/2147483648)=mixZ x:=by
 have h:=Z39 x;have w1:=Z8x 11400714819323198485 (Av x);have e:=Lg _ 30 w1;have w2:=Pp 30 _ w1;have d:=Pr 13787848793156543929 (xsh 30 (addW 11400714819323198485 (Av x)));have w3:=Lf 13787848793156543929 (xsh 30 (addW 11400714819323198485 (Av x)));have c:=Lg _ 27 w3;have b:=Pr 10723151780598845931 (xsh 27 (mulW 13787848793156543929 (xsh 30 (addW 11400714819323198485 (Av x)))));have f:=Lf 10723151780598845931 (xsh 27 (mulW 13787848793156543929 (xsh 30 (addW 11400714819323198485 (Av x)))));have a:=Lg _ 31 f;simp only [Nat.reducePow,Int.cast_ofNat_Int] at e d c b a;rw [h,e,d,c,b,a];rfl
theorem Gm (x:Int):Aj prog 36 #[.int .u64 x] (.int .u64 (mixZ x)):=by intro w;go_enter func36,ntmps36;go_wp2;go_ret;exact ⟨Bc (Z8e x),Qg⟩
theorem Gn (x y:Nat) (h:W64 x) (a:W64 y):bits BinOp.xor IntKind.u64 (x:Int) (y:Int)=(x ^^^ y:Nat):=bits_xor_u64_nat _ _ h.lt a.lt
theorem Z6g (s h l:Nat) (n:Int) (a:W64 s) (c:W64 h) (b:W64 l) :
 mixZ (bits BinOp.xor IntKind.u64 (mixZ (bits BinOp.xor IntKind.u64 (mixZ (bits BinOp.xor IntKind.u64 (s:Int) (h:Int))) (l:Int))) (IntKind.u64.wrap n))=(Be s h l (Av n):Nat):=by
 rw [Gn s h a c,Fq _ (Nat.xor_lt_two_pow a c),Gn _ l (Ca _) b,Fq _ (Nat.xor_lt_two_pow (Ca _) b),Zwj,Gn _ _ (Ca _) (Pq n),Fq _ (Nat.xor_lt_two_pow (Ca _) (Pq n))];rfl
theorem Ps (s h l:Nat) (n:Int) (d:W64 s) (f:W64 h) (e:W64 l) :
 Aj prog 156 #[.int .u64 s,.agg #[.int .u64 h,.int .u64 l,.int .i64 n]] (.int .u64 (Be s h l (Av n))):=by
 intro w;have j:=hid (Z6g s h l n d f e);go_enter func156,ntmps156;go_wp2_with fail;have b:=Ad;refine Am Qb Qb ?_;repeat (any_goals (first|go_big_quiet_step (first|(go_at_call 36;exact Aj.at (Gm _) _ _ _))|quiet_step (first|(go_at_call 36;exact Aj.at (Gm _) _ _ _))))
 refine wpQuiet_nil ?_;clear b;intro w1 a;obtain ⟨k,i⟩:=Ac a;have c:Below w.heap.size w w1:=by
  refine Below.trans ?_ (a.mono ?_)
  ·go_grown
  ·first|omega|go_size
 go_wp2;go_ret;exact ⟨Bc j.o,Qg⟩
end Go.Proofs.YtpdphfgpdgadpaaGreat
namespace Go.Proofs.YtpdphfgpdgadpaaGreat.M
open Lib(hid)
def redN (x m:Nat):Nat:=x*m/2^64
theorem Pt (x m:Nat) (a:W64 x) (b:0<m):redN x m<m:=by unfold redN;rw [Nat.div_lt_iff_lt_mul Qd,Nat.mul_comm m];exact Nat.mul_lt_mul_of_pos_right a b
end Go.Proofs.YtpdphfgpdgadpaaGreat.M
namespace Go.Proofs.YtpdphfgpdgadpaaGreat
open Lib(hid)
section
open Go.RowKit Go.Sort
def ics (L:List Int):List Value:=L.map λx => .int .i64 x
theorem Lh (L:List Int):(ics L).length=L.length:=by simp [ics]
theorem Fs (L M:List Int):ics (L++M)=ics L++ics M:=by simp [ics]
theorem Ip (x:Int):ics [x]=[.int .i64 x]:=rfl
theorem Pu (L:List Int) (k:Nat) (h:k<L.length):(ics L)[k]? = some (.int .i64 L[k]):=by simp [ics,h]
theorem Pv (xs:List Value) (k:Nat) (u:Value) (h:k<xs.length):(xs.set k u).take (k+1)=xs.take k++[u]:=by rw [List.take_succ_eq_append_getElem (by rw [List.length_set];exact h),List.take_set_of_le (Qn _)];simp
def IRow (w:World) (p:Option Addr) (L:List Int):Prop:=L=[]\/∃g o,p=some ⟨g,o,none⟩/\g<w.heap.size/\∀j u,(ics L)[j]? = some u->w.cell? ⟨g,o+j,none⟩=some u
theorem IRow.below {w w':World} {p:Option Addr} {L:List Int} (h:IRow w p L) (b:Below w.heap.size w w'):IRow w' p L:=by
 rcases h with h | ⟨g,o,e,a,d⟩
 ·exact .inl h
 ·exact .inr ⟨g,o,e,Qm a b.size,λj u c=>(b.cell (p:=⟨g,o+j,none⟩) a).trans (d j u c)⟩
theorem IRow.of_own {w:World} {B n c:Nat} {e:TypeId} {p:Option Addr} {L:List Int} (h:w.ownsRow B e 1 (.slice p n c) n (ics L)):IRow w p L:=by
 by_cases a:L=[]
 ·exact .inl a
 ·have i:=λg f=>h.cells (g:=g) f;have d:=h.lt;rcases h.2 with ⟨e,k⟩ | ⟨g,cap,m,e,-,-,-,-,-,-⟩
  ·have:=h.1;rw [Lh,k] at this;exact absurd (List.length_eq_zero_iff.1 Qa) a
  ·injection e with l q o;subst l;refine .inr ⟨g,0,rfl,(d g rfl).2,λj u b => ?_⟩;have:=i g rfl j u b;rw [Nat.zero_add]
   rwa [show (⟨g,0,none⟩:Addr).add j=⟨g,j,none⟩ by unfold Addr.add;split<;>simp_all] at this
theorem IRow.at {w:World} {p:Option Addr} {L:List Int} (h:IRow w p L) {k:Nat} (a:k<L.length):∃g o,p=some ⟨g,o,none⟩/\g<w.heap.size/\w.cell? ⟨g,o+k,none⟩=some (.int .i64 L[k]):=by
 rcases h with h | ⟨g,o,e,b,c⟩
 ·rw [h] at a;simp at a
 ·exact ⟨g,o,e,b,c k _ (Pu L k a)⟩
def Pw (f:FuncId) (args:Array Value) (L:List Int):Prop:=∀w,Calls prog f args w λe w'=>∃p c,e = .returned (.slice p L.length c)/\w'.ownsRow w.heap.size 3 1 (.slice p L.length c) L.length (ics L)/\Below w.heap.size w w'
theorem E2:(prog.info? 3).map (λi=>(i.zero,i.size,i.bytes))=some (some (.int .i64 0),1,8):=Qb
theorem Ft {w:World} {g:Nat} {v:Value} (h:w.cell? ⟨g,0,none⟩=some v):∀j u,[v][j]? = some u->w.cell? ((⟨g,0,none⟩:Addr).add j)=some u:=by
 intro j u a
 match j,a with
 | 0,a=>simp only [List.getElem?_cons_zero,Option.some.injEq] at a;subst a;simpa [Addr.add] using h
end
section
open Go.RowKit Go.Sort M
def redI (x:Nat) (m:Int):Int:=if m<1 then 0 else (redN x m.toNat:Nat)
theorem Zxo {x:Nat} {m:Int} (h:m<1):redI x m=0:=if_pos h
theorem Px (x m:Nat) (h:0<m):redI x (m:Int)=(redN x m:Nat):=by unfold redI;rw [if_neg Qa,Int.toNat_natCast]
theorem Py (x:Nat) (m:Int):0<=redI x m:=by unfold redI;split<;>omega
theorem Pz {x:Nat} {m:Int} (a:W64 x) (h:1<=m):redI x m<m:=by obtain ⟨k,rfl⟩:=Qv (show 0<=m by omega);rw [Px x k Qa];have:=Pt x k a Qa;omega
def Di (h i:Nat) (m:Int):Int:=redI (mixN (h ^^^ i)) m
end
section
open M
def b1 (s:Nat) (k:Ky) (n:Nat):Nat:=(Di (Be s k.h k.l (Av k.n)) 1 n).toNat
def b2 (s:Nat) (k:Ky) (n:Nat):Nat:=(Di (Be s k.h k.l (Av k.n)) 2 n).toNat
theorem Iq (h i n:Nat) (a:1<=n):∃j:Nat,Di h i n=(j:Int)/\j<n:=by have c:=Py (mixN (h ^^^ i)) (n:Int);have b:=Pz (x:=mixN (h ^^^ i)) (m:=(n:Int)) (Ca _) Qa;exact ⟨(Di h i n).toNat,by unfold Di;omega,by unfold Di;omega⟩
theorem P0 {s n:Nat} {k:Ky} (a:1<=n):b1 s k n<n:=by obtain ⟨j,h,b⟩:=Iq (Be s k.h k.l (Av k.n)) 1 n a;unfold b1;rw [h];simpa using b
theorem P1 {s n:Nat} {k:Ky} (a:1<=n):b2 s k n<n:=by obtain ⟨j,h,b⟩:=Iq (Be s k.h k.l (Av k.n)) 2 n a;unfold b2;rw [h];simpa using b
theorem Z8u {s n:Nat} {k:Ky} (a:1<=n):Di (Be s k.h k.l (Av k.n)) 1 n=(b1 s k n:Int):=by obtain ⟨j,h,b⟩:=Iq (Be s k.h k.l (Av k.n)) 1 n a;unfold b1;rw [h];simp
theorem Z8s {s n:Nat} {k:Ky} (a:1<=n):Di (Be s k.h k.l (Av k.n)) 2 n=(b2 s k n:Int):=by obtain ⟨j,h,b⟩:=Iq (Be s k.h k.l (Av k.n)) 2 n a;unfold b2;rw [h];simp
structure Tab where
 s:Nat
 B:List (List Pl)
 st:List Rt
def Tab.x1 (T:Tab) (k:Ky):Nat:=b1 T.s k T.B.length
def Tab.x2 (T:Tab) (k:Ky):Nat:=b2 T.s k T.B.length
def Tab.other (T:Tab) (k:Ky) (b:Nat):Nat:=if b=T.x1 k then T.x2 k else T.x1 k
def Tab.bk (T:Tab) (i:Nat):List Pl:=T.B.getD i []
def Tab.set (T:Tab) (i:Nat) (C:List Pl):Tab:={ T with B:=T.B.set i C }
def An (a b:Ky):Bool:=A5 a.h a.l a.n b.h b.l b.n
def Ak:List Rt->Rt->List Rt
 | [],r=>[r]
 | a::l,r=>if An a.k r.k then a::Ak l r else if a.k=r.k then r::l else r::a::l
def outS (l:List Rt) (k:Ky):List Rt:=l.filter λr=>decide (r.k≠k)
def Al (l:List Rt) (k:Ky):Option Nat:=l.findIdx? λr=>decide (r.k=k)
def Ab (T:Tab):List Rt:=T.B.flatMap allC++T.st
def kOut (T:Tab) (b i:Nat) (r:Rt):Rt:=((Bo (T.bk b) ((i%4:Nat):Int) r.k r.v).map Prod.fst).getD ⟨⟨0,0,0⟩,0⟩
def kTab (T:Tab) (b i:Nat) (r:Rt):Tab:=T.set b (((Bo (T.bk b) ((i%4:Nat):Int) r.k r.v).map Prod.snd).getD (T.bk b))
def kNew (T:Tab) (b i:Nat) (r:Rt):Nat:=(kTab T b i r).other (kOut T b i r).k b
def Ba:Nat->Nat->Tab->Nat->Rt->Tab×Option Rt
 | 0,_,T,_,r=>(T,some r)
 | f+1,i,T,b,r=>
  match putC ((kTab T b i r).bk (kNew T b i r)) (kOut T b i r).k (kOut T b i r).v with
  | some C=>((kTab T b i r).set (kNew T b i r) C,none)
  | none=>Ba f (i+1) (kTab T b i r) (kNew T b i r) (kOut T b i r)
def Cx (T:Tab) (r:Rt):Tab×Option Rt:=
 if (getC (T.bk (T.x1 r.k)) r.k).isSome then (T.set (T.x1 r.k) ((putC (T.bk (T.x1 r.k)) r.k r.v).getD (T.bk (T.x1 r.k))),none)
 else if (getC (T.bk (T.x2 r.k)) r.k).isSome then (T.set (T.x2 r.k) ((putC (T.bk (T.x2 r.k)) r.k r.v).getD (T.bk (T.x2 r.k))),none)
 else if (Al T.st r.k).isSome then ({ T with st:=Ak T.st r },none)
 else
  match putC (T.bk (T.x1 r.k)) r.k r.v with
  | some C=>(T.set (T.x1 r.k) C,none)
  | none=>
   match putC (T.bk (T.x2 r.k)) r.k r.v with
   | some C=>(T.set (T.x2 r.k) C,none)
   | none=>Ba 16 0 T (T.x2 r.k) r
def stay (T:Tab) (r:Rt):Tab×Bool:=
 match (Cx T r).2 with
 | none=>((Cx T r).1,false)
 | some q=>({ (Cx T r).1 with st:=Ak (Cx T r).1.st q },true)
def A2 (s n:Nat):Tab:=⟨s,List.replicate n [none,none,none,none],[]⟩
def grows (p:Tab×Bool):Bool:=p.2&&(decide (8<p.1.st.length)&&decide (p.1.B.length<65536))
def grown (T:Tab):Tab:=A2 (mixN T.s) (min (2*T.B.length) 65536)
def putF:Nat->Tab->Rt->Tab
 | 0,T,r=>(stay T r).1
 | d+1,T,r=>if grows (stay T r) then (Ab (stay T r).1).foldl (putF d) (grown (stay T r).1) else (stay T r).1
def getT (T:Tab) (k:Ky):Option Int:=
 match getC (T.bk (T.x1 k)) k with
 | some v=>some v
 | none=>
  match getC (T.bk (T.x2 k)) k with
  | some v=>some v
  | none=>(T.st.find? λr=>decide (r.k=k)).map Rt.v
def Dj (T:Tab) (k:Ky):List Int:=if (getC (T.bk (T.x1 k)) k).isSome then [(T.x1 k:Int)] else [(T.x1 k:Int),(T.x2 k:Int)]
def delT (T:Tab) (k:Ky):Tab×Bool:=
 match takeC (T.bk (T.x1 k)) k with
 | some C=>(T.set (T.x1 k) C,true)
 | none=>
  match takeC (T.bk (T.x2 k)) k with
  | some C=>(T.set (T.x2 k) C,true)
  | none=>({ T with st:=outS T.st k },decide ((outS T.st k).length<T.st.length))
def Af (l:List Rt):List Rt:=l.foldl Ak []
def allT (T:Tab):List Rt:=Af (Ab T)
def Aa (L:List Rt):List Ky:=L.map Rt.k
theorem Cy {L M:List Rt} (h:L.Perm M):(Aa L).Perm (Aa M):=h.map _
theorem Ir (x:Pl) (C:List Pl):allC (x::C)=x.toList++allC C:=by cases x<;>rfl
theorem set_perm:∀(C:List Pl) (i:Nat) (hi:i<C.length) (x:Pl),(C[i].toList++allC (C.set i x)).Perm (x.toList++allC C)
 | y::C,0,_,x=>by show (y.toList++allC (x::C)).Perm (x.toList++allC (y::C));rw [Ir,Ir];exact List.perm_append_comm_assoc _ _ _
 | y::C,i+1,hi,x=>by
  have b:=set_perm C i (by simpa using hi) x;show ((C[i]'(by simpa using hi)).toList++allC (y::C.set i x)).Perm (x.toList++allC (y::C));rw [Ir,Ir,List.perm_iff_count];intro a;have:=b.count_eq a;simp only [List.count_append] at *
  omega
theorem P2:∀(B:List (List Pl)) (i:Nat) (hi:i<B.length) (C:List Pl),(allC B[i]++(B.set i C).flatMap allC).Perm (allC C++B.flatMap allC)
 | D::B,0,_,C=>by show (allC D++(C::B).flatMap allC).Perm (allC C++(D::B).flatMap allC);rw [List.flatMap_cons,List.flatMap_cons];exact List.perm_append_comm_assoc _ _ _
 | D::B,i+1,hi,C=>by
  have b:=P2 B i (by simpa using hi) C;show (allC (B[i]'(by simpa using hi))++(D::B.set i C).flatMap allC).Perm (allC C++(D::B).flatMap allC);rw [List.flatMap_cons,List.flatMap_cons,List.perm_iff_count];intro a;have:=b.count_eq a;simp only [List.count_append] at *
  omega
theorem E3 (T:Tab) (i:Nat) (hi:i<T.B.length):T.bk i=T.B[i]:=by unfold Tab.bk;rw [List.getD_eq_getElem?_getD,Qr hi];rfl
theorem Gp (T:Tab) (i:Nat) (hi:i<T.B.length) (j:Nat) (c:j<(T.bk i).length) (x:Pl):((T.bk i)[j].toList++Ab (T.set i ((T.bk i).set j x))).Perm (x.toList++Ab T):=by
 have b:=P2 T.B i hi ((T.bk i).set j x);have d:=set_perm (T.bk i) j c x;rw [<-E3 T i hi] at b;rw [List.perm_iff_count];intro a;have f:=b.count_eq a;have e:=d.count_eq a;unfold Ab Tab.set;simp only [List.count_append] at *
 omega
theorem E4:∀{L:List Rt} {r:Rt},(Aa L).Nodup->r∈L->L.Perm (r::outS L r.k)
 | a::L,r,d,b=>by
  unfold Aa at d;rw [List.map_cons,List.nodup_cons] at d;have c:∀q∈L,q.k≠a.k:=λq f e=>d.1 (e▸List.mem_map_of_mem f);rw [List.mem_cons] at b;rcases b with rfl | b
  ·have:outS (r::L) r.k=L:=by unfold outS;rw [List.filter_cons_of_neg Qf,List.filter_eq_self.2 (λq f=>by simpa using c q f)]
   rw [this]
  ·have h:a.k≠r.k:=λe=>c r b e.symm;have:outS (a::L) r.k=a::outS L r.k:=by unfold outS;rw [List.filter_cons_of_pos (by simpa using h)]
   rw [this];exact ((E4 d.2 b).cons a).trans (List.Perm.swap _ _ _)
theorem It {L M:List Rt} (h:L.Perm M) (k:Ky):(outS L k).Perm (outS M k):=h.filter _
theorem Cz {L:List Rt} {k:Ky} (h:k∉Aa L):outS L k=L:=by unfold outS;refine List.filter_eq_self.2 λq a => ?_;simp only [decide_eq_true_eq];intro e;exact h (List.mem_map.2 ⟨q,a,e⟩)
theorem A6 {L:List Rt} {k:Ky} {q:Rt}:q∈outS L k↔q∈L/\q.k≠k:=by simp [outS]
theorem Db {L:List Rt} {q:Rt} (h:q∈L):q.k∈Aa L:=List.mem_map_of_mem h
theorem Bf (a:Ky):An a a=false:=Zw _ _ _
theorem D4 {a b c:Ky} (h:An a b=true) (g:An b c=true):An a c=true:=Zy _ _ _ _ _ _ _ _ _ h g
theorem Fu {a b:Ky} (h:a≠b):An b a = !An a b:=Zx _ _ _ _ _ _ (λ⟨e,d,c⟩=>h (by cases a;cases b;simp_all))
def Sorted (L:List Rt):Prop:=L.Pairwise λa b=>An a.k b.k=true
theorem Sorted.nodup {L:List Rt} (h:Sorted L):(Aa L).Nodup:=by unfold Aa List.Nodup;rw [List.pairwise_map];refine List.Pairwise.imp (λ{a b} c e => ?_) h;rw [e,Bf] at c;cases c
theorem Cl:∀{L:List Rt} (r:Rt),Sorted L->(Ak L r).Perm (r::outS L r.k)
 | [],r,_=>by simp [Ak,outS]
 | a::L,r,h=>by
  have i:=List.pairwise_cons.1 h;unfold Ak;split
  ·rename_i c;have j:a.k≠r.k:=λe=>by rw [e,Bf] at c;cases c
   have:outS (a::L) r.k=a::outS L r.k:=by unfold outS;rw [List.filter_cons_of_pos (by simpa using j)]
   rw [this];exact ((Cl r i.2).cons a).trans (List.Perm.swap _ _ _)
  ·rename_i c;split
   ·rename_i d;have:outS (a::L) r.k=L:=by unfold outS;rw [List.filter_cons_of_neg (by simp [d])];refine List.filter_eq_self.2 λq b => ?_;simp only [decide_eq_true_eq];intro e;have:=i.1 q b;rw [e,d,Bf] at this;cases this
    rw [this]
   ·rename_i d;rw [Cz];intro f;unfold Aa at f;rw [List.mem_map] at f;obtain ⟨q,b,e⟩:=f;rw [List.mem_cons] at b;rcases b with rfl | b
    ·exact d e
    ·have:=i.1 q b;rw [e] at this;exact c this
theorem Li {L:List Rt} {r q:Rt} (h:Sorted L) (a:q∈Ak L r):q=r\/q∈L:=by have:=(Cl r h).mem_iff.1 a;rw [List.mem_cons] at this;exact this.imp id (λh=>(A6.1 h).1)
theorem Cb:∀{L:List Rt} (r:Rt),Sorted L->Sorted (Ak L r)
 | [],r,_=>by simp [Ak,Sorted]
 | a::L,r,h=>by
  have c:=List.pairwise_cons.1 h;unfold Ak;split
  ·rename_i d;refine List.pairwise_cons.2 ⟨λq b => ?_,Cb r c.2⟩;rcases Li c.2 b with rfl | b
   ·exact d
   ·exact c.1 q b
  ·rename_i d;split
   ·rename_i e;exact List.pairwise_cons.2 ⟨λq b=>by rw [<-e];exact c.1 q b,c.2⟩
   ·rename_i e;have f:An r.k a.k=true:=by rw [Fu e];simpa using d
    refine List.pairwise_cons.2 ⟨λq b => ?_,h⟩;rw [List.mem_cons] at b;rcases b with rfl | b
    ·exact f
    ·exact D4 f (c.1 q b)
theorem Cm {L:List Rt} (k:Ky) (h:Sorted L):Sorted (outS L k):=List.Pairwise.filter _ h
theorem Iu:∀{L M:List Rt},Sorted L->Sorted M->L.Perm M->L=M
 | [],M,_,_,h=>by rw [List.nil_perm.1 h]
 | a::L,[],_,_,h=>absurd h.length_eq Qf
 | a::L,b::M,k,j,h=>by
  have i:=List.pairwise_cons.1 k;have f:=List.pairwise_cons.1 j;have e:a=b:=by
   have d:a∈b::M:=h.mem_iff.1 Qf;have c:b∈a::L:=h.mem_iff.2 Qf;rw [List.mem_cons] at d c;rcases d with rfl | d
   ·rfl
   ·rcases c with e | c
    ·exact e.symm
    ·have:=D4 (i.1 b c) (f.1 a d);rw [Bf] at this;cases this
  subst e;rw [Iu i.2 f.2 ((List.perm_cons a).1 h)]
end
end Go.Proofs.YtpdphfgpdgadpaaGreat
