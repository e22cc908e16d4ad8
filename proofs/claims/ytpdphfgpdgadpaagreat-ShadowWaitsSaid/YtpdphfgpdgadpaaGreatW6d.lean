import Derived.Test.YtpdphfgpdgadpaaGreatReg6
import Derived.Shelf.Bits.Mul64
import Derived.Shelf.Small.Bits
set_option linter.unusedSimpArgs false
set_option linter.unusedVariables false
set_option maxHeartbeats 1000000
set_option maxRecDepth 100000
open Go.Proofs.Tryz
namespace Go.Proofs.YtpdphfgpdgadpaaGreat
open Lib(hid)
open Go Go.RowKit Go.Sort
section
variable {P:Program} {ops:Array Oper} {Q:Exit->Act->World->Prop} {S:World->Prop} {pre:Nat->Bool}
def Jz (P:Program) (ops:Array Oper) (Q:Exit->Act->World->Prop) (S:World->Prop) (b:List Nat):List Nat->Act->World->Prop
 | [],a,w'=>wpList P ops Q (Ag ops b) a w'
 | x::xs,a,w'=>∀K:Act->World->Prop,(∀c w3,S w3->Jz P ops Q S b xs c w3->K c w3)->Dp P ops Q x K a w'
theorem U6 (b:List Nat) (c:∀i∈b,pre i=false):∀(xs:List Nat) (listed:Array Bool) (a:Act) (w':World),Jr ops b xs listed=true->Jz P ops Q S b xs a w'->anyP P .any ops Q S pre (xs.length+b.length) listed a w'
 | [],listed,a,w',d,h=>by rw [List.length_nil,Nat.zero_add];exact F6 b listed a w' c d h
 | x::xs,listed,a,w',d,h=>by
  simp only [Jr,Qq,decide_eq_true_eq] at d;obtain ⟨⟨r0,k⟩,l⟩:=d;rw [Qt,show xs.length+1+b.length=(xs.length+b.length)+1 by omega];refine ⟨λj=>(by rw [r0] at j;cases j),λi hi => ?_⟩;rw [r0] at hi;have e:i=x:=by simpa using hi
  subst e;exact (h _ (λn w3 f m=>⟨λ_ _=>f,U6 b c xs _ n w3 l m⟩)).wpOp k
theorem Z0r {a:Act} {w:World} {l:List Oper} (S:World->Prop) (n m xs b:List Nat) (C:∀c a w,Q (.panic c) a w->False) (d:Region.noSelect l.toArray=true) (o:rowB l.toArray n m xs b=true)
 (B:S w.drew)
 (h:wpQuiet P l.toArray (λ_=>True) (λx=>wpQuiet P l.toArray S (λu=>Jz P l.toArray Q S b xs u w.drew) (Ag l.toArray m) x) (Ag l.toArray n) a) :
 wpAny P .any l.toArray Q l.toArray.size (Array.replicate l.toArray.size false) a { w with drawn:=w.drawn+1 }:=by
 generalize l.toArray=ops at *
 simp only [rowB,Qq,decide_eq_true_eq] at o;obtain ⟨p,o⟩:=o;have k:HeadInv .any ops ops.size (Array.replicate ops.size false):=
  ⟨Qf,λj I _ z=>(by rw [getD_replicate_false] at z;cases z),λt D s=>absurd s Qa⟩
 have e:∀i∈b,(!b.contains i)=false:=λi hi=>by simp [hi]
 refine F5 (S:=S) (pre:=λj => !b.contains j) _ _ _ _ ?_;suffices A:anyP P .any ops Q S (λj => !b.contains j) (n.length+(m.length+(xs.length+b.length))) (Array.replicate ops.size false) a w.drew by rw [<-p] at A;exact A
 refine D7 (T:=λ_=>True) d C (λ_ _=>trivial) (λ_ _ => .inr (λ_=>trivial)) B (λF x r f D => ?_) n _ a o k h;refine D7 (T:=S) d C (λ_ h=>h) (λi hi => .inl hi) B (λE u q y s => ?_) m F x r f D;exact U6 b e xs E u _ q s
theorem U7 {i:Nat} {a:Act} {w:World} {l:List Oper} (S:World->Prop) (f e xs d:List Nat) (j:P.follows .mixedOrders=true) (m:∀c a w,Q (.panic c) a w->False) (b:Region.noSelect l.toArray=true) (n:rowB l.toArray f e xs d=true)
 (k:S w.drew)
 (h:wpQuiet P l.toArray (λ_=>True) (λp=>wpQuiet P l.toArray S (λo=>Jz P l.toArray Q S d xs o w.drew) (Ag l.toArray e) p) (Ag l.toArray f) a) :
 (Code.region i l.toArray true).wp P Q a w:=
 wp_region_any j (Z0r S f e xs d m b n k h)
theorem J0 {C:World->Prop} {Q:Act->Prop} {a:Act} {o:Oper} {rest:List Oper} (v:Value) (c:Region.wanted o (yielded ops a.tmps)=true) (h:∀w,C w->(execOp a.eval o).run P w = .ok (.value v) w) (d:wpQuiet P ops C Q rest (a.put o.dst v)):wpQuiet P ops C Q (o::rest) a:=by unfold wpQuiet;rw [if_pos c];refine ⟨v,λw b => ?_,d⟩;unfold Oper.quietAt;rw [h w b];exact ⟨rfl,rfl⟩
end
end Go.Proofs.YtpdphfgpdgadpaaGreat
namespace Go.Proofs
open YtpdphfgpdgadpaaGreat(Qa Qb Qc Qd Qe Qf Qg Qj Qk Ql Qm Qn Qq Qr Qt Qv)
open Go.Shelf Go.RowKit
def Tryz.lays264_ren:Go.Shelf.Ren:=⟨λ| 264=>165 | n=>n,λ| 53=>24 | 46=>28 | n=>n,λ| n=>n⟩
theorem Tryz.lays264:Go.Proofs.Lays.n264 prog Tryz.lays264_ren:={
 mixed:=Qb
 f264:=func165.trans (congrArg some Qb)
 t46:=underlying28
 a46:=Tryz.isAgg28
 z46:=Tryz.sizeOf28
 v46:=Tryz.zeroValue28
 t53:=underlying24
 a53:=Tryz.isAgg24
 z53:=Tryz.sizeOf24
 v53:=Tryz.zeroValue24 }
open Go.RowKit Go.Lib in
theorem Tryz.bits_Mul64 (x y:Nat) (b:x<18446744073709551616) (a:y<18446744073709551616) (w:World) :
 Calls prog 165 #[.int .u64 x,.int .u64 y] w λe w'=>e = .returned (.tuple #[.int .u64 ((x*y/18446744073709551616:Nat):Int),.int .u64 ((x*y%18446744073709551616:Nat):Int)])/\w'=w:=Any.bits_Mul64 Tryz.lays264 x y b a w
def Tryz.lays134_ren:Go.Shelf.Ren:=⟨λ| 134=>130 | 129=>150 | n=>n,λ| 53=>24 | 3=>3 | 4=>4 | 46=>28 | 5=>5 | 9=>9 | n=>n,λ| n=>n⟩
theorem Tryz.lays134:Go.Proofs.Lays.n134 prog Tryz.lays134_ren:={
 mixed:=Qb
 f129:=func150.trans (congrArg some Qb)
 f134:=func130.trans (congrArg some Qb)
 t3:=underlying3
 a3:=Tryz.isAgg3
 z3:=Tryz.sizeOf3
 v3:=Tryz.zeroValue3
 t4:=underlying4
 a4:=Tryz.isAgg4
 z4:=Tryz.sizeOf4
 v4:=Tryz.zeroValue4
 t5:=underlying5
 a5:=Tryz.isAgg5
 z5:=Tryz.sizeOf5
 v5:=Tryz.zeroValue5
 t9:=underlying9
 a9:=Tryz.isAgg9
 z9:=Tryz.sizeOf9
 v9:=Tryz.zeroValue9
 t46:=underlying28
 a46:=Tryz.isAgg28
 z46:=Tryz.sizeOf28
 v46:=Tryz.zeroValue28
 t53:=underlying24
 a53:=Tryz.isAgg24
 z53:=Tryz.sizeOf24
 v53:=Tryz.zeroValue24 }
theorem Tryz.bits_LeadingZeros64 (x:Int) (w:World) (b:0<=x) (a:x<=18446744073709551615) :
 Calls prog 130 #[.int .u64 x] w λe w'=>e = .returned (.int .i64 (64-(Lib.bitLen x.toNat:Int)))/\w'=w:=Any.bits_LeadingZeros64 Tryz.lays134 x w b a
end Go.Proofs
namespace Go.Proofs.YtpdphfgpdgadpaaGreat
open Lib(hid)
open Go.RowKit Go.Sort M
theorem Z3k (a b c d:Nat) (w:World):(binOp .eql 30 (.agg #[.int .u64 a,.int .u64 b]) (.agg #[.int .u64 c,.int .u64 d])).run prog w = .ok (.bool (decide (a=c)&&decide (b=d))) w:=by
 have i:decide (a=c)=decide ((a:Int)=c):=by rw [decide_eq_decide];omega
 have h:decide (b=d)=decide ((b:Int)=d):=by rw [decide_eq_decide];omega
 rw [i,h];by_cases f:(a:Int)=c<;>by_cases e:(b:Int)=d<;>simp [go_sem,f,e]
theorem U8 (hi lo:Nat) (n:Int) (ha:W64 hi) (i:W64 lo) :
 Aj prog 54 #[.agg #[.int .u64 hi,.int .u64 lo,.int .i64 n]] (.bool (Ap hi lo n)):=by
 intro w;have k:=Z3k;by_cases h:0<=n
 ·have j:decide (0<=n)=true:=by simpa using h
  by_cases f:n<=128
  ·have d1:decide (n<=128)=true:=by simpa using f
   go_enter func54,ntmps54;go_wp2_with fail;have b:=Ad;refine Am Qb Qb ?_;repeat (any_goals (first|go_big_quiet_step ((go_at_call 78;exact Aj.at (Pk hi lo n ha i) _ _ _))|quiet_step ((go_at_call 78;exact Aj.at (Pk hi lo n ha i) _ _ _))))
   refine wpQuiet_nil ?_;clear b;intro w1 a;obtain ⟨e,d⟩:=Ac a;have c:Below w.heap.size w w1:=by
    refine Below.trans ?_ (a.mono ?_)
    ·go_grown
    ·first|omega|go_size
   go_wp2;go_ret;refine ⟨Au ?_,Qg⟩;simp [Ap,h,f]
  ·have d1:decide (n<=128)=false:=by simpa using f
   go_enter func54,ntmps54;go_wp2_with fail;have b:=Ad;refine Am Qb Qb ?_;repeat (any_goals (first|go_big_quiet_step (fail)|quiet_step (fail)))
   refine wpQuiet_nil ?_;clear b;intro w1 a;obtain ⟨e,d⟩:=Ac a;have c:Below w.heap.size w w1:=by
    refine Below.trans ?_ (a.mono ?_)
    ·go_grown
    ·first|omega|go_size
   go_wp2;go_ret;refine ⟨Au ?_,Qg⟩;unfold Ap;rw [eq_comm,decide_eq_false_iff_not];omega
 ·have j:decide (0<=n)=false:=by simpa using h
  go_enter func54,ntmps54;go_wp2_with fail;have b:=Ad;refine Am Qb Qb ?_;repeat (any_goals (first|go_big_quiet_step (fail)|quiet_step (fail)))
  refine wpQuiet_nil ?_;clear b;intro w1 a;obtain ⟨e,d⟩:=Ac a;have c:Below w.heap.size w w1:=by
   refine Below.trans ?_ (a.mono ?_)
   ·go_grown
   ·first|omega|go_size
  go_wp2;go_ret;refine ⟨Au ?_,Qg⟩;unfold Ap;rw [eq_comm,decide_eq_false_iff_not];omega
theorem Hq (d b:Nat) (f:Int) (c a:Nat) (n2:Int) :
 Aj prog 28 #[.agg #[.int .u64 d,.int .u64 b,.int .i64 f],.agg #[.int .u64 c,.int .u64 a,.int .i64 n2]] (.bool (A5 d b f c a n2)):=by
 intro w;by_cases e:d=c
 ·by_cases h:b=a
  ·subst e h;go_enter func28,ntmps28;go_wp2;go_ret;refine ⟨Au ?_,Qg⟩;simp [A5]
  ·subst e;go_enter func28,ntmps28;go_wp2;go_ret;refine ⟨Au ?_,Qg⟩;simp [A5,h]
 ·go_enter func28,ntmps28;go_wp2;go_ret;refine ⟨Au ?_,Qg⟩;simp [A5,e]
theorem Zv7 (b d a c:Nat) (ha:W64 b) (j:W64 d) (i:W64 a) (hd:W64 c) :
 Aj prog 104 #[.agg #[.int .u64 b,.int .u64 d],.agg #[.int .u64 a,.int .u64 c]] (.int .i64 (Bi b d a c)):=by
 intro w;have n:b ^^^ a<2^64:=Nat.xor_lt_two_pow ha i;have m:d ^^^ c<2^64:=Nat.xor_lt_two_pow j hd;have b1:=bitLen_le (b ^^^ a);have b2:=bitLen_le (d ^^^ c);have x1:bits .xor .u64 (b:Int) (a:Int)=((b ^^^ a:Nat):Int):=bits_xor_u64_nat _ _ ha.lt i.lt;have x2:bits .xor .u64 (d:Int) (c:Int)=((d ^^^ c:Nat):Int):=bits_xor_u64_nat _ _ j.lt hd.lt;have l:∀w,Calls prog 130 #[.int .u64 ((b ^^^ a:Nat):Int)] w λe w'=>e = .returned (.int .i64 (64-(Lib.bitLen (b ^^^ a):Int)))/\w=w':=λw=>
  (Tryz.bits_LeadingZeros64 _ w Qa Qa).mono λe w' ⟨h,f⟩=>⟨by rw [h,Int.toNat_natCast],f.symm⟩
 have c2:∀w,Calls prog 130 #[.int .u64 ((d ^^^ c:Nat):Int)] w λe w'=>e = .returned (.int .i64 (64-(Lib.bitLen (d ^^^ c):Int)))/\w=w':=λw=>
  (Tryz.bits_LeadingZeros64 _ w Qa Qa).mono λe w' ⟨h,f⟩=>⟨by rw [h,Int.toNat_natCast],f.symm⟩
 have p:=hid l;have o:=hid c2;clear n m l c2;by_cases k:b=a
 ·subst k;go_enter func104,ntmps104;go_wp2_with (go_at_call 130;refine (o.o _).mono ?_;rintro e w' ⟨rfl,rfl⟩);go_ret;refine ⟨Bc ?_,Qg⟩;simp [Bi];omega
 ·go_enter func104,ntmps104;go_wp2_with (go_at_call 130;refine (p.o _).mono ?_;rintro e w' ⟨rfl,rfl⟩);go_ret;refine ⟨Bc ?_,Qg⟩;simp [Bi,k];omega
theorem Z05 (x:Nat):IntKind.u64.wrap (x:Int)=((x%2^64:Nat):Int):=by rw [IntKind.wrap_u64];omega
theorem U9 (x:Nat) (i:Int) (j:Nat) (h:i.toNat=j):IntKind.u64.wrap ((x:Int)*2^i.toNat)=((x*2^j%2^64:Nat):Int):=by
 have e:((x:Int)*2^i.toNat)=((x*2^j:Nat):Int):=by rw [h,Int.natCast_mul,Int.natCast_pow];rfl
 rw [e,Z05]
theorem Z5f (x:Nat) (i:Int) (j:Nat) (h:i.toNat=j):((x:Int)/2^i.toNat)=((x/2^j:Nat):Int):=by rw [h,Int.natCast_ediv,Int.natCast_pow];rfl
theorem Zxs (x:Nat) (k:Nat) (e:k<=128) :
 Aj prog 152 #[.int .u64 (x:Int),.int .i64 (k:Int)] (.agg #[.int .u64 (Dg x k:Nat),.int .u64 (Dh x k:Nat)]):=by
 intro w;obtain ⟨i,hi⟩:∃i:Int,i=k:=⟨_,rfl⟩;have d:=hid hi;rw [<-hi];have j:0<=i:=Qa;have h:i<=128:=Qa;clear hi;by_cases f:64<=i
 ·go_enter func152,ntmps152;go_wp2;refine bodyPost_ret (by simp [results,Tryz.results152,go_sem];try rfl) rfl ?_;have a:=d.o;have c:Dg x k=x*2^(k-64)%2^64:=if_pos Qa;have b:Dh x k=0:=if_pos Qa;exact ⟨by rw [U9 x (i-64) (k-64) Qa,c,b];rfl,Qg⟩
 ·go_enter func152,ntmps152;go_wp2;go_region;all_goals go_wp2
  all_goals
   refine bodyPost_ret (by simp [results,Tryz.results152,go_sem];try rfl) rfl ?_;have a:=d.o;have c:Dg x k=x/2^(64-k):=if_neg Qa;have b:Dh x k=x*2^k%2^64:=if_neg Qa;exact ⟨by rw [U9 x i k Qa,Z5f x (64-i) (64-k) Qa,c,b],Qg⟩
def cntN (h l:Nat) (n m:Int):Nat:=if Ap h l n=true/\n<=m/\m<=128/\m-n<=8 then 2^(m-n).toNat else 0
theorem Hr {h l:Nat} {n m:Int} (a:¬(Ap h l n=true/\n<=m/\m<=128/\m-n<=8)):cntN h l n m=0:=if_neg a
theorem Va {h l:Nat} {n m:Int} (a:Ap h l n=true/\n<=m/\m<=128/\m-n<=8):cntN h l n m=2^(m-n).toNat:=if_pos a
theorem Nm (h l:Nat) (n m:Int):cntN h l n m<=256:=by
 unfold cntN;split
 ·rename_i a;exact Nat.pow_le_pow_right Qd (by omega:(m-n).toNat<=8)
 ·omega
theorem Z7q (d:Nat) (h:9<=d):((256:Int)/2^d)=0:=by
 have:(256:Nat)/2^d=0:=Nat.div_eq_of_lt (Qm (by decide:256<2^9) (Nat.pow_le_pow_right Qd h));have e:((256:Int)/2^d)=((256/2^d:Nat):Int):=by rw [Int.natCast_ediv,Int.natCast_pow];rfl
 rw [e,this];rfl
theorem Zw8 (d:Nat) (h:d<=8):((256:Int)/2^d == 0)=false:=by rcases (show d=0\/d=1\/d=2\/d=3\/d=4\/d=5\/d=6\/d=7\/d=8 by omega) with rfl | rfl | rfl | rfl | rfl | rfl | rfl | rfl | rfl<;>rfl
theorem Zw9 (d:Nat) (h:d<=8):wrap64 (2^d)=((2^d:Nat):Int):=by rcases (show d=0\/d=1\/d=2\/d=3\/d=4\/d=5\/d=6\/d=7\/d=8 by omega) with rfl | rfl | rfl | rfl | rfl | rfl | rfl | rfl | rfl<;>(unfold wrap64;decide +kernel)
theorem Z0h (hi lo:Nat) (n m:Int) (ha:W64 hi) (j:W64 lo) :
 Aj prog 151 #[.agg #[.int .u64 hi,.int .u64 lo,.int .i64 n],.int .i64 m] (.int .i64 (cntN hi lo n m:Nat)):=by
 intro w;have f:=U8 hi lo n ha j;have d:=Cv hi lo n j;cases e:Ap hi lo n
 ·rw [e] at f;rw [Hr (by simp [e])];have h:=hid f;clear f d e;go_enter func151,ntmps151;go_wp2_with fail;refine (h.o _).mono ?_;rintro i b ⟨rfl,a⟩;have c:Below w.heap.size w b:=by
   refine Below.trans ?_ (a.mono ?_)
   ·go_grown
   ·go_size
  have c2:b.cell? ⟨w.heap.size,2,none⟩=some (.int .i64 n):=by rw [a.cell Qc];exact Ql
  go_wp2;all_goals
   go_ret;exact ⟨rfl,Qg⟩
 ·rw [e] at f d;have h:=hid f;obtain ⟨r,q,-⟩:=d.1 rfl;clear f d;by_cases p:n<=m
  ·have d1:decide (m<n)=false:=Qe;by_cases o:m<=128
   ·have d2:decide (128<m)=false:=Qe;by_cases l:m-n<=8
    ·rw [Va ⟨e,p,o,l⟩];clear e;have k:=Zw8 (m-n).toNat Qa;go_enter func151,ntmps151;go_wp2_with fail;refine (h.o _).mono ?_;rintro i b ⟨rfl,a⟩;have c:Below w.heap.size w b:=by
      refine Below.trans ?_ (a.mono ?_)
      ·go_grown
      ·go_size
     have c2:b.cell? ⟨w.heap.size,2,none⟩=some (.int .i64 n):=by rw [a.cell Qc];exact Ql
     go_wp2;go_ret;exact ⟨Bc (Zw9 _ Qa),Qg⟩
    ·rw [Hr Qa];clear e;have k:=Z7q (min (m-n).toNat 64) Qa;go_enter func151,ntmps151;go_wp2_with fail;refine (h.o _).mono ?_;rintro i b ⟨rfl,a⟩;have c:Below w.heap.size w b:=by
      refine Below.trans ?_ (a.mono ?_)
      ·go_grown
      ·go_size
     have c2:b.cell? ⟨w.heap.size,2,none⟩=some (.int .i64 n):=by rw [a.cell Qc];exact Ql
     go_wp2;all_goals
      go_ret;exact ⟨rfl,Qg⟩
   ·rw [Hr Qa];clear e;go_enter func151,ntmps151;go_wp2_with fail;refine (h.o _).mono ?_;rintro i b ⟨rfl,a⟩;have c:Below w.heap.size w b:=by
     refine Below.trans ?_ (a.mono ?_)
     ·go_grown
     ·go_size
    have c2:b.cell? ⟨w.heap.size,2,none⟩=some (.int .i64 n):=by rw [a.cell Qc];exact Ql
    go_wp2;all_goals
     go_ret;exact ⟨rfl,Qg⟩
  ·rw [Hr Qa];clear e;go_enter func151,ntmps151;go_wp2_with fail;refine (h.o _).mono ?_;rintro i b ⟨rfl,a⟩;have c:Below w.heap.size w b:=by
    refine Below.trans ?_ (a.mono ?_)
    ·go_grown
    ·go_size
   have c2:b.cell? ⟨w.heap.size,2,none⟩=some (.int .i64 n):=by rw [a.cell Qc];exact Ql
   go_wp2;all_goals
    go_ret;exact ⟨rfl,Qg⟩
def Bm (h l:Nat) (n m:Int):List Pf:=if Ap h l n=true/\n<=m/\m<=128/\m-n<=8 then pfs (Dz (val h l) n.toNat m.toNat) m else []
theorem Zvu {h l:Nat} {n m:Int} (a:¬(Ap h l n=true/\n<=m/\m<=128/\m-n<=8)):Bm h l n m=[]:=if_neg a
theorem Vb {h l:Nat} {n m:Int} (a:Ap h l n=true/\n<=m/\m<=128/\m-n<=8):Bm h l n m=pfs (Dz (val h l) n.toNat m.toNat) m:=if_pos a
theorem Nn (h l:Nat) (n m:Int) (b:W64 l):(Bm h l n m).length=cntN h l n m:=by
 unfold Bm cntN;by_cases a:Ap h l n=true/\n<=m/\m<=128/\m-n<=8
 ·rw [if_pos a,if_pos a,Pi,Pg];obtain ⟨c,-⟩:=(Cv h l n b).1 a.1;congr 1;omega
 ·rw [if_neg a,if_neg a];rfl
def Z4b (f:FuncId) (args:Array Value) (L:List Pf):Prop:=∀w,Calls prog f args w λe w'=>∃p c,e = .returned (.slice p L.length c)/\w'.ownsRow w.heap.size 32 3 (.slice p L.length c) L.length (pcs L)/\Below w.heap.size w w'
theorem infoP:(prog.info? 32).map (λi=>(i.zero,i.size,i.bytes))=some (some (.agg #[.int .u64 0,.int .u64 0,.int .i64 0]),3,24):=Qb
theorem Z11 (x k:Nat) (h:x<2^64):W64 (Dg x k):=by
 unfold Dg W64;split
 ·exact Nat.mod_lt _ Qd
 ·exact Nat.lt_of_le_of_lt (Nat.div_le_self _ _) h
theorem Z10 (x k:Nat):W64 (Dh x k):=by
 unfold Dh W64;split
 ·decide
 ·exact Nat.mod_lt _ Qd
theorem Vd {h l:Nat} {n m:Int} (c:Ap h l n=true/\n<=m/\m<=128/\m-n<=8) (b:W64 l) (k:Nat) (a:k<(Bm h l n m).length):(Bm h l n m)[k]=⟨val h l+k*2^(128-m.toNat),m⟩:=by
 have e:=Vb c;have:(Bm h l n m)[k]? = some ⟨val h l+k*2^(128-m.toNat),m⟩:=by rw [e];rw [e,Pi,Pg] at a;simp [pfs,Dz,a]
 rw [Qr a] at this;injection this
theorem Ve (hi lo:Nat) (n m:Int) (ha:W64 hi) (s:W64 lo) :
 Z4b 131 #[.agg #[.int .u64 hi,.int .u64 lo,.int .i64 n],.int .i64 m] (Bm hi lo n m):=by
 intro w;have hc:=Z0h hi lo n m ha s;have R:=Nn hi lo n m s;have Q:=Nm hi lo n m;obtain ⟨c,y⟩:=Q' (cntN hi lo n m);rw [<-y] at hc R Q;have a6:=B9 (P:=prog) (t:=188) underlying188 infoP c Qa Qk;have HC:=hid hc;have HL:=hid R;have HN:=hid y;clear hc R y;go_enter func131,ntmps131;go_wp2_with fail;refine (HC.o _).mono ?_;rintro e0 f ⟨rfl,p⟩;have a5:Below w.heap.size w f:=by
  refine Below.trans ?_ (p.mono ?_)
  ·go_grown
  ·go_size
 have B:f.cell? ⟨w.heap.size,0,none⟩=some (.int .u64 hi):=by rw [p.cell Qc];exact Ql
 have A:f.cell? ⟨w.heap.size,1,none⟩=some (.int .u64 lo):=by rw [p.cell Qc];exact Ql
 obtain ⟨zs,a3⟩:=Q' ((madeCells #[.int .u64 0,.int .u64 0,.int .i64 0] (c*3)).toList);have r:w.heap.size<f.heap.size:=by have:=p.size;simp at this;omega
 have h:(f.alloc (.cells (madeCells #[.int .u64 0,.int .u64 0,.int .i64 0] (c*3)) 32)).ownsRow w.heap.size 32 3 (.slice (some ⟨f.heap.size,0,none⟩) c c) c (madeCells #[.int .u64 0,.int .u64 0,.int .i64 0] (c*3)).toList:=
  World.ownsRow_lit _ _ c Qa Qk (by simp [madeCells])
 go_wp2;go_loopw [14] (λi wr=>∃(k:Nat) (xs:List Value),k<=c/\i = .int .i64 k/\wr.ownsRow w.heap.size 32 3 (.slice (some ⟨f.heap.size,0,none⟩) c c) c xs/\Hid (xs.take (k*3)=pcs ((Bm hi lo n m).take k)) /\
  Below w.heap.size w wr/\wr.cell? ⟨w.heap.size,0,none⟩=some (.int .u64 hi)/\wr.cell? ⟨w.heap.size,1,none⟩=some (.int .u64 lo)) (λi _=>c-(intOf i).toNat)
 case atStart=>exact ⟨0,_,Nat.zero_le _,rfl,h,hid (by simp [pcs]),Qg,by rw [World.cell?_alloc_lt _ _ _ r];exact B,by rw [World.cell?_alloc_lt _ _ _ r];exact A⟩
 case round=>
  clear h;obtain ⟨k,xs,hk,rfl,d,C,o,B,A⟩:=hrel;by_cases O:k<c
  ·have b:Ap hi lo n=true/\n<=m/\m<=128/\m-n<=8:=by
    by_cases E:Ap hi lo n=true/\n<=m/\m<=128/\m-n<=8
    ·exact E
    ·have:=HN.o;rw [Hr E] at this;omega
   obtain ⟨N,L,F⟩:=(Cv hi lo n s).1 b.1;obtain ⟨j,X⟩:∃j:Nat,(j:Int)=128-m:=⟨(128-m).toNat,Qa⟩;have Z:c=2^(m.toNat-n.toNat):=by have:=HN.o;rw [Va b] at this;rw [this];congr 1;omega
   obtain ⟨x,u,I⟩:=Pe (val hi lo) k n.toNat m.toNat Qa Qa (ha.val s) F Qa;rw [Kw hi lo s,show 128-m.toNat=j by omega] at x;rw [Pd hi lo s,show 128-m.toNat=j by omega] at u;have hR:=Zxs k j Qa;rw [X] at hR;have o1:bits BinOp.or IntKind.u64 (hi:Int) (Dg k j:Nat)=((hiW (val hi lo+k*2^j):Nat):Int):=by rw [bits_or_u64_nat _ _ ha.lt (Z11 k j Qa).lt,x]
   have o2:bits BinOp.or IntKind.u64 (lo:Int) (Dh k j:Nat)=((loW (val hi lo+k*2^j):Nat):Int):=by rw [bits_or_u64_nat _ _ s.lt (Z10 k j).lt,u]
   have a8:0<=m:=Qa;have a7:m<=128:=Qa;have HR:=hid hR;have HO:=hid (And.intro b (And.intro X I));clear hR b X x u I Z N L F;go_wp2_with fail;refine (HR.o _).mono ?_;rintro e w1 ⟨rfl,l⟩;have K:=o.size;have Y:=(d.lt f.heap.size rfl).2;have a2:f.heap.size<w1.heap.size:=Qm Y l.size;have a:=own_below d l;have a4:=o.trans (l.mono K);obtain ⟨z,-⟩:=Ac l;have B:=(z _ _ Qa).trans B;have A:=(z _ _ Qa).trans A;have D:xs.length=c*3:=a.1;obtain ⟨v0,d0⟩:∃v,w1.cell? ⟨f.heap.size,k*3,none⟩=some v:=⟨_,(a.cellAt (k*3) Qa).trans (Qr Qa)⟩;obtain ⟨v1,d1⟩:∃v,w1.cell? ⟨f.heap.size,k*3+1,none⟩=some v:=⟨_,(a.cellAt (k*3+1) Qa).trans (Qr Qa)⟩;obtain ⟨v2,d2⟩:∃v,w1.cell? ⟨f.heap.size,k*3+2,none⟩=some v:=⟨_,(a.cellAt (k*3+2) Qa).trans (Qr Qa)⟩;have f0:=a.frozenAt (k*3);have f1:=a.frozenAt (k*3+1);have f2:=a.frozenAt (k*3+2);have a1:=hid D;have q:w.heap.size<w1.heap.size:=Qa;clear z d o l D;go_wp2;go_roundw
   case rel=>
    have S:=(Z7o a k (.int .u64 (hiW (val hi lo+k*2^j):Nat)) (.int .u64 (loW (val hi lo+k*2^j):Nat)) (.int .i64 m)).alloc (.cells #[.int .u64 (Dg k j:Nat),.int .u64 (Dh k j:Nat)] 30);refine ⟨k+1,_,Qa,Qj,S,hid ?_,Qg,?_,?_⟩
    ·have J:k<(Bm hi lo n m).length:=by rw [HL.o];exact O
     rw [Zxh _ _ _ _ _ (by have:=a1.o;omega),C.o,List.take_succ_eq_append_getElem J,Zve,Z5p,Vd HO.o.1 s k J,show 128-m.toNat=j by have:=HO.o.2.1;omega];rfl
    ·simp [go_sem,B,A,q]
    ·simp [go_sem,B,A,q]
   case measure=>simp [intOf];omega
  ·go_wp2;go_ret;have hL:=HL.o;have E:=C.o;have U:k=c:=Qa;rw [List.take_of_length_le (by rw [d.1,U];exact Qn _),List.take_of_length_le Qa] at E;refine ⟨some ⟨f.heap.size,0,none⟩,c,by rw [hL];rfl,?_,o⟩;rw [hL,<-E];exact d
theorem Zyo (x y:Nat) (b:W64 x) (a:W64 y):Aj prog 165 #[.int .u64 x,.int .u64 y] (.tuple #[.int .u64 (redN x y:Nat),.int .u64 (x*y%18446744073709551616:Nat)]):=
 Aj.still λw=>(Tryz.bits_Mul64 x y b.lt a.lt w).mono λe w' ⟨d,c⟩=>⟨d,c.symm⟩
theorem J1 (x:Nat) (m:Int) (d:W64 x) (j:m<=9223372036854775807) :
 Aj prog 157 #[.int .u64 x,.int .i64 m] (.int .i64 (redI x m)):=by
 intro w;by_cases h:m<1
 ·rw [Zxo h];go_enter func157,ntmps157;go_wp2;go_ret;exact ⟨rfl,Qg⟩
 ·obtain ⟨k,rfl⟩:=Qv (show 0<=m by omega);rw [Px x k Qa];have b:=Pt x k d Qa;have f:=hid (Zyo x k d (W64.mk Qa));have i:=hid (IntWalk.wrap64_in (redN x k:Nat) Qa);clear b;go_enter func157,ntmps157;go_wp2_with fail;refine (f.o _).mono ?_;rintro l e ⟨rfl,c⟩;have a:Below w.heap.size w e:=by
   refine Below.trans ?_ (c.mono ?_)
   ·go_grown
   ·go_size
  go_wp2;go_ret;exact ⟨Bc i.o,a⟩
theorem Vf (h i:Nat) (a:W64 h) (hi:W64 i):Aj prog 36 #[.int .u64 (bits BinOp.xor IntKind.u64 (h:Int) (i:Int))] (.int .u64 (mixN (h ^^^ i):Nat)):=by
 have:=Gm (bits BinOp.xor IntKind.u64 (h:Int) (i:Int));rw [Gn h i a hi,Fq _ (Nat.xor_lt_two_pow a hi)] at this
 rwa [Gn h i a hi]
theorem Z30 (s h l:Nat) (n m:Int) (B:W64 s) (D:W64 h) (C:W64 l) (y:m<=9223372036854775807) :
 Aj prog 136 #[.int .u64 s,.agg #[.int .u64 h,.int .u64 l,.int .i64 n],.int .i64 m] (.tuple #[.int .i64 (Di (Be s h l (Av n)) 1 m),.int .i64 (Di (Be s h l (Av n)) 2 m)]):=by
 intro w;have z:=hid (Ps s h l n B D C);have i:W64 (Be s h l (Av n)):=Ca _;generalize Be s h l (Av n)=v at z i ⊢;have x:=hid (Vf v 1 i (W64.mk Qa));have u:=hid (Vf v 2 i (W64.mk Qa));have t:=hid (J1 (mixN (v ^^^ 1)) m (Ca _) y);have r:=hid (J1 (mixN (v ^^^ 2)) m (Ca _) y);go_enter func136,ntmps136;go_wp2_with fail;refine (z.o _).mono ?_;rintro E A ⟨rfl,q⟩;have d:Below w.heap.size w A:=by
  refine Below.trans ?_ (q.mono ?_)
  ·go_grown
  ·go_size
 go_wp2_with fail;refine (x.o _).mono ?_;rintro e w1 ⟨rfl,p⟩;have c:=d.trans (p.mono d.size);go_wp2_with fail;refine (t.o _).mono ?_;rintro e w2 ⟨rfl,o⟩;have b:=c.trans (o.mono c.size);go_wp2_with fail;refine (u.o _).mono ?_;rintro e w3 ⟨rfl,k⟩;have a:=b.trans (k.mono b.size);go_wp2_with fail;refine (r.o _).mono ?_;rintro e w4 ⟨rfl,j⟩;have f:=a.trans (j.mono a.size);go_wp2;go_ret2;exact ⟨rfl,f⟩
theorem J2 (h:Nat) (w:W64 h):Aj prog 36 #[.int .u64 (h:Int)] (.int .u64 (mixN h:Nat)):=by
 have:=Gm (h:Int)
 rwa [Fq h w] at this
theorem Vg (h g j:Nat):IntKind.u64.wrap ((((h+j*g)%18446744073709551616:Nat):Int)+(g:Int))=(((h+(j+1)*g)%18446744073709551616:Nat):Int):=by rw [IntKind.wrap_u64,Nat.add_mul];omega
theorem Zvd (s h l:Nat) (n k m:Int) (hs:W64 s) (hh:W64 h) (hl:W64 l) (Y:m<=9223372036854775807) :
 Pw 138 #[.int .u64 s,.agg #[.int .u64 h,.int .u64 l,.int .i64 n],.int .i64 k,.int .i64 m] (En (Be s h l (Av n)) k m):=by
 intro w;by_cases h0:k<1
 ·rw [Zq4 h0];go_enter func138,ntmps138;go_wp2;go_ret;exact ⟨none,0,rfl,World.ownsRow_nil _ _ _ _,Qg⟩
 ·by_cases h1:m<1
  ·rw [Zoj h1];go_enter func138,ntmps138;go_wp2;go_ret;exact ⟨none,0,rfl,World.ownsRow_nil _ _ _ _,Qg⟩
  ·rw [Zoi h1];have X:=hid (Ps s h l n hs hh hl);have Q:W64 (Be s h l (Av n)):=Ca _;generalize Be s h l (Av n)=v at X Q ⊢;have HM:=hid (J2 v Q);have HO:=hid (or_one (mixN v) (Ca _));have HG:=hid (Z16 (mixN v) (Ca _));obtain ⟨c,U⟩:=Q' (min k.toNat 16);have Z:c<=16:=Qa;have C:=B9 (P:=prog) (t:=48) underlying48 E2 c Qa Qk;rw [<-U];by_cases hk:k<=16
   ·have L:(c:Int)=k:=Qa;have x:(c:Int)=min k 16:=Qa;have z:=C;rw [x] at z;clear U x;rw [L] at C;clear L;go_enter func138,ntmps138;go_wp2_with fail;refine (X.o _).mono ?_;rintro e0 R ⟨rfl,B⟩;have q:Below w.heap.size w R:=by
     refine Below.trans ?_ (B.mono ?_)
     ·go_grown
     ·go_size
    go_wp2_with fail;refine (HM.o _).mono ?_;rintro e w1 ⟨rfl,A⟩;have d:=q.trans (A.mono q.size);have p:=d.size;have f:(w1.alloc (.cells (madeCells #[.int .i64 0] c) 3)).ownsRow w.heap.size 3 1 (.slice (some ⟨w1.heap.size,0,none⟩) c c) c (madeCells #[.int .i64 0] c).toList:=
     World.ownsRow_lit _ _ c Qa Qk (by simp [madeCells])
    clear B A q;go_wp2_with (first|rw [HO.o]|fail);go_loopw [9,30] (λat_ i wr=>∃(j:Nat) (xs:List Value),j<=c/\i = .int .i64 j/\at_ = .int .u64 ((v+j*(mixN v ||| 1))%18446744073709551616:Nat)/\wr.ownsRow w.heap.size 3 1 (.slice (some ⟨w1.heap.size,0,none⟩) c c) c xs/\Hid (xs.take j=ics (C2 v m j))/\Below w.heap.size w wr) (λ_ i _=>c-(intOf i).toNat)
    case atStart=>exact ⟨0,_,Nat.zero_le _,rfl,by rw [Nat.zero_mul,Nat.add_zero,Nat.mod_eq_of_lt Q.lt],f,hid (by simp [ics,C2]),Qg⟩
    case round=>
     clear f d;obtain ⟨j,xs,hj,rfl,rfl,b,r,d⟩:=hrel;have p:=d.size;by_cases D:j<c
     ·have J:=J1 ((v+j*(mixN v ||| 1))%18446744073709551616) m (W64.mk (Nat.mod_lt _ Qd)) Y;have N:Hid (Aj prog 157 #[.int .u64 ((v+j*(mixN v ||| 1))%18446744073709551616:Nat),.int .i64 m] (.int .i64 (Em v m j))):=hid J;have O:=hid (Vg v (mixN v ||| 1) j);clear J;generalize (v+j*(mixN v ||| 1))%18446744073709551616=y at N O ⊢;go_wp2_with fail;refine (N.o _).mono ?_;rintro e w2 ⟨rfl,o⟩;have E:=(b.lt w1.heap.size rfl).2;have K:w1.heap.size<w2.heap.size:=Qm E o.size;have a:=own_below b o;have S:=d.trans (o.mono p);have u:xs.length=c:=by have:=a.1;omega
      obtain ⟨v0,d0⟩:∃v,w2.cell? ⟨w1.heap.size,j,none⟩=some v:=⟨_,(a.cellAt j Qa).trans (Qr Qa)⟩;have f0:=a.frozenAt j;have F:=hid u;clear b o d p u;go_wp2;go_roundw
      case rel=>refine ⟨j+1,_,Qa,Qj,by rw [<-O.o],(a.stored j (.int .i64 (Em v m j))).1,hid ?_,Qg⟩;rw [Pv _ _ _ (by rw [F.o];exact D),r.o,R8,Fs];rfl
      case measure=>simp [intOf];omega
     ·obtain rfl:j=c:=Qa;go_wp2;go_ret;have I:=r.o;rw [List.take_of_length_le (by rw [b.1];omega)] at I;subst I;refine ⟨some ⟨w1.heap.size,0,none⟩,j,?_,?_,d⟩
      ·rw [G2];rfl
      ·rw [G2];exact b
   ·have L:(c:Int)=16:=Qa;have x:(c:Int)=min k 16:=Qa;have z:=C;rw [x] at z;clear U x;rw [L] at C;clear L;go_enter func138,ntmps138;go_wp2_with fail;refine (X.o _).mono ?_;rintro e0 R ⟨rfl,B⟩;have q:Below w.heap.size w R:=by
     refine Below.trans ?_ (B.mono ?_)
     ·go_grown
     ·go_size
    go_wp2_with fail;refine (HM.o _).mono ?_;rintro e w1 ⟨rfl,A⟩;have d:=q.trans (A.mono q.size);have p:=d.size;have f:(w1.alloc (.cells (madeCells #[.int .i64 0] c) 3)).ownsRow w.heap.size 3 1 (.slice (some ⟨w1.heap.size,0,none⟩) c c) c (madeCells #[.int .i64 0] c).toList:=
     World.ownsRow_lit _ _ c Qa Qk (by simp [madeCells])
    clear B A q;go_wp2_with (first|rw [HO.o]|fail);go_loopw [9,30] (λat_ i wr=>∃(j:Nat) (xs:List Value),j<=c/\i = .int .i64 j/\at_ = .int .u64 ((v+j*(mixN v ||| 1))%18446744073709551616:Nat)/\wr.ownsRow w.heap.size 3 1 (.slice (some ⟨w1.heap.size,0,none⟩) c c) c xs/\Hid (xs.take j=ics (C2 v m j))/\Below w.heap.size w wr) (λ_ i _=>c-(intOf i).toNat)
    case atStart=>exact ⟨0,_,Nat.zero_le _,rfl,by rw [Nat.zero_mul,Nat.add_zero,Nat.mod_eq_of_lt Q.lt],f,hid (by simp [ics,C2]),Qg⟩
    case round=>
     clear f d;obtain ⟨j,xs,hj,rfl,rfl,b,r,d⟩:=hrel;have p:=d.size;by_cases D:j<c
     ·have J:=J1 ((v+j*(mixN v ||| 1))%18446744073709551616) m (W64.mk (Nat.mod_lt _ Qd)) Y;have N:Hid (Aj prog 157 #[.int .u64 ((v+j*(mixN v ||| 1))%18446744073709551616:Nat),.int .i64 m] (.int .i64 (Em v m j))):=hid J;have O:=hid (Vg v (mixN v ||| 1) j);clear J;generalize (v+j*(mixN v ||| 1))%18446744073709551616=y at N O ⊢;go_wp2_with fail;refine (N.o _).mono ?_;rintro e w2 ⟨rfl,o⟩;have E:=(b.lt w1.heap.size rfl).2;have K:w1.heap.size<w2.heap.size:=Qm E o.size;have a:=own_below b o;have S:=d.trans (o.mono p);have u:xs.length=c:=by have:=a.1;omega
      obtain ⟨v0,d0⟩:∃v,w2.cell? ⟨w1.heap.size,j,none⟩=some v:=⟨_,(a.cellAt j Qa).trans (Qr Qa)⟩;have f0:=a.frozenAt j;have F:=hid u;clear b o d p u;go_wp2;go_roundw
      case rel=>refine ⟨j+1,_,Qa,Qj,by rw [<-O.o],(a.stored j (.int .i64 (Em v m j))).1,hid ?_,Qg⟩;rw [Pv _ _ _ (by rw [F.o];exact D),r.o,R8,Fs];rfl
      case measure=>simp [intOf];omega
     ·obtain rfl:j=c:=Qa;go_wp2;go_ret;have I:=r.o;rw [List.take_of_length_le (by rw [b.1];omega)] at I;subst I;refine ⟨some ⟨w1.heap.size,0,none⟩,j,?_,?_,d⟩
      ·rw [G2];rfl
      ·rw [G2];exact b
end Go.Proofs.YtpdphfgpdgadpaaGreat
