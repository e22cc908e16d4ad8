/-
  What package pick hands back: the place of a number, the two buckets of a prefix. No condition but that the words are words of 64 bits, and that the count of places is a whole number of 64 bits.
-/
import Derived.Test.YtgfjmgebecmbiaaGreatReg6
import Derived.Test.YtgfjmgebecmbiaaGreatM10
import Derived.Shelf.Bits.Mul64
import Derived.Shelf.Small.Bits
import Derived.Shelf.Strconv.Itoa0
import Derived.Test.YtgfjmgebecmbiaaGreatProg
import Derived.Test.YtgfjmgebecmbiaaGreatM12
import Derived.Test.YtgfjmgebecmbiaaGreatM4
set_option linter.unusedSimpArgs false
set_option linter.unusedVariables false
namespace Go.Proofs.YtgfjmgebecmbiaaGreat
open Go Go.RowKit Go.Sort
section
variable {P:Program} {ops:Array Oper} {Q:Exit->Act->World->Prop} {S:World->Prop} {pre:Nat->Bool}
def chainS (P:Program) (ops:Array Oper) (Q:Exit->Act->World->Prop) (S:World->Prop) (tl:List Nat):List Nat->Act->World->Prop
 | [],a,w'=>wpList P ops Q (pickL ops tl) a w'
 | x::xs,a,w'=>∀K:Act->World->Prop,(∀a3 w3,S w3->chainS P ops Q S tl xs a3 w3->K a3 w3)->oneOp P ops Q x K a w'
theorem anyP_chainS (tl:List Nat) (pre2:∀i∈tl,pre i=false):∀(xs:List Nat) (listed:Array Bool) (a:Act) (w':World),chainTailB ops tl xs listed=true->chainS P ops Q S tl xs a w'->anyP P .any ops Q S pre (xs.length+tl.length) listed a w'
 | [],listed,a,w',hB,h=>by
  rw [List.length_nil,Nat.zero_add]
  exact anyP_tail tl listed a w' pre2 hB h
 | x::xs,listed,a,w',hB,h=>by
  simp only [chainTailB,Bool.and_eq_true,decide_eq_true_eq] at hB
  obtain ⟨⟨r0,hx⟩,ht⟩:=hB
  rw [List.length_cons,show xs.length+1+tl.length=(xs.length+tl.length)+1 by omega]
  refine ⟨fun h1=>(by rw [r0] at h1;cases h1),fun i hi => ?_⟩
  rw [r0] at hi
  have hix:i=x:=by simpa using hi
  subst hix
  exact (h _ (fun a3 w3 hb3 h3=>⟨fun _ _=>hb3,anyP_chainS tl pre2 xs _ a3 w3 ht h3⟩)).wpOp hx
theorem chain_any {a:Act} {w:World} {l:List Oper} (S:World->Prop) (tA tB xs tl:List Nat) (hQ:∀c a w,Q (.panic c) a w->False) (hsel:Region.noSelect l.toArray=true) (hB:rowB l.toArray tA tB xs tl=true)
 (hS:S w.drew)
 (h:wpQuiet P l.toArray (fun _=>True) (fun a1=>wpQuiet P l.toArray S (fun a2=>chainS P l.toArray Q S tl xs a2 w.drew) (pickL l.toArray tB) a1) (pickL l.toArray tA) a) :
 wpAny P .any l.toArray Q l.toArray.size (Array.replicate l.toArray.size false) a { w with drawn:=w.drawn+1 }:=by
 generalize l.toArray=ops at *
 simp only [rowB,Bool.and_eq_true,decide_eq_true_eq] at hB
 obtain ⟨hsz,hB⟩:=hB
 have inv0:HeadInv .any ops ops.size (Array.replicate ops.size false):=
  ⟨by simp,fun j oj _ hl=>(by rw [getD_replicate_false] at hl;cases hl),fun t h1 h2=>absurd h2 (by omega)⟩
 have pre2:∀i∈tl,(!tl.contains i)=false:=fun i hi=>by simp [hi]
 refine wpAny_of_anyP (S:=S) (pre:=fun j => !tl.contains j) _ _ _ _ ?_
 suffices hh:anyP P .any ops Q S (fun j => !tl.contains j) (tA.length+(tB.length+(xs.length+tl.length))) (Array.replicate ops.size false) a w.drew by
  rw [<-hsz] at hh
  exact hh
 refine anyP_takesC (T:=fun _=>True) hsel hQ (fun _ _=>trivial) (fun _ _ => .inr (fun _=>trivial)) hS (fun l1 a1 hF1 inv1 h1 => ?_) tA _ a hB inv0 h
 refine anyP_takesC (T:=S) hsel hQ (fun _ h=>h) (fun i hi => .inl hi) hS (fun l2 a2 hF2 inv2 h2 => ?_) tB l1 a1 hF1 inv1 h1
 exact anyP_chainS tl pre2 xs l2 a2 _ hF2 h2
theorem region_chain {id:Nat} {a:Act} {w:World} {l:List Oper} (S:World->Prop) (tA tB xs tl:List Nat) (hm:P.follows .mixedOrders=true) (hQ:∀c a w,Q (.panic c) a w->False) (hsel:Region.noSelect l.toArray=true) (hB:rowB l.toArray tA tB xs tl=true)
 (hS:S w.drew)
 (h:wpQuiet P l.toArray (fun _=>True) (fun a1=>wpQuiet P l.toArray S (fun a2=>chainS P l.toArray Q S tl xs a2 w.drew) (pickL l.toArray tB) a1) (pickL l.toArray tA) a) :
 (Code.region id l.toArray true).wp P Q a w:=
 wp_region_any hm (chain_any S tA tB xs tl hQ hsel hB hS h)
theorem quiet_one {C:World->Prop} {Q:Act->Prop} {a:Act} {o:Oper} {rest:List Oper} (v:Value) (hg:Region.wanted o (yielded ops a.tmps)=true) (h:∀w,C w->(execOp a.eval o).run P w = .ok (.value v) w) (hK:wpQuiet P ops C Q rest (a.put o.dst v)):wpQuiet P ops C Q (o::rest) a:=by
 unfold wpQuiet
 rw [if_pos hg]
 refine ⟨v,fun w hw => ?_,hK⟩
 unfold Oper.quietAt
 rw [h w hw]
 exact ⟨rfl,rfl⟩
end
end Go.Proofs.YtgfjmgebecmbiaaGreat
namespace Go.Proofs.YtgfjmgebecmbiaaGreat
structure Wc where
 c:Nat
 f:Nat
 t:Bool
end Go.Proofs.YtgfjmgebecmbiaaGreat
namespace Go.Proofs.YtgfjmgebecmbiaaGreat
open Go Go.RowKit Go.Sort M
def WRow (w:World) (q:Option Addr) (lo wd:Nat) (F:Nat->Wc):Prop:=∃g,q=some ⟨g,0,none⟩/\g<w.heap.size/\∀j,lo<=j->j<=wd ->
 w.cell? ⟨g,j*3,none⟩=some (.int .i64 ((F j).c:Int))/\w.cell? ⟨g,j*3+1,none⟩=some (.int .i64 ((F j).f:Int))/\w.cell? ⟨g,j*3+2,none⟩=some (.bool (F j).t)
theorem WRow.below {w w':World} {q:Option Addr} {lo wd:Nat} {F:Nat->Wc} (h:WRow w q lo wd F) (hb:Below w.heap.size w w'):WRow w' q lo wd F:=by
 obtain ⟨g,e,hg,hc⟩:=h
 exact ⟨g,e,Nat.lt_of_lt_of_le hg hb.size,fun j h1 h2=>⟨(hb.cell (p:=⟨g,j*3,none⟩) hg).trans (hc j h1 h2).1,(hb.cell (p:=⟨g,j*3+1,none⟩) hg).trans (hc j h1 h2).2.1,(hb.cell (p:=⟨g,j*3+2,none⟩) hg).trans (hc j h1 h2).2.2⟩⟩
theorem IRow.take {w:World} {p:Option Addr} {L:List Int} (h:IRow w p L) (k:Nat):IRow w p (L.take k):=by
 rcases h with h | ⟨g,o,e,hg,hc⟩
 ·exact .inl (by rw [h];simp)
 ·refine .inr ⟨g,o,e,hg,fun j u hu=>hc j u ?_⟩
  unfold ics at hu ⊢
  rw [List.map_take,List.getElem?_take] at hu
  split at hu
  ·exact hu
  ·cases hu
def Cts (w:World) (p:Option Addr) (lo wd:Nat) (f:Nat->List Int):Prop:=∃g,p=some ⟨g,0,none⟩/\g<w.heap.size/\∀k,lo<=k->k<wd->∃q c,w.cell? ⟨g,k,none⟩=some (.slice q (f k).length c)/\IRow w q (f k)
theorem Cts.below {w w':World} {p:Option Addr} {lo wd:Nat} {f:Nat->List Int} (h:Cts w p lo wd f) (hb:Below w.heap.size w w'):Cts w' p lo wd f:=by
 obtain ⟨g,e,hg,hc⟩:=h
 refine ⟨g,e,Nat.lt_of_lt_of_le hg hb.size,fun k h1 h2 => ?_⟩
 obtain ⟨q,c,e2,h3⟩:=hc k h1 h2
 exact ⟨q,c,(hb.cell (p:=⟨g,k,none⟩) hg).trans e2,h3.below hb⟩
theorem irow_one (w:World) (x:Int) (t:TypeId):IRow (w.alloc (.cells #[.int .i64 x] t)) (some ⟨w.heap.size,0,none⟩) [x]:=by
 refine .inr ⟨_,0,rfl,by simp,fun j u hu => ?_⟩
 match j,hu with
 | 0,hu=>
  simp [ics] at hu
  subst hu
  simp [go_sem]
end Go.Proofs.YtgfjmgebecmbiaaGreat
namespace Go.Proofs.YtgfjmgebecmbiaaGreat
open Go.ChangeShapes Go.WideShapes Go.ChangeAt Go.RowKit Go.Joins Go.Deep M
section
variable {H:Type} {enc:TypeId×Value->H} {P:Program} {w:World} {base:Nat} {spare:Nat->Bool} {held:Bool} {r:Reach} {b0:Nat}
theorem open_cap {t e:TypeId} {q:Option Addr} {n c:Nat} {d:DataW H} {p:List MemPlace} (ht:P.underlying t=some (.slice e)) (hv:Value.okWide P w r b0 t (.slice q n c)) (h:DataW.Trod enc P w base spare held t (.slice q n c) d p):n<=c:=by
 obtain ⟨fuel,hf⟩:=h
 rcases open_slice ht hf with ⟨h0,-⟩ | ⟨a,len',cap,m,n',D,Pl,hcs,-,hl,hm,hmm,-,hx⟩
 ·simp only [Value.cells,List.cons.injEq,Value.slice.injEq,and_true] at h0
  omega
 ·simp only [Value.cells,List.cons.injEq,Value.slice.injEq,and_true] at hcs
  omega
end
end Go.Proofs.YtgfjmgebecmbiaaGreat
namespace Go.Proofs
open Go.Shelf Go.RowKit
def Tryz.lays264_ren:Go.Shelf.Ren:=⟨fun | 264=>177 | n=>n,fun | 53=>24 | 46=>109 | n=>n,fun | n=>n⟩
theorem Tryz.lays264:Go.Proofs.Lays.n264 Tryz.prog Tryz.lays264_ren:={
 mixed:=by kernel_rfl
 f264:=Tryz.func177.trans (congrArg some (by kernel_rfl))
 t46:=Tryz.underlying109
 a46:=Tryz.isAgg109
 z46:=Tryz.sizeOf109
 v46:=Tryz.zeroValue109
 t53:=Tryz.underlying24
 a53:=Tryz.isAgg24
 z53:=Tryz.sizeOf24
 v53:=Tryz.zeroValue24 }
open Go.RowKit Go.Lib in
theorem Tryz.bits_Mul64 (x y:Nat) (hx:x<18446744073709551616) (hy:y<18446744073709551616) (w:World) :
 Calls Tryz.prog 177 #[.int .u64 x,.int .u64 y] w fun e w'=>e = .returned (.tuple #[.int .u64 ((x*y/18446744073709551616:Nat):Int),.int .u64 ((x*y%18446744073709551616:Nat):Int)])/\w'=w:=Any.bits_Mul64 Tryz.lays264 x y hx hy w
def Tryz.lays134_ren:Go.Shelf.Ren:=⟨fun | 134=>139 | 129=>157 | n=>n,fun | 53=>24 | 3=>3 | 4=>4 | 46=>109 | 5=>5 | 9=>9 | n=>n,fun | n=>n⟩
theorem Tryz.lays134:Go.Proofs.Lays.n134 Tryz.prog Tryz.lays134_ren:={
 mixed:=by kernel_rfl
 f129:=Tryz.func157.trans (congrArg some (by kernel_rfl))
 f134:=Tryz.func139.trans (congrArg some (by kernel_rfl))
 t3:=Tryz.underlying3
 a3:=Tryz.isAgg3
 z3:=Tryz.sizeOf3
 v3:=Tryz.zeroValue3
 t4:=Tryz.underlying4
 a4:=Tryz.isAgg4
 z4:=Tryz.sizeOf4
 v4:=Tryz.zeroValue4
 t5:=Tryz.underlying5
 a5:=Tryz.isAgg5
 z5:=Tryz.sizeOf5
 v5:=Tryz.zeroValue5
 t9:=Tryz.underlying9
 a9:=Tryz.isAgg9
 z9:=Tryz.sizeOf9
 v9:=Tryz.zeroValue9
 t46:=Tryz.underlying109
 a46:=Tryz.isAgg109
 z46:=Tryz.sizeOf109
 v46:=Tryz.zeroValue109
 t53:=Tryz.underlying24
 a53:=Tryz.isAgg24
 z53:=Tryz.sizeOf24
 v53:=Tryz.zeroValue24 }
theorem Tryz.bits_LeadingZeros64 (x:Int) (w:World) (h0:0<=x) (h1:x<=18446744073709551615) :
 Calls Tryz.prog 139 #[.int .u64 x] w fun e w'=>e = .returned (.int .i64 (64-(Lib.bitLen x.toNat:Int)))/\w'=w:=Any.bits_LeadingZeros64 Tryz.lays134 x w h0 h1
end Go.Proofs
namespace Go.Proofs.YtgfjmgebecmbiaaGreat
open Go.RowKit Go.Sort M
theorem eql_addr (a b c d:Nat) (w:World):(binOp .eql 37 (.agg #[.int .u64 a,.int .u64 b]) (.agg #[.int .u64 c,.int .u64 d])).run Tryz.prog w = .ok (.bool (decide (a=c)&&decide (b=d))) w:=by
 have e1:decide (a=c)=decide ((a:Int)=c):=by rw [decide_eq_decide];omega
 have e2:decide (b=d)=decide ((b:Int)=d):=by rw [decide_eq_decide];omega
 rw [e1,e2]
 by_cases h1:(a:Int)=c<;>by_cases h2:(b:Int)=d<;>simp [go_sem,h1,h2]
set_option maxHeartbeats 400000 in
theorem right_any (hi lo:Nat) (n:Int) (ha:W64 hi) (hb:W64 lo) :
 Gives Tryz.prog 33 #[.agg #[.int .u64 hi,.int .u64 lo,.int .i64 n]] (.bool (rightB hi lo n)):=by
 intro w
 have ea:=eql_addr
 by_cases h0:0<=n
 ·have d0:decide (0<=n)=true:=by simpa using h0
  by_cases h1:n<=128
  ·have d1:decide (n<=128)=true:=by simpa using h1
   go_enter Tryz.func33,Tryz.ntmps33
   go_wp2_with fail
   have kg:=cell_grow
   refine region_whole (by kernel_rfl) (by kernel_rfl) ?_
   repeat (any_goals (first|go_big_quiet_step ((go_at_call 60;exact Gives.at (cut_any hi lo n ha hb) _ _ _))|quiet_step ((go_at_call 60;exact Gives.at (cut_any hi lo n ha hb) _ _ _))))
   refine wpQuiet_nil ?_
   clear kg
   intro w1 hb1
   obtain ⟨hc1,hf1⟩:=bcell hb1
   have hw1:Below w.heap.size w w1:=by
    refine Below.trans ?_ (hb1.mono ?_)
    ·go_grown
    ·first|omega|go_size
   go_wp2
   go_ret
   refine ⟨ret_bool ?_,by go_grown⟩
   simp [rightB,h0,h1]
  ·have d1:decide (n<=128)=false:=by simpa using h1
   go_enter Tryz.func33,Tryz.ntmps33
   go_wp2_with fail
   have kg:=cell_grow
   refine region_whole (by kernel_rfl) (by kernel_rfl) ?_
   repeat (any_goals (first|go_big_quiet_step (fail)|quiet_step (fail)))
   refine wpQuiet_nil ?_
   clear kg
   intro w1 hb1
   obtain ⟨hc1,hf1⟩:=bcell hb1
   have hw1:Below w.heap.size w w1:=by
    refine Below.trans ?_ (hb1.mono ?_)
    ·go_grown
    ·first|omega|go_size
   go_wp2
   go_ret
   refine ⟨ret_bool ?_,by go_grown⟩
   unfold rightB
   rw [eq_comm,decide_eq_false_iff_not]
   omega
 ·have d0:decide (0<=n)=false:=by simpa using h0
  go_enter Tryz.func33,Tryz.ntmps33
  go_wp2_with fail
  have kg:=cell_grow
  refine region_whole (by kernel_rfl) (by kernel_rfl) ?_
  repeat (any_goals (first|go_big_quiet_step (fail)|quiet_step (fail)))
  refine wpQuiet_nil ?_
  clear kg
  intro w1 hb1
  obtain ⟨hc1,hf1⟩:=bcell hb1
  have hw1:Below w.heap.size w w1:=by
   refine Below.trans ?_ (hb1.mono ?_)
   ·go_grown
   ·first|omega|go_size
  go_wp2
  go_ret
  refine ⟨ret_bool ?_,by go_grown⟩
  unfold rightB
  rw [eq_comm,decide_eq_false_iff_not]
  omega
set_option maxHeartbeats 400000 in
theorem less_any (h1 l1:Nat) (n1:Int) (h2 l2:Nat) (n2:Int) :
 Gives Tryz.prog 56 #[.agg #[.int .u64 h1,.int .u64 l1,.int .i64 n1],.agg #[.int .u64 h2,.int .u64 l2,.int .i64 n2]] (.bool (lessB h1 l1 n1 h2 l2 n2)):=by
 intro w
 by_cases e1:h1=h2
 ·by_cases e2:l1=l2
  ·subst e1 e2
   go_enter Tryz.func56,Tryz.ntmps56
   go_wp2
   go_ret
   refine ⟨ret_bool ?_,by go_grown⟩
   simp [lessB]
  ·subst e1
   go_enter Tryz.func56,Tryz.ntmps56
   go_wp2
   go_ret
   refine ⟨ret_bool ?_,by go_grown⟩
   simp [lessB,e2]
 ·go_enter Tryz.func56,Tryz.ntmps56
  go_wp2
  go_ret
  refine ⟨ret_bool ?_,by go_grown⟩
  simp [lessB,e1]
set_option maxHeartbeats 400000 in
theorem common_any (h1 l1 h2 l2:Nat) (ha:W64 h1) (hb:W64 l1) (hc:W64 h2) (hd:W64 l2) :
 Gives Tryz.prog 106 #[.agg #[.int .u64 h1,.int .u64 l1],.agg #[.int .u64 h2,.int .u64 l2]] (.int .i64 (commonN h1 l1 h2 l2)):=by
 intro w
 have hx:h1 ^^^ h2<2^64:=Nat.xor_lt_two_pow ha hc
 have hy:l1 ^^^ l2<2^64:=Nat.xor_lt_two_pow hb hd
 have b1:=bitLen_le (h1 ^^^ h2)
 have b2:=bitLen_le (l1 ^^^ l2)
 have x1:bits .xor .u64 (h1:Int) (h2:Int)=((h1 ^^^ h2:Nat):Int):=bits_xor_u64_nat _ _ ha.lt hc.lt
 have x2:bits .xor .u64 (l1:Int) (l2:Int)=((l1 ^^^ l2:Nat):Int):=bits_xor_u64_nat _ _ hb.lt hd.lt
 have c1:∀w,Calls Tryz.prog 139 #[.int .u64 ((h1 ^^^ h2:Nat):Int)] w fun e w'=>e = .returned (.int .i64 (64-(Lib.bitLen (h1 ^^^ h2):Int)))/\w=w':=fun w=>
  (Tryz.bits_LeadingZeros64 _ w (by omega) (by omega)).mono fun e w' ⟨he,hw⟩=>⟨by rw [he,Int.toNat_natCast],hw.symm⟩
 have c2:∀w,Calls Tryz.prog 139 #[.int .u64 ((l1 ^^^ l2:Nat):Int)] w fun e w'=>e = .returned (.int .i64 (64-(Lib.bitLen (l1 ^^^ l2):Int)))/\w=w':=fun w=>
  (Tryz.bits_LeadingZeros64 _ w (by omega) (by omega)).mono fun e w' ⟨he,hw⟩=>⟨by rw [he,Int.toNat_natCast],hw.symm⟩
 have C1:=Lib.hid c1
 have C2:=Lib.hid c2
 clear hx hy c1 c2
 by_cases e1:h1=h2
 ·subst e1
  go_enter Tryz.func106,Tryz.ntmps106
  go_wp2_with (go_at_call 139;refine (C2.out _).mono ?_;rintro e w' ⟨rfl,rfl⟩)
  go_ret
  refine ⟨ret_num ?_,by go_grown⟩
  simp [commonN]
  omega
 ·go_enter Tryz.func106,Tryz.ntmps106
  go_wp2_with (go_at_call 139;refine (C1.out _).mono ?_;rintro e w' ⟨rfl,rfl⟩)
  go_ret
  refine ⟨ret_num ?_,by go_grown⟩
  simp [commonN,e1]
  omega
theorem wrap_mod (x:Nat):IntKind.u64.wrap (x:Int)=((x%2^64:Nat):Int):=by
 rw [IntKind.wrap_u64];omega
theorem wrap_shl (x:Nat) (i:Int) (j:Nat) (h:i.toNat=j):IntKind.u64.wrap ((x:Int)*2^i.toNat)=((x*2^j%2^64:Nat):Int):=by
 have e:((x:Int)*2^i.toNat)=((x*2^j:Nat):Int):=by rw [h,Int.natCast_mul,Int.natCast_pow];rfl
 rw [e,wrap_mod]
theorem shr_nat (x:Nat) (i:Int) (j:Nat) (h:i.toNat=j):((x:Int)/2^i.toNat)=((x/2^j:Nat):Int):=by
 rw [h,Int.natCast_ediv,Int.natCast_pow];rfl
set_option maxHeartbeats 400000 in
theorem raise_any (x:Nat) (k:Nat) (hk:k<=128) :
 Gives Tryz.prog 176 #[.int .u64 (x:Int),.int .i64 (k:Int)] (.agg #[.int .u64 (raiseH x k:Nat),.int .u64 (raiseL x k:Nat)]):=by
 intro w
 obtain ⟨i,hi⟩:∃i:Int,i=k:=⟨_,rfl⟩
 have HI:=Lib.hid hi
 rw [<-hi]
 have h0:0<=i:=by omega
 have h1:i<=128:=by omega
 clear hi
 by_cases h2:64<=i
 ·go_enter Tryz.func176,Tryz.ntmps176
  go_wp2
  refine bodyPost_ret (by simp [results,Tryz.results176,go_sem];try rfl) rfl ?_
  have hk2:=HI.out
  have e1:raiseH x k=x*2^(k-64)%2^64:=if_pos (by omega)
  have e2:raiseL x k=0:=if_pos (by omega)
  exact ⟨by rw [wrap_shl x (i-64) (k-64) (by omega),e1,e2];rfl,by go_grown⟩
 ·go_enter Tryz.func176,Tryz.ntmps176
  go_wp2
  go_region
  all_goals go_wp2
  all_goals
   refine bodyPost_ret (by simp [results,Tryz.results176,go_sem];try rfl) rfl ?_
   have hk2:=HI.out
   have e1:raiseH x k=x/2^(64-k):=if_neg (by omega)
   have e2:raiseL x k=x*2^k%2^64:=if_neg (by omega)
   exact ⟨by rw [wrap_shl x i k (by omega),shr_nat x (64-i) (64-k) (by omega),e1,e2],by go_grown⟩
def cntN (h l:Nat) (n m:Int):Nat:=if rightB h l n=true/\n<=m/\m<=128/\m-n<=8 then 2^(m-n).toNat else 0
theorem cnt_none {h l:Nat} {n m:Int} (hc:¬(rightB h l n=true/\n<=m/\m<=128/\m-n<=8)):cntN h l n m=0:=if_neg hc
theorem cnt_some {h l:Nat} {n m:Int} (hc:rightB h l n=true/\n<=m/\m<=128/\m-n<=8):cntN h l n m=2^(m-n).toNat:=if_pos hc
theorem cnt_le (h l:Nat) (n m:Int):cntN h l n m<=256:=by
 unfold cntN
 split
 ·rename_i hc
  exact Nat.pow_le_pow_right (by decide) (by omega:(m-n).toNat<=8)
 ·omega
theorem shr256 (d:Nat) (h:9<=d):((256:Int)/2^d)=0:=by
 have:(256:Nat)/2^d=0:=Nat.div_eq_of_lt (Nat.lt_of_lt_of_le (by decide:256<2^9) (Nat.pow_le_pow_right (by decide) h))
 have e:((256:Int)/2^d)=((256/2^d:Nat):Int):=by rw [Int.natCast_ediv,Int.natCast_pow];rfl
 rw [e,this];rfl
theorem shr256_ne (d:Nat) (h:d<=8):((256:Int)/2^d == 0)=false:=by
 rcases (show d=0\/d=1\/d=2\/d=3\/d=4\/d=5\/d=6\/d=7\/d=8 by omega) with rfl | rfl | rfl | rfl | rfl | rfl | rfl | rfl | rfl<;>rfl
theorem shl_small (d:Nat) (h:d<=8):wrap64 (2^d)=((2^d:Nat):Int):=by
 rcases (show d=0\/d=1\/d=2\/d=3\/d=4\/d=5\/d=6\/d=7\/d=8 by omega) with rfl | rfl | rfl | rfl | rfl | rfl | rfl | rfl | rfl<;>(unfold wrap64;decide +kernel)
set_option maxHeartbeats 1000000 in
theorem count_any (hi lo:Nat) (n m:Int) (ha:W64 hi) (hb:W64 lo) :
 Gives Tryz.prog 175 #[.agg #[.int .u64 hi,.int .u64 lo,.int .i64 n],.int .i64 m] (.int .i64 (cntN hi lo n m:Nat)):=by
 intro w
 have hr:=right_any hi lo n ha hb
 have hrv:=rightB_val hi lo n hb
 cases hR:rightB hi lo n
 ·rw [hR] at hr
  rw [cnt_none (by simp [hR])]
  have HR:=Lib.hid hr
  clear hr hrv hR
  go_enter Tryz.func175,Tryz.ntmps175
  go_wp2_with fail
  refine (HR.out _).mono ?_
  rintro e0 w0 ⟨rfl,hb0⟩
  have hw0:Below w.heap.size w w0:=by
   refine Below.trans ?_ (hb0.mono ?_)
   ·go_grown
   ·go_size
  have c2:w0.cell? ⟨w.heap.size,2,none⟩=some (.int .i64 n):=by
   rw [hb0.cell (by simp<;>omega)]
   first|assumption|(simp [go_sem];done)|(simp [go_sem, *];done)
  go_wp2
  all_goals
   go_ret
   exact ⟨rfl,by go_grown⟩
 ·rw [hR] at hr hrv
  have HR:=Lib.hid hr
  obtain ⟨n0,n1,-⟩:=hrv.1 rfl
  clear hr hrv
  by_cases h1:n<=m
  ·have d1:decide (m<n)=false:=by simp;omega
   by_cases h2:m<=128
   ·have d2:decide (128<m)=false:=by simp;omega
    by_cases h3:m-n<=8
    ·rw [cnt_some ⟨hR,h1,h2,h3⟩]
     clear hR
     have s0:=shr256_ne (m-n).toNat (by omega)
     go_enter Tryz.func175,Tryz.ntmps175
     go_wp2_with fail
     refine (HR.out _).mono ?_
     rintro e0 w0 ⟨rfl,hb0⟩
     have hw0:Below w.heap.size w w0:=by
      refine Below.trans ?_ (hb0.mono ?_)
      ·go_grown
      ·go_size
     have c2:w0.cell? ⟨w.heap.size,2,none⟩=some (.int .i64 n):=by
      rw [hb0.cell (by simp<;>omega)]
      first|assumption|(simp [go_sem];done)|(simp [go_sem, *];done)
     go_wp2
     go_ret
     exact ⟨ret_num (shl_small _ (by omega)),by go_grown⟩
    ·rw [cnt_none (by omega)]
     clear hR
     have s0:=shr256 (min (m-n).toNat 64) (by omega)
     go_enter Tryz.func175,Tryz.ntmps175
     go_wp2_with fail
     refine (HR.out _).mono ?_
     rintro e0 w0 ⟨rfl,hb0⟩
     have hw0:Below w.heap.size w w0:=by
      refine Below.trans ?_ (hb0.mono ?_)
      ·go_grown
      ·go_size
     have c2:w0.cell? ⟨w.heap.size,2,none⟩=some (.int .i64 n):=by
      rw [hb0.cell (by simp<;>omega)]
      first|assumption|(simp [go_sem];done)|(simp [go_sem, *];done)
     go_wp2
     all_goals
      go_ret
      exact ⟨rfl,by go_grown⟩
   ·rw [cnt_none (by omega)]
    clear hR
    go_enter Tryz.func175,Tryz.ntmps175
    go_wp2_with fail
    refine (HR.out _).mono ?_
    rintro e0 w0 ⟨rfl,hb0⟩
    have hw0:Below w.heap.size w w0:=by
     refine Below.trans ?_ (hb0.mono ?_)
     ·go_grown
     ·go_size
    have c2:w0.cell? ⟨w.heap.size,2,none⟩=some (.int .i64 n):=by
     rw [hb0.cell (by simp<;>omega)]
     first|assumption|(simp [go_sem];done)|(simp [go_sem, *];done)
    go_wp2
    all_goals
     go_ret
     exact ⟨rfl,by go_grown⟩
  ·rw [cnt_none (by omega)]
   clear hR
   go_enter Tryz.func175,Tryz.ntmps175
   go_wp2_with fail
   refine (HR.out _).mono ?_
   rintro e0 w0 ⟨rfl,hb0⟩
   have hw0:Below w.heap.size w w0:=by
    refine Below.trans ?_ (hb0.mono ?_)
    ·go_grown
    ·go_size
   have c2:w0.cell? ⟨w.heap.size,2,none⟩=some (.int .i64 n):=by
    rw [hb0.cell (by simp<;>omega)]
    first|assumption|(simp [go_sem];done)|(simp [go_sem, *];done)
   go_wp2
   all_goals
    go_ret
    exact ⟨rfl,by go_grown⟩
def keysV (h l:Nat) (n m:Int):List Pf:=if rightB h l n=true/\n<=m/\m<=128/\m-n<=8 then pfs (keysN (val h l) n.toNat m.toNat) m else []
theorem keysV_none {h l:Nat} {n m:Int} (hc:¬(rightB h l n=true/\n<=m/\m<=128/\m-n<=8)):keysV h l n m=[]:=if_neg hc
theorem keysV_some {h l:Nat} {n m:Int} (hc:rightB h l n=true/\n<=m/\m<=128/\m-n<=8):keysV h l n m=pfs (keysN (val h l) n.toNat m.toNat) m:=if_pos hc
theorem keysV_len (h l:Nat) (n m:Int) (b:W64 l):(keysV h l n m).length=cntN h l n m:=by
 unfold keysV cntN
 by_cases hc:rightB h l n=true/\n<=m/\m<=128/\m-n<=8
 ·rw [if_pos hc,if_pos hc,pfs_len,keys_len]
  obtain ⟨h0,-⟩:=(rightB_val h l n b).1 hc.1
  congr 1
  omega
 ·rw [if_neg hc,if_neg hc];rfl
def GivesRow (f:FuncId) (args:Array Value) (L:List Pf):Prop:=∀w,Calls Tryz.prog f args w fun e w'=>∃p c,e = .returned (.slice p L.length c)/\w'.ownsRow w.heap.size 39 3 (.slice p L.length c) L.length (pcs L)/\Below w.heap.size w w'
theorem infoP:(Tryz.prog.info? 39).map (fun i=>(i.zero,i.size,i.bytes))=some (some (.agg #[.int .u64 0,.int .u64 0,.int .i64 0]),3,24):=by kernel_rfl
theorem raiseH_w (x k:Nat) (h:x<2^64):W64 (raiseH x k):=by
 unfold raiseH W64
 split
 ·exact Nat.mod_lt _ (by decide)
 ·exact Nat.lt_of_le_of_lt (Nat.div_le_self _ _) h
theorem raiseL_w (x k:Nat):W64 (raiseL x k):=by
 unfold raiseL W64
 split
 ·decide
 ·exact Nat.mod_lt _ (by decide)
theorem keysV_at {h l:Nat} {n m:Int} (hc:rightB h l n=true/\n<=m/\m<=128/\m-n<=8) (b:W64 l) (k:Nat) (hk:k<(keysV h l n m).length):(keysV h l n m)[k]=⟨val h l+k*2^(128-m.toNat),m⟩:=by
 have e:=keysV_some hc
 have:(keysV h l n m)[k]? = some ⟨val h l+k*2^(128-m.toNat),m⟩:=by
  rw [e]
  rw [e,pfs_len,keys_len] at hk
  simp [pfs,keysN,hk]
 rw [List.getElem?_eq_getElem hk] at this
 injection this
set_option maxHeartbeats 1000000 in
theorem keys_any (hi lo:Nat) (n m:Int) (ha:W64 hi) (hb:W64 lo) :
 GivesRow 142 #[.agg #[.int .u64 hi,.int .u64 lo,.int .i64 n],.int .i64 m] (keysV hi lo n m):=by
 intro w
 have hc:=count_any hi lo n m ha hb
 have hl:=keysV_len hi lo n m hb
 have hle:=cnt_le hi lo n m
 obtain ⟨c,hcn⟩:∃c,c=cntN hi lo n m:=⟨_,rfl⟩
 rw [<-hcn] at hc hl hle
 have hmk:=make_row (P:=Tryz.prog) (t:=89) Tryz.underlying89 infoP c (by omega) (by unfold maxLen;omega)
 have HC:=Lib.hid hc
 have HL:=Lib.hid hl
 have HN:=Lib.hid hcn
 clear hc hl hcn
 go_enter Tryz.func142,Tryz.ntmps142
 go_wp2_with fail
 refine (HC.out _).mono ?_
 rintro e0 w0 ⟨rfl,hb0⟩
 have hw0:Below w.heap.size w w0:=by
  refine Below.trans ?_ (hb0.mono ?_)
  ·go_grown
  ·go_size
 have c0:w0.cell? ⟨w.heap.size,0,none⟩=some (.int .u64 hi):=by
  rw [hb0.cell (by simp<;>omega)]
  first|assumption|(simp [go_sem];done)|(simp [go_sem, *];done)
 have c1:w0.cell? ⟨w.heap.size,1,none⟩=some (.int .u64 lo):=by
  rw [hb0.cell (by simp<;>omega)]
  first|assumption|(simp [go_sem];done)|(simp [go_sem, *];done)
 obtain ⟨zs,hzs⟩:∃zs,zs=(madeCells #[.int .u64 0,.int .u64 0,.int .i64 0] (c*3)).toList:=⟨_,rfl⟩
 have hw0z:w.heap.size<w0.heap.size:=by have:=hb0.size;simp at this;omega
 have hown0:(w0.alloc (.cells (madeCells #[.int .u64 0,.int .u64 0,.int .i64 0] (c*3)) 39)).ownsRow w.heap.size 39 3 (.slice (some ⟨w0.heap.size,0,none⟩) c c) c (madeCells #[.int .u64 0,.int .u64 0,.int .i64 0] (c*3)).toList:=
  World.ownsRow_lit _ _ c (by omega) (by unfold maxLen;omega) (by simp [madeCells])
 go_wp2
 go_loopw [14] (fun i wr=>∃(k:Nat) (xs:List Value),k<=c/\i = .int .i64 k/\wr.ownsRow w.heap.size 39 3 (.slice (some ⟨w0.heap.size,0,none⟩) c c) c xs/\Hid (xs.take (k*3)=pcs ((keysV hi lo n m).take k)) /\
  Below w.heap.size w wr/\wr.cell? ⟨w.heap.size,0,none⟩=some (.int .u64 hi)/\wr.cell? ⟨w.heap.size,1,none⟩=some (.int .u64 lo)) (fun i _=>c-(intOf i).toNat)
 case atStart=>exact ⟨0,_,Nat.zero_le _,rfl,hown0,Lib.hid (by simp [pcs]),by go_grown,by rw [World.cell?_alloc_lt _ _ _ hw0z];exact c0,by rw [World.cell?_alloc_lt _ _ _ hw0z];exact c1⟩
 case round=>
  clear hown0
  obtain ⟨k,xs,hk,rfl,hown,hxs,hw1,c0,c1⟩:=hrel
  by_cases hlt:k<c
  ·have hcond:rightB hi lo n=true/\n<=m/\m<=128/\m-n<=8:=by
    by_cases hx:rightB hi lo n=true/\n<=m/\m<=128/\m-n<=8
    ·exact hx
    ·have:=HN.out
     rw [cnt_none hx] at this
     omega
   obtain ⟨hr0,hr1,hr2⟩:=(rightB_val hi lo n hb).1 hcond.1
   obtain ⟨j,hj⟩:∃j:Nat,(j:Int)=128-m:=⟨(128-m).toNat,by omega⟩
   have hcv:c=2^(m.toNat-n.toNat):=by
    have:=HN.out
    rw [cnt_some hcond] at this
    rw [this];congr 1;omega
   obtain ⟨hkh,hkl,hkw⟩:=key_words (val hi lo) k n.toNat m.toNat (by omega) (by omega) (ha.val hb) hr2 (by omega)
   rw [hi_val hi lo hb,show 128-m.toNat=j by omega] at hkh
   rw [lo_val hi lo hb,show 128-m.toNat=j by omega] at hkl
   have hR:=raise_any k j (by omega)
   rw [hj] at hR
   have o1:bits BinOp.or IntKind.u64 (hi:Int) (raiseH k j:Nat)=((hiW (val hi lo+k*2^j):Nat):Int):=by rw [bits_or_u64_nat _ _ ha.lt (raiseH_w k j (by omega)).lt,hkh]
   have o2:bits BinOp.or IntKind.u64 (lo:Int) (raiseL k j:Nat)=((loW (val hi lo+k*2^j):Nat):Int):=by rw [bits_or_u64_nat _ _ hb.lt (raiseL_w k j).lt,hkl]
   have hm0:0<=m:=by omega
   have hm1:m<=128:=by omega
   have HR:=Lib.hid hR
   have HO:=Lib.hid (And.intro hcond (And.intro hj hkw))
   clear hR hcond hj hkh hkl hkw hcv hr0 hr1 hr2
   go_wp2_with fail
   refine (HR.out _).mono ?_
   rintro e w1 ⟨rfl,hb1⟩
   have hz1:=hw1.size
   have hgz:=(hown.lt w0.heap.size rfl).2
   have hgz1:w0.heap.size<w1.heap.size:=Nat.lt_of_lt_of_le hgz hb1.size
   have hown1:=own_below hown hb1
   have hw2:=hw1.trans (hb1.mono hz1)
   obtain ⟨hc1,-⟩:=bcell hb1
   have c0:=(hc1 _ _ (by omega)).trans c0
   have c1:=(hc1 _ _ (by omega)).trans c1
   have hxl:xs.length=c*3:=hown1.1
   obtain ⟨v0,d0⟩:∃v,w1.cell? ⟨w0.heap.size,k*3,none⟩=some v:=⟨_,(hown1.cellAt (k*3) (by omega)).trans (List.getElem?_eq_getElem (by omega))⟩
   obtain ⟨v1,d1⟩:∃v,w1.cell? ⟨w0.heap.size,k*3+1,none⟩=some v:=⟨_,(hown1.cellAt (k*3+1) (by omega)).trans (List.getElem?_eq_getElem (by omega))⟩
   obtain ⟨v2,d2⟩:∃v,w1.cell? ⟨w0.heap.size,k*3+2,none⟩=some v:=⟨_,(hown1.cellAt (k*3+2) (by omega)).trans (List.getElem?_eq_getElem (by omega))⟩
   have f0:=hown1.frozenAt (k*3)
   have f1:=hown1.frozenAt (k*3+1)
   have f2:=hown1.frozenAt (k*3+2)
   have HXL:=Lib.hid hxl
   have hwz1:w.heap.size<w1.heap.size:=by omega
   clear hc1 hown hw1 hb1 hxl
   go_wp2
   go_roundw
   case rel=>
    have S:=(store3 hown1 k (.int .u64 (hiW (val hi lo+k*2^j):Nat)) (.int .u64 (loW (val hi lo+k*2^j):Nat)) (.int .i64 m)).alloc (.cells #[.int .u64 (raiseH k j:Nat),.int .u64 (raiseL k j:Nat)] 37)
    refine ⟨k+1,_,by omega,by go_num,S,Lib.hid ?_,by go_grown,?_,?_⟩
    ·have hcl:k<(keysV hi lo n m).length:=by rw [HL.out];exact hlt
     rw [set3_take _ _ _ _ _ (by have:=HXL.out;omega),hxs.out,List.take_succ_eq_append_getElem hcl,pcs_append,pcs_one,keysV_at HO.out.1 hb k hcl,show 128-m.toNat=j by have:=HO.out.2.1;omega]
     rfl
    ·simp [go_sem,c0,c1,hwz1]
    ·simp [go_sem,c0,c1,hwz1]
   case measure=>simp [intOf];omega
  ·go_wp2
   go_ret
   have hL:=HL.out
   have hx:=hxs.out
   have hkc:k=c:=by omega
   rw [List.take_of_length_le (by rw [hown.1,hkc];exact Nat.le_refl _),List.take_of_length_le (by omega)] at hx
   refine ⟨some ⟨w0.heap.size,0,none⟩,c,by rw [hL];rfl,?_,hw1⟩
   rw [hL,<-hx]
   exact hown
theorem mul64_any (x y:Nat) (hx:W64 x) (hy:W64 y):Gives Tryz.prog 177 #[.int .u64 x,.int .u64 y] (.tuple #[.int .u64 (redN x y:Nat),.int .u64 (x*y%18446744073709551616:Nat)]):=
 Gives.still fun w=>(Tryz.bits_Mul64 x y hx.lt hy.lt w).mono fun e w' ⟨he,hw⟩=>⟨he,hw.symm⟩
set_option maxHeartbeats 1000000 in
theorem red_any (x:Nat) (m:Int) (hx:W64 x) (hm:m<=9223372036854775807) :
 Gives Tryz.prog 145 #[.int .u64 x,.int .i64 m] (.int .i64 (redI x m)):=by
 intro w
 by_cases h:m<1
 ·rw [redI_none h]
  go_enter Tryz.func145,Tryz.ntmps145
  go_wp2
  go_ret
  exact ⟨rfl,by go_grown⟩
 ·obtain ⟨k,rfl⟩:=Int.eq_ofNat_of_zero_le (show 0<=m by omega)
  rw [redI_nat x k (by omega)]
  have hlt:=redN_lt x k hx (by omega)
  have HM:=Lib.hid (mul64_any x k hx (W64.mk (by omega)))
  have HL:=Lib.hid (IntWalk.wrap64_in (redN x k:Nat) (by omega))
  clear hlt
  go_enter Tryz.func145,Tryz.ntmps145
  go_wp2_with fail
  refine (HM.out _).mono ?_
  rintro e0 w0 ⟨rfl,hb0⟩
  have hw0:Below w.heap.size w w0:=by
   refine Below.trans ?_ (hb0.mono ?_)
   ·go_grown
   ·go_size
  go_wp2
  go_ret
  exact ⟨ret_num HL.out,hw0⟩
theorem mixx_any (h i:Nat) (hh:W64 h) (hi:W64 i):Gives Tryz.prog 27 #[.int .u64 (bits BinOp.xor IntKind.u64 (h:Int) (i:Int))] (.int .u64 (mixN (h ^^^ i):Nat)):=by
 have:=mix_any (bits BinOp.xor IntKind.u64 (h:Int) (i:Int))
 rw [xor_word h i hh hi,mixZ_nat _ (Nat.xor_lt_two_pow hh hi)] at this
 rwa [xor_word h i hh hi]
set_option maxHeartbeats 1000000 in
theorem buck_any (s h l:Nat) (n m:Int) (hs:W64 s) (hh:W64 h) (hl:W64 l) (hm:m<=9223372036854775807) :
 Gives Tryz.prog 117 #[.int .u64 s,.agg #[.int .u64 h,.int .u64 l,.int .i64 n],.int .i64 m] (.tuple #[.int .i64 (buckI (hashN s h l (wordZ n)) 1 m),.int .i64 (buckI (hashN s h l (wordZ n)) 2 m)]):=by
 intro w
 have HH:=Lib.hid (hash_any s h l n hs hh hl)
 have hw:W64 (hashN s h l (wordZ n)):=mixN_w _
 generalize hashN s h l (wordZ n)=v at HH hw ⊢
 have HM1:=Lib.hid (mixx_any v 1 hw (W64.mk (by omega)))
 have HM2:=Lib.hid (mixx_any v 2 hw (W64.mk (by omega)))
 have HR1:=Lib.hid (red_any (mixN (v ^^^ 1)) m (mixN_w _) hm)
 have HR2:=Lib.hid (red_any (mixN (v ^^^ 2)) m (mixN_w _) hm)
 go_enter Tryz.func117,Tryz.ntmps117
 go_wp2_with fail
 refine (HH.out _).mono ?_
 rintro e0 w0 ⟨rfl,hb0⟩
 have hw0:Below w.heap.size w w0:=by
  refine Below.trans ?_ (hb0.mono ?_)
  ·go_grown
  ·go_size
 go_wp2_with fail
 refine (HM1.out _).mono ?_
 rintro e w1 ⟨rfl,hb1⟩
 have hw1:=hw0.trans (hb1.mono hw0.size)
 go_wp2_with fail
 refine (HR1.out _).mono ?_
 rintro e w2 ⟨rfl,hb2⟩
 have hw2:=hw1.trans (hb2.mono hw1.size)
 go_wp2_with fail
 refine (HM2.out _).mono ?_
 rintro e w3 ⟨rfl,hb3⟩
 have hw3:=hw2.trans (hb3.mono hw2.size)
 go_wp2_with fail
 refine (HR2.out _).mono ?_
 rintro e w4 ⟨rfl,hb4⟩
 have hw4:=hw3.trans (hb4.mono hw3.size)
 go_wp2
 go_ret2
 exact ⟨rfl,hw4⟩
end Go.Proofs.YtgfjmgebecmbiaaGreat
