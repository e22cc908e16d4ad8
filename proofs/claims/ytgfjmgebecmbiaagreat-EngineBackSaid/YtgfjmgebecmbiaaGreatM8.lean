/-
  Plain mathematics of packed bits: words that hold sixty-four of them, how many of them are on. No condition.
-/
import Derived.Test.YtgfjmgebecmbiaaGreatM4
import Derived.Test.YtgfjmgebecmbiaaGreatM12
set_option linter.unusedSimpArgs false
set_option linter.unusedVariables false
namespace Go.Proofs.YtgfjmgebecmbiaaGreat
namespace M
def dg (b:Nat):List Nat->Nat
 | []=>0
 | a::l=>2^b*dg b l+a
theorem dg_lt {b:Nat}:∀{l:List Nat},(∀a∈l,a<2^b)->dg b l<2^(b*l.length)
 | [],_=>by simp [dg]
 | a::l,h=>by
  have h1:=h a (by simp)
  have h2:=dg_lt (b:=b) (l:=l) (fun x hx=>h x (by simp [hx]))
  rw [List.length_cons,Nat.mul_add,Nat.mul_one,Nat.pow_add]
  show 2^b*dg b l+a<_
  have:2^b*(dg b l+1)<=2^b*2^(b*l.length):=Nat.mul_le_mul_left _ h2
  rw [Nat.mul_add,Nat.mul_one] at this
  rw [Nat.mul_comm (2^(b*l.length))]
  omega
theorem dg_at {b:Nat}:∀{l:List Nat} (k:Nat) (hk:k<l.length),(∀a∈l,a<2^b)->dg b l/2^(b*k)%2^b=l[k]
 | a::l,0,_,h=>by
  have h1:=h a (by simp)
  simp only [Nat.mul_zero,Nat.pow_zero,Nat.div_one,List.getElem_cons_zero]
  show (2^b*dg b l+a)%2^b=a
  rw [Nat.mul_add_mod,Nat.mod_eq_of_lt h1]
 | a::l,k+1,hk,h=>by
  have h1:=h a (by simp)
  have h2:=dg_at (b:=b) (l:=l) k (by simpa using hk) (fun x hx=>h x (by simp [hx]))
  rw [Nat.mul_add,Nat.mul_one,Nat.add_comm (b*k),Nat.pow_add,<-Nat.div_div_eq_div_mul]
  show (2^b*dg b l+a)/2^b/_%_=_
  rw [Nat.mul_add_div (Nat.two_pow_pos b),Nat.div_eq_of_lt h1,Nat.add_zero,h2]
  simp
theorem dg_set {b:Nat}:∀{l:List Nat} (k v:Nat) (hk:k<l.length),dg b (l.set k v)+l[k]*2^(b*k)=dg b l+v*2^(b*k)
 | a::l,0,v,_=>by
  show 2^b*dg b l+v+a*_=2^b*dg b l+a+v*_
  simp
  omega
 | a::l,k+1,v,hk=>by
  have h2:=dg_set (b:=b) (l:=l) k v (by simpa using hk)
  show 2^b*dg b (l.set k v)+a+(a::l)[k+1]*_=2^b*dg b l+a+v*_
  rw [List.getElem_cons_succ,Nat.mul_add,Nat.mul_one,Nat.add_comm (b*k),Nat.pow_add]
  have:2^b*(dg b (l.set k v)+l[k]'(by simpa using hk)*2^(b*k))=2^b*(dg b l+v*2^(b*k)):=by rw [h2]
  rw [Nat.mul_add,Nat.mul_add] at this
  have e1:∀x:Nat,x*(2^b*2^(b*k))=2^b*(x*2^(b*k)):=fun x=>by rw [Nat.mul_left_comm]
  rw [e1,e1]
  omega
theorem and15 (a:Nat):a &&& 15=a%16:=Nat.and_two_pow_sub_one_eq_mod a 4
end M
namespace M
def nibL (C:List Nat) (j:Nat):List Nat:=(List.range 16).map fun i=>C.getD (16*j+i) 0
def wordN (C:List Nat) (j:Nat):Nat:=dg 4 (nibL C j)
def wordsN (C:List Nat):List Nat:=(List.range ((C.length+15)/16)).map (wordN C)
theorem nibL_len (C:List Nat) (j:Nat):(nibL C j).length=16:=by simp [nibL]
theorem nibL_at (C:List Nat) (j i:Nat) (h:i<(nibL C j).length):(nibL C j)[i]=C.getD (16*j+i) 0:=by simp [nibL]
theorem getD_lt {C:List Nat} (h:∀c∈C,c<=15) (i:Nat):C.getD i 0<16:=by
 rw [List.getD_eq_getElem?_getD]
 by_cases hi:i<C.length
 ·rw [List.getElem?_eq_getElem hi]
  have:=h C[i] (List.getElem_mem hi)
  show C[i]<16
  omega
 ·rw [List.getElem?_eq_none (by omega)]
  decide
theorem nibL_lt {C:List Nat} (h:∀c∈C,c<=15) (j:Nat):∀a∈nibL C j,a<2^4:=by
 intro a ha
 unfold nibL at ha
 rw [List.mem_map] at ha
 obtain ⟨i,-,rfl⟩:=ha
 exact getD_lt h _
theorem wordN_lt {C:List Nat} (h:∀c∈C,c<=15) (j:Nat):wordN C j<18446744073709551616:=by
 have:=dg_lt (nibL_lt h j)
 rwa [nibL_len] at this
theorem wordN_at {C:List Nat} (h:∀c∈C,c<=15) (k:Nat):wordN C (k/16)/2^(4*(k%16))%16=C.getD k 0:=by
 have hk:k%16<(nibL C (k/16)).length:=by rw [nibL_len];omega
 have:=dg_at (k%16) hk (nibL_lt h (k/16))
 rw [nibL_at,show 16*(k/16)+k%16=k by omega] at this
 exact this
theorem getD_set {C:List Nat} {k v i:Nat} (hk:k<C.length):(C.set k v).getD i 0=if i=k then v else C.getD i 0:=by
 rw [List.getD_eq_getElem?_getD,List.getElem?_set,List.getD_eq_getElem?_getD]
 split
 ·rename_i h
  subst h
  simp [hk]
 ·rename_i h
  rw [if_neg (fun e=>h e.symm)]
theorem nibL_set (C:List Nat) (k v:Nat) (hk:k<C.length):nibL (C.set k v) (k/16)=(nibL C (k/16)).set (k%16) v:=by
 apply List.ext_getElem
 ·rw [List.length_set,nibL_len,nibL_len]
 ·intro i h1 h2
  rw [nibL_at,getD_set hk,List.getElem_set]
  have:(16*(k/16)+i=k)↔(k%16=i):=by omega
  by_cases e:k%16=i
  ·rw [if_pos (this.2 e),if_pos e]
  ·rw [if_neg (fun x=>e (this.1 x)),if_neg e,nibL_at]
theorem nibL_far (C:List Nat) (k v j:Nat) (hk:k<C.length) (hj:j≠k/16):nibL (C.set k v) j=nibL C j:=by
 unfold nibL
 apply List.map_congr_left
 intro i hi
 rw [List.mem_range] at hi
 rw [getD_set hk,if_neg (by omega)]
theorem wordN_set (C:List Nat) (k v:Nat) (hk:k<C.length):wordN (C.set k v) (k/16)+C[k]*2^(4*(k%16))=wordN C (k/16)+v*2^(4*(k%16)):=by
 unfold wordN
 rw [nibL_set C k v hk]
 have hl:k%16<(nibL C (k/16)).length:=by rw [nibL_len];omega
 have:=dg_set (b:=4) (k%16) v hl
 rw [nibL_at,show 16*(k/16)+k%16=k by omega,List.getD_eq_getElem?_getD,List.getElem?_eq_getElem hk] at this
 exact this
theorem wordsN_len (C:List Nat):(wordsN C).length=(C.length+15)/16:=by simp [wordsN]
theorem wordsN_at (C:List Nat) (j:Nat) (h:j<(C.length+15)/16):(wordsN C)[j]? = some (wordN C j):=by simp [wordsN,h]
theorem wordsN_set (C:List Nat) (k v:Nat) (hk:k<C.length):(wordsN C).set (k/16) (wordN (C.set k v) (k/16))=wordsN (C.set k v):=by
 apply List.ext_getElem?
 intro j
 rw [List.getElem?_set,wordsN_len]
 by_cases hj:j<(C.length+15)/16
 ·rw [wordsN_at (C.set k v) j (by rw [List.length_set];exact hj)]
  by_cases e:k/16=j
  ·rw [if_pos e,if_pos (by omega),e]
  ·rw [if_neg e,wordsN_at C j hj]
   unfold wordN
   rw [nibL_far C k v j hk (fun h=>e h.symm)]
 ·rw [List.getElem?_eq_none (l:=wordsN (C.set k v)) (by rw [wordsN_len,List.length_set];omega)]
  split
  ·rw [if_neg (by omega)]
  ·rw [List.getElem?_eq_none (by rw [wordsN_len];omega)]
theorem dg_zero (b:Nat):∀n,dg b (List.replicate n 0)=0
 | 0=>rfl
 | n+1=>by
  show 2^b*dg b (List.replicate n 0)+0=0
  rw [dg_zero b n]
  rfl
theorem wordsN_zero (n:Nat):wordsN (List.replicate n 0)=List.replicate ((n+15)/16) 0:=by
 unfold wordsN
 rw [List.length_replicate]
 apply List.ext_getElem?
 intro j
 by_cases hj:j<(n+15)/16
 ·simp only [List.getElem?_map,List.getElem?_range hj,Option.map_some]
  rw [List.getElem?_replicate,if_pos hj]
  congr 1
  unfold wordN
  rw [show nibL (List.replicate n 0) j=List.replicate 16 0 from ?_,dg_zero]
  apply List.ext_getElem
  ·simp [nibL]
  ·intro i h1 h2
   rw [nibL_at,List.getElem_replicate,List.getD_eq_getElem?_getD,List.getElem?_replicate]
   split<;>rfl
 ·rw [List.getElem?_eq_none (by simp;omega),List.getElem?_eq_none (by simp;omega)]
end M
end Go.Proofs.YtgfjmgebecmbiaaGreat
namespace Go.Proofs.YtgfjmgebecmbiaaGreat
open Go.RowKit Go.Sort M
theorem andN (a b:Nat) (ha:a<18446744073709551616) (hb:b<18446744073709551616):bits BinOp.and IntKind.u64 (a:Int) (b:Int)=((a &&& b:Nat):Int):=bits_and_u64_nat a b ha hb
theorem wrapN (n:Nat) (h:n<18446744073709551616):IntKind.u64.wrap (n:Int)=(n:Int):=by
 rw [IntKind.wrap_u64]
 omega
theorem shift_any (i:Int) (h0:0<=i) (h1:i<=65536):Gives Tryz.prog 169 #[.int .i64 i] (.int .i64 (4*(i.toNat%16):Nat)):=by
 intro w
 go_enter Tryz.func169,Tryz.ntmps169
 go_wp2
 go_ret
 refine ⟨ret_num ?_,by go_grown⟩
 omega
end Go.Proofs.YtgfjmgebecmbiaaGreat
namespace Go.Proofs.YtgfjmgebecmbiaaGreat
open Go.RowKit Go.Sort
theorem grown_below {w w':World} (hb:Below w.heap.size w w'):w.grownBy w' none:=⟨hb.os,hb.tape,hb.output,hb.size,fun k hk _=>hb.block k hk⟩
end Go.Proofs.YtgfjmgebecmbiaaGreat
namespace Go.Proofs.YtgfjmgebecmbiaaGreat
open Go.RowKit Go.Sort M
def ucs (L:List Nat):List Value:=L.map fun (x:Nat) => .int .u64 (x:Int)
theorem ucs_set (L:List Nat) (k x:Nat):(ucs L).set k (.int .u64 (x:Int))=ucs (L.set k x):=by simp [ucs,List.map_set]
theorem ucs_cell (L:List Nat) (k x:Nat) (h:L[k]? = some x):(ucs L)[k]? = some (.int .u64 (x:Int)):=by simp [ucs,h]
theorem info64:(Tryz.prog.info? 24).map (fun i=>(i.zero,i.size,i.bytes))=some (some (.int .u64 0),1,8):=by kernel_rfl
def nW (C:List Nat):Nat:=(C.length+15)/16
structure Nib (w:World) (B g h:Nat) (C:List Nat):Prop where
 low:B<=g
 lt:g<w.heap.size
 ne:h≠g
 words:w.cell? ⟨g,0,none⟩=some (.slice (some ⟨h,0,none⟩) (nW C) (nW C))
 num:w.cell? ⟨g,1,none⟩=some (.int .i64 (C.length:Int))
 own:w.ownsRow B 24 1 (.slice (some ⟨h,0,none⟩) (nW C) (nW C)) (nW C) (ucs (wordsN C))
 small:∀c∈C,c<=15
 len:C.length<=65536
theorem Nib.kept {w w':World} {B g h:Nat} {C:List Nat} {row:Option Nat} (H:Nib w B g h C) (hg:w.grownBy w' row) (h1:some g≠row) (h2:some h≠row):Nib w' B g h C:=
 ⟨H.low,Nat.lt_of_lt_of_le H.lt hg.size,H.ne,hg.cell H.words h1,hg.cell H.num h1,H.own.kept hg (.inr h2),H.small,H.len⟩
theorem Nib.below {w w':World} {B g h:Nat} {C:List Nat} (H:Nib w B g h C) (hb:Below w.heap.size w w'):Nib w' B g h C:=H.kept (grown_below hb) (by simp) (by simp)
theorem Nib.low2 {w:World} {B g h:Nat} {C:List Nat} (H:Nib w B g h C):B<=h/\h<w.heap.size:=H.own.lt h rfl
def NibAt (w:World) (B:Nat) (v:Value) (C:List Nat):Prop:=∃g h,v = .pointer (some ⟨g,0,none⟩)/\Nib w B g h C
theorem Nib.new (w:World) (c:Nat) (x:Int) (hc:c<=65536) (hx:x=(c:Int)) (t:TypeId) :
 Nib ((w.alloc (.cells (madeCells #[.int .u64 0] ((c+15)/16)) 24)).alloc (.cells #[.slice (some ⟨w.heap.size,0,none⟩) ((c+15)/16) ((c+15)/16),.int .i64 x] t)) w.heap.size (w.heap.size+1) w.heap.size (List.replicate c 0):=by
 have e:nW (List.replicate c 0)=(c+15)/16:=by simp [nW]
 subst hx
 refine ⟨by omega,by simp,by omega,?_,?_,?_,?_,by simpa using hc⟩
 ·rw [e]
  simp [go_sem]
 ·rw [List.length_replicate]
  simp [go_sem]
 ·rw [e,wordsN_zero]
  refine World.ownsRow.alloc ?_ _
  have:=World.ownsRow_lit (base:=w.heap.size) (e:=24) (size:=1) w (madeCells #[.int .u64 0] ((c+15)/16)) ((c+15)/16) (Nat.le_refl _) (by unfold maxLen;omega) (by simp [madeCells])
  rwa [toList_madeCells_one,show List.replicate ((c+15)/16) (Value.int .u64 0)=ucs (List.replicate ((c+15)/16) 0) by simp [ucs]] at this
 ·intro x hx
  rw [List.eq_of_mem_replicate hx]
  omega
set_option maxHeartbeats 1000000 in
set_option maxRecDepth 100000 in
theorem new_any (n:Int) (hn:n<=9223372036854775807) (hn0 : -9223372036854775808<=n) (w:World) :
 Calls Tryz.prog 77 #[.int .i64 n] w fun e w'=>∃v,e = .returned v/\NibAt w' w.heap.size v (List.replicate (min n.toNat 65536) 0)/\Below w.heap.size w w':=by
 obtain ⟨c,hc⟩:∃c,c=min n.toNat 65536:=⟨_,rfl⟩
 rw [<-hc]
 have hmk:=make_row (P:=Tryz.prog) (t:=161) Tryz.underlying161 info64 ((c+15)/16) (by omega) (by unfold maxLen;omega)
 by_cases h0:n<=0
 ·have HC:Hid (c=0):=by show c=0;omega
  have he:(((c+15)/16:Nat):Int)=0:=by omega
  clear hc
  rw [he] at hmk
  simp only [Value.cells,Nat.mul_one] at hmk
  clear he
  go_enter Tryz.func77,Tryz.ntmps77
  go_wp2
  go_ret
  exact ⟨_,rfl,⟨_,_,rfl,Nib.new w c 0 (by have:=HC.out;omega) (by rw [HC.out];rfl) _⟩,by go_grown⟩
 ·by_cases h1:65536<n
  ·have HC:Hid (c=65536):=by show c=65536;omega
   have he:(((c+15)/16:Nat):Int)=4096:=by omega
   clear hc
   rw [he] at hmk
   simp only [Value.cells,Nat.mul_one] at hmk
   clear he
   go_enter Tryz.func77,Tryz.ntmps77
   go_wp2
   go_ret
   exact ⟨_,rfl,⟨_,_,rfl,Nib.new w c 65536 (by have:=HC.out;omega) (by rw [HC.out];rfl) _⟩,by go_grown⟩
  ·obtain rfl:n=(c:Int):=by omega
   have he:(((c+15)/16:Nat):Int)=((c:Int)+16-1)/16:=by omega
   clear hc
   rw [he] at hmk
   simp only [Value.cells,Nat.mul_one] at hmk
   clear he
   go_enter Tryz.func77,Tryz.ntmps77
   go_wp2
   go_ret
   exact ⟨_,rfl,⟨_,_,rfl,Nib.new w c c (by omega) rfl _⟩,by go_grown⟩
theorem len_any (B g h:Nat) (C:List Nat) (w:World) (H:Nib w B g h C) :
 Calls Tryz.prog 186 #[.pointer (some ⟨g,0,none⟩)] w fun e w'=>e = .returned (.int .i64 (C.length:Int))/\Below w.heap.size w w':=by
 have c0:=H.words
 have c1:=H.num
 have hl:=H.lt
 clear H
 go_enter Tryz.func186,Tryz.ntmps186
 go_wp2
 go_ret
 exact ⟨rfl,by go_grown⟩
theorem nhas_any (B g h:Nat) (C:List Nat) (k:Int) (w:World) (H:Nib w B g h C) :
 Calls Tryz.prog 168 #[.pointer (some ⟨g,0,none⟩),.int .i64 k] w fun e w'=>e = .returned (.bool (decide (0<=k/\k<C.length)))/\Below w.heap.size w w':=by
 have HL:=Lib.hid (len_any B g h C w H)
 clear H
 by_cases h0:0<=k
 ·go_enter Tryz.func168,Tryz.ntmps168
  go_wp2_with fail
  refine HL.out.mono ?_
  rintro e w0 ⟨rfl,hw0⟩
  go_wp2
  go_ret
  exact ⟨ret_bool (by simp [h0]),hw0⟩
 ·go_enter Tryz.func168,Tryz.ntmps168
  go_wp2
  go_ret
  exact ⟨ret_bool (by simp;omega),by go_grown⟩
def getN (C:List Nat) (k:Int):Nat:=if 0<=k then C.getD k.toNat 0 else 0
theorem getN_lt {C:List Nat} (h:∀c∈C,c<=15) (k:Int):getN C k<16:=by
 unfold getN
 split
 ·exact getD_lt h _
 ·decide
theorem getN_no {C:List Nat} {k:Int} (h:¬(0<=k/\k<C.length)):getN C k=0:=by
 unfold getN
 split
 ·rw [List.getD_eq_getElem?_getD,List.getElem?_eq_none (by omega)]
  rfl
 ·rfl
theorem get_word (x k:Nat) (s:Int) (hx:x<18446744073709551616) (hs:s.toNat=4*(k%16)):wrap64 (bits BinOp.and IntKind.u64 ((x:Int)/2^s.toNat) 15)=((x/2^(4*(k%16))%16:Nat):Int):=by
 rw [hs]
 have h2:x/2^(4*(k%16))<18446744073709551616:=Nat.lt_of_le_of_lt (Nat.div_le_self _ _) hx
 have e:((x:Int)/2^(4*(k%16)))=((x/2^(4*(k%16)):Nat):Int):=by simp
 rw [e,show (15:Int)=((15:Nat):Int) from rfl,andN _ _ h2 (by decide),and15,IntWalk.wrap64_in _ (by omega)]
set_option maxHeartbeats 1000000 in
theorem get_any (B g h:Nat) (C:List Nat) (k:Int) (w:World) (H:Nib w B g h C) :
 Calls Tryz.prog 131 #[.pointer (some ⟨g,0,none⟩),.int .i64 k] w fun e w'=>e = .returned (.int .i64 (getN C k:Nat))/\Below w.heap.size w w':=by
 have HH:=Lib.hid (nhas_any B g h C k w H)
 by_cases h0:0<=k/\k<C.length
 ·have hd:decide (0<=k/\k<C.length)=true:=by simpa using h0
  rw [hd] at HH
  clear hd
  obtain ⟨i,rfl⟩:=Int.eq_ofNat_of_zero_le h0.1
  have hi:i<C.length:=by omega
  have hlen:=H.len
  clear h0
  obtain ⟨s,hs⟩:∃s:Int,s=((4*(i%16):Nat):Int):=⟨_,rfl⟩
  have hsh:=shift_any i (by omega) (by omega)
  rw [show (i:Int).toNat=i from rfl,<-hs] at hsh
  have HS:=Lib.hid hsh
  have s0:0<=s:=by omega
  have s1:s<64:=by omega
  have HT:Hid (s.toNat=4*(i%16)):=by show s.toNat=_;omega
  have hW:=wordN_lt H.small (i/16)
  have HG:=Lib.hid (wordN_at H.small i)
  have HC:=Lib.hid H
  clear hs hsh H
  go_enter Tryz.func131,Tryz.ntmps131
  go_wp2_with fail
  refine HH.out.mono ?_
  rintro e w0 ⟨rfl,hw0⟩
  have H0:=HC.out.below hw0
  have c0:=H0.words
  have hl:=H0.lt
  have hr:=H0.low2.2
  have i1:i/16<nW C:=by unfold nW;omega
  have d0:w0.cell? ⟨h,i/16,none⟩=some (.int .u64 (wordN C (i/16):Nat)):=(H0.own.cellAt (i/16) (by omega)).trans (ucs_cell _ _ _ (wordsN_at C _ i1))
  generalize wordN C (i/16)=x at *
  clear H0
  have hz0:=hw0.size
  go_wp2_with fail
  have kg:=cell_grow
  refine region_whole (by kernel_rfl) (by kernel_rfl) ?_
  repeat (any_goals (first|go_big_quiet_step ((exact HS.out.at _ _ _))|quiet_step ((exact HS.out.at _ _ _))))
  refine wpQuiet_nil ?_
  clear kg
  intro w1 hb1
  obtain ⟨hc1,hf1⟩:=bcell hb1
  have hw1:Below w.heap.size w w1:=by
   refine Below.trans ?_ (hb1.mono ?_)
   ·go_grown
   ·first|omega|go_size
  go_wp2
  go_ret
  exact ⟨ret_num (by rw [get_word x i s hW HT.out,HG.out];rfl),hw1⟩
 ·rw [getN_no h0]
  have hd:decide (0<=k/\k<C.length)=false:=by simpa using h0
  rw [hd] at HH
  clear hd h0 H
  go_enter Tryz.func131,Tryz.ntmps131
  go_wp2_with fail
  refine HH.out.mono ?_
  rintro e w0 ⟨rfl,hw0⟩
  go_wp2
  go_ret
  exact ⟨rfl,hw0⟩
def upB (C:List Nat) (k:Int):Bool:=decide (0<=k/\k<C.length)&&decide (getN C k≠15)
def upL (C:List Nat) (k:Int):List Nat:=if upB C k then C.set k.toNat (getN C k+1) else C
def downB (C:List Nat) (k:Int):Bool:=decide (0<=k/\k<C.length)&&decide (getN C k≠0)&&decide (getN C k≠15)
def downL (C:List Nat) (k:Int):List Nat:=if downB C k then C.set k.toNat (getN C k-1) else C
theorem pow2N (e:Nat):(2:Int)^e=((2^e:Nat):Int):=by simp
theorem up_word (x y v:Nat) (s:Int) (e:Nat) (hs:s.toNat=e) (h:y+v*2^e=x+(v+1)*2^e) (hy:y<18446744073709551616):IntKind.u64.wrap ((x:Int)+IntKind.u64.wrap (2^s.toNat))=((y:Nat):Int):=by
 rw [Nat.add_mul,Nat.one_mul] at h
 rw [hs,pow2N,wrapN _ (by omega),<-Int.natCast_add,wrapN _ (by omega)]
 omega
theorem down_word (x y v:Nat) (s:Int) (e:Nat) (hs:s.toNat=e) (h:y+(v+1)*2^e=x+v*2^e) (hx:x<18446744073709551616):IntKind.u64.wrap ((x:Int)-IntKind.u64.wrap (2^s.toNat))=((y:Nat):Int):=by
 rw [Nat.add_mul,Nat.one_mul] at h
 rw [hs,pow2N]
 generalize 2^e=P at *
 rw [wrapN _ (by omega),show (x:Int)-(P:Int)=((y:Nat):Int) by omega,wrapN _ (by omega)]
theorem small_set {C:List Nat} (h:∀c∈C,c<=15) (k v:Nat) (hv:v<=15):∀c∈C.set k v,c<=15:=by
 intro c hc
 rcases List.mem_or_eq_of_mem_set hc with h1 | h1
 ·exact h c h1
 ·omega
theorem Nib.set {w:World} {B g h:Nat} {C:List Nat} (H:Nib w B g h C) (k v:Nat) (hk:k<C.length) (hv:v<=15) (x:Int) (hx:x=(wordN (C.set k v) (k/16):Nat)) :
 Nib (w.setCell ⟨h,k/16,none⟩ (.int .u64 x)) B g h (C.set k v)/\w.grownBy (w.setCell ⟨h,k/16,none⟩ (.int .u64 x)) (some h):=by
 have hs:=H.own.stored (k/16) (.int .u64 x)
 have e:nW (C.set k v)=nW C:=by simp [nW]
 have hne:=H.ne
 refine ⟨⟨H.low,by simpa using H.lt,H.ne,?_,?_,?_,small_set H.small k v hv,by simpa using H.len⟩,hs.2⟩
 ·rw [e]
  exact hs.2.cell H.words (by simp;omega)
 ·rw [List.length_set]
  exact hs.2.cell H.num (by simp;omega)
 ·rw [e,<-wordsN_set C k v hk,<-ucs_set,<-hx]
  exact hs.1
set_option maxHeartbeats 1000000 in
theorem up_any (B g h:Nat) (C:List Nat) (k:Int) (w:World) (H:Nib w B g h C) :
 Calls Tryz.prog 136 #[.pointer (some ⟨g,0,none⟩),.int .i64 k] w fun e w'=>e = .returned (.bool (upB C k))/\Nib w' B g h (upL C k)/\w.grownBy w' (some h):=by
 have HH:=Lib.hid (nhas_any B g h C k w H)
 have HC:=Lib.hid H
 by_cases h0:0<=k/\k<C.length
 ·have hd:decide (0<=k/\k<C.length)=true:=by simpa using h0
  rw [hd] at HH
  by_cases h15:getN C k=15
  ·have hu:upB C k=false:=by simp [upB,h15]
   rw [show upL C k=C by simp [upL,hu],hu]
   clear hu hd h0 H
   go_enter Tryz.func136,Tryz.ntmps136
   go_wp2_with fail
   refine HH.out.mono ?_
   rintro e w0 ⟨rfl,hw0⟩
   go_wp2_with fail
   refine (get_any B g h C k _ (HC.out.below hw0)).mono ?_
   rintro e w1 ⟨rfl,hb1⟩
   have hw1:=hw0.trans (hb1.mono hw0.size)
   go_wp2
   go_ret
   exact ⟨rfl,HC.out.below hw1,(grown_below hw1).but _⟩
  ·have hu:upB C k=true:=by simp [upB,h15,h0]
   rw [show upL C k=C.set k.toNat (getN C k+1) by simp [upL,hu],hu]
   have hlt:=getN_lt H.small k
   obtain ⟨i,rfl⟩:=Int.eq_ofNat_of_zero_le h0.1
   have hi:i<C.length:=by omega
   have hlen:=H.len
   have hgi:getN C i=C[i]:=by
    unfold getN
    rw [if_pos (by omega),Int.toNat_natCast,List.getD_eq_getElem?_getD,List.getElem?_eq_getElem hi]
    rfl
   have hset:=wordN_set C i (getN C i+1) hi
   rw [<-hgi] at hset
   obtain ⟨s,hs⟩:∃s:Int,s=((4*(i%16):Nat):Int):=⟨_,rfl⟩
   have hsh:=shift_any i (by omega) (by omega)
   rw [show (i:Int).toNat=i from rfl,<-hs] at hsh
   have HS:=Lib.hid hsh
   have s0:0<=s:=by omega
   have s1:s<64:=by omega
   have HT:Hid (s.toNat=4*(i%16)):=by show s.toNat=_;omega
   have hW2:=wordN_lt (small_set H.small i (getN C i+1) (by omega)) (i/16)
   have HSET:=Lib.hid hset
   have HD:Hid (getN C i+1<=15):=by show getN C i+1<=15;omega
   have hne:((getN C i:Nat):Int)≠15:=by omega
   rw [Int.toNat_natCast]
   clear hs hsh H hset hgi hu hd h0 hlt
   obtain ⟨x,hx⟩:∃x,x=wordN C (i/16):=⟨_,rfl⟩
   have HX:=Lib.hid hx
   clear hx h15
   go_enter Tryz.func136,Tryz.ntmps136
   go_wp2_with fail
   refine HH.out.mono ?_
   rintro e w0 ⟨rfl,hw0⟩
   go_wp2_with fail
   refine (get_any B g h C i _ (HC.out.below hw0)).mono ?_
   rintro e w1 ⟨rfl,hb1⟩
   have hw1:=hw0.trans (hb1.mono hw0.size)
   have hz1:=hw1.size
   have H1:=HC.out.below hw1
   have c0:=H1.words
   have hl:=H1.lt
   have hr:=H1.low2.2
   have i1:i/16<nW C:=by unfold nW;omega
   have d0:w1.cell? ⟨h,i/16,none⟩=some (.int .u64 (x:Int)):=(H1.own.cellAt (i/16) (by omega)).trans (ucs_cell _ _ _ (by rw [HX.out];exact wordsN_at C _ i1))
   have f0:=H1.own.frozenAt (i/16)
   clear H1 hb1 hw0
   go_wp2_with fail
   have kg:=cell_grow
   refine region_tail 13 (by kernel_rfl) (by kernel_rfl) ?_
   simp only [List.take_succ_cons,List.take_zero,List.drop_succ_cons,List.drop_zero]
   repeat (any_goals (first|go_big_quiet_step ((exact HS.out.at _ _ _))|quiet_step ((exact HS.out.at _ _ _))))
   refine wpQuiet_nil ?_
   clear kg
   intro w2 hb2
   obtain ⟨hc2,hf2⟩:=bcell hb2
   have hw2:Below w.heap.size w w2:=by
    refine Below.trans ?_ (hb2.mono ?_)
    ·go_grown
    ·first|omega|go_size
   go_wp2
   go_ret
   have hN:=(HC.out.below hw2).set i _ hi HD.out _ (up_word x _ _ s _ HT.out (by have:=HSET.out;rwa [<-HX.out] at this) hW2)
   exact ⟨rfl,hN.1,((grown_below hw2).but _).trans hN.2⟩
 ·have hd:decide (0<=k/\k<C.length)=false:=by simpa using h0
  have hu:upB C k=false:=by simp [upB,hd]
  rw [hd] at HH
  rw [show upL C k=C by simp [upL,hu],hu]
  clear hd hu h0 H
  go_enter Tryz.func136,Tryz.ntmps136
  go_wp2_with fail
  refine HH.out.mono ?_
  rintro e w0 ⟨rfl,hw0⟩
  go_wp2
  go_ret
  exact ⟨rfl,HC.out.below hw0,(grown_below hw0).but _⟩
set_option maxHeartbeats 1000000 in
theorem down_any (B g h:Nat) (C:List Nat) (k:Int) (w:World) (H:Nib w B g h C) :
 Calls Tryz.prog 129 #[.pointer (some ⟨g,0,none⟩),.int .i64 k] w fun e w'=>e = .returned (.bool (downB C k))/\Nib w' B g h (downL C k)/\w.grownBy w' (some h):=by
 have HH:=Lib.hid (nhas_any B g h C k w H)
 have HC:=Lib.hid H
 by_cases h0:0<=k/\k<C.length
 ·have hd:decide (0<=k/\k<C.length)=true:=by simpa using h0
  rw [hd] at HH
  by_cases hz:getN C k=0
  ·have hu:downB C k=false:=by simp [downB,hz]
   rw [show downL C k=C by simp [downL,hu],hu]
   clear hu hd h0 H
   go_enter Tryz.func129,Tryz.ntmps129
   go_wp2_with fail
   refine HH.out.mono ?_
   rintro e w0 ⟨rfl,hw0⟩
   go_wp2_with fail
   refine (get_any B g h C k _ (HC.out.below hw0)).mono ?_
   rintro e w1 ⟨rfl,hb1⟩
   have hw1:=hw0.trans (hb1.mono hw0.size)
   go_wp2
   go_ret
   exact ⟨rfl,HC.out.below hw1,(grown_below hw1).but _⟩
  by_cases h15:getN C k=15
  ·have hu:downB C k=false:=by simp [downB,h15]
   rw [show downL C k=C by simp [downL,hu],hu]
   clear hu hd h0 H
   go_enter Tryz.func129,Tryz.ntmps129
   go_wp2_with fail
   refine HH.out.mono ?_
   rintro e w0 ⟨rfl,hw0⟩
   go_wp2_with fail
   refine (get_any B g h C k _ (HC.out.below hw0)).mono ?_
   rintro e w1 ⟨rfl,hb1⟩
   have hw1:=hw0.trans (hb1.mono hw0.size)
   go_wp2_with fail
   refine (get_any B g h C k _ (HC.out.below hw1)).mono ?_
   rintro e w2 ⟨rfl,hb2⟩
   have hw2:=hw1.trans (hb2.mono hw1.size)
   go_wp2
   go_ret
   exact ⟨rfl,HC.out.below hw2,(grown_below hw2).but _⟩
  ·have hu:downB C k=true:=by simp [downB,h15,hz,h0]
   rw [show downL C k=C.set k.toNat (getN C k-1) by simp [downL,hu],hu]
   have hlt:=getN_lt H.small k
   obtain ⟨i,rfl⟩:=Int.eq_ofNat_of_zero_le h0.1
   have hi:i<C.length:=by omega
   have hlen:=H.len
   have hgi:getN C i=C[i]:=by
    unfold getN
    rw [if_pos (by omega),Int.toNat_natCast,List.getD_eq_getElem?_getD,List.getElem?_eq_getElem hi]
    rfl
   have hp:0<getN C i:=by omega
   have hset:=wordN_set C i (getN C i-1) hi
   rw [<-hgi] at hset
   obtain ⟨s,hs⟩:∃s:Int,s=((4*(i%16):Nat):Int):=⟨_,rfl⟩
   have hsh:=shift_any i (by omega) (by omega)
   rw [show (i:Int).toNat=i from rfl,<-hs] at hsh
   have HS:=Lib.hid hsh
   have s0:0<=s:=by omega
   have s1:s<64:=by omega
   have HT:Hid (s.toNat=4*(i%16)):=by show s.toNat=_;omega
   have hW2:=wordN_lt (small_set H.small i (getN C i-1) (by omega)) (i/16)
   have HSET:=Lib.hid hset
   have HD:Hid (getN C i-1<=15):=by show getN C i-1<=15;omega
   have hne:((getN C i:Nat):Int)≠15:=by omega
   have e0:(((getN C i:Nat):Int) == 0)=false:=by simp;omega
   have e15:(((getN C i:Nat):Int) == 15)=false:=by simp;omega
   have hWx:=wordN_lt H.small (i/16)
   have HP:=Lib.hid hp
   rw [Int.toNat_natCast]
   clear hs hsh H hset hgi hu hd h0 hlt hp hz
   obtain ⟨x,hx⟩:∃x,x=wordN C (i/16):=⟨_,rfl⟩
   have HX:=Lib.hid hx
   clear hx h15
   go_enter Tryz.func129,Tryz.ntmps129
   go_wp2_with fail
   refine HH.out.mono ?_
   rintro e w0 ⟨rfl,hw0⟩
   go_wp2_with fail
   refine (get_any B g h C i _ (HC.out.below hw0)).mono ?_
   rintro e w9 ⟨rfl,hb9⟩
   have hw9:=hw0.trans (hb9.mono hw0.size)
   go_wp2_with fail
   refine (get_any B g h C i _ (HC.out.below hw9)).mono ?_
   rintro e w1 ⟨rfl,hb1⟩
   have hw1:=hw9.trans (hb1.mono hw9.size)
   clear hb9 hw9
   have hz1:=hw1.size
   have H1:=HC.out.below hw1
   have c0:=H1.words
   have hl:=H1.lt
   have hr:=H1.low2.2
   have i1:i/16<nW C:=by unfold nW;omega
   have d0:w1.cell? ⟨h,i/16,none⟩=some (.int .u64 (x:Int)):=(H1.own.cellAt (i/16) (by omega)).trans (ucs_cell _ _ _ (by rw [HX.out];exact wordsN_at C _ i1))
   have f0:=H1.own.frozenAt (i/16)
   clear H1 hb1 hw0
   go_wp2_with fail
   have kg:=cell_grow
   refine region_tail 13 (by kernel_rfl) (by kernel_rfl) ?_
   simp only [List.take_succ_cons,List.take_zero,List.drop_succ_cons,List.drop_zero]
   repeat (any_goals (first|go_big_quiet_step ((exact HS.out.at _ _ _))|quiet_step ((exact HS.out.at _ _ _))))
   refine wpQuiet_nil ?_
   clear kg
   intro w2 hb2
   obtain ⟨hc2,hf2⟩:=bcell hb2
   have hw2:Below w.heap.size w w2:=by
    refine Below.trans ?_ (hb2.mono ?_)
    ·go_grown
    ·first|omega|go_size
   go_wp2
   go_ret
   have hN:=(HC.out.below hw2).set i _ hi HD.out _ (down_word x _ (getN C i-1) s _ HT.out (by have h1:=HSET.out;have h2:=HP.out;rw [<-HX.out] at h1;rwa [Nat.sub_add_cancel h2]) (by rw [HX.out];exact hWx))
   exact ⟨rfl,hN.1,((grown_below hw2).but _).trans hN.2⟩
 ·have hd:decide (0<=k/\k<C.length)=false:=by simpa using h0
  have hu:downB C k=false:=by simp [downB,hd]
  rw [hd] at HH
  rw [show downL C k=C by simp [downL,hu],hu]
  clear hd hu h0 H
  go_enter Tryz.func129,Tryz.ntmps129
  go_wp2_with fail
  refine HH.out.mono ?_
  rintro e w0 ⟨rfl,hw0⟩
  go_wp2
  go_ret
  exact ⟨rfl,HC.out.below hw0,(grown_below hw0).but _⟩
end Go.Proofs.YtgfjmgebecmbiaaGreat
namespace Go.Proofs.YtgfjmgebecmbiaaGreat
namespace M
def wF (f:Nat->Bool):Nat->Nat
 | 0=>0
 | n+1=>2^n*(f n).toNat+wF f n
theorem wF_lt (f:Nat->Bool):∀n,wF f n<2^n
 | 0=>by simp [wF]
 | n+1=>by
  have h1:=wF_lt f n
  have h2:(f n).toNat<=1:=by cases f n<;>decide
  show 2^n*(f n).toNat+wF f n<2^(n+1)
  have:2^n*(f n).toNat<=2^n*1:=Nat.mul_le_mul_left _ h2
  rw [Nat.pow_succ]
  omega
theorem bool_bit (b:Bool) (i:Nat):b.toNat.testBit i=(decide (i=0)&&b):=by
 cases i with
 | zero=>cases b<;>rfl
 | succ i=>cases b<;>simp [Nat.testBit_succ]
theorem wF_bit (f:Nat->Bool) (i:Nat):∀n,(wF f n).testBit i=(decide (i<n)&&f i)
 | 0=>by simp [wF]
 | n+1=>by
  show (2^n*(f n).toNat+wF f n).testBit i=_
  rw [Nat.testBit_two_pow_mul_add _ (wF_lt f n),wF_bit f i n,bool_bit]
  by_cases h:i<n
  ·rw [if_pos h,decide_eq_true h,decide_eq_true (show i<n+1 by omega)]
  ·rw [if_neg h]
   by_cases e:i=n
   ·subst e
    rw [decide_eq_true (show i-i=0 by omega),decide_eq_true (show i<i+1 by omega)]
   ·rw [decide_eq_false (show ¬i-n=0 by omega),decide_eq_false (show ¬i<n+1 by omega)]
    rfl
def wordB (C:List Bool) (j:Nat):Nat:=wF (fun i=>C.getD (64*j+i) false) 64
def wordsB (C:List Bool):List Nat:=(List.range ((C.length+63)/64)).map (wordB C)
theorem wordB_lt (C:List Bool) (j:Nat):wordB C j<18446744073709551616:=wF_lt _ 64
theorem wordB_bit (C:List Bool) (j i:Nat):(wordB C j).testBit i=(decide (i<64)&&C.getD (64*j+i) false):=wF_bit _ i 64
theorem wordB_at (C:List Bool) (k:Nat):(wordB C (k/64)).testBit (k%64)=C.getD k false:=by
 rw [wordB_bit,decide_eq_true (show k%64<64 by omega),show 64*(k/64)+k%64=k by omega]
 rfl
theorem getDB_set {C:List Bool} {k i:Nat} {v:Bool} (hk:k<C.length):(C.set k v).getD i false=if i=k then v else C.getD i false:=by
 rw [List.getD_eq_getElem?_getD,List.getElem?_set,List.getD_eq_getElem?_getD]
 split
 ·rename_i h
  subst h
  simp [hk]
 ·rename_i h
  rw [if_neg (fun e=>h e.symm)]
theorem wordB_set_bit {C:List Bool} {k:Nat} (v:Bool) (hk:k<C.length) (i:Nat):(wordB (C.set k v) (k/64)).testBit i=if i=k%64 then v else (wordB C (k/64)).testBit i:=by
 rw [wordB_bit,wordB_bit,getDB_set hk]
 by_cases e:i=k%64
 ·rw [if_pos e,if_pos (by omega),decide_eq_true (show i<64 by omega)]
  rfl
 ·rw [if_neg e]
  by_cases h:i<64
  ·rw [if_neg (by omega)]
  ·rw [decide_eq_false h]
   rfl
theorem wordB_on {C:List Bool} {k:Nat} (hk:k<C.length):wordB (C.set k true) (k/64)=wordB C (k/64) ||| 2^(k%64):=by
 apply Nat.eq_of_testBit_eq
 intro i
 rw [wordB_set_bit true hk,Nat.testBit_or,Nat.testBit_two_pow]
 by_cases e:i=k%64
 ·rw [if_pos e,decide_eq_true e.symm,Bool.or_true]
 ·rw [if_neg e,decide_eq_false (fun h=>e h.symm),Bool.or_false]
theorem wordB_far {C:List Bool} {k j:Nat} (v:Bool) (hk:k<C.length) (hj:j≠k/64):wordB (C.set k v) j=wordB C j:=by
 apply Nat.eq_of_testBit_eq
 intro i
 rw [wordB_bit,wordB_bit,getDB_set hk]
 by_cases h:i<64
 ·rw [if_neg (by omega)]
 ·rw [decide_eq_false h]
  rfl
theorem wordsB_len (C:List Bool):(wordsB C).length=(C.length+63)/64:=by simp [wordsB]
theorem wordsB_at (C:List Bool) (j:Nat) (h:j<(C.length+63)/64):(wordsB C)[j]? = some (wordB C j):=by simp [wordsB,h]
theorem wordsB_set (C:List Bool) (k:Nat) (v:Bool) (hk:k<C.length):(wordsB C).set (k/64) (wordB (C.set k v) (k/64))=wordsB (C.set k v):=by
 apply List.ext_getElem?
 intro j
 rw [List.getElem?_set,wordsB_len]
 by_cases hj:j<(C.length+63)/64
 ·rw [wordsB_at (C.set k v) j (by rw [List.length_set];exact hj)]
  by_cases e:k/64=j
  ·rw [if_pos e,if_pos (by omega),e]
  ·rw [if_neg e,wordsB_at C j hj,wordB_far v hk (fun h=>e h.symm)]
 ·rw [List.getElem?_eq_none (l:=wordsB (C.set k v)) (by rw [wordsB_len,List.length_set];omega)]
  split
  ·rw [if_neg (by omega)]
  ·rw [List.getElem?_eq_none (by rw [wordsB_len];omega)]
theorem getDB_rep (n i:Nat):(List.replicate n false).getD i false=false:=by
 rw [List.getD_eq_getElem?_getD,List.getElem?_replicate]
 split<;>rfl
theorem wordsB_zero (n:Nat):wordsB (List.replicate n false)=List.replicate ((n+63)/64) 0:=by
 unfold wordsB
 rw [List.length_replicate]
 apply List.ext_getElem?
 intro j
 by_cases hj:j<(n+63)/64
 ·simp only [List.getElem?_map,List.getElem?_range hj,Option.map_some]
  rw [List.getElem?_replicate,if_pos hj]
  refine congrArg some ?_
  apply Nat.eq_of_testBit_eq
  intro i
  rw [wordB_bit,getDB_rep,Bool.and_false,Nat.zero_testBit]
 ·rw [List.getElem?_eq_none (by simp;omega),List.getElem?_eq_none (by simp;omega)]
end M
end Go.Proofs.YtgfjmgebecmbiaaGreat
