import Derived.Test.YtgfjmgebecmbiaaGreatM8
set_option linter.unusedSimpArgs false
set_option linter.unusedVariables false
set_option maxHeartbeats 1000000
namespace Go.Proofs.YtgfjmgebecmbiaaGreat
open Lib(hid)
section
open Go.RowKit Go.Sort M
def nB (C:List Bool):Nat:=(C.length+63)/64
structure Bts (w:World) (B g h:Nat) (C:List Bool):Prop where
 low:B<=g
 lt:g<w.heap.size
 ne:h≠g
 words:w.cell? ⟨g,0,none⟩=some (.slice (some ⟨h,0,none⟩) (nB C) (nB C))
 num:w.cell? ⟨g,1,none⟩=some (.int .i64 (C.length:Int))
 own:w.ownsRow B 24 1 (.slice (some ⟨h,0,none⟩) (nB C) (nB C)) (nB C) (ucs (Zfw C))
 len:C.length<=65536
theorem Bts.kept {w w':World} {B g h:Nat} {C:List Bool} {row:Option Nat} (H:Bts w B g h C) (hg:w.grownBy w' row) (h1:some g≠row) (h2:some h≠row):Bts w' B g h C:=
 ⟨H.low,Nat.lt_of_lt_of_le H.lt hg.size,H.ne,hg.cell H.words h1,hg.cell H.num h1,H.own.kept hg (.inr h2),H.len⟩
theorem Bts.below {w w':World} {B g h:Nat} {C:List Bool} (H:Bts w B g h C) (hb:Below w.heap.size w w'):Bts w' B g h C:=H.kept (Za3 hb) (by simp) (by simp)
theorem Bts.low2 {w:World} {B g h:Nat} {C:List Bool} (H:Bts w B g h C):B<=h/\h<w.heap.size:=H.own.lt h rfl
theorem Bts.le {w:World} {B B' g h:Nat} {C:List Bool} (H:Bts w B g h C) (hB:B'<=B):Bts w B' g h C:=
 ⟨Nat.le_trans hB H.low,H.lt,H.ne,H.words,H.num,Za4 H.own hB,H.len⟩
def Z9l (w:World) (B:Nat) (v:Value) (C:List Bool):Prop:=∃g h,v = .pointer (some ⟨g,0,none⟩)/\Bts w B g h C
theorem Bts.new (w:World) (c:Nat) (x:Int) (hc:c<=65536) (hx:x=(c:Int)) (t:TypeId) :
 Bts ((w.alloc (.cells (madeCells #[.int .u64 0] ((c+63)/64)) 24)).alloc (.cells #[.slice (some ⟨w.heap.size,0,none⟩) ((c+63)/64) ((c+63)/64),.int .i64 x] t)) w.heap.size (w.heap.size+1) w.heap.size (List.replicate c false):=by
 have e:nB (List.replicate c false)=(c+63)/64:=by simp [nB]
 subst hx
 refine ⟨by omega,by simp,by omega,?_,?_,?_,by simpa using hc⟩
 ·rw [e]
  simp [go_sem]
 ·rw [List.length_replicate]
  simp [go_sem]
 ·rw [e,Zp8]
  refine World.ownsRow.alloc ?_ _
  have:=World.ownsRow_lit (base:=w.heap.size) (e:=24) (size:=1) w (madeCells #[.int .u64 0] ((c+63)/64)) ((c+63)/64) (Nat.le_refl _) (by unfold maxLen;omega) (by simp [madeCells])
  rwa [toList_madeCells_one,show List.replicate ((c+63)/64) (Value.int .u64 0)=ucs (List.replicate ((c+63)/64) 0) by simp [ucs]] at this
theorem Z31 (n:Int) (hn:n<=9223372036854775807) (hn0 : -9223372036854775808<=n) (w:World) :
 Calls Tryz.prog 78 #[.int .i64 n] w fun e w'=>∃v,e = .returned v/\Z9l w' w.heap.size v (List.replicate (min n.toNat 65536) false)/\Below w.heap.size w w':=by
 obtain ⟨c,hc⟩:∃c,c=min n.toNat 65536:=⟨_,rfl⟩
 rw [<-hc]
 have hmk:=Zcm (P:=Tryz.prog) (t:=161) Tryz.underlying161 Z4w ((c+63)/64) (by omega) (by unfold maxLen;omega)
 by_cases h0:n<=0
 ·have HC:Hid (c=0):=by show c=0;omega
  have he:(((c+63)/64:Nat):Int)=0:=by omega
  clear hc
  rw [he] at hmk
  simp only [Value.cells,Nat.mul_one] at hmk
  clear he
  go_enter Tryz.func78,Tryz.ntmps78
  go_wp2
  go_ret
  exact ⟨_,rfl,⟨_,_,rfl,Bts.new w c 0 (by have:=HC.out;omega) (by rw [HC.out];rfl) _⟩,by go_grown⟩
 ·by_cases h1:65536<n
  ·have HC:Hid (c=65536):=by show c=65536;omega
   have he:(((c+63)/64:Nat):Int)=1024:=by omega
   clear hc
   rw [he] at hmk
   simp only [Value.cells,Nat.mul_one] at hmk
   clear he
   go_enter Tryz.func78,Tryz.ntmps78
   go_wp2
   go_ret
   exact ⟨_,rfl,⟨_,_,rfl,Bts.new w c 65536 (by have:=HC.out;omega) (by rw [HC.out];rfl) _⟩,by go_grown⟩
  ·obtain rfl:n=(c:Int):=by omega
   have he:(((c+63)/64:Nat):Int)=((c:Int)+64-1)/64:=by omega
   clear hc
   rw [he] at hmk
   simp only [Value.cells,Nat.mul_one] at hmk
   clear he
   go_enter Tryz.func78,Tryz.ntmps78
   go_wp2
   go_ret
   exact ⟨_,rfl,⟨_,_,rfl,Bts.new w c c (by omega) rfl _⟩,by go_grown⟩
theorem Zt2 (B g h:Nat) (C:List Bool) (w:World) (H:Bts w B g h C) :
 Calls Tryz.prog 113 #[.pointer (some ⟨g,0,none⟩)] w fun e w'=>e = .returned (.int .i64 (C.length:Int))/\Below w.heap.size w w':=by
 have c0:=H.words
 have c1:=H.num
 have hl:=H.lt
 clear H
 go_enter Tryz.func113,Tryz.ntmps113
 go_wp2
 go_ret
 exact ⟨rfl,by go_grown⟩
theorem Zt5 (B g h:Nat) (C:List Bool) (k:Int) (w:World) (H:Bts w B g h C) :
 Calls Tryz.prog 115 #[.pointer (some ⟨g,0,none⟩),.int .i64 k] w fun e w'=>e = .returned (.bool (decide (0<=k/\k<C.length)))/\Below w.heap.size w w':=by
 have HL:=hid (Zt2 B g h C w H)
 clear H
 by_cases h0:0<=k
 ·go_enter Tryz.func115,Tryz.ntmps115
  go_wp2_with fail
  refine HL.out.mono ?_
  rintro e w0 ⟨rfl,hw0⟩
  go_wp2
  go_ret
  exact ⟨Zai (by simp [h0]),hw0⟩
 ·go_enter Tryz.func115,Tryz.ntmps115
  go_wp2
  go_ret
  exact ⟨Zai (by simp;omega),by go_grown⟩
theorem Zs1 (i:Nat) (hi:i<=65536):Zak Tryz.prog 116 #[.int .i64 (i:Int)] (.int .u64 (2^(i%64):Nat)):=by
 intro w
 have hp:2^(i%64)<=2^63:=Nat.pow_le_pow_right (by decide) (by omega)
 have HP:=hid hp
 clear hp
 go_enter Tryz.func116,Tryz.ntmps116
 go_wp2
 go_ret
 refine ⟨Zbb ?_,by go_grown⟩
 have hp:=HP.out
 first|rw [show ((i:Int)%64).toNat=i%64 by omega,Z1y,wrapN _ (by omega)]|rw [Z1y,wrapN _ (by omega)]
def getB (C:List Bool) (k:Int):Bool:=if 0<=k then C.getD k.toNat false else false
theorem Z6e {C:List Bool} {k:Int} (h:¬(0<=k/\k<C.length)):getB C k=false:=by
 unfold getB
 split
 ·rw [List.getD_eq_getElem?_getD,List.getElem?_eq_none (by omega)]
  rfl
 ·rfl
theorem Z65 (x k:Nat):x &&& 2^k=if x.testBit k then 2^k else 0:=by
 apply Nat.eq_of_testBit_eq
 intro i
 rw [Nat.testBit_and,Nat.testBit_two_pow]
 by_cases e:k=i
 ·subst e
  cases h:x.testBit k
  ·simp
  ·simp
 ·rw [decide_eq_false e,Bool.and_false]
  split
  ·rw [Nat.testBit_two_pow,decide_eq_false e]
  ·rw [Nat.zero_testBit]
theorem Z2g (x k m:Nat) (hx:x<18446744073709551616) (hk:k<64) (hm:m=2^k):(bits BinOp.and IntKind.u64 (x:Int) (m:Int) != 0)=x.testBit k:=by
 have:2^k<=2^63:=Nat.pow_le_pow_right (by decide) (by omega)
 have hp:=Nat.two_pow_pos k
 rw [<-hm] at this hp
 rw [andN _ _ hx (by omega),hm,Z65,<-hm]
 cases x.testBit k
 ·simp
 ·simp
  omega
theorem Zt6 (B g h:Nat) (C:List Bool) (k:Int) (w:World) (H:Bts w B g h C) :
 Calls Tryz.prog 89 #[.pointer (some ⟨g,0,none⟩),.int .i64 k] w fun e w'=>e = .returned (.bool (getB C k))/\Below w.heap.size w w':=by
 have HH:Hid (∀w,Bts w B g h C->Calls Tryz.prog 115 #[.pointer (some ⟨g,0,none⟩),.int .i64 k] w fun e w'=>e = .returned (.bool (decide (0<=k/\k<C.length)))/\Below w.heap.size w w'):=hid (fun w H=>Zt5 B g h C k w H)
 by_cases h0:0<=k/\k<C.length
 ·have hd:decide (0<=k/\k<C.length)=true:=by simpa using h0
  rw [hd] at HH
  clear hd
  obtain ⟨i,rfl⟩:=Int.eq_ofNat_of_zero_le h0.1
  have hi:i<C.length:=by omega
  have hlen:=H.len
  clear h0
  have hS:=Zs1 i (by omega)
  have hW:=Zl1 C (i/64)
  have HG:=hid (Z05 C i)
  have HC:=hid H
  obtain ⟨m,hm⟩:∃m,m=2^(i%64):=⟨_,rfl⟩
  have hq:=Z2g (Zeh C (i/64)) (i%64) m hW (by omega) hm
  rw [<-hm] at hS
  have HS:=hid hS
  clear hS hm
  have HQ:=hid hq
  have c0:=H.words
  have hl:=H.lt
  have hr:=H.low2.2
  have i1:i/64<nB C:=by unfold nB;omega
  have d0:w.cell? ⟨h,i/64,none⟩=some (.int .u64 (Zeh C (i/64):Nat)):=(H.own.cellAt (i/64) (by omega)).trans (Ze7 _ _ _ (Zeg C _ i1))
  generalize Zeh C (i/64)=x at *
  clear hq hW H
  go_enter Tryz.func89,Tryz.ntmps89
  go_wp2_with fail
  have kg:=Zaa
  refine Zab (by kernel_rfl) (by kernel_rfl) ?_
  repeat (any_goals (first|go_big_quiet_step ((first|exact HS.out.at _ _ _|exact Calls.regrown_of (HH.out _ (HC.out.below (below_regrown _ _ _)))))|quiet_step ((first|exact HS.out.at _ _ _|exact Calls.regrown_of (HH.out _ (HC.out.below (below_regrown _ _ _)))))))
  refine wpQuiet_nil ?_
  clear kg
  intro w1 hb1
  obtain ⟨hc1,hf1⟩:=Zaf hb1
  have hw1:Below w.heap.size w w1:=by
   refine Below.trans ?_ (hb1.mono ?_)
   ·go_grown
   ·first|omega|go_size
  go_wp2
  go_ret
  refine ⟨Zai ?_,hw1⟩
  rw [HQ.out,HG.out]
  rfl
 ·rw [Z6e h0]
  have hd:decide (0<=k/\k<C.length)=false:=by simpa using h0
  rw [hd] at HH
  have HC:=hid H
  clear hd h0 H
  go_enter Tryz.func89,Tryz.ntmps89
  go_wp2_with fail
  have kg:=Zaa
  refine Zab (by kernel_rfl) (by kernel_rfl) ?_
  repeat (any_goals (first|go_big_quiet_step ((exact Calls.regrown_of (HH.out _ (HC.out.below (below_regrown _ _ _)))))|quiet_step ((exact Calls.regrown_of (HH.out _ (HC.out.below (below_regrown _ _ _)))))))
  refine wpQuiet_nil ?_
  clear kg
  intro w1 hb1
  obtain ⟨hc1,hf1⟩:=Zaf hb1
  have hw1:Below w.heap.size w w1:=by
   refine Below.trans ?_ (hb1.mono ?_)
   ·go_grown
   ·first|omega|go_size
  go_wp2
  go_ret
  exact ⟨rfl,hw1⟩
def setB (C:List Bool) (k:Int) (v:Bool):List Bool:=if 0<=k/\k<C.length then C.set k.toNat v else C
theorem Zsg (C:List Bool) (k:Int) (v:Bool):(setB C k v).length=C.length:=by
 unfold setB
 split<;>simp
theorem Z55 (x m:Nat) (hx:x<18446744073709551616) (hm:m<18446744073709551616):bits BinOp.or IntKind.u64 (x:Int) (m:Int)=((x ||| m:Nat):Int):=bits_or_u64_nat x m hx hm
theorem Z2f (x y k m:Nat) (hx:x<18446744073709551616) (hy:y<18446744073709551616) (hk:k<64) (hm:m=2^k) (h:∀i,y.testBit i=if i=k then false else x.testBit i):bits BinOp.andNot IntKind.u64 (x:Int) (m:Int)=((y:Nat):Int):=by
 have hp:2^k<=2^63:=Nat.pow_le_pow_right (by decide) (by omega)
 have h1:(BitVec.ofInt 64 (x:Int)).toNat=x:=by
  rw [BitVec.ofInt_natCast,BitVec.toNat_ofNat];exact Nat.mod_eq_of_lt (by omega)
 have h2:(BitVec.ofInt 64 (m:Int)).toNat=m:=by
  rw [BitVec.ofInt_natCast,BitVec.toNat_ofNat];exact Nat.mod_eq_of_lt (by omega)
 have e:(BitVec.ofInt 64 (x:Int) &&& ~~~ (BitVec.ofInt 64 (m:Int))).toNat=y:=by
  apply Nat.eq_of_testBit_eq
  intro i
  rw [BitVec.testBit_toNat,BitVec.getLsbD_and,BitVec.getLsbD_not,<-BitVec.testBit_toNat,<-BitVec.testBit_toNat,h1,h2,hm,Nat.testBit_two_pow,h]
  by_cases e:k=i
  ·rw [if_pos e.symm,decide_eq_true e,Bool.not_true,Bool.and_false,Bool.and_false]
  ·rw [if_neg (fun x=>e x.symm),decide_eq_false e,Bool.not_false,Bool.and_true]
   by_cases hi:i<64
   ·rw [decide_eq_true hi,Bool.and_true]
   ·have:x<2^i:=Nat.lt_of_lt_of_le hx (Nat.pow_le_pow_right (n:=2) (by decide) (show 64<=i by omega))
    rw [Nat.testBit_lt_two_pow this,Bool.false_and]
 show IntKind.u64.wrap ((BitVec.ofInt 64 (x:Int) &&& ~~~ (BitVec.ofInt 64 (m:Int))).toNat:Int)=_
 rw [e,wrapN _ hy]
theorem Bts.set {w:World} {B g h:Nat} {C:List Bool} (H:Bts w B g h C) (k:Nat) (v:Bool) (hk:k<C.length) (x:Int) (hx:x=(Zeh (C.set k v) (k/64):Nat)) :
 Bts (w.setCell ⟨h,k/64,none⟩ (.int .u64 x)) B g h (C.set k v)/\w.grownBy (w.setCell ⟨h,k/64,none⟩ (.int .u64 x)) (some h):=by
 have hs:=H.own.stored (k/64) (.int .u64 x)
 have e:nB (C.set k v)=nB C:=by simp [nB]
 have hne:=H.ne
 refine ⟨⟨H.low,by simpa using H.lt,H.ne,?_,?_,?_,by simpa using H.len⟩,hs.2⟩
 ·rw [e]
  exact hs.2.cell H.words (by simp;omega)
 ·rw [List.length_set]
  exact hs.2.cell H.num (by simp;omega)
 ·rw [e,<-Zud C k v hk,<-Zwr,<-hx]
  exact hs.1
theorem Zt1 (B g h:Nat) (C:List Bool) (k:Int) (v:Bool) (w:World) (H:Bts w B g h C) :
 Calls Tryz.prog 130 #[.pointer (some ⟨g,0,none⟩),.int .i64 k,.bool v] w fun e w'=>e = .returned (.tuple #[])/\Bts w' B g h (setB C k v)/\w.grownBy w' (some h):=by
 have HH:=hid (Zt5 B g h C k w H)
 have HC:=hid H
 by_cases h0:0<=k/\k<C.length
 ·have hd:decide (0<=k/\k<C.length)=true:=by simpa using h0
  rw [hd] at HH
  rw [show setB C k v=C.set k.toNat v by simp [setB,h0]]
  obtain ⟨i,rfl⟩:=Int.eq_ofNat_of_zero_le h0.1
  have hi:i<C.length:=by omega
  have hlen:=H.len
  have hS:=Zs1 i (by omega)
  obtain ⟨m,hm⟩:∃m,m=2^(i%64):=⟨_,rfl⟩
  rw [<-hm] at hS
  have HS:=hid hS
  have HM:=hid hm
  have hm2:2^(i%64)<=2^63:=Nat.pow_le_pow_right (by decide) (by omega)
  have hW:=Zl1 C (i/64)
  obtain ⟨x,hx⟩:∃x,x=Zeh C (i/64):=⟨_,rfl⟩
  have hon:=Z04 hi
  have hbit:=Zgo false hi
  rw [Int.toNat_natCast]
  rw [<-hx] at hW hon hbit
  have HX:=hid hx
  clear hd h0 H hm hx hS
  cases v
  ·have HW:=hid (Z2f x _ (i%64) m hW (Zl1 (C.set i false) (i/64)) (by omega) HM.out hbit)
   clear hW hon hbit hm2
   go_enter Tryz.func130,Tryz.ntmps130
   go_wp2_with fail
   refine HH.out.mono ?_
   rintro e w1 ⟨rfl,hw1⟩
   have hz1:=hw1.size
   have H1:=HC.out.below hw1
   have c0:=H1.words
   have hl:=H1.lt
   have hr:=H1.low2.2
   have i1:i/64<nB C:=by unfold nB;omega
   have d0:w1.cell? ⟨h,i/64,none⟩=some (.int .u64 (x:Int)):=(H1.own.cellAt (i/64) (by omega)).trans (Ze7 _ _ _ (by rw [HX.out];exact Zeg C _ i1))
   have f0:=H1.own.frozenAt (i/64)
   clear H1
   go_wp2_with fail
   have kg:=Zaa
   refine Zaj 12 (by kernel_rfl) (by kernel_rfl) ?_
   simp only [List.take_succ_cons,List.take_zero,List.drop_succ_cons,List.drop_zero]
   repeat (any_goals (first|go_big_quiet_step ((exact HS.out.at _ _ _))|quiet_step ((exact HS.out.at _ _ _))))
   refine wpQuiet_nil ?_
   clear kg
   intro w2 hb2
   obtain ⟨hc2,hf2⟩:=Zaf hb2
   have hw2:Below w.heap.size w w2:=by
    refine Below.trans ?_ (hb2.mono ?_)
    ·go_grown
    ·first|omega|go_size
   go_wp2
   go_end0
   have hN:=(HC.out.below hw2).set i false hi _ HW.out
   exact ⟨rfl,hN.1,((Za3 hw2).but _).trans hN.2⟩
  ·have HW:=hid ((Z55 x m hW (by rw [HM.out];omega)).trans (by rw [HM.out,<-hon]))
   clear hW hon hbit hm2
   go_enter Tryz.func130,Tryz.ntmps130
   go_wp2_with fail
   refine HH.out.mono ?_
   rintro e w1 ⟨rfl,hw1⟩
   have hz1:=hw1.size
   have H1:=HC.out.below hw1
   have c0:=H1.words
   have hl:=H1.lt
   have hr:=H1.low2.2
   have i1:i/64<nB C:=by unfold nB;omega
   have d0:w1.cell? ⟨h,i/64,none⟩=some (.int .u64 (x:Int)):=(H1.own.cellAt (i/64) (by omega)).trans (Ze7 _ _ _ (by rw [HX.out];exact Zeg C _ i1))
   have f0:=H1.own.frozenAt (i/64)
   clear H1
   go_wp2_with fail
   have kg:=Zaa
   refine Zaj 12 (by kernel_rfl) (by kernel_rfl) ?_
   simp only [List.take_succ_cons,List.take_zero,List.drop_succ_cons,List.drop_zero]
   repeat (any_goals (first|go_big_quiet_step ((exact HS.out.at _ _ _))|quiet_step ((exact HS.out.at _ _ _))))
   refine wpQuiet_nil ?_
   clear kg
   intro w2 hb2
   obtain ⟨hc2,hf2⟩:=Zaf hb2
   have hw2:Below w.heap.size w w2:=by
    refine Below.trans ?_ (hb2.mono ?_)
    ·go_grown
    ·first|omega|go_size
   go_wp2
   go_end0
   have hN:=(HC.out.below hw2).set i true hi _ HW.out
   exact ⟨rfl,hN.1,((Za3 hw2).but _).trans hN.2⟩
 ·have hd:decide (0<=k/\k<C.length)=false:=by simpa using h0
  rw [hd] at HH
  rw [show setB C k v=C by unfold setB;rw [if_neg h0]]
  clear hd h0 H
  go_enter Tryz.func130,Tryz.ntmps130
  go_wp2_with fail
  refine HH.out.mono ?_
  rintro e w0 ⟨rfl,hw0⟩
  go_wp2
  (try simp only [Exit.inBlock,Exit.then]);refine bodyPost_ret (results_none rfl _ _ _) rfl ?_
  exact ⟨rfl,HC.out.below hw0,(Za3 hw0).but _⟩
structure Touch (S:Nat->Prop) (w w':World):Prop where
 os:w'.os=w.os
 tape:w'.tape=w.tape
 output:w'.output=w.output
 size:w.heap.size<=w'.heap.size
 block:∀k,k<w.heap.size->¬S k->w'.heap[k]? = w.heap[k]?
def In (lo hi:Nat) (k:Nat):Prop:=lo<=k/\k<hi
section
variable {S T:Nat->Prop} {a b c:World}
theorem Touch.refl (S:Nat->Prop) (w:World):Touch S w w:=⟨rfl,rfl,rfl,Nat.le_refl _,fun _ _ _=>rfl⟩
theorem Touch.trans (h:Touch S a b) (k:Touch S b c):Touch S a c:=
 ⟨k.os.trans h.os,k.tape.trans h.tape,k.output.trans h.output,Nat.le_trans h.size k.size,fun i hi hn=>(k.block i (Nat.lt_of_lt_of_le hi h.size) hn).trans (h.block i hi hn)⟩
theorem Touch.mono (h:Touch S a b) (hs:∀k,k<a.heap.size->S k->T k):Touch T a b:=
 ⟨h.os,h.tape,h.output,h.size,fun i hi hn=>h.block i hi (fun x=>hn (hs i hi x))⟩
theorem Touch.of_grown {row:Option Nat} (h:a.grownBy b row) (hs:∀k,some k=row->S k):Touch S a b:=
 ⟨h.os,h.tape,h.output,h.size,fun i hi hn=>h.block i hi (fun e=>hn (hs i e))⟩
theorem Touch.of_below {B:Nat} (h:Below B a b) (hs:∀k,k<a.heap.size->B<=k->S k):Touch S a b:=
 ⟨h.os,h.tape,h.output,h.size,fun i hi hn=>h.block i (by
  by_cases e:B<=i
  ·exact absurd (hs i hi e) hn
  ·omega)⟩
theorem Touch.quiet (h:Below a.heap.size a b):Touch S a b:=Touch.of_below h (fun k h1 h2=>absurd h1 (by omega))
theorem Touch.below {B:Nat} (h:Touch S a b) (hB:B<=a.heap.size) (hs:∀k,S k->B<=k):Below B a b:=
 ⟨h.os,h.tape,h.output,h.size,fun i hi=>h.block i (by omega) (fun x=>by have:=hs i x;omega)⟩
theorem Touch.cell (h:Touch S a b) {p:Addr} {v:Value} (hc:a.cell? p=some v) (hn:¬S p.block):b.cell? p=some v:=
 (World.cell?_of_block (h.block p.block (World.block_lt_of_cell? a p hc) hn)).trans hc
theorem Touch.own {B n k:Nat} {e:TypeId} {v:Value} {xs:List Value} (h:a.ownsRow B e k v n xs) (ht:Touch S a b) (hn:∀j,v.ownBlock=some j->¬S j):b.ownsRow B e k v n xs:=by
 refine ⟨h.1,?_⟩
 rcases h.2 with hx | ⟨g,cap,cur,rfl,hb,hgg,rest⟩
 ·exact .inl hx
 ·refine .inr ⟨g,cap,cur,rfl,hb,?_,rest⟩
  rw [ht.block g (Array.getElem?_eq_some_iff.1 hgg).1 (hn g rfl)]
  exact hgg
end
section
variable {S T:Nat->Prop} {a b c:World}
theorem Nib.touched {B g h:Nat} {C:List Nat} (H:Nib a B g h C) (ht:Touch S a b) (h1:¬S g) (h2:¬S h):Nib b B g h C:=
 ⟨H.low,Nat.lt_of_lt_of_le H.lt ht.size,H.ne,ht.cell H.words h1,ht.cell H.num h1,ht.own H.own (fun j e=>by cases e;exact h2),H.small,H.len⟩
theorem Bts.touched {B g h:Nat} {C:List Bool} (H:Bts a B g h C) (ht:Touch S a b) (h1:¬S g) (h2:¬S h):Bts b B g h C:=
 ⟨H.low,Nat.lt_of_lt_of_le H.lt ht.size,H.ne,ht.cell H.words h1,ht.cell H.num h1,ht.own H.own (fun j e=>by cases e;exact h2),H.len⟩
end
def iC (C:List Nat):List Value:=ics (C.map fun (c:Nat)=>(c:Int))
theorem Zcx {C:List Nat} {k:Nat} (h:k<C.length):getN C (k:Int)=C[k]:=by
 unfold getN
 rw [if_pos (by omega),Int.toNat_natCast,List.getD_eq_getElem?_getD,List.getElem?_eq_getElem h]
 rfl
theorem Nib.le {w:World} {B B' g h:Nat} {C:List Nat} (H:Nib w B g h C) (hB:B'<=B):Nib w B' g h C:=
 ⟨Nat.le_trans hB H.low,H.lt,H.ne,H.words,H.num,Za4 H.own hB,H.small,H.len⟩
theorem Zqc (C:List Nat) (k:Int):(upL C k).length=C.length:=by
 unfold upL
 split<;>simp
theorem Zkd (C:List Nat) (k:Int):(Zb4 C k).length=C.length:=by
 unfold Zb4
 split<;>simp
theorem Z7l {C:List Nat} {k:Int} (h:¬(0<=k/\k<C.length)):upB C k=false/\upL C k=C:=by
 have:upB C k=false:=by unfold upB;simp;omega
 exact ⟨this,by simp [upL,this]⟩
theorem Ztn {C:List Nat} {k:Int} (h:¬(0<=k/\k<C.length)):Zeb C k=false/\Zb4 C k=C:=by
 have:Zeb C k=false:=by unfold Zeb;simp;omega
 exact ⟨this,by simp [Zb4,this]⟩
theorem Z49 {C:List Nat} {k:Nat} (h:k<C.length) (hv:C[k]=15):upB C k=false/\upL C k=C:=by
 have:upB C k=false:=by simp [upB,Zcx h,hv]
 exact ⟨this,by simp [upL,this]⟩
theorem Z48 {C:List Nat} {k:Nat} (h:k<C.length) (hv:C[k]≠15):upB C k=true/\upL C k=C.set k (C[k]+1):=by
 have:upB C k=true:=by simp [upB,Zcx h,hv,h]
 exact ⟨this,by simp [upL,this,Zcx h]⟩
theorem Zlo {C:List Nat} {k:Nat} (h:k<C.length) (hv:C[k]=15\/C[k]=0):Zeb C k=false/\Zb4 C k=C:=by
 have:Zeb C k=false:=by
  rcases hv with hv | hv<;>simp [Zeb,Zcx h,hv]
 exact ⟨this,by simp [Zb4,this]⟩
theorem Zph {C:List Nat} {k:Nat} (h:k<C.length) (hv:C[k]≠15) (h0:C[k]≠0):Zeb C k=true/\Zb4 C k=C.set k (C[k]-1):=by
 have:Zeb C k=true:=by simp [Zeb,Zcx h,hv,h,h0]
 exact ⟨this,by simp [Zb4,this,Zcx h]⟩
def addL (C:List Nat) (L:List Int):List Nat:=L.foldl upL C
def remL (C:List Nat) (L:List Int):List Nat:=L.foldl Zb4 C
def mayL (C:List Nat) (L:List Int):Bool:=L.all fun i=>decide (getN C i≠0)
def onsC (C:List Nat):List Bool:=C.map fun c=>decide (c≠0)
theorem Zmi (C:List Nat):(onsC C).length=C.length:=by simp [onsC]
theorem Zx9 (n:Nat):onsC (List.replicate n 0)=List.replicate n false:=by simp [onsC]
theorem Zjd:∀(L:List Int) (C:List Nat),(addL C L).length=C.length
 | [],_=>rfl
 | a::L,C=>(Zjd L (upL C a)).trans (Zqc C a)
theorem Zi0:∀(L:List Int) (C:List Nat),(remL C L).length=C.length
 | [],_=>rfl
 | a::L,C=>(Zi0 L (Zb4 C a)).trans (Zkd C a)
theorem Z0s (C:List Nat) (L:List Int) (k:Nat) (h:k<L.length):addL C (L.take (k+1))=upL (addL C (L.take k)) L[k]:=by
 unfold addL
 rw [List.take_succ_eq_append_getElem h,List.foldl_append]
 rfl
theorem Zxl (C:List Nat) (L:List Int) (k:Nat) (h:k<L.length):remL C (L.take (k+1))=Zb4 (remL C (L.take k)) L[k]:=by
 unfold remL
 rw [List.take_succ_eq_append_getElem h,List.foldl_append]
 rfl
theorem Z54 {C:List Nat} {L:List Int} {k:Nat} (h:k<L.length) (h0:getN C L[k]=0):mayL C L=false:=by
 unfold mayL
 rw [List.all_eq_false]
 exact ⟨L[k],List.getElem_mem h,by simp [h0]⟩
theorem Zs0 {C:List Nat} {L:List Int} (h:∀k (hk:k<L.length),getN C L[k]≠0):mayL C L=true:=by
 unfold mayL
 rw [List.all_eq_true]
 intro x hx
 obtain ⟨k,hk,rfl⟩:=List.getElem_of_mem hx
 simpa using h k hk
theorem Ztk (C:List Nat) (k:Int):getB (onsC C) k=decide (getN C k≠0):=by
 unfold getB getN
 split
 ·rw [List.getD_eq_getElem?_getD,List.getD_eq_getElem?_getD]
  unfold onsC
  rw [List.getElem?_map]
  cases h:C[k.toNat]? <;> simp
 ·rfl
theorem Zq1 (C:List Nat) (k:Nat) (v:Nat):onsC (C.set k v)=(onsC C).set k (decide (v≠0)):=by
 unfold onsC
 rw [List.map_set]
theorem set_self {α:Type}:∀(L:List α) (k:Nat) (h:k<L.length),L.set k L[k]=L
 | a::L,0,_=>rfl
 | a::L,k+1,h=>congrArg (a :: ·) (set_self L k (Nat.lt_of_succ_lt_succ h))
theorem Zsq {C:List Nat} {k:Nat} (h:k<C.length) (b:Bool) (hb:b=decide (C[k]≠0)):(onsC C).set k b=onsC C:=by
 subst hb
 rw [<-Zq1,set_self]
theorem Z72 (C:List Nat) (i:Int):setB (onsC C) i true=onsC (upL C i):=by
 unfold setB
 rw [Zmi]
 by_cases h:0<=i/\i<C.length
 ·rw [if_pos h]
  obtain ⟨k,rfl⟩:=Int.eq_ofNat_of_zero_le h.1
  have hk:k<C.length:=by omega
  rw [Int.toNat_natCast]
  by_cases h15:C[k]=15
  ·rw [(Z49 hk h15).2,Zsq hk true (by simp [h15])]
  ·rw [(Z48 hk h15).2,Zq1]
   simp
 ·rw [if_neg h,(Z7l h).2]
theorem Z14 (C:List Nat) (i:Int):setB (onsC C) i (decide (getN (Zb4 C i) i≠0))=onsC (Zb4 C i):=by
 unfold setB
 rw [Zmi]
 by_cases h:0<=i/\i<C.length
 ·rw [if_pos h]
  obtain ⟨k,rfl⟩:=Int.eq_ofNat_of_zero_le h.1
  have hk:k<C.length:=by omega
  rw [Int.toNat_natCast]
  by_cases hv:C[k]=15\/C[k]=0
  ·rw [(Zlo hk hv).2,Zsq hk _ (by rw [Zcx hk])]
  ·rw [(Zph hk (fun e=>hv (.inl e)) (fun e=>hv (.inr e))).2,Zq1,Zcx (by simpa using hk)]
   simp
 ·rw [if_neg h,(Ztn h).2]
theorem Zzz (C:List Nat) (i:Int) (j:Nat) (h:j<C.length) (h16:C[j]<=15):getN (Zb4 C i) (j:Int)=if i=j then (if getN C j=15 then 15 else getN C j-1) else getN C j:=by
 by_cases hi:0<=i/\i<C.length
 ·obtain ⟨k,rfl⟩:=Int.eq_ofNat_of_zero_le hi.1
  have hk:k<C.length:=by omega
  rw [Zcx h]
  by_cases hv:C[k]=15\/C[k]=0
  ·rw [(Zlo hk hv).2,Zcx h]
   by_cases e:k=j
   ·subst e
    rw [if_pos rfl]
    rcases hv with hv | hv
    ·rw [hv,if_pos rfl]
    ·rw [hv,if_neg (by decide)]
   ·rw [if_neg (by omega)]
  ·rw [(Zph hk (fun e=>hv (.inl e)) (fun e=>hv (.inr e))).2,Zcx (by simpa using h)]
   by_cases e:k=j
   ·subst e
    rw [if_pos rfl,if_neg (fun e=>hv (.inl e)),List.getElem_set_self]
   ·rw [if_neg (by omega),List.getElem_set_ne e]
 ·rw [(Ztn hi).2,if_neg (by rintro rfl;omega)]
theorem Zi1:∀(L:List Int) (C:List Nat) (j:Nat),j<C.length->getN C (j:Int)<=15->getN (remL C L) (j:Int)=if getN C j=15 then 15 else getN C j-L.count (j:Int)
 | [],C,j,h,h16=>by
  show getN C j=_
  split
  ·assumption
  ·simp
 | a::L,C,j,h,h16=>by
  have hd:=Zzz C a j h (by rw [Zcx h] at h16;exact h16)
  show getN (remL (Zb4 C a) L) j=_
  have hl:j<(Zb4 C a).length:=by rw [Zkd];exact h
  by_cases e:a=(j:Int)
  ·have hc:(a::L).count (j:Int)=L.count (j:Int)+1:=by rw [List.count_cons,if_pos (by simp [e])]
   rw [if_pos e] at hd
   rw [hc]
   by_cases h15:getN C (j:Int)=15
   ·rw [if_pos h15] at hd
    rw [Zi1 L (Zb4 C a) j hl (by omega),if_pos h15,if_pos hd]
   ·rw [if_neg h15] at hd
    rw [Zi1 L (Zb4 C a) j hl (by omega),if_neg h15,if_neg (by omega),hd]
    omega
  ·have hc:(a::L).count (j:Int)=L.count (j:Int):=by rw [List.count_cons,if_neg (by simpa using e),Nat.add_zero]
   rw [if_neg e] at hd
   rw [hc,Zi1 L (Zb4 C a) j hl (by omega),hd]
def Zip (h:Nat) (m:Int) (i:Nat):Int:=redI ((h+i*(mixN h ||| 1))%18446744073709551616) m
def Zcw (h:Nat) (m:Int) (k:Nat):List Int:=(List.range k).map (Zip h m)
theorem Zdb (h:Nat) (m:Int) (k:Nat):(Zcw h m k).length=k:=by simp [Zcw]
theorem Zio (h:Nat) (m:Int) (k:Nat):Zcw h m (k+1)=Zcw h m k++[Zip h m k]:=by simp [Zcw,List.range_succ]
theorem Zmg (h:Nat) (m:Int) (i:Nat):0<=Zip h m i:=Zjr _ _
theorem Zx0 (h:Nat) (m:Int) (i:Nat) (hm:1<=m):Zip h m i<m:=Zxo (W64.mk (Nat.mod_lt _ (by decide))) hm
def Zeo (h:Nat) (k m:Int):List Int:=if m<1 then [] else Zcw h m (min k.toNat 16)
theorem Zog {h:Nat} {k m:Int} (hm:m<1):Zeo h k m=[]:=if_pos hm
theorem Zqw {h:Nat} {k m:Int} (hk:k<1):Zeo h k m=[]:=by
 unfold Zeo
 split
 ·rfl
 ·rw [show k.toNat=0 by omega];rfl
theorem Zof {h:Nat} {k m:Int} (hm:¬m<1):Zeo h k m=Zcw h m (min k.toNat 16):=if_neg hm
theorem or_one (x:Nat) (h:W64 x):bits BinOp.or IntKind.u64 (x:Int) 1=((x ||| 1:Nat):Int):=bits_or_u64_nat x 1 h.lt (by omega)
theorem Z11 (x:Nat) (h:W64 x):W64 (x ||| 1):=Nat.or_lt_two_pow h (by decide)
end
section
open M
def bh:List Rt->Ky->Nat
 | [],_=>0
 | a::l,k=>if Zau a.k k then bh l k+1 else 0
theorem Zpw:∀(l:List Rt) (k:Ky),bh l k<=l.length
 | [],_=>Nat.le_refl _
 | a::l,k=>by
  unfold bh
  have:=Zpw l k
  split<;>simp<;>omega
theorem Z62:∀(l:List Rt) (k:Ky) (i:Nat) (h:i<l.length),i<bh l k->Zau l[i].k k=true
 | a::l,k,i,h,hb=>by
  unfold bh at hb
  split at hb
  ·rename_i ha
   cases i with
   | zero=>simpa using ha
   | succ i=>simpa using Z62 l k i (by simpa using h) (by omega)
  ·omega
theorem Z63:∀(l:List Rt) (k:Ky),Sorted l->∀(i:Nat) (h:i<l.length),bh l k<=i->Zau l[i].k k=false
 | a::l,k,hs,i,h,hb=>by
  have h1:=List.pairwise_cons.1 hs
  unfold bh at hb
  split at hb
  ·cases i with
   | zero=>omega
   | succ i=>simpa using Z63 l k h1.2 i (by simpa using h) (by omega)
  ·rename_i ha
   rw [Bool.not_eq_true] at ha
   cases i with
   | zero=>simpa using ha
   | succ i=>
    have hi:i<l.length:=by simpa using h
    cases hc:Zau (l[i]'hi).k k with
    | false=>simpa using hc
    | true=>
     have:=Zbh (h1.1 _ (List.getElem_mem hi)) hc
     rw [ha] at this
     cases this
theorem Zrx (l:List Rt) (k:Ky) (hs:Sorted l) (i:Nat) (h:i<l.length):(!Zau l[i].k k)=decide (bh l k<=i):=by
 by_cases hb:bh l k<=i
 ·rw [Z63 l k hs i h hb,decide_eq_true hb];rfl
 ·rw [Z62 l k i h (by omega),decide_eq_false hb];rfl
theorem Zfm (a:Rt) (l:List Rt) (k:Ky):Zaw (a::l) k=if a.k=k then some 0 else (Zaw l k).map (· + 1):=by
 unfold Zaw
 rw [List.findIdx?_cons]
 by_cases h:a.k=k
 ·rw [if_pos h,decide_eq_true h];rfl
 ·rw [if_neg h,decide_eq_false h];rfl
theorem Zcz:∀(l:List Rt) (k:Ky),Sorted l->(∀i,Zaw l k=some i->i=bh l k/\∃h:i<l.length,l[i].k=k)/\(Zaw l k=none->∀(h:bh l k<l.length),l[bh l k].k≠k)
 | [],k,_=>⟨fun i h=>by simp [Zaw] at h,fun _ h=>absurd h (by simp)⟩
 | a::l,k,hs=>by
  have h1:=List.pairwise_cons.1 hs
  have ih:=Zcz l k h1.2
  rw [Zfm]
  by_cases hk:a.k=k
  ·rw [if_pos hk]
   have hb:bh (a::l) k=0:=by unfold bh;rw [hk,Za0];rfl
   refine ⟨fun i h => ?_,fun h=>by cases h⟩
   injection h with h
   subst h
   exact ⟨hb.symm,by simp,hk⟩
  ·rw [if_neg hk]
   cases hl:Zau a.k k with
   | true=>
    have hb:bh (a::l) k=bh l k+1:=by
     show (if Zau a.k k=true then bh l k+1 else 0)=_
     rw [hl];rfl
    refine ⟨fun i h => ?_,fun h hlt => ?_⟩
    ·rw [Option.map_eq_some_iff] at h
     obtain ⟨j,hj,rfl⟩:=h
     obtain ⟨e,hj2,hjk⟩:=ih.1 j hj
     exact ⟨by rw [hb,e],by simpa using hj2,by simpa using hjk⟩
    ·rw [Option.map_eq_none_iff] at h
     have:=ih.2 h (by rw [hb] at hlt;simpa using hlt)
     simpa [hb] using this
   | false=>
    have hb:bh (a::l) k=0:=by
     show (if Zau a.k k=true then bh l k+1 else 0)=_
     rw [hl];rfl
    have hr:Zau k a.k=true:=by rw [Zb3 hk,hl];rfl
    refine ⟨fun i h => ?_,fun h hlt=>by simpa [hb] using hk⟩
    rw [Option.map_eq_some_iff] at h
    obtain ⟨j,hj,rfl⟩:=h
    obtain ⟨e,hj2,hjk⟩:=ih.1 j hj
    have:=Zbh hr (h1.1 _ (List.getElem_mem hj2))
    rw [hjk,Za0] at this
    cases this
theorem Zgf:∀(l:List Rt) (r:Rt),Zaw l r.k=none->Zao l r=l.take (bh l r.k)++r::l.drop (bh l r.k)
 | [],r,_=>rfl
 | a::l,r,h=>by
  rw [Zfm] at h
  have hk:a.k≠r.k:=fun e=>by rw [if_pos e] at h;cases h
  rw [if_neg hk,Option.map_eq_none_iff] at h
  unfold Zao bh
  split
  ·rw [Zgf l r h];rfl
  ·rfl
theorem Zex:∀(l:List Rt) (r:Rt) (i:Nat),Sorted l->Zaw l r.k=some i->Zao l r=l.set i r
 | [],r,i,_,h=>by simp [Zaw] at h
 | a::l,r,i,hs,h=>by
  have h1:=List.pairwise_cons.1 hs
  rw [Zfm] at h
  by_cases hk:a.k=r.k
  ·rw [if_pos hk] at h
   injection h with h
   subst h
   unfold Zao
   rw [hk,Za0]
   simp
  ·rw [if_neg hk,Option.map_eq_some_iff] at h
   obtain ⟨j,hj,rfl⟩:=h
   obtain ⟨-,hj2,hjk⟩:=(Zcz l r.k h1.2).1 j hj
   have hl:Zau a.k r.k=true:=by
    have:=h1.1 _ (List.getElem_mem hj2)
    rwa [hjk] at this
   unfold Zao
   rw [hl,Zex l r j h1.2 hj]
   rfl
theorem Zok {l:List Rt} {k:Ky} (h:Zaw l k=none):outS l k=l:=Zbm (Zfl (by rw [h];rfl))
theorem Zd5:∀(l:List Rt) (k:Ky) (i:Nat),Sorted l->Zaw l k=some i->outS l k=l.eraseIdx i
 | [],k,i,_,h=>by simp [Zaw] at h
 | a::l,k,i,hs,h=>by
  have h1:=List.pairwise_cons.1 hs
  rw [Zfm] at h
  by_cases hk:a.k=k
  ·rw [if_pos hk] at h
   injection h with h
   subst h
   have:outS (a::l) k=outS l k:=by simp [outS,hk]
   rw [this,Zbm]
   ·rfl
   ·intro hm
    unfold Zad at hm
    rw [List.mem_map] at hm
    obtain ⟨q,hq,e⟩:=hm
    have:=h1.1 q hq
    rw [hk,e,Za0] at this
    cases this
  ·rw [if_neg hk,Option.map_eq_some_iff] at h
   obtain ⟨j,hj,rfl⟩:=h
   have:outS (a::l) k=a::outS l k:=by simp [outS,hk]
   rw [this,Zd5 l k j h1.2 hj]
   rfl
def stI (l:List Rt) (k:Ky):Int:=
 match Zaw l k with
 | some i=>(i:Int)
 | none => -1
theorem Ziz {l:List Rt} {k:Ky} {i:Nat} (h:Zaw l k=some i):stI l k=i:=by unfold stI;rw [h]
theorem Zgr {l:List Rt} {k:Ky} (h:Zaw l k=none):stI l k = -1:=by unfold stI;rw [h]
def Zc9 (T:Tab) (r:Rt):Option Tab:=
 if (getC (T.bk (T.x1 r.k)) r.k).isSome then some (T.set (T.x1 r.k) ((putC (T.bk (T.x1 r.k)) r.k r.v).getD (T.bk (T.x1 r.k))))
 else if (getC (T.bk (T.x2 r.k)) r.k).isSome then some (T.set (T.x2 r.k) ((putC (T.bk (T.x2 r.k)) r.k r.v).getD (T.bk (T.x2 r.k))))
 else if (Zaw T.st r.k).isSome then some { T with st:=Zao T.st r }
 else none
def fresh (T:Tab) (r:Rt):Tab×Option Rt:=
 match putC (T.bk (T.x1 r.k)) r.k r.v with
 | some C=>(T.set (T.x1 r.k) C,none)
 | none=>
  match putC (T.bk (T.x2 r.k)) r.k r.v with
  | some C=>(T.set (T.x2 r.k) C,none)
  | none=>Zdo 16 0 T (T.x2 r.k) r
theorem Zi4 (T:Tab) (r:Rt):Zix T r=match Zc9 T r with | some T'=>(T',none) | none=>fresh T r:=by
 unfold Zix Zc9 fresh
 split
 ·rfl
 ·split
  ·rfl
  ·split<;>rfl
def Zhm (T:Tab):Prop:=∀i,i<T.B.length->∀q,some q∈T.bk i->q.k.good
theorem Inv.goodT {T:Tab} (H:Inv T):Zhm T:=fun _ hi q hq=>H.good q (Zir hi hq)
theorem mem_set {C:List Pl} {j:Nat} {x:Pl} {q:Rt} (h:some q∈C.set j x):some q∈C\/x=some q:=(List.mem_or_eq_of_mem_set h).imp id Eq.symm
theorem Z53 {C:List Pl} {k:Ky} {v:Int} {q:Rt} (h:some q∈(putC C k v).getD C):some q∈C\/q=⟨k,v⟩:=by
 unfold putC at h
 split at h
 ·exact (mem_set h).imp id (fun e=>by injection e with e;exact e.symm)
 ·split at h
  ·exact (mem_set h).imp id (fun e=>by injection e with e;exact e.symm)
  ·exact .inl h
theorem Zhm.set {T:Tab} (H:Zhm T) {i:Nat} (hi:i<T.B.length) {C:List Pl} (h:∀q,some q∈C->q.k.good):Zhm (T.set i C):=by
 intro k hk q hq
 rw [Zci] at hk
 rw [Zpu T i hi] at hq
 split at hq
 ·exact h q hq
 ·exact H k hk q hq
theorem Zhm.put {T:Tab} (H:Zhm T) {i:Nat} (hi:i<T.B.length) {r:Rt} (hr:r.k.good):Zhm (T.set i ((putC (T.bk i) r.k r.v).getD (T.bk i))):=
 H.set hi fun q hq=>(Z53 hq).elim (H i hi q) (fun e=>e▸hr)
theorem Zwi:(⟨0,0,0⟩:Ky).good:=⟨W64.mk (by decide),W64.mk (by decide)⟩
theorem Zwz {C:List Pl} {j:Nat} {k:Ky} {v:Int}:(∃q,C.getD j none=some q/\Zfr C (j:Int) k v=some (q,C.set j (some ⟨k,v⟩)))\/Zfr C (j:Int) k v=none:=by
 unfold Zfr
 rw [if_pos (by omega),Int.toNat_natCast]
 cases h:C.getD j none with
 | none=>exact .inr rfl
 | some q=>exact .inl ⟨q,rfl,rfl⟩
theorem Z27 {C:List Pl} {j:Nat} {q:Rt} (h:C.getD j none=some q):some q∈C:=by
 rw [List.getD_eq_getElem?_getD] at h
 cases e:C[j]? with
 | none=>rw [e] at h;cases h
 | some x=>
  rw [e] at h
  simp only [Option.getD_some] at h
  subst h
  exact List.mem_of_getElem? e
theorem Zhm.kick {T:Tab} (H:Zhm T) {b:Nat} (hb:b<T.B.length) (i:Nat) {r:Rt} (hr:r.k.good):(kOut T b i r).k.good/\Zhm (kTab T b i r):=by
 unfold kOut kTab
 rcases Zwz (C:=T.bk b) (j:=i%4) (k:=r.k) (v:=r.v) with ⟨q,hq,e⟩ | e
 ·rw [e]
  exact ⟨H b hb q (Z27 hq),H.set hb fun p hp=>(mem_set hp).elim (H b hb p) (fun e=>by injection e with e;exact e▸hr)⟩
 ·rw [e]
  exact ⟨Zwi,H.set hb fun p hp=>H b hb p hp⟩
theorem Zs8 {f i:Nat} {T:Tab} {b:Nat} {r:Rt} {C:List Pl} (h:putC ((kTab T b i r).bk (kNew T b i r)) (kOut T b i r).k (kOut T b i r).v=some C):Zdo (f+1) i T b r=((kTab T b i r).set (kNew T b i r) C,none):=by
 show (match putC ((kTab T b i r).bk (kNew T b i r)) (kOut T b i r).k (kOut T b i r).v with | some C=>_ | none=>_)=_
 rw [h]
theorem Zs6 {f i:Nat} {T:Tab} {b:Nat} {r:Rt} (h:putC ((kTab T b i r).bk (kNew T b i r)) (kOut T b i r).k (kOut T b i r).v=none):Zdo (f+1) i T b r=Zdo f (i+1) (kTab T b i r) (kNew T b i r) (kOut T b i r):=by
 show (match putC ((kTab T b i r).bk (kNew T b i r)) (kOut T b i r).k (kOut T b i r).v with | some C=>_ | none=>_)=_
 rw [h]
end
end Go.Proofs.YtgfjmgebecmbiaaGreat
