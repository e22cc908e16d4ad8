import Derived.Test.YtgfjmgebecmbiaaGreatGrown
set_option linter.unusedSimpArgs false
set_option linter.unusedVariables false
set_option maxHeartbeats 1000000
namespace Go.Proofs.YtgfjmgebecmbiaaGreat
open Lib(hid)
section
open Go.RowKit Go.Sort M
def ucs (L:List Nat):List Value:=L.map fun (x:Nat) => .int .u64 (x:Int)
theorem Zwr (L:List Nat) (k x:Nat):(ucs L).set k (.int .u64 (x:Int))=ucs (L.set k x):=by simp [ucs,List.map_set]
theorem Ze7 (L:List Nat) (k x:Nat) (h:L[k]? = some x):(ucs L)[k]? = some (.int .u64 (x:Int)):=by simp [ucs,h]
theorem Z4w:(Tryz.prog.info? 24).map (fun i=>(i.zero,i.size,i.bytes))=some (some (.int .u64 0),1,8):=by kernel_rfl
def nW (C:List Nat):Nat:=(C.length+15)/16
structure Nib (w:World) (B g h:Nat) (C:List Nat):Prop where
 low:B<=g
 lt:g<w.heap.size
 ne:h≠g
 words:w.cell? ⟨g,0,none⟩=some (.slice (some ⟨h,0,none⟩) (nW C) (nW C))
 num:w.cell? ⟨g,1,none⟩=some (.int .i64 (C.length:Int))
 own:w.ownsRow B 24 1 (.slice (some ⟨h,0,none⟩) (nW C) (nW C)) (nW C) (ucs (Zfv C))
 small:∀c∈C,c<=15
 len:C.length<=65536
theorem Nib.kept {w w':World} {B g h:Nat} {C:List Nat} {row:Option Nat} (H:Nib w B g h C) (hg:w.grownBy w' row) (h1:some g≠row) (h2:some h≠row):Nib w' B g h C:=
 ⟨H.low,Nat.lt_of_lt_of_le H.lt hg.size,H.ne,hg.cell H.words h1,hg.cell H.num h1,H.own.kept hg (.inr h2),H.small,H.len⟩
theorem Nib.below {w w':World} {B g h:Nat} {C:List Nat} (H:Nib w B g h C) (hb:Below w.heap.size w w'):Nib w' B g h C:=H.kept (Za3 hb) (by simp) (by simp)
theorem Nib.low2 {w:World} {B g h:Nat} {C:List Nat} (H:Nib w B g h C):B<=h/\h<w.heap.size:=H.own.lt h rfl
def Z9j (w:World) (B:Nat) (v:Value) (C:List Nat):Prop:=∃g h,v = .pointer (some ⟨g,0,none⟩)/\Nib w B g h C
theorem Nib.new (w:World) (c:Nat) (x:Int) (hc:c<=65536) (hx:x=(c:Int)) (t:TypeId) :
 Nib ((w.alloc (.cells (madeCells #[.int .u64 0] ((c+15)/16)) 24)).alloc (.cells #[.slice (some ⟨w.heap.size,0,none⟩) ((c+15)/16) ((c+15)/16),.int .i64 x] t)) w.heap.size (w.heap.size+1) w.heap.size (List.replicate c 0):=by
 have e:nW (List.replicate c 0)=(c+15)/16:=by simp [nW]
 subst hx
 refine ⟨by omega,by simp,by omega,?_,?_,?_,?_,by simpa using hc⟩
 ·rw [e]
  simp [go_sem]
 ·rw [List.length_replicate]
  simp [go_sem]
 ·rw [e,Zp7]
  refine World.ownsRow.alloc ?_ _
  have:=World.ownsRow_lit (base:=w.heap.size) (e:=24) (size:=1) w (madeCells #[.int .u64 0] ((c+15)/16)) ((c+15)/16) (Nat.le_refl _) (by unfold maxLen;omega) (by simp [madeCells])
  rwa [toList_madeCells_one,show List.replicate ((c+15)/16) (Value.int .u64 0)=ucs (List.replicate ((c+15)/16) 0) by simp [ucs]] at this
 ·intro x hx
  rw [List.eq_of_mem_replicate hx]
  omega
set_option maxRecDepth 100000 in
theorem Z5z (n:Int) (hn:n<=9223372036854775807) (hn0 : -9223372036854775808<=n) (w:World) :
 Calls Tryz.prog 77 #[.int .i64 n] w fun e w'=>∃v,e = .returned v/\Z9j w' w.heap.size v (List.replicate (min n.toNat 65536) 0)/\Below w.heap.size w w':=by
 obtain ⟨c,hc⟩:∃c,c=min n.toNat 65536:=⟨_,rfl⟩
 rw [<-hc]
 have hmk:=Zcm (P:=Tryz.prog) (t:=161) Tryz.underlying161 Z4w ((c+15)/16) (by omega) (by unfold maxLen;omega)
 by_cases h0:n<=0
 ·have HC:Hid (c=0):=by show c=0;omega
  have he:(((c+15)/16:Nat):Int)=0:=by omega
  clear hc
  rw [he] at hmk
  simp only [Value.cells,Nat.mul_one] at hmk
  clear he
  go_enter Tryz.func77,Tryz.ntmps77
  go_wp2
  go_ret
  exact ⟨_,rfl,⟨_,_,rfl,Nib.new w c 0 (by have:=HC.out;omega) (by rw [HC.out];rfl) _⟩,by go_grown⟩
 ·by_cases h1:65536<n
  ·have HC:Hid (c=65536):=by show c=65536;omega
   have he:(((c+15)/16:Nat):Int)=4096:=by omega
   clear hc
   rw [he] at hmk
   simp only [Value.cells,Nat.mul_one] at hmk
   clear he
   go_enter Tryz.func77,Tryz.ntmps77
   go_wp2
   go_ret
   exact ⟨_,rfl,⟨_,_,rfl,Nib.new w c 65536 (by have:=HC.out;omega) (by rw [HC.out];rfl) _⟩,by go_grown⟩
  ·obtain rfl:n=(c:Int):=by omega
   have he:(((c+15)/16:Nat):Int)=((c:Int)+16-1)/16:=by omega
   clear hc
   rw [he] at hmk
   simp only [Value.cells,Nat.mul_one] at hmk
   clear he
   go_enter Tryz.func77,Tryz.ntmps77
   go_wp2
   go_ret
   exact ⟨_,rfl,⟨_,_,rfl,Nib.new w c c (by omega) rfl _⟩,by go_grown⟩
theorem Z57 (B g h:Nat) (C:List Nat) (w:World) (H:Nib w B g h C) :
 Calls Tryz.prog 186 #[.pointer (some ⟨g,0,none⟩)] w fun e w'=>e = .returned (.int .i64 (C.length:Int))/\Below w.heap.size w w':=by
 have c0:=H.words
 have c1:=H.num
 have hl:=H.lt
 clear H
 go_enter Tryz.func186,Tryz.ntmps186
 go_wp2
 go_ret
 exact ⟨rfl,by go_grown⟩
theorem Zmk (B g h:Nat) (C:List Nat) (k:Int) (w:World) (H:Nib w B g h C) :
 Calls Tryz.prog 168 #[.pointer (some ⟨g,0,none⟩),.int .i64 k] w fun e w'=>e = .returned (.bool (decide (0<=k/\k<C.length)))/\Below w.heap.size w w':=by
 have HL:=hid (Z57 B g h C w H)
 clear H
 by_cases h0:0<=k
 ·go_enter Tryz.func168,Tryz.ntmps168
  go_wp2_with fail
  refine HL.out.mono ?_
  rintro e w0 ⟨rfl,hw0⟩
  go_wp2
  go_ret
  exact ⟨Zai (by simp [h0]),hw0⟩
 ·go_enter Tryz.func168,Tryz.ntmps168
  go_wp2
  go_ret
  exact ⟨Zai (by simp;omega),by go_grown⟩
def getN (C:List Nat) (k:Int):Nat:=if 0<=k then C.getD k.toNat 0 else 0
theorem Zka {C:List Nat} (h:∀c∈C,c<=15) (k:Int):getN C k<16:=by
 unfold getN
 split
 ·exact getD_lt h _
 ·decide
theorem Z6d {C:List Nat} {k:Int} (h:¬(0<=k/\k<C.length)):getN C k=0:=by
 unfold getN
 split
 ·rw [List.getD_eq_getElem?_getD,List.getElem?_eq_none (by omega)]
  rfl
 ·rfl
theorem Z26 (x k:Nat) (s:Int) (hx:x<18446744073709551616) (hs:s.toNat=4*(k%16)):wrap64 (bits BinOp.and IntKind.u64 ((x:Int)/2^s.toNat) 15)=((x/2^(4*(k%16))%16:Nat):Int):=by
 rw [hs]
 have h2:x/2^(4*(k%16))<18446744073709551616:=Nat.lt_of_le_of_lt (Nat.div_le_self _ _) hx
 have e:((x:Int)/2^(4*(k%16)))=((x/2^(4*(k%16)):Nat):Int):=by simp
 rw [e,show (15:Int)=((15:Nat):Int) from rfl,andN _ _ h2 (by decide),Z9i,IntWalk.wrap64_in _ (by omega)]
theorem Zez (B g h:Nat) (C:List Nat) (k:Int) (w:World) (H:Nib w B g h C) :
 Calls Tryz.prog 131 #[.pointer (some ⟨g,0,none⟩),.int .i64 k] w fun e w'=>e = .returned (.int .i64 (getN C k:Nat))/\Below w.heap.size w w':=by
 have HH:=hid (Zmk B g h C k w H)
 by_cases h0:0<=k/\k<C.length
 ·have hd:decide (0<=k/\k<C.length)=true:=by simpa using h0
  rw [hd] at HH
  clear hd
  obtain ⟨i,rfl⟩:=Int.eq_ofNat_of_zero_le h0.1
  have hi:i<C.length:=by omega
  have hlen:=H.len
  clear h0
  obtain ⟨s,hs⟩:∃s:Int,s=((4*(i%16):Nat):Int):=⟨_,rfl⟩
  have hsh:=Zjq i (by omega) (by omega)
  rw [show (i:Int).toNat=i from rfl,<-hs] at hsh
  have HS:=hid hsh
  have s0:0<=s:=by omega
  have s1:s<64:=by omega
  have HT:Hid (s.toNat=4*(i%16)):=by show s.toNat=_;omega
  have hW:=Ziy H.small (i/16)
  have HG:=hid (Z03 H.small i)
  have HC:=hid H
  clear hs hsh H
  go_enter Tryz.func131,Tryz.ntmps131
  go_wp2_with fail
  refine HH.out.mono ?_
  rintro e w0 ⟨rfl,hw0⟩
  have H0:=HC.out.below hw0
  have c0:=H0.words
  have hl:=H0.lt
  have hr:=H0.low2.2
  have i1:i/16<nW C:=by unfold nW;omega
  have d0:w0.cell? ⟨h,i/16,none⟩=some (.int .u64 (Zf7 C (i/16):Nat)):=(H0.own.cellAt (i/16) (by omega)).trans (Ze7 _ _ _ (Zef C _ i1))
  generalize Zf7 C (i/16)=x at *
  clear H0
  have hz0:=hw0.size
  go_wp2_with fail
  have kg:=Zaa
  refine Zab (by kernel_rfl) (by kernel_rfl) ?_
  repeat (any_goals (first|go_big_quiet_step ((exact HS.out.at _ _ _))|quiet_step ((exact HS.out.at _ _ _))))
  refine wpQuiet_nil ?_
  clear kg
  intro w1 hb1
  obtain ⟨hc1,hf1⟩:=Zaf hb1
  have hw1:Below w.heap.size w w1:=by
   refine Below.trans ?_ (hb1.mono ?_)
   ·go_grown
   ·first|omega|go_size
  go_wp2
  go_ret
  exact ⟨Zbb (by rw [Z26 x i s hW HT.out,HG.out];rfl),hw1⟩
 ·rw [Z6d h0]
  have hd:decide (0<=k/\k<C.length)=false:=by simpa using h0
  rw [hd] at HH
  clear hd h0 H
  go_enter Tryz.func131,Tryz.ntmps131
  go_wp2_with fail
  refine HH.out.mono ?_
  rintro e w0 ⟨rfl,hw0⟩
  go_wp2
  go_ret
  exact ⟨rfl,hw0⟩
def upB (C:List Nat) (k:Int):Bool:=decide (0<=k/\k<C.length)&&decide (getN C k≠15)
def upL (C:List Nat) (k:Int):List Nat:=if upB C k then C.set k.toNat (getN C k+1) else C
def Zeb (C:List Nat) (k:Int):Bool:=decide (0<=k/\k<C.length)&&decide (getN C k≠0)&&decide (getN C k≠15)
def Zb4 (C:List Nat) (k:Int):List Nat:=if Zeb C k then C.set k.toNat (getN C k-1) else C
theorem Z1y (e:Nat):(2:Int)^e=((2^e:Nat):Int):=by simp
theorem Z47 (x y v:Nat) (s:Int) (e:Nat) (hs:s.toNat=e) (h:y+v*2^e=x+(v+1)*2^e) (hy:y<18446744073709551616):IntKind.u64.wrap ((x:Int)+IntKind.u64.wrap (2^s.toNat))=((y:Nat):Int):=by
 rw [Nat.add_mul,Nat.one_mul] at h
 rw [hs,Z1y,wrapN _ (by omega),<-Int.natCast_add,wrapN _ (by omega)]
 omega
theorem Zzy (x y v:Nat) (s:Int) (e:Nat) (hs:s.toNat=e) (h:y+(v+1)*2^e=x+v*2^e) (hx:x<18446744073709551616):IntKind.u64.wrap ((x:Int)-IntKind.u64.wrap (2^s.toNat))=((y:Nat):Int):=by
 rw [Nat.add_mul,Nat.one_mul] at h
 rw [hs,Z1y]
 generalize 2^e=P at *
 rw [wrapN _ (by omega),show (x:Int)-(P:Int)=((y:Nat):Int) by omega,wrapN _ (by omega)]
theorem Zjp {C:List Nat} (h:∀c∈C,c<=15) (k v:Nat) (hv:v<=15):∀c∈C.set k v,c<=15:=by
 intro c hc
 rcases List.mem_or_eq_of_mem_set hc with h1 | h1
 ·exact h c h1
 ·omega
theorem Nib.set {w:World} {B g h:Nat} {C:List Nat} (H:Nib w B g h C) (k v:Nat) (hk:k<C.length) (hv:v<=15) (x:Int) (hx:x=(Zf7 (C.set k v) (k/16):Nat)) :
 Nib (w.setCell ⟨h,k/16,none⟩ (.int .u64 x)) B g h (C.set k v)/\w.grownBy (w.setCell ⟨h,k/16,none⟩ (.int .u64 x)) (some h):=by
 have hs:=H.own.stored (k/16) (.int .u64 x)
 have e:nW (C.set k v)=nW C:=by simp [nW]
 have hne:=H.ne
 refine ⟨⟨H.low,by simpa using H.lt,H.ne,?_,?_,?_,Zjp H.small k v hv,by simpa using H.len⟩,hs.2⟩
 ·rw [e]
  exact hs.2.cell H.words (by simp;omega)
 ·rw [List.length_set]
  exact hs.2.cell H.num (by simp;omega)
 ·rw [e,<-Zuc C k v hk,<-Zwr,<-hx]
  exact hs.1
theorem Z7m (B g h:Nat) (C:List Nat) (k:Int) (w:World) (H:Nib w B g h C) :
 Calls Tryz.prog 136 #[.pointer (some ⟨g,0,none⟩),.int .i64 k] w fun e w'=>e = .returned (.bool (upB C k))/\Nib w' B g h (upL C k)/\w.grownBy w' (some h):=by
 have HH:=hid (Zmk B g h C k w H)
 have HC:=hid H
 by_cases h0:0<=k/\k<C.length
 ·have hd:decide (0<=k/\k<C.length)=true:=by simpa using h0
  rw [hd] at HH
  by_cases h15:getN C k=15
  ·have hu:upB C k=false:=by simp [upB,h15]
   rw [show upL C k=C by simp [upL,hu],hu]
   clear hu hd h0 H
   go_enter Tryz.func136,Tryz.ntmps136
   go_wp2_with fail
   refine HH.out.mono ?_
   rintro e w0 ⟨rfl,hw0⟩
   go_wp2_with fail
   refine (Zez B g h C k _ (HC.out.below hw0)).mono ?_
   rintro e w1 ⟨rfl,hb1⟩
   have hw1:=hw0.trans (hb1.mono hw0.size)
   go_wp2
   go_ret
   exact ⟨rfl,HC.out.below hw1,(Za3 hw1).but _⟩
  ·have hu:upB C k=true:=by simp [upB,h15,h0]
   rw [show upL C k=C.set k.toNat (getN C k+1) by simp [upL,hu],hu]
   have hlt:=Zka H.small k
   obtain ⟨i,rfl⟩:=Int.eq_ofNat_of_zero_le h0.1
   have hi:i<C.length:=by omega
   have hlen:=H.len
   have hgi:getN C i=C[i]:=by
    unfold getN
    rw [if_pos (by omega),Int.toNat_natCast,List.getD_eq_getElem?_getD,List.getElem?_eq_getElem hi]
    rfl
   have hset:=Znc C i (getN C i+1) hi
   rw [<-hgi] at hset
   obtain ⟨s,hs⟩:∃s:Int,s=((4*(i%16):Nat):Int):=⟨_,rfl⟩
   have hsh:=Zjq i (by omega) (by omega)
   rw [show (i:Int).toNat=i from rfl,<-hs] at hsh
   have HS:=hid hsh
   have s0:0<=s:=by omega
   have s1:s<64:=by omega
   have HT:Hid (s.toNat=4*(i%16)):=by show s.toNat=_;omega
   have hW2:=Ziy (Zjp H.small i (getN C i+1) (by omega)) (i/16)
   have HSET:=hid hset
   have HD:Hid (getN C i+1<=15):=by show getN C i+1<=15;omega
   have hne:((getN C i:Nat):Int)≠15:=by omega
   rw [Int.toNat_natCast]
   clear hs hsh H hset hgi hu hd h0 hlt
   obtain ⟨x,hx⟩:∃x,x=Zf7 C (i/16):=⟨_,rfl⟩
   have HX:=hid hx
   clear hx h15
   go_enter Tryz.func136,Tryz.ntmps136
   go_wp2_with fail
   refine HH.out.mono ?_
   rintro e w0 ⟨rfl,hw0⟩
   go_wp2_with fail
   refine (Zez B g h C i _ (HC.out.below hw0)).mono ?_
   rintro e w1 ⟨rfl,hb1⟩
   have hw1:=hw0.trans (hb1.mono hw0.size)
   have hz1:=hw1.size
   have H1:=HC.out.below hw1
   have c0:=H1.words
   have hl:=H1.lt
   have hr:=H1.low2.2
   have i1:i/16<nW C:=by unfold nW;omega
   have d0:w1.cell? ⟨h,i/16,none⟩=some (.int .u64 (x:Int)):=(H1.own.cellAt (i/16) (by omega)).trans (Ze7 _ _ _ (by rw [HX.out];exact Zef C _ i1))
   have f0:=H1.own.frozenAt (i/16)
   clear H1 hb1 hw0
   go_wp2_with fail
   have kg:=Zaa
   refine Zaj 13 (by kernel_rfl) (by kernel_rfl) ?_
   simp only [List.take_succ_cons,List.take_zero,List.drop_succ_cons,List.drop_zero]
   repeat (any_goals (first|go_big_quiet_step ((exact HS.out.at _ _ _))|quiet_step ((exact HS.out.at _ _ _))))
   refine wpQuiet_nil ?_
   clear kg
   intro w2 hb2
   obtain ⟨hc2,hf2⟩:=Zaf hb2
   have hw2:Below w.heap.size w w2:=by
    refine Below.trans ?_ (hb2.mono ?_)
    ·go_grown
    ·first|omega|go_size
   go_wp2
   go_ret
   have hN:=(HC.out.below hw2).set i _ hi HD.out _ (Z47 x _ _ s _ HT.out (by have:=HSET.out;rwa [<-HX.out] at this) hW2)
   exact ⟨rfl,hN.1,((Za3 hw2).but _).trans hN.2⟩
 ·have hd:decide (0<=k/\k<C.length)=false:=by simpa using h0
  have hu:upB C k=false:=by simp [upB,hd]
  rw [hd] at HH
  rw [show upL C k=C by simp [upL,hu],hu]
  clear hd hu h0 H
  go_enter Tryz.func136,Tryz.ntmps136
  go_wp2_with fail
  refine HH.out.mono ?_
  rintro e w0 ⟨rfl,hw0⟩
  go_wp2
  go_ret
  exact ⟨rfl,HC.out.below hw0,(Za3 hw0).but _⟩
theorem Z3j (B g h:Nat) (C:List Nat) (k:Int) (w:World) (H:Nib w B g h C) :
 Calls Tryz.prog 129 #[.pointer (some ⟨g,0,none⟩),.int .i64 k] w fun e w'=>e = .returned (.bool (Zeb C k))/\Nib w' B g h (Zb4 C k)/\w.grownBy w' (some h):=by
 have HH:=hid (Zmk B g h C k w H)
 have HC:=hid H
 by_cases h0:0<=k/\k<C.length
 ·have hd:decide (0<=k/\k<C.length)=true:=by simpa using h0
  rw [hd] at HH
  by_cases hz:getN C k=0
  ·have hu:Zeb C k=false:=by simp [Zeb,hz]
   rw [show Zb4 C k=C by simp [Zb4,hu],hu]
   clear hu hd h0 H
   go_enter Tryz.func129,Tryz.ntmps129
   go_wp2_with fail
   refine HH.out.mono ?_
   rintro e w0 ⟨rfl,hw0⟩
   go_wp2_with fail
   refine (Zez B g h C k _ (HC.out.below hw0)).mono ?_
   rintro e w1 ⟨rfl,hb1⟩
   have hw1:=hw0.trans (hb1.mono hw0.size)
   go_wp2
   go_ret
   exact ⟨rfl,HC.out.below hw1,(Za3 hw1).but _⟩
  by_cases h15:getN C k=15
  ·have hu:Zeb C k=false:=by simp [Zeb,h15]
   rw [show Zb4 C k=C by simp [Zb4,hu],hu]
   clear hu hd h0 H
   go_enter Tryz.func129,Tryz.ntmps129
   go_wp2_with fail
   refine HH.out.mono ?_
   rintro e w0 ⟨rfl,hw0⟩
   go_wp2_with fail
   refine (Zez B g h C k _ (HC.out.below hw0)).mono ?_
   rintro e w1 ⟨rfl,hb1⟩
   have hw1:=hw0.trans (hb1.mono hw0.size)
   go_wp2_with fail
   refine (Zez B g h C k _ (HC.out.below hw1)).mono ?_
   rintro e w2 ⟨rfl,hb2⟩
   have hw2:=hw1.trans (hb2.mono hw1.size)
   go_wp2
   go_ret
   exact ⟨rfl,HC.out.below hw2,(Za3 hw2).but _⟩
  ·have hu:Zeb C k=true:=by simp [Zeb,h15,hz,h0]
   rw [show Zb4 C k=C.set k.toNat (getN C k-1) by simp [Zb4,hu],hu]
   have hlt:=Zka H.small k
   obtain ⟨i,rfl⟩:=Int.eq_ofNat_of_zero_le h0.1
   have hi:i<C.length:=by omega
   have hlen:=H.len
   have hgi:getN C i=C[i]:=by
    unfold getN
    rw [if_pos (by omega),Int.toNat_natCast,List.getD_eq_getElem?_getD,List.getElem?_eq_getElem hi]
    rfl
   have hp:0<getN C i:=by omega
   have hset:=Znc C i (getN C i-1) hi
   rw [<-hgi] at hset
   obtain ⟨s,hs⟩:∃s:Int,s=((4*(i%16):Nat):Int):=⟨_,rfl⟩
   have hsh:=Zjq i (by omega) (by omega)
   rw [show (i:Int).toNat=i from rfl,<-hs] at hsh
   have HS:=hid hsh
   have s0:0<=s:=by omega
   have s1:s<64:=by omega
   have HT:Hid (s.toNat=4*(i%16)):=by show s.toNat=_;omega
   have hW2:=Ziy (Zjp H.small i (getN C i-1) (by omega)) (i/16)
   have HSET:=hid hset
   have HD:Hid (getN C i-1<=15):=by show getN C i-1<=15;omega
   have hne:((getN C i:Nat):Int)≠15:=by omega
   have e0:(((getN C i:Nat):Int) == 0)=false:=by simp;omega
   have e15:(((getN C i:Nat):Int) == 15)=false:=by simp;omega
   have hWx:=Ziy H.small (i/16)
   have HP:=hid hp
   rw [Int.toNat_natCast]
   clear hs hsh H hset hgi hu hd h0 hlt hp hz
   obtain ⟨x,hx⟩:∃x,x=Zf7 C (i/16):=⟨_,rfl⟩
   have HX:=hid hx
   clear hx h15
   go_enter Tryz.func129,Tryz.ntmps129
   go_wp2_with fail
   refine HH.out.mono ?_
   rintro e w0 ⟨rfl,hw0⟩
   go_wp2_with fail
   refine (Zez B g h C i _ (HC.out.below hw0)).mono ?_
   rintro e w9 ⟨rfl,hb9⟩
   have hw9:=hw0.trans (hb9.mono hw0.size)
   go_wp2_with fail
   refine (Zez B g h C i _ (HC.out.below hw9)).mono ?_
   rintro e w1 ⟨rfl,hb1⟩
   have hw1:=hw9.trans (hb1.mono hw9.size)
   clear hb9 hw9
   have hz1:=hw1.size
   have H1:=HC.out.below hw1
   have c0:=H1.words
   have hl:=H1.lt
   have hr:=H1.low2.2
   have i1:i/16<nW C:=by unfold nW;omega
   have d0:w1.cell? ⟨h,i/16,none⟩=some (.int .u64 (x:Int)):=(H1.own.cellAt (i/16) (by omega)).trans (Ze7 _ _ _ (by rw [HX.out];exact Zef C _ i1))
   have f0:=H1.own.frozenAt (i/16)
   clear H1 hb1 hw0
   go_wp2_with fail
   have kg:=Zaa
   refine Zaj 13 (by kernel_rfl) (by kernel_rfl) ?_
   simp only [List.take_succ_cons,List.take_zero,List.drop_succ_cons,List.drop_zero]
   repeat (any_goals (first|go_big_quiet_step ((exact HS.out.at _ _ _))|quiet_step ((exact HS.out.at _ _ _))))
   refine wpQuiet_nil ?_
   clear kg
   intro w2 hb2
   obtain ⟨hc2,hf2⟩:=Zaf hb2
   have hw2:Below w.heap.size w w2:=by
    refine Below.trans ?_ (hb2.mono ?_)
    ·go_grown
    ·first|omega|go_size
   go_wp2
   go_ret
   have hN:=(HC.out.below hw2).set i _ hi HD.out _ (Zzy x _ (getN C i-1) s _ HT.out (by have h1:=HSET.out;have h2:=HP.out;rw [<-HX.out] at h1;rwa [Nat.sub_add_cancel h2]) (by rw [HX.out];exact hWx))
   exact ⟨rfl,hN.1,((Za3 hw2).but _).trans hN.2⟩
 ·have hd:decide (0<=k/\k<C.length)=false:=by simpa using h0
  have hu:Zeb C k=false:=by simp [Zeb,hd]
  rw [hd] at HH
  rw [show Zb4 C k=C by simp [Zb4,hu],hu]
  clear hd hu h0 H
  go_enter Tryz.func129,Tryz.ntmps129
  go_wp2_with fail
  refine HH.out.mono ?_
  rintro e w0 ⟨rfl,hw0⟩
  go_wp2
  go_ret
  exact ⟨rfl,HC.out.below hw0,(Za3 hw0).but _⟩
end
section
namespace M
def wF (f:Nat->Bool):Nat->Nat
 | 0=>0
 | n+1=>2^n*(f n).toNat+wF f n
theorem Z45 (f:Nat->Bool):∀n,wF f n<2^n
 | 0=>by simp [wF]
 | n+1=>by
  have h1:=Z45 f n
  have h2:(f n).toNat<=1:=by cases f n<;>decide
  show 2^n*(f n).toNat+wF f n<2^(n+1)
  have:2^n*(f n).toNat<=2^n*1:=Nat.mul_le_mul_left _ h2
  rw [Nat.pow_succ]
  omega
theorem Z30 (b:Bool) (i:Nat):b.toNat.testBit i=(decide (i=0)&&b):=by
 cases i with
 | zero=>cases b<;>rfl
 | succ i=>cases b<;>simp [Nat.testBit_succ]
theorem Z4e (f:Nat->Bool) (i:Nat):∀n,(wF f n).testBit i=(decide (i<n)&&f i)
 | 0=>by simp [wF]
 | n+1=>by
  show (2^n*(f n).toNat+wF f n).testBit i=_
  rw [Nat.testBit_two_pow_mul_add _ (Z45 f n),Z4e f i n,Z30]
  by_cases h:i<n
  ·rw [if_pos h,decide_eq_true h,decide_eq_true (show i<n+1 by omega)]
  ·rw [if_neg h]
   by_cases e:i=n
   ·subst e
    rw [decide_eq_true (show i-i=0 by omega),decide_eq_true (show i<i+1 by omega)]
   ·rw [decide_eq_false (show ¬i-n=0 by omega),decide_eq_false (show ¬i<n+1 by omega)]
    rfl
def Zeh (C:List Bool) (j:Nat):Nat:=wF (fun i=>C.getD (64*j+i) false) 64
def Zfw (C:List Bool):List Nat:=(List.range ((C.length+63)/64)).map (Zeh C)
theorem Zl1 (C:List Bool) (j:Nat):Zeh C j<18446744073709551616:=Z45 _ 64
theorem Zdr (C:List Bool) (j i:Nat):(Zeh C j).testBit i=(decide (i<64)&&C.getD (64*j+i) false):=Z4e _ i 64
theorem Z05 (C:List Bool) (k:Nat):(Zeh C (k/64)).testBit (k%64)=C.getD k false:=by
 rw [Zdr,decide_eq_true (show k%64<64 by omega),show 64*(k/64)+k%64=k by omega]
 rfl
theorem Zo9 {C:List Bool} {k i:Nat} {v:Bool} (hk:k<C.length):(C.set k v).getD i false=if i=k then v else C.getD i false:=by
 rw [List.getD_eq_getElem?_getD,List.getElem?_set,List.getD_eq_getElem?_getD]
 split
 ·rename_i h
  subst h
  simp [hk]
 ·rename_i h
  rw [if_neg (fun e=>h e.symm)]
theorem Zgo {C:List Bool} {k:Nat} (v:Bool) (hk:k<C.length) (i:Nat):(Zeh (C.set k v) (k/64)).testBit i=if i=k%64 then v else (Zeh C (k/64)).testBit i:=by
 rw [Zdr,Zdr,Zo9 hk]
 by_cases e:i=k%64
 ·rw [if_pos e,if_pos (by omega),decide_eq_true (show i<64 by omega)]
  rfl
 ·rw [if_neg e]
  by_cases h:i<64
  ·rw [if_neg (by omega)]
  ·rw [decide_eq_false h]
   rfl
theorem Z04 {C:List Bool} {k:Nat} (hk:k<C.length):Zeh (C.set k true) (k/64)=Zeh C (k/64) ||| 2^(k%64):=by
 apply Nat.eq_of_testBit_eq
 intro i
 rw [Zgo true hk,Nat.testBit_or,Nat.testBit_two_pow]
 by_cases e:i=k%64
 ·rw [if_pos e,decide_eq_true e.symm,Bool.or_true]
 ·rw [if_neg e,decide_eq_false (fun h=>e h.symm),Bool.or_false]
theorem Zwn {C:List Bool} {k j:Nat} (v:Bool) (hk:k<C.length) (hj:j≠k/64):Zeh (C.set k v) j=Zeh C j:=by
 apply Nat.eq_of_testBit_eq
 intro i
 rw [Zdr,Zdr,Zo9 hk]
 by_cases h:i<64
 ·rw [if_neg (by omega)]
 ·rw [decide_eq_false h]
  rfl
theorem Zho (C:List Bool):(Zfw C).length=(C.length+63)/64:=by simp [Zfw]
theorem Zeg (C:List Bool) (j:Nat) (h:j<(C.length+63)/64):(Zfw C)[j]? = some (Zeh C j):=by simp [Zfw,h]
theorem Zud (C:List Bool) (k:Nat) (v:Bool) (hk:k<C.length):(Zfw C).set (k/64) (Zeh (C.set k v) (k/64))=Zfw (C.set k v):=by
 apply List.ext_getElem?
 intro j
 rw [List.getElem?_set,Zho]
 by_cases hj:j<(C.length+63)/64
 ·rw [Zeg (C.set k v) j (by rw [List.length_set];exact hj)]
  by_cases e:k/64=j
  ·rw [if_pos e,if_pos (by omega),e]
  ·rw [if_neg e,Zeg C j hj,Zwn v hk (fun h=>e h.symm)]
 ·rw [List.getElem?_eq_none (l:=Zfw (C.set k v)) (by rw [Zho,List.length_set];omega)]
  split
  ·rw [if_neg (by omega)]
  ·rw [List.getElem?_eq_none (by rw [Zho];omega)]
theorem Zzi (n i:Nat):(List.replicate n false).getD i false=false:=by
 rw [List.getD_eq_getElem?_getD,List.getElem?_replicate]
 split<;>rfl
theorem Zp8 (n:Nat):Zfw (List.replicate n false)=List.replicate ((n+63)/64) 0:=by
 unfold Zfw
 rw [List.length_replicate]
 apply List.ext_getElem?
 intro j
 by_cases hj:j<(n+63)/64
 ·simp only [List.getElem?_map,List.getElem?_range hj,Option.map_some]
  rw [List.getElem?_replicate,if_pos hj]
  refine congrArg some ?_
  apply Nat.eq_of_testBit_eq
  intro i
  rw [Zdr,Zzi,Bool.and_false,Nat.zero_testBit]
 ·rw [List.getElem?_eq_none (by simp;omega),List.getElem?_eq_none (by simp;omega)]
end M
end
end Go.Proofs.YtgfjmgebecmbiaaGreat
