import Derived.Test.YtgfjmgebecmbiaaGreatW1b
set_option linter.unusedSimpArgs false
set_option linter.unusedVariables false
set_option maxHeartbeats 1000000
namespace Go.Proofs.YtgfjmgebecmbiaaGreat
open Lib(hid)
open Go.RowKit Go.Sort M
theorem Z01 (x:Nat):IntKind.u64.wrap (x:Int)=((x%2^64:Nat):Int):=by
 rw [IntKind.wrap_u64];omega
theorem Zr5 (x:Nat) (i:Int) (j:Nat) (h:i.toNat=j):IntKind.u64.wrap ((x:Int)*2^i.toNat)=((x*2^j%2^64:Nat):Int):=by
 have e:((x:Int)*2^i.toNat)=((x*2^j:Nat):Int):=by rw [h,Int.natCast_mul,Int.natCast_pow];rfl
 rw [e,Z01]
theorem Z5c (x:Nat) (i:Int) (j:Nat) (h:i.toNat=j):((x:Int)/2^i.toNat)=((x/2^j:Nat):Int):=by
 rw [h,Int.natCast_ediv,Int.natCast_pow];rfl
theorem Zxr (x:Nat) (k:Nat) (hk:k<=128) :
 Zak Tryz.prog 176 #[.int .u64 (x:Int),.int .i64 (k:Int)] (.agg #[.int .u64 (Zf2 x k:Nat),.int .u64 (Zf1 x k:Nat)]):=by
 intro w
 obtain ⟨i,hi⟩:∃i:Int,i=k:=⟨_,rfl⟩
 have HI:=hid hi
 rw [<-hi]
 have h0:0<=i:=by omega
 have h1:i<=128:=by omega
 clear hi
 by_cases h2:64<=i
 ·go_enter Tryz.func176,Tryz.ntmps176
  go_wp2
  refine bodyPost_ret (by simp [results,Tryz.results176,go_sem];try rfl) rfl ?_
  have hk2:=HI.out
  have e1:Zf2 x k=x*2^(k-64)%2^64:=if_pos (by omega)
  have e2:Zf1 x k=0:=if_pos (by omega)
  exact ⟨by rw [Zr5 x (i-64) (k-64) (by omega),e1,e2];rfl,by go_grown⟩
 ·go_enter Tryz.func176,Tryz.ntmps176
  go_wp2
  go_region
  all_goals go_wp2
  all_goals
   refine bodyPost_ret (by simp [results,Tryz.results176,go_sem];try rfl) rfl ?_
   have hk2:=HI.out
   have e1:Zf2 x k=x/2^(64-k):=if_neg (by omega)
   have e2:Zf1 x k=x*2^k%2^64:=if_neg (by omega)
   exact ⟨by rw [Zr5 x i k (by omega),Z5c x (64-i) (64-k) (by omega),e1,e2],by go_grown⟩
def cntN (h l:Nat) (n m:Int):Nat:=if Zan h l n=true/\n<=m/\m<=128/\m-n<=8 then 2^(m-n).toNat else 0
theorem Zhj {h l:Nat} {n m:Int} (hc:¬(Zan h l n=true/\n<=m/\m<=128/\m-n<=8)):cntN h l n m=0:=if_neg hc
theorem Ztu {h l:Nat} {n m:Int} (hc:Zan h l n=true/\n<=m/\m<=128/\m-n<=8):cntN h l n m=2^(m-n).toNat:=if_pos hc
theorem Z0i (h l:Nat) (n m:Int):cntN h l n m<=256:=by
 unfold cntN
 split
 ·rename_i hc
  exact Nat.pow_le_pow_right (by decide) (by omega:(m-n).toNat<=8)
 ·omega
theorem Z7r (d:Nat) (h:9<=d):((256:Int)/2^d)=0:=by
 have:(256:Nat)/2^d=0:=Nat.div_eq_of_lt (Nat.lt_of_lt_of_le (by decide:256<2^9) (Nat.pow_le_pow_right (by decide) h))
 have e:((256:Int)/2^d)=((256/2^d:Nat):Int):=by rw [Int.natCast_ediv,Int.natCast_pow];rfl
 rw [e,this];rfl
theorem Zxc (d:Nat) (h:d<=8):((256:Int)/2^d == 0)=false:=by
 rcases (show d=0\/d=1\/d=2\/d=3\/d=4\/d=5\/d=6\/d=7\/d=8 by omega) with rfl | rfl | rfl | rfl | rfl | rfl | rfl | rfl | rfl<;>rfl
theorem Zxd (d:Nat) (h:d<=8):wrap64 (2^d)=((2^d:Nat):Int):=by
 rcases (show d=0\/d=1\/d=2\/d=3\/d=4\/d=5\/d=6\/d=7\/d=8 by omega) with rfl | rfl | rfl | rfl | rfl | rfl | rfl | rfl | rfl<;>(unfold wrap64;decide +kernel)
theorem Z0c (hi lo:Nat) (n m:Int) (ha:W64 hi) (hb:W64 lo) :
 Zak Tryz.prog 175 #[.agg #[.int .u64 hi,.int .u64 lo,.int .i64 n],.int .i64 m] (.int .i64 (cntN hi lo n m:Nat)):=by
 intro w
 have hr:=Zn4 hi lo n ha hb
 have hrv:=Za1 hi lo n hb
 cases hR:Zan hi lo n
 ·rw [hR] at hr
  rw [Zhj (by simp [hR])]
  have HR:=hid hr
  clear hr hrv hR
  go_enter Tryz.func175,Tryz.ntmps175
  go_wp2_with fail
  refine (HR.out _).mono ?_
  rintro e0 w0 ⟨rfl,hb0⟩
  have hw0:Below w.heap.size w w0:=by
   refine Below.trans ?_ (hb0.mono ?_)
   ·go_grown
   ·go_size
  have c2:w0.cell? ⟨w.heap.size,2,none⟩=some (.int .i64 n):=by
   rw [hb0.cell (by simp<;>omega)]
   first|assumption|(simp [go_sem];done)|(simp [go_sem, *];done)
  go_wp2
  all_goals
   go_ret
   exact ⟨rfl,by go_grown⟩
 ·rw [hR] at hr hrv
  have HR:=hid hr
  obtain ⟨n0,n1,-⟩:=hrv.1 rfl
  clear hr hrv
  by_cases h1:n<=m
  ·have d1:decide (m<n)=false:=by simp;omega
   by_cases h2:m<=128
   ·have d2:decide (128<m)=false:=by simp;omega
    by_cases h3:m-n<=8
    ·rw [Ztu ⟨hR,h1,h2,h3⟩]
     clear hR
     have s0:=Zxc (m-n).toNat (by omega)
     go_enter Tryz.func175,Tryz.ntmps175
     go_wp2_with fail
     refine (HR.out _).mono ?_
     rintro e0 w0 ⟨rfl,hb0⟩
     have hw0:Below w.heap.size w w0:=by
      refine Below.trans ?_ (hb0.mono ?_)
      ·go_grown
      ·go_size
     have c2:w0.cell? ⟨w.heap.size,2,none⟩=some (.int .i64 n):=by
      rw [hb0.cell (by simp<;>omega)]
      first|assumption|(simp [go_sem];done)|(simp [go_sem, *];done)
     go_wp2
     go_ret
     exact ⟨Zbb (Zxd _ (by omega)),by go_grown⟩
    ·rw [Zhj (by omega)]
     clear hR
     have s0:=Z7r (min (m-n).toNat 64) (by omega)
     go_enter Tryz.func175,Tryz.ntmps175
     go_wp2_with fail
     refine (HR.out _).mono ?_
     rintro e0 w0 ⟨rfl,hb0⟩
     have hw0:Below w.heap.size w w0:=by
      refine Below.trans ?_ (hb0.mono ?_)
      ·go_grown
      ·go_size
     have c2:w0.cell? ⟨w.heap.size,2,none⟩=some (.int .i64 n):=by
      rw [hb0.cell (by simp<;>omega)]
      first|assumption|(simp [go_sem];done)|(simp [go_sem, *];done)
     go_wp2
     all_goals
      go_ret
      exact ⟨rfl,by go_grown⟩
   ·rw [Zhj (by omega)]
    clear hR
    go_enter Tryz.func175,Tryz.ntmps175
    go_wp2_with fail
    refine (HR.out _).mono ?_
    rintro e0 w0 ⟨rfl,hb0⟩
    have hw0:Below w.heap.size w w0:=by
     refine Below.trans ?_ (hb0.mono ?_)
     ·go_grown
     ·go_size
    have c2:w0.cell? ⟨w.heap.size,2,none⟩=some (.int .i64 n):=by
     rw [hb0.cell (by simp<;>omega)]
     first|assumption|(simp [go_sem];done)|(simp [go_sem, *];done)
    go_wp2
    all_goals
     go_ret
     exact ⟨rfl,by go_grown⟩
  ·rw [Zhj (by omega)]
   clear hR
   go_enter Tryz.func175,Tryz.ntmps175
   go_wp2_with fail
   refine (HR.out _).mono ?_
   rintro e0 w0 ⟨rfl,hb0⟩
   have hw0:Below w.heap.size w w0:=by
    refine Below.trans ?_ (hb0.mono ?_)
    ·go_grown
    ·go_size
   have c2:w0.cell? ⟨w.heap.size,2,none⟩=some (.int .i64 n):=by
    rw [hb0.cell (by simp<;>omega)]
    first|assumption|(simp [go_sem];done)|(simp [go_sem, *];done)
   go_wp2
   all_goals
    go_ret
    exact ⟨rfl,by go_grown⟩
def Zd7 (h l:Nat) (n m:Int):List Pf:=if Zan h l n=true/\n<=m/\m<=128/\m-n<=8 then pfs (Zfs (val h l) n.toNat m.toNat) m else []
theorem Zlg {h l:Nat} {n m:Int} (hc:¬(Zan h l n=true/\n<=m/\m<=128/\m-n<=8)):Zd7 h l n m=[]:=if_neg hc
theorem Zh5 {h l:Nat} {n m:Int} (hc:Zan h l n=true/\n<=m/\m<=128/\m-n<=8):Zd7 h l n m=pfs (Zfs (val h l) n.toNat m.toNat) m:=if_pos hc
theorem Zj4 (h l:Nat) (n m:Int) (b:W64 l):(Zd7 h l n m).length=cntN h l n m:=by
 unfold Zd7 cntN
 by_cases hc:Zan h l n=true/\n<=m/\m<=128/\m-n<=8
 ·rw [if_pos hc,if_pos hc,Zh0,Zms]
  obtain ⟨h0,-⟩:=(Za1 h l n b).1 hc.1
  congr 1
  omega
 ·rw [if_neg hc,if_neg hc];rfl
def Zp3 (f:FuncId) (args:Array Value) (L:List Pf):Prop:=∀w,Calls Tryz.prog f args w fun e w'=>∃p c,e = .returned (.slice p L.length c)/\w'.ownsRow w.heap.size 39 3 (.slice p L.length c) L.length (pcs L)/\Below w.heap.size w w'
theorem Z8f:(Tryz.prog.info? 39).map (fun i=>(i.zero,i.size,i.bytes))=some (some (.agg #[.int .u64 0,.int .u64 0,.int .i64 0]),3,24):=by kernel_rfl
theorem Z1w (x k:Nat) (h:x<2^64):W64 (Zf2 x k):=by
 unfold Zf2 W64
 split
 ·exact Nat.mod_lt _ (by decide)
 ·exact Nat.lt_of_le_of_lt (Nat.div_le_self _ _) h
theorem Z1v (x k:Nat):W64 (Zf1 x k):=by
 unfold Zf1 W64
 split
 ·decide
 ·exact Nat.mod_lt _ (by decide)
theorem Ztb {h l:Nat} {n m:Int} (hc:Zan h l n=true/\n<=m/\m<=128/\m-n<=8) (b:W64 l) (k:Nat) (hk:k<(Zd7 h l n m).length):(Zd7 h l n m)[k]=⟨val h l+k*2^(128-m.toNat),m⟩:=by
 have e:=Zh5 hc
 have:(Zd7 h l n m)[k]? = some ⟨val h l+k*2^(128-m.toNat),m⟩:=by
  rw [e]
  rw [e,Zh0,Zms] at hk
  simp [pfs,Zfs,hk]
 rw [List.getElem?_eq_getElem hk] at this
 injection this
theorem Zta (hi lo:Nat) (n m:Int) (ha:W64 hi) (hb:W64 lo) :
 Zp3 142 #[.agg #[.int .u64 hi,.int .u64 lo,.int .i64 n],.int .i64 m] (Zd7 hi lo n m):=by
 intro w
 have hc:=Z0c hi lo n m ha hb
 have hl:=Zj4 hi lo n m hb
 have hle:=Z0i hi lo n m
 obtain ⟨c,hcn⟩:∃c,c=cntN hi lo n m:=⟨_,rfl⟩
 rw [<-hcn] at hc hl hle
 have hmk:=Zcm (P:=Tryz.prog) (t:=89) Tryz.underlying89 Z8f c (by omega) (by unfold maxLen;omega)
 have HC:=hid hc
 have HL:=hid hl
 have HN:=hid hcn
 clear hc hl hcn
 go_enter Tryz.func142,Tryz.ntmps142
 go_wp2_with fail
 refine (HC.out _).mono ?_
 rintro e0 w0 ⟨rfl,hb0⟩
 have hw0:Below w.heap.size w w0:=by
  refine Below.trans ?_ (hb0.mono ?_)
  ·go_grown
  ·go_size
 have c0:w0.cell? ⟨w.heap.size,0,none⟩=some (.int .u64 hi):=by
  rw [hb0.cell (by simp<;>omega)]
  first|assumption|(simp [go_sem];done)|(simp [go_sem, *];done)
 have c1:w0.cell? ⟨w.heap.size,1,none⟩=some (.int .u64 lo):=by
  rw [hb0.cell (by simp<;>omega)]
  first|assumption|(simp [go_sem];done)|(simp [go_sem, *];done)
 obtain ⟨zs,hzs⟩:∃zs,zs=(madeCells #[.int .u64 0,.int .u64 0,.int .i64 0] (c*3)).toList:=⟨_,rfl⟩
 have hw0z:w.heap.size<w0.heap.size:=by have:=hb0.size;simp at this;omega
 have hown0:(w0.alloc (.cells (madeCells #[.int .u64 0,.int .u64 0,.int .i64 0] (c*3)) 39)).ownsRow w.heap.size 39 3 (.slice (some ⟨w0.heap.size,0,none⟩) c c) c (madeCells #[.int .u64 0,.int .u64 0,.int .i64 0] (c*3)).toList:=
  World.ownsRow_lit _ _ c (by omega) (by unfold maxLen;omega) (by simp [madeCells])
 go_wp2
 go_loopw [14] (fun i wr=>∃(k:Nat) (xs:List Value),k<=c/\i = .int .i64 k/\wr.ownsRow w.heap.size 39 3 (.slice (some ⟨w0.heap.size,0,none⟩) c c) c xs/\Hid (xs.take (k*3)=pcs ((Zd7 hi lo n m).take k)) /\
  Below w.heap.size w wr/\wr.cell? ⟨w.heap.size,0,none⟩=some (.int .u64 hi)/\wr.cell? ⟨w.heap.size,1,none⟩=some (.int .u64 lo)) (fun i _=>c-(intOf i).toNat)
 case atStart=>exact ⟨0,_,Nat.zero_le _,rfl,hown0,hid (by simp [pcs]),by go_grown,by rw [World.cell?_alloc_lt _ _ _ hw0z];exact c0,by rw [World.cell?_alloc_lt _ _ _ hw0z];exact c1⟩
 case round=>
  clear hown0
  obtain ⟨k,xs,hk,rfl,hown,hxs,hw1,c0,c1⟩:=hrel
  by_cases hlt:k<c
  ·have hcond:Zan hi lo n=true/\n<=m/\m<=128/\m-n<=8:=by
    by_cases hx:Zan hi lo n=true/\n<=m/\m<=128/\m-n<=8
    ·exact hx
    ·have:=HN.out
     rw [Zhj hx] at this
     omega
   obtain ⟨hr0,hr1,hr2⟩:=(Za1 hi lo n hb).1 hcond.1
   obtain ⟨j,hj⟩:∃j:Nat,(j:Int)=128-m:=⟨(128-m).toNat,by omega⟩
   have hcv:c=2^(m.toNat-n.toNat):=by
    have:=HN.out
    rw [Ztu hcond] at this
    rw [this];congr 1;omega
   obtain ⟨hkh,hkl,hkw⟩:=Zo0 (val hi lo) k n.toNat m.toNat (by omega) (by omega) (ha.val hb) hr2 (by omega)
   rw [Ztf hi lo hb,show 128-m.toNat=j by omega] at hkh
   rw [Zyv hi lo hb,show 128-m.toNat=j by omega] at hkl
   have hR:=Zxr k j (by omega)
   rw [hj] at hR
   have o1:bits BinOp.or IntKind.u64 (hi:Int) (Zf2 k j:Nat)=((hiW (val hi lo+k*2^j):Nat):Int):=by rw [bits_or_u64_nat _ _ ha.lt (Z1w k j (by omega)).lt,hkh]
   have o2:bits BinOp.or IntKind.u64 (lo:Int) (Zf1 k j:Nat)=((loW (val hi lo+k*2^j):Nat):Int):=by rw [bits_or_u64_nat _ _ hb.lt (Z1v k j).lt,hkl]
   have hm0:0<=m:=by omega
   have hm1:m<=128:=by omega
   have HR:=hid hR
   have HO:=hid (And.intro hcond (And.intro hj hkw))
   clear hR hcond hj hkh hkl hkw hcv hr0 hr1 hr2
   go_wp2_with fail
   refine (HR.out _).mono ?_
   rintro e w1 ⟨rfl,hb1⟩
   have hz1:=hw1.size
   have hgz:=(hown.lt w0.heap.size rfl).2
   have hgz1:w0.heap.size<w1.heap.size:=Nat.lt_of_lt_of_le hgz hb1.size
   have hown1:=own_below hown hb1
   have hw2:=hw1.trans (hb1.mono hz1)
   obtain ⟨hc1,-⟩:=Zaf hb1
   have c0:=(hc1 _ _ (by omega)).trans c0
   have c1:=(hc1 _ _ (by omega)).trans c1
   have hxl:xs.length=c*3:=hown1.1
   obtain ⟨v0,d0⟩:∃v,w1.cell? ⟨w0.heap.size,k*3,none⟩=some v:=⟨_,(hown1.cellAt (k*3) (by omega)).trans (List.getElem?_eq_getElem (by omega))⟩
   obtain ⟨v1,d1⟩:∃v,w1.cell? ⟨w0.heap.size,k*3+1,none⟩=some v:=⟨_,(hown1.cellAt (k*3+1) (by omega)).trans (List.getElem?_eq_getElem (by omega))⟩
   obtain ⟨v2,d2⟩:∃v,w1.cell? ⟨w0.heap.size,k*3+2,none⟩=some v:=⟨_,(hown1.cellAt (k*3+2) (by omega)).trans (List.getElem?_eq_getElem (by omega))⟩
   have f0:=hown1.frozenAt (k*3)
   have f1:=hown1.frozenAt (k*3+1)
   have f2:=hown1.frozenAt (k*3+2)
   have HXL:=hid hxl
   have hwz1:w.heap.size<w1.heap.size:=by omega
   clear hc1 hown hw1 hb1 hxl
   go_wp2
   go_roundw
   case rel=>
    have S:=(Z7p hown1 k (.int .u64 (hiW (val hi lo+k*2^j):Nat)) (.int .u64 (loW (val hi lo+k*2^j):Nat)) (.int .i64 m)).alloc (.cells #[.int .u64 (Zf2 k j:Nat),.int .u64 (Zf1 k j:Nat)] 37)
    refine ⟨k+1,_,by omega,by go_num,S,hid ?_,by go_grown,?_,?_⟩
    ·have hcl:k<(Zd7 hi lo n m).length:=by rw [HL.out];exact hlt
     rw [Zxh _ _ _ _ _ (by have:=HXL.out;omega),hxs.out,List.take_succ_eq_append_getElem hcl,Zk7,Z5n,Ztb HO.out.1 hb k hcl,show 128-m.toNat=j by have:=HO.out.2.1;omega]
     rfl
    ·simp [go_sem,c0,c1,hwz1]
    ·simp [go_sem,c0,c1,hwz1]
   case measure=>simp [intOf];omega
  ·go_wp2
   go_ret
   have hL:=HL.out
   have hx:=hxs.out
   have hkc:k=c:=by omega
   rw [List.take_of_length_le (by rw [hown.1,hkc];exact Nat.le_refl _),List.take_of_length_le (by omega)] at hx
   refine ⟨some ⟨w0.heap.size,0,none⟩,c,by rw [hL];rfl,?_,hw1⟩
   rw [hL,<-hx]
   exact hown
theorem Zyi (x y:Nat) (hx:W64 x) (hy:W64 y):Zak Tryz.prog 177 #[.int .u64 x,.int .u64 y] (.tuple #[.int .u64 (redN x y:Nat),.int .u64 (x*y%18446744073709551616:Nat)]):=
 Zak.still fun w=>(Tryz.bits_Mul64 x y hx.lt hy.lt w).mono fun e w' ⟨he,hw⟩=>⟨he,hw.symm⟩
theorem Zmb (x:Nat) (m:Int) (hx:W64 x) (hm:m<=9223372036854775807) :
 Zak Tryz.prog 145 #[.int .u64 x,.int .i64 m] (.int .i64 (redI x m)):=by
 intro w
 by_cases h:m<1
 ·rw [Zxn h]
  go_enter Tryz.func145,Tryz.ntmps145
  go_wp2
  go_ret
  exact ⟨rfl,by go_grown⟩
 ·obtain ⟨k,rfl⟩:=Int.eq_ofNat_of_zero_le (show 0<=m by omega)
  rw [Zsj x k (by omega)]
  have hlt:=Zxm x k hx (by omega)
  have HM:=hid (Zyi x k hx (W64.mk (by omega)))
  have HL:=hid (IntWalk.wrap64_in (redN x k:Nat) (by omega))
  clear hlt
  go_enter Tryz.func145,Tryz.ntmps145
  go_wp2_with fail
  refine (HM.out _).mono ?_
  rintro e0 w0 ⟨rfl,hb0⟩
  have hw0:Below w.heap.size w w0:=by
   refine Below.trans ?_ (hb0.mono ?_)
   ·go_grown
   ·go_size
  go_wp2
  go_ret
  exact ⟨Zbb HL.out,hw0⟩
theorem Zsx (h i:Nat) (hh:W64 h) (hi:W64 i):Zak Tryz.prog 27 #[.int .u64 (bits BinOp.xor IntKind.u64 (h:Int) (i:Int))] (.int .u64 (mixN (h ^^^ i):Nat)):=by
 have:=Zjx (bits BinOp.xor IntKind.u64 (h:Int) (i:Int))
 rw [Zgn h i hh hi,Zfd _ (Nat.xor_lt_two_pow hh hi)] at this
 rwa [Zgn h i hh hi]
theorem Z3z (s h l:Nat) (n m:Int) (hs:W64 s) (hh:W64 h) (hl:W64 l) (hm:m<=9223372036854775807) :
 Zak Tryz.prog 117 #[.int .u64 s,.agg #[.int .u64 h,.int .u64 l,.int .i64 n],.int .i64 m] (.tuple #[.int .i64 (Zkw (Zed s h l (Zbx n)) 1 m),.int .i64 (Zkw (Zed s h l (Zbx n)) 2 m)]):=by
 intro w
 have HH:=hid (Ztg s h l n hs hh hl)
 have hw:W64 (Zed s h l (Zbx n)):=Zdl _
 generalize Zed s h l (Zbx n)=v at HH hw ⊢
 have HM1:=hid (Zsx v 1 hw (W64.mk (by omega)))
 have HM2:=hid (Zsx v 2 hw (W64.mk (by omega)))
 have HR1:=hid (Zmb (mixN (v ^^^ 1)) m (Zdl _) hm)
 have HR2:=hid (Zmb (mixN (v ^^^ 2)) m (Zdl _) hm)
 go_enter Tryz.func117,Tryz.ntmps117
 go_wp2_with fail
 refine (HH.out _).mono ?_
 rintro e0 w0 ⟨rfl,hb0⟩
 have hw0:Below w.heap.size w w0:=by
  refine Below.trans ?_ (hb0.mono ?_)
  ·go_grown
  ·go_size
 go_wp2_with fail
 refine (HM1.out _).mono ?_
 rintro e w1 ⟨rfl,hb1⟩
 have hw1:=hw0.trans (hb1.mono hw0.size)
 go_wp2_with fail
 refine (HR1.out _).mono ?_
 rintro e w2 ⟨rfl,hb2⟩
 have hw2:=hw1.trans (hb2.mono hw1.size)
 go_wp2_with fail
 refine (HM2.out _).mono ?_
 rintro e w3 ⟨rfl,hb3⟩
 have hw3:=hw2.trans (hb3.mono hw2.size)
 go_wp2_with fail
 refine (HR2.out _).mono ?_
 rintro e w4 ⟨rfl,hb4⟩
 have hw4:=hw3.trans (hb4.mono hw3.size)
 go_wp2
 go_ret2
 exact ⟨rfl,hw4⟩
theorem Zmf (h:Nat) (w:W64 h):Zak Tryz.prog 27 #[.int .u64 (h:Int)] (.int .u64 (mixN h:Nat)):=by
 have:=Zjx (h:Int)
 rwa [Zfd h w] at this
theorem Zk6 (h g j:Nat):IntKind.u64.wrap ((((h+j*g)%18446744073709551616:Nat):Int)+(g:Int))=(((h+(j+1)*g)%18446744073709551616:Nat):Int):=by
 rw [IntKind.wrap_u64,Nat.add_mul]
 omega
set_option maxRecDepth 100000 in
theorem Zu5 (s h l:Nat) (n k m:Int) (hs:W64 s) (hh:W64 h) (hl:W64 l) (hm:m<=9223372036854775807) :
 Zp2 114 #[.int .u64 s,.agg #[.int .u64 h,.int .u64 l,.int .i64 n],.int .i64 k,.int .i64 m] (Zeo (Zed s h l (Zbx n)) k m):=by
 intro w
 by_cases h0:k<1
 ·rw [Zqw h0]
  go_enter Tryz.func114,Tryz.ntmps114
  go_wp2
  go_ret
  exact ⟨none,0,rfl,World.ownsRow_nil _ _ _ _,by go_grown⟩
 ·by_cases h1:m<1
  ·rw [Zog h1]
   go_enter Tryz.func114,Tryz.ntmps114
   go_wp2
   go_ret
   exact ⟨none,0,rfl,World.ownsRow_nil _ _ _ _,by go_grown⟩
  ·rw [Zof h1]
   have HH:=hid (Ztg s h l n hs hh hl)
   have hw:W64 (Zed s h l (Zbx n)):=Zdl _
   generalize Zed s h l (Zbx n)=v at HH hw ⊢
   have HM:=hid (Zmf v hw)
   have HO:=hid (or_one (mixN v) (Zdl _))
   have HG:=hid (Z11 (mixN v) (Zdl _))
   obtain ⟨c,hc⟩:∃c,c=min k.toNat 16:=⟨_,rfl⟩
   have hc16:c<=16:=by omega
   have hmk:=Zcm (P:=Tryz.prog) (t:=25) Tryz.underlying25 Z20 c (by omega) (by unfold maxLen;omega)
   rw [<-hc]
   by_cases hk:k<=16
   ·have he:(c:Int)=k:=by omega
    have hmn:(c:Int)=min k 16:=by omega
    have hmk2:=hmk
    rw [hmn] at hmk2
    clear hc hmn
    rw [he] at hmk
    clear he
    go_enter Tryz.func114,Tryz.ntmps114
    go_wp2_with fail
    refine (HH.out _).mono ?_
    rintro e0 w0 ⟨rfl,hb0⟩
    have hw0:Below w.heap.size w w0:=by
     refine Below.trans ?_ (hb0.mono ?_)
     ·go_grown
     ·go_size
    go_wp2_with fail
    refine (HM.out _).mono ?_
    rintro e w1 ⟨rfl,hb1⟩
    have hw1:=hw0.trans (hb1.mono hw0.size)
    have hz1:=hw1.size
    have hown0:(w1.alloc (.cells (madeCells #[.int .i64 0] c) 3)).ownsRow w.heap.size 3 1 (.slice (some ⟨w1.heap.size,0,none⟩) c c) c (madeCells #[.int .i64 0] c).toList:=
     World.ownsRow_lit _ _ c (by omega) (by unfold maxLen;omega) (by simp [madeCells])
    clear hb0 hb1 hw0
    go_wp2_with (first|rw [HO.out]|fail)
    go_loopw [9,30] (fun at_ i wr=>∃(j:Nat) (xs:List Value),j<=c/\i = .int .i64 j/\at_ = .int .u64 ((v+j*(mixN v ||| 1))%18446744073709551616:Nat)/\wr.ownsRow w.heap.size 3 1 (.slice (some ⟨w1.heap.size,0,none⟩) c c) c xs/\Hid (xs.take j=ics (Zcw v m j))/\Below w.heap.size w wr) (fun _ i _=>c-(intOf i).toNat)
    case atStart=>exact ⟨0,_,Nat.zero_le _,rfl,by rw [Nat.zero_mul,Nat.add_zero,Nat.mod_eq_of_lt hw.lt],hown0,hid (by simp [ics,Zcw]),by go_grown⟩
    case round=>
     clear hown0 hw1
     obtain ⟨j,xs,hj,rfl,rfl,hown,hxs,hw1⟩:=hrel
     have hz1:=hw1.size
     by_cases hlt:j<c
     ·have hr:=Zmb ((v+j*(mixN v ||| 1))%18446744073709551616) m (W64.mk (Nat.mod_lt _ (by decide))) hm
      have HR:Hid (Zak Tryz.prog 145 #[.int .u64 ((v+j*(mixN v ||| 1))%18446744073709551616:Nat),.int .i64 m] (.int .i64 (Zip v m j))):=hid hr
      have HN:=hid (Zk6 v (mixN v ||| 1) j)
      clear hr
      generalize (v+j*(mixN v ||| 1))%18446744073709551616=y at HR HN ⊢
      go_wp2_with fail
      refine (HR.out _).mono ?_
      rintro e w2 ⟨rfl,hb2⟩
      have hgz:=(hown.lt w1.heap.size rfl).2
      have hgz2:w1.heap.size<w2.heap.size:=Nat.lt_of_lt_of_le hgz hb2.size
      have hown2:=own_below hown hb2
      have hw2:=hw1.trans (hb2.mono hz1)
      have hxl:xs.length=c:=by have:=hown2.1;omega
      obtain ⟨v0,d0⟩:∃v,w2.cell? ⟨w1.heap.size,j,none⟩=some v:=⟨_,(hown2.cellAt j (by omega)).trans (List.getElem?_eq_getElem (by omega))⟩
      have f0:=hown2.frozenAt j
      have HXL:=hid hxl
      clear hown hb2 hw1 hz1 hxl
      go_wp2
      go_roundw
      case rel=>
       refine ⟨j+1,_,by omega,by go_num,by rw [<-HN.out],(hown2.stored j (.int .i64 (Zip v m j))).1,hid ?_,by go_grown⟩
       rw [Znz _ _ _ (by rw [HXL.out];exact hlt),hxs.out,Zio,Zfh]
       rfl
      case measure=>simp [intOf];omega
     ·obtain rfl:j=c:=by omega
      go_wp2
      go_ret
      have hx:=hxs.out
      rw [List.take_of_length_le (by rw [hown.1];omega)] at hx
      subst hx
      refine ⟨some ⟨w1.heap.size,0,none⟩,j,?_,?_,hw1⟩
      ·rw [Zdb];rfl
      ·rw [Zdb];exact hown
   ·have he:(c:Int)=16:=by omega
    have hmn:(c:Int)=min k 16:=by omega
    have hmk2:=hmk
    rw [hmn] at hmk2
    clear hc hmn
    rw [he] at hmk
    clear he
    go_enter Tryz.func114,Tryz.ntmps114
    go_wp2_with fail
    refine (HH.out _).mono ?_
    rintro e0 w0 ⟨rfl,hb0⟩
    have hw0:Below w.heap.size w w0:=by
     refine Below.trans ?_ (hb0.mono ?_)
     ·go_grown
     ·go_size
    go_wp2_with fail
    refine (HM.out _).mono ?_
    rintro e w1 ⟨rfl,hb1⟩
    have hw1:=hw0.trans (hb1.mono hw0.size)
    have hz1:=hw1.size
    have hown0:(w1.alloc (.cells (madeCells #[.int .i64 0] c) 3)).ownsRow w.heap.size 3 1 (.slice (some ⟨w1.heap.size,0,none⟩) c c) c (madeCells #[.int .i64 0] c).toList:=
     World.ownsRow_lit _ _ c (by omega) (by unfold maxLen;omega) (by simp [madeCells])
    clear hb0 hb1 hw0
    go_wp2_with (first|rw [HO.out]|fail)
    go_loopw [9,30] (fun at_ i wr=>∃(j:Nat) (xs:List Value),j<=c/\i = .int .i64 j/\at_ = .int .u64 ((v+j*(mixN v ||| 1))%18446744073709551616:Nat)/\wr.ownsRow w.heap.size 3 1 (.slice (some ⟨w1.heap.size,0,none⟩) c c) c xs/\Hid (xs.take j=ics (Zcw v m j))/\Below w.heap.size w wr) (fun _ i _=>c-(intOf i).toNat)
    case atStart=>exact ⟨0,_,Nat.zero_le _,rfl,by rw [Nat.zero_mul,Nat.add_zero,Nat.mod_eq_of_lt hw.lt],hown0,hid (by simp [ics,Zcw]),by go_grown⟩
    case round=>
     clear hown0 hw1
     obtain ⟨j,xs,hj,rfl,rfl,hown,hxs,hw1⟩:=hrel
     have hz1:=hw1.size
     by_cases hlt:j<c
     ·have hr:=Zmb ((v+j*(mixN v ||| 1))%18446744073709551616) m (W64.mk (Nat.mod_lt _ (by decide))) hm
      have HR:Hid (Zak Tryz.prog 145 #[.int .u64 ((v+j*(mixN v ||| 1))%18446744073709551616:Nat),.int .i64 m] (.int .i64 (Zip v m j))):=hid hr
      have HN:=hid (Zk6 v (mixN v ||| 1) j)
      clear hr
      generalize (v+j*(mixN v ||| 1))%18446744073709551616=y at HR HN ⊢
      go_wp2_with fail
      refine (HR.out _).mono ?_
      rintro e w2 ⟨rfl,hb2⟩
      have hgz:=(hown.lt w1.heap.size rfl).2
      have hgz2:w1.heap.size<w2.heap.size:=Nat.lt_of_lt_of_le hgz hb2.size
      have hown2:=own_below hown hb2
      have hw2:=hw1.trans (hb2.mono hz1)
      have hxl:xs.length=c:=by have:=hown2.1;omega
      obtain ⟨v0,d0⟩:∃v,w2.cell? ⟨w1.heap.size,j,none⟩=some v:=⟨_,(hown2.cellAt j (by omega)).trans (List.getElem?_eq_getElem (by omega))⟩
      have f0:=hown2.frozenAt j
      have HXL:=hid hxl
      clear hown hb2 hw1 hz1 hxl
      go_wp2
      go_roundw
      case rel=>
       refine ⟨j+1,_,by omega,by go_num,by rw [<-HN.out],(hown2.stored j (.int .i64 (Zip v m j))).1,hid ?_,by go_grown⟩
       rw [Znz _ _ _ (by rw [HXL.out];exact hlt),hxs.out,Zio,Zfh]
       rfl
      case measure=>simp [intOf];omega
     ·obtain rfl:j=c:=by omega
      go_wp2
      go_ret
      have hx:=hxs.out
      rw [List.take_of_length_le (by rw [hown.1];omega)] at hx
      subst hx
      refine ⟨some ⟨w1.heap.size,0,none⟩,j,?_,?_,hw1⟩
      ·rw [Zdb];rfl
      ·rw [Zdb];exact hown
structure FilB (w:World) (lo hi f g1 h1 g2 h2 s:Nat) (k:Int) (C:List Nat) (D:List Bool):Prop where
 c0:w.cell? ⟨f,0,none⟩=some (.int .u64 (s:Int))
 c1:w.cell? ⟨f,1,none⟩=some (.int .i64 k)
 c2:w.cell? ⟨f,2,none⟩=some (.pointer (some ⟨g1,0,none⟩))
 c3:w.cell? ⟨f,3,none⟩=some (.pointer (some ⟨g2,0,none⟩))
 cs:Nib w lo g1 h1 C
 bs:Bts w lo g2 h2 D
 len:D.length=C.length
 top:hi<=w.heap.size
 fin:lo<=f/\f<hi
 in1:g1<hi/\h1<hi
 in2:g2<hi/\h2<hi
 ap1:f≠h1/\g2≠h1/\h2≠h1
 ap2:f≠h2/\g1≠h2/\h1≠h2
 ws:W64 s
def Fil (w:World) (lo hi f s:Nat) (k:Int) (C:List Nat):Prop:=∃g1 h1 g2 h2,FilB w lo hi f g1 h1 g2 h2 s k C (onsC C)
section
variable {w w':World} {lo hi f g1 h1 g2 h2 s:Nat} {k:Int} {C:List Nat} {D:List Bool} {S:Nat->Prop}
theorem FilB.touched (H:FilB w lo hi f g1 h1 g2 h2 s k C D) (ht:Touch S w w') (hn:∀j,lo<=j->j<hi->¬S j):FilB w' lo hi f g1 h1 g2 h2 s k C D:=
 ⟨ht.cell H.c0 (hn _ H.fin.1 H.fin.2),ht.cell H.c1 (hn _ H.fin.1 H.fin.2),ht.cell H.c2 (hn _ H.fin.1 H.fin.2),ht.cell H.c3 (hn _ H.fin.1 H.fin.2),
  H.cs.touched ht (hn _ H.cs.low H.in1.1) (hn _ H.cs.low2.1 H.in1.2),H.bs.touched ht (hn _ H.bs.low H.in2.1) (hn _ H.bs.low2.1 H.in2.2),H.len,Nat.le_trans H.top ht.size,H.fin,H.in1,H.in2,H.ap1,H.ap2,H.ws⟩
theorem Fil.touched (H:Fil w lo hi f s k C) (ht:Touch S w w') (hn:∀j,lo<=j->j<hi->¬S j):Fil w' lo hi f s k C:=by
 obtain ⟨g1,h1,g2,h2,H⟩:=H
 exact ⟨g1,h1,g2,h2,H.touched ht hn⟩
theorem FilB.below (H:FilB w lo hi f g1 h1 g2 h2 s k C D) (hb:Below w.heap.size w w'):FilB w' lo hi f g1 h1 g2 h2 s k C D:=H.touched (S:=fun _=>False) (Touch.quiet hb) (fun _ _ _ h=>h)
theorem Fil.below (H:Fil w lo hi f s k C) (hb:Below w.heap.size w w'):Fil w' lo hi f s k C:=H.touched (S:=fun _=>False) (Touch.quiet hb) (fun _ _ _ h=>h)
theorem FilB.lt (H:FilB w lo hi f g1 h1 g2 h2 s k C D):f<w.heap.size:=Nat.lt_of_lt_of_le H.fin.2 H.top
theorem FilB.turnC (H:FilB w lo hi f g1 h1 g2 h2 s k C D) {C':List Nat} (hC:Nib w' lo g1 h1 C') (hl:C'.length=C.length) (hg:w.grownBy w' (some h1)):FilB w' lo hi f g1 h1 g2 h2 s k C' D/\Touch (In lo hi) w w':=by
 obtain ⟨a1,a2,a3⟩:=H.ap1
 exact ⟨⟨hg.cell H.c0 (by simpa using a1),hg.cell H.c1 (by simpa using a1),hg.cell H.c2 (by simpa using a1),hg.cell H.c3 (by simpa using a1),hC,H.bs.kept hg (by simpa using a2) (by simpa using a3),H.len.trans hl.symm,Nat.le_trans H.top hg.size,H.fin,H.in1,H.in2,H.ap1,H.ap2,H.ws⟩,
  Touch.of_grown hg (fun j e=>by cases e;exact ⟨H.cs.low2.1,H.in1.2⟩)⟩
theorem FilB.turnD (H:FilB w lo hi f g1 h1 g2 h2 s k C D) {D':List Bool} (hD:Bts w' lo g2 h2 D') (hl:D'.length=D.length) (hg:w.grownBy w' (some h2)):FilB w' lo hi f g1 h1 g2 h2 s k C D'/\Touch (In lo hi) w w':=by
 obtain ⟨a1,a2,a3⟩:=H.ap2
 exact ⟨⟨hg.cell H.c0 (by simpa using a1),hg.cell H.c1 (by simpa using a1),hg.cell H.c2 (by simpa using a1),hg.cell H.c3 (by simpa using a1),H.cs.kept hg (by simpa using a2) (by simpa using a3),hD,hl.trans H.len,Nat.le_trans H.top hg.size,H.fin,H.in1,H.in2,H.ap1,H.ap2,H.ws⟩,
  Touch.of_grown hg (fun j e=>by cases e;exact ⟨H.bs.low2.1,H.in2.2⟩)⟩
end
theorem Ztm (lo hi f s:Nat) (k:Int) (C:List Nat) (w:World) (H:Fil w lo hi f s k C) :
 Calls Tryz.prog 87 #[.pointer (some ⟨f,0,none⟩)] w fun e w'=>e = .returned (.int .i64 (C.length:Int))/\Below w.heap.size w w':=by
 obtain ⟨g1,h1,g2,h2,H⟩:=H
 have c3:=H.c3
 have HL:=hid (Zt2 lo g2 h2 (onsC C) w H.bs)
 rw [Zmi] at HL
 have hl:=H.lt
 clear H
 go_enter Tryz.func87,Tryz.ntmps87
 go_wp2_with fail
 refine HL.out.mono ?_
 rintro e w0 ⟨rfl,hw0⟩
 go_wp2
 go_ret
 exact ⟨rfl,hw0⟩
def plc (s h l:Nat) (n k:Int) (m:Nat):List Int:=Zeo (Zed s h l (Zbx n)) k m
theorem Zqv (s h l:Nat) (n k:Int) (m:Nat):(plc s h l n k m).length<=16:=by
 unfold plc Zeo
 split
 ·simp
 ·rw [Zdb]
  omega
theorem Z7x (s h l:Nat) (n k:Int) (m:Nat) (i:Nat) (hi:i<(plc s h l n k m).length):0<=(plc s h l n k m)[i]/\(plc s h l n k m)[i]<(m:Int):=by
 have hx:=List.getElem_mem hi
 generalize (plc s h l n k m)[i]=x at hx
 unfold plc Zeo at hx
 split at hx
 ·simp at hx
 ·unfold Zcw at hx
  rw [List.mem_map] at hx
  obtain ⟨j,-,rfl⟩:=hx
  exact ⟨Zmg _ _ _,Zx0 _ _ _ (by omega)⟩
theorem Zgg (lo hi f s:Nat) (k:Int) (C:List Nat) (h l:Nat) (n:Int) (w:World) (H:Fil w lo hi f s k C) (wh:W64 h) (wl:W64 l) :
 Calls Tryz.prog 88 #[.pointer (some ⟨f,0,none⟩),.agg #[.int .u64 h,.int .u64 l,.int .i64 n]] w fun e w'=>∃p c,e = .returned (.slice p (plc s h l n k C.length).length c) /\
  w'.ownsRow w.heap.size 3 1 (.slice p (plc s h l n k C.length).length c) (plc s h l n k C.length).length (ics (plc s h l n k C.length))/\Below w.heap.size w w':=by
 have hlen:C.length<=65536:=by
  obtain ⟨g1,h1,g2,h2,H⟩:=H
  exact H.cs.len
 have HL:Hid (∀w,Fil w lo hi f s k C->Calls Tryz.prog 87 #[.pointer (some ⟨f,0,none⟩)] w fun e w'=>e = .returned (.int .i64 (C.length:Int))/\Below w.heap.size w w'):=hid (fun w H=>Ztm lo hi f s k C w H)
 have HC:=hid H
 obtain ⟨g1,h1,g2,h2,H⟩:=H
 have c0:=H.c0
 have c1:=H.c1
 have hl:=H.lt
 have hP:=Zu5 s h l n k C.length H.ws wh wl (by omega)
 change Zp2 _ _ (plc s h l n k C.length) at hP
 generalize plc s h l n k C.length=L at *
 have HP:=hid hP
 clear H hP hlen
 go_enter Tryz.func88,Tryz.ntmps88
 go_wp2_with fail
 have kg:=Zaa
 refine Zaj 11 (by kernel_rfl) (by kernel_rfl) ?_
 simp only [List.take_succ_cons,List.take_zero,List.drop_succ_cons,List.drop_zero]
 repeat (any_goals (first|go_big_quiet_step ((exact Calls.regrown_of (HL.out _ (HC.out.below (Below.trans (b:=w.alloc _) (by go_grown) ((below_regrown _ _ _).mono (by simp)))))))|quiet_step ((exact Calls.regrown_of (HL.out _ (HC.out.below (Below.trans (b:=w.alloc _) (by go_grown) ((below_regrown _ _ _).mono (by simp)))))))))
 refine wpQuiet_nil ?_
 clear kg
 intro w1 hb1
 obtain ⟨hc1,hf1⟩:=Zaf hb1
 have hw1:Below w.heap.size w w1:=by
  refine Below.trans ?_ (hb1.mono ?_)
  ·go_grown
  ·first|omega|go_size
 go_wp2_with fail
 refine (HP.out _).mono ?_
 rintro e w2 ⟨p,c,rfl,hown,hb2⟩
 have hw2:=hw1.trans (hb2.mono hw1.size)
 have hown2:=Za4 hown hw1.size
 clear hown hb2 hw1 hb1
 go_wp2
 go_ret
 exact ⟨p,c,rfl,hown2,hw2⟩
structure Num (T:Tab):Prop where
 lo:1<=T.B.length
 hi:T.B.length<=65536
 word:W64 T.s
theorem Inv.num {T:Tab} (H:Inv T):Num T:=⟨H.lo,H.hi,H.word⟩
theorem Num.x1_lt {T:Tab} (H:Num T) (k:Ky):T.x1 k<T.B.length:=Z8t H.lo
theorem Num.x2_lt {T:Tab} (H:Num T) (k:Ky):T.x2 k<T.B.length:=Z8r H.lo
theorem Num.set {T:Tab} (H:Num T) (i:Nat) (C:List Pl):Num (T.set i C):=⟨by rw [Zci];exact H.lo,by rw [Zci];exact H.hi,H.word⟩
set_option maxRecDepth 100000 in
theorem Zbv (t g:Nat) (v:Value) (T:Tab) (m:Int) (w:World) (H:CT w t g v T m) (h:Num T) :
 Calls Tryz.prog 90 #[.pointer (some ⟨t,0,none⟩)] w fun e w'=>e = .returned (.bool false)/\Below w.heap.size w w':=by
 have c1:=H.tb.c1
 have hl:=H.tb.tlt
 have h1:=h.lo
 generalize T.B.length=n at *
 have hn:((n:Int) == 0)=false:=by simp;omega
 clear H h
 go_enter Tryz.func90,Tryz.ntmps90
 go_wp2
 go_ret
 exact ⟨rfl,by go_grown⟩
set_option maxRecDepth 100000 in
theorem Zca (t g:Nat) (v:Value) (T:Tab) (m:Int) (k:Ky) (w:World) (H:CT w t g v T m) (h:Num T) (hk:k.good) :
 Calls Tryz.prog 91 #[.pointer (some ⟨t,0,none⟩),kyV k] w fun e w'=>e = .returned (.tuple #[.int .i64 (T.x1 k:Int),.int .i64 (T.x2 k:Int)])/\Below w.heap.size w w':=by
 have c0:=H.tb.c0
 have c1:=H.tb.c1
 have hl:=H.tb.tlt
 have hB:=Z3z T.s k.h k.l k.n (T.B.length:Int) h.word hk.1 hk.2 (by have:=h.hi;omega)
 rw [Z8u h.lo,Z8s h.lo] at hB
 change Zak _ _ _ (.tuple #[.int .i64 (T.x1 k:Int),.int .i64 (T.x2 k:Int)]) at hB
 have HB:=hid hB
 generalize T.x1 k=x1 at *
 generalize T.x2 k=x2 at *
 clear H h hB
 unfold kyV
 go_enter Tryz.func91,Tryz.ntmps91
 go_wp2_with fail
 have kg:=Zaa
 refine Zab (by kernel_rfl) (by kernel_rfl) ?_
 repeat (any_goals (first|go_big_quiet_step ((exact HB.out.at _ _ _))|quiet_step ((exact HB.out.at _ _ _))))
 refine wpQuiet_nil ?_
 clear kg
 intro w1 hb1
 obtain ⟨hc1,hf1⟩:=Zaf hb1
 have hw1:Below w.heap.size w w1:=by
  refine Below.trans ?_ (hb1.mono ?_)
  ·go_grown
  ·first|omega|go_size
 go_wp2
 go_ret2
 exact ⟨rfl,hw1⟩
set_option maxRecDepth 100000 in
theorem Zol (t g:Nat) (v:Value) (T:Tab) (m:Int) (k:Ky) (b:Nat) (w:World) (H:CT w t g v T m) (h:Num T) (hk:k.good) :
 Calls Tryz.prog 172 #[.pointer (some ⟨t,0,none⟩),kyV k,.int .i64 (b:Int)] w fun e w'=>e = .returned (.int .i64 (T.other k b:Int))/\Below w.heap.size w w':=by
 have HT:=hid (fun w H=>Zca t g v T m k w H h hk)
 have HH:=hid H
 have HE:Hid (T.other k b=if b=T.x1 k then T.x2 k else T.x1 k):=rfl
 generalize T.x1 k=x1 at *
 generalize T.x2 k=x2 at *
 generalize T.other k b=o at *
 clear H h
 unfold kyV at *
 by_cases hb:b=x1
 ·subst hb
  have hE:=HE.out
  rw [if_pos rfl] at hE
  subst hE
  clear HE
  go_enter Tryz.func172,Tryz.ntmps172
  go_wp2_with fail
  refine (HT.out _ (HH.out.below (by go_grown))).mono ?_
  rintro e w1 ⟨rfl,hb1⟩
  have hw1:Below w.heap.size w w1:=Below.trans (by go_grown) (hb1.mono (by go_size))
  clear hb1
  go_wp2
  go_ret
  exact ⟨rfl,hw1⟩
 ·have hE:=HE.out
  rw [if_neg hb] at hE
  subst hE
  have hbi:((b:Int) == (o:Int))=false:=by simp;omega
  clear HE hb
  go_enter Tryz.func172,Tryz.ntmps172
  go_wp2_with fail
  refine (HT.out _ (HH.out.below (by go_grown))).mono ?_
  rintro e w1 ⟨rfl,hb1⟩
  have hw1:Below w.heap.size w w1:=Below.trans (by go_grown) (hb1.mono (by go_size))
  clear hb1
  go_wp2
  go_ret
  exact ⟨rfl,hw1⟩
end Go.Proofs.YtgfjmgebecmbiaaGreat
