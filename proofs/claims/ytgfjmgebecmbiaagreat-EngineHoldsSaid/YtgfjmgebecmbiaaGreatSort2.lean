import Derived.Test.YtgfjmgebecmbiaaGreatM22
import Derived.Shelf.GgSortFunc.SmallK
import Derived.Shelf.SlSortFuncK.RowK2
import Derived.Sort.WalkB3
set_option linter.unusedSimpArgs false
set_option linter.unusedVariables false
set_option maxHeartbeats 1000000
namespace Go.Proofs.YtgfjmgebecmbiaaGreat
open Lib(hid)
section
open M
structure Cf where
 wd:Int
 di:Int
 lv:Int
 st:Int
 hs:Int
 bt:Int
 le:Int
 bk:Int
 rt:Int
 hp:Int
def okCf (c:Cf):Bool:=decide ((1<=c.wd/\c.wd<=128)/\(0<=c.di/\c.di<=c.wd/\c.di<=8)/\(0<=c.lv/\c.lv<=128)/\(1<=c.st/\c.st<=6)/\(1<=c.hs/\c.hs<=16)/\(1<=c.le/\c.le<=65536)/\(c.le*max c.lv 1<=c.bt/\c.bt<=1073741824)/\(1<=c.bk/\c.bk<=1000)/\(0<=c.rt/\c.rt<=300)/\(0<=c.hp/\c.hp<=60)/\c.wd-c.di<=c.lv*c.st)
def sumE (C:List Int) (a b:Int):Nat:=sumF (fun j=>atC C (a.toNat+1+j)*2^((b-a).toNat-1-j)) (b-a).toNat
def Zbn (C:List Int):Int->List Int->List Nat
 | _,[]=>[]
 | a,b::L=>sumE C a b::Zbn C b L
theorem Zc3 (C:List Int):∀(L:List Int) (a:Int),(Zbn C a L).length=L.length
 | [],_=>rfl
 | b::L,a=>by unfold Zbn;rw [List.length_cons,List.length_cons,Zc3 C L b]
def capB (n:Int):Nat:=(max 1 (min n 65536)).toNat
def Zee (c:Cf) (levels C:List Int):List Nat:=(shL c.bt c.le ((Zbn C c.di levels).map fl)).map capB
theorem Zf4 (c:Cf) (levels C:List Int):(Zee c levels C).length=levels.length:=by
 unfold Zee
 rw [List.length_map,Zxf,List.length_map,Zc3]
def mkE (c:Cf) (s:Nat):Nat->List Int->List Nat->List Lv
 | i,n::L,b::B=>newV n (mixN ((s+i)%18446744073709551616)) c.hs b c.bk.toNat::mkE c s (i+1) L B
 | _,_,_=>[]
structure Eg where
 wd:Int
 di:Int
 L:List Lv
 R:List Rt
def newE (c:Cf) (s:Nat) (levels C:List Int):Eg:=⟨c.wd,c.di,mkE c s 0 levels (Zee c levels C),[]⟩
structure Eg.ok (E:Eg):Prop where
 rts:Zie E.R
 lev:EgLv E.R E.di E.L
 top:topE E.di E.L=E.wd
 dir:0<=E.di/\E.di<=8
 wid:E.wd<=128
def Zij (E:Eg) (r:Rt):Bool:=Zan r.k.h r.k.l r.k.n&&decide (r.k.n<=E.wd)&&decide (0<=r.v)
def Eg.toR (E:Eg) (R':List Rt):Eg:={ E with L:=Zd2 E.R R' E.di E.L,R:=R' }
def Eg.put (E:Eg) (r:Rt):Eg:=if Zij E r=true then E.toR (Zao E.R r) else E
def Eg.del (E:Eg) (k:Ky):Eg:=if k∈Zad E.R then E.toR (outS E.R k) else E
def Eg.cutA (E:Eg) (ah al:Nat):Ky:=cutK ah al E.wd.toNat
def Eg.dir22 (E:Eg) (ah al:Nat):Option Int:=hopK (upS E.R E.di) (-1) (cutK ah al E.di.toNat)
def Eg.hop (E:Eg) (ah al:Nat):Int:=(((Zam (E.cutA ah al).h (E.cutA ah al).l E.L.reverse).1).or (E.dir22 (E.cutA ah al).h (E.cutA ah al).l)).getD (-1)
def Eg.probes (E:Eg) (ah al:Nat):List Int:=(Zam (E.cutA ah al).h (E.cutA ah al).l E.L.reverse).2
theorem Zrb {R:List Rt} (h:Zie R) {r:Rt} (hg:r.k.good) (hv:0<=r.v):Zie (Zao R r):=by
 refine ⟨Zaq r h.sort,fun q hq => ?_,fun q hq => ?_⟩
 ·rcases (Zcy h.sort).1 hq with e | ⟨e,-⟩
  ·rw [e];exact hg
  ·exact h.good q e
 ·rcases (Zcy h.sort).1 hq with e | ⟨e,-⟩
  ·rw [e];exact hv
  ·exact h.pos q e
theorem Zx6 {R:List Rt} (h:Zie R) (k:Ky):Zie (outS R k):=⟨Zav k h.sort,fun q hq=>h.good q (Zay.1 hq).1,fun q hq=>h.pos q (Zay.1 hq).1⟩
theorem Eg.ok.toR {E:Eg} (h:E.ok) {R':List Rt} (h':Zie R'):(E.toR R').ok:=
 ⟨h',Zr9 h.rts h' _ _ h.lev,(Znk _ _ _ _).trans h.top,h.dir,h.wid⟩
theorem Eg.ok.put {E:Eg} (h:E.ok) (r:Rt) (hg:r.k.good):(E.put r).ok:=by
 unfold Eg.put
 by_cases ht:Zij E r=true
 ·rw [if_pos ht]
  unfold Zij at ht
  simp only [Bool.and_eq_true,decide_eq_true_eq] at ht
  exact h.toR (Zrb h.rts hg ht.2)
 ·rw [if_neg ht]
  exact h
theorem Eg.ok.del {E:Eg} (h:E.ok) (k:Ky):(E.del k).ok:=by
 unfold Eg.del
 split
 ·exact h.toR (Zx6 h.rts k)
 ·exact h
theorem Z7w (E:Eg) (r:Rt):(E.put r).R=if Zij E r=true then Zao E.R r else E.R:=by unfold Eg.put;split<;>rfl
theorem Z9h (E:Eg) (k:Ky):(E.del k).R=outS E.R k:=by
 unfold Eg.del
 split
 ·rfl
 ·rename_i h
  exact (Zi7 h).symm
theorem Z0x (E:Eg) (r:Rt):(E.put r).wd=E.wd:=by unfold Eg.put;split<;>rfl
theorem Z83 (E:Eg) (k:Ky):(E.del k).wd=E.wd:=by unfold Eg.del;split<;>rfl
theorem Z7b (E:Eg) (r:Rt):(E.put r).di=E.di:=by unfold Eg.put;split<;>rfl
theorem Z84 (E:Eg) (k:Ky):(E.del k).di=E.di:=by unfold Eg.del;split<;>rfl
theorem Z7v (E:Eg) (r:Rt):(E.put r).L.map Lv.n=E.L.map Lv.n:=by
 unfold Eg.put
 split
 ·exact Zl3 _ _ _ _
 ·rfl
theorem Z8o (E:Eg) (k:Ky):(E.del k).L.map Lv.n=E.L.map Lv.n:=by
 unfold Eg.del
 split
 ·exact Zl3 _ _ _ _
 ·rfl
theorem Zl4 (R R':List Rt):∀(L:List Lv) (a:Int),(Zd2 R R' a L).map (fun V=>V.C.length)=L.map (fun V=>V.C.length)
 | [],_=>rfl
 | V::L,a=>by
  unfold Zd2
  rw [List.map_cons,List.map_cons,(Zws V _).2.2,Zl4 R R' L V.n]
theorem Z82 (E:Eg) (r:Rt):(E.put r).L.map (fun V=>V.C.length)=E.L.map (fun V=>V.C.length):=by
 unfold Eg.put
 split
 ·exact Zl4 _ _ _ _
 ·rfl
theorem Z85 (E:Eg) (k:Ky):(E.del k).L.map (fun V=>V.C.length)=E.L.map (fun V=>V.C.length):=by
 unfold Eg.del
 split
 ·exact Zl4 _ _ _ _
 ·rfl
theorem Eg.ok.longest {E:Eg} (h:E.ok) {ah al:Nat} (wa:W64 ah) (wb:W64 al) :
 E.hop ah al=((Zbi (depV E.R (E.cutA ah al).h (E.cutA ah al).l) (-1) E.wd 129).bind (depV E.R (E.cutA ah al).h (E.cutA ah al).l)).getD (-1):=by
 obtain ⟨d,hd⟩:=Int.eq_ofNat_of_zero_le h.dir.1
 have hl:=h.lev
 have ht:=h.top
 unfold Eg.hop Eg.dir22
 rw [hd] at hl ht ⊢
 have h1:W64 (E.cutA ah al).h:=wa.cut _
 have h2:W64 (E.cutA ah al).l:=wb.cut _
 rw [Int.toNat_natCast,Zv2 h.rts h1 h2 hl,ht]
theorem Eg.ok.down {E:Eg} (h:E.ok) (ah al:Nat):(E.probes ah al).Pairwise (· > ·):=Zqt h.lev _ _
theorem Z1m (a b:Int):setS [] a b=[]:=by
 unfold setS
 split<;>rfl
theorem Z5h {st wd:Int}:∀(L:List Int) (a:Int),rgB st wd a L=true->a<=wd
 | [],a,h=>by
  have:a=wd:=of_decide_eq_true h
  omega
 | b::L,a,h=>by
  simp only [rgB,Bool.and_eq_true,decide_eq_true_eq] at h
  have:=Z5h L b h.2
  omega
theorem Z4q (c:Cf) (s:Nat) (h6:c.st<=8) (h128:c.wd<=128) (hb1:1<=c.bk) (hb2:c.bk<=65536):∀(levels:List Int) (B:List Nat) (i:Nat) (a:Int),B.length=levels.length->0<=a->rgB c.st c.wd a levels=true->EgLv [] a (mkE c s i levels B)/\topE a (mkE c s i levels B)=c.wd
 | [],[],_,a,_,_,h=>⟨trivial,of_decide_eq_true h⟩
 | [],b::B,_,_,hl,_,_=>by simp at hl
 | n::L,[],_,_,hl,_,_=>by simp at hl
 | n::L,b::B,i,a,hl,ha,h=>by
  simp only [rgB,Bool.and_eq_true,decide_eq_true_eq] at h
  obtain ⟨⟨h1,h2⟩,h3⟩:=h
  obtain ⟨i1,i2⟩:=Z4q c s h6 h128 hb1 hb2 L B (i+1) n (by simpa using hl) (by omega) h3
  have hle:=Z5h L n h3
  unfold mkE EgLv topE
  refine ⟨⟨⟨⟨ha,h1,by show n-a<=8;omega,by show n<=128;omega⟩,?_⟩,i1⟩,i2⟩
  rw [Z1m]
  exact Z50 _ _ _ _ _ (by omega) (by omega)
theorem Zyj (c:Cf) (s:Nat):∀(levels:List Int) (B:List Nat) (i:Nat),B.length=levels.length->(mkE c s i levels B).map Lv.n=levels
 | [],[],_,_=>rfl
 | [],b::B,_,hl=>by simp at hl
 | n::L,[],_,hl=>by simp at hl
 | n::L,b::B,i,hl=>by
  unfold mkE
  rw [List.map_cons,Zyj c s L B (i+1) (by simpa using hl)]
  rfl
theorem Z4r (c:Cf) (s:Nat):∀(levels:List Int) (B:List Nat) (i:Nat),B.length=levels.length->(mkE c s i levels B).map (fun V=>V.C.length)=B
 | [],[],_,_=>rfl
 | [],b::B,_,hl=>by simp at hl
 | n::L,[],_,hl=>by simp at hl
 | n::L,b::B,i,hl=>by
  unfold mkE
  rw [List.map_cons,Z4r c s L B (i+1) (by simpa using hl)]
  show (List.replicate b 0).length::B=_
  rw [List.length_replicate]
theorem Zye {c:Cf} {s:Nat} {levels C:List Int} (h:okCf c=true) (hr:Zc7 c.wd c.di c.lv c.st levels=true):(newE c s levels C).ok:=by
 unfold okCf at h
 obtain ⟨⟨w1,w2⟩,⟨d1,d2,d3⟩,-,⟨s1,s2⟩,-,-,-,⟨b1,b2⟩,-⟩:=of_decide_eq_true h
 unfold Zc7 at hr
 simp only [Bool.and_eq_true] at hr
 have hm:=Z4q c s (by omega) w2 b1 (by omega) levels (Zee c levels C) 0 c.di (Zf4 c levels C) d1 hr.2
 exact ⟨⟨List.Pairwise.nil,fun r hr=>(by cases hr),fun r hr=>(by cases hr)⟩,hm.1,hm.2,⟨d1,d3⟩,w2⟩
theorem Z51 (c:Cf) (s:Nat) (levels C:List Int):(newE c s levels C).L.map Lv.n=levels:=Zyj c s levels _ 0 (Zf4 c levels C)
theorem Z78 (c:Cf) (s:Nat) (levels C:List Int):(newE c s levels C).L.map (fun V=>V.C.length)=Zee c levels C:=Z4r c s levels _ 0 (Zf4 c levels C)
theorem Z0l {x l:Nat} (h0:1<=l) (h1:l<=x) (h2:l<=65536):l<=capB (x:Int)/\capB (x:Int)<=65536/\capB (x:Int)<=x:=by
 unfold capB
 omega
theorem Z0j (f:Nat->Nat) (l:Nat) (h0:1<=l) (h2:l<=65536) (h1:∀j,l<=f j):∀n,((List.range n).map fun j=>capB (f j:Int)).sum<=sumF f n
 | 0=>Nat.le_refl _
 | n+1=>by
  have ih:=Z0j f l h0 h2 h1 n
  have:=(Z0l h0 (h1 n) h2).2.2
  rw [List.range_succ,List.map_append,List.sum_append]
  show _+([capB (f n:Int)]).sum<=sumF f n+f n
  simp only [List.sum_cons,List.sum_nil]
  omega
theorem Z0n {c:Cf} {levels C:List Int} (h:okCf c=true) (hr:Zc7 c.wd c.di c.lv c.st levels=true):(∀b∈Zee c levels C,c.le<=(b:Int)/\b<=65536)/\((Zee c levels C).sum:Int)<=c.bt:=by
 unfold okCf at h
 obtain ⟨-,-,⟨v1,v2⟩,-,-,⟨l1,l2⟩,⟨t1,t2⟩,-⟩:=of_decide_eq_true h
 unfold Zc7 at hr
 simp only [Bool.and_eq_true,decide_eq_true_eq] at hr
 have hn:(levels.length:Int)<=c.lv:=hr.1.2
 obtain ⟨l,hl⟩:=Int.eq_ofNat_of_zero_le (show 0<=c.le by omega)
 have hle:c.le*(levels.length:Int)<=c.bt:=by
  refine Int.le_trans (Int.mul_le_mul_of_nonneg_left (show (levels.length:Int)<=max c.lv 1 by omega) (by omega)) t1
 unfold Zee shL
 rw [List.map_map,List.length_map,Zc3]
 rw [hl] at hle l1 l2 ⊢
 obtain ⟨n,hnn⟩:∃n,n=levels.length:=⟨_,rfl⟩
 rw [<-hnn] at hle ⊢
 obtain ⟨left,hleft⟩:=Int.eq_ofNat_of_zero_le (show 0<=c.bt-(l:Int)*(n:Int) by omega)
 rw [hleft,Int.toNat_natCast,Int.toNat_natCast]
 generalize wtF _=w
 have e:(capB ∘ shF w l left n)=fun j=>capB ((Zfa w l left n j:Nat):Int):=rfl
 rw [e]
 have hl1:1<=l:=by omega
 have hl2:l<=65536:=by omega
 refine ⟨fun b hb => ?_,?_⟩
 ·obtain ⟨j,-,rfl⟩:=List.mem_map.1 hb
  have:=Z0l hl1 (Zga w l left n j) hl2
  omega
 ·by_cases h0:0<n
  ·have h1:=Z0j (Zfa w l left n) l hl1 hl2 (Zga w l left n) n
   rw [Zxe w l left n h0] at h1
   have h3:((n*l:Nat):Int)=(l:Int)*(n:Int):=by rw [Int.natCast_mul,Int.mul_comm]
   omega
  ·obtain rfl:n=0:=by omega
   show ((0:Nat):Int)<=c.bt
   simp only [Int.natCast_zero,Int.mul_zero] at hleft
   omega
end
section
open Go.RowKit Go.Sort M
section
variable {α:Type} [Inhabited α] {enc:α->List Value} {k:Nat} {w0 W W':World} {blk off n:Nat} {d d':Array α} {lt:α->α->Bool} {g:Nat} {lb:Array Value} {sf:Nat} {sb:Array Value}
theorem Zo5 (h:HoldsK enc k W blk off d) (hl:blk<W.heap.size) (hb:RowKit.Below W.heap.size W W'):HoldsK enc k W' blk off d:=by
 intro j hj
 obtain ⟨h1,h2⟩:=h j hj
 exact ⟨(hb.cell (p:=⟨blk,off+j,none⟩) hl).trans h1,(hb.frozen (p:=⟨blk,off+j,none⟩) hl).trans h2⟩
structure Srt (enc:α->List Value) (k:Nat) (w0:World) (blk off n:Nat) (d:Array α) (W:World):Prop where
 size:d.size=n
 holds:HoldsK enc k W blk off d
 touch:Touch (· = blk) w0 W
 lt:blk<w0.heap.size
theorem Srt.lt2 (S:Srt enc k w0 blk off n d W):blk<W.heap.size:=Nat.lt_of_lt_of_le S.lt S.touch.size
theorem Srt.below (S:Srt enc k w0 blk off n d W) (hb:RowKit.Below W.heap.size W W'):Srt enc k w0 blk off n d W':=⟨S.size,Zo5 S.holds S.lt2 hb,S.touch.trans (.quiet hb),S.lt⟩
theorem Srt.start (h:HoldsK enc k W blk off d) (hl:blk<W.heap.size) (hn:d.size=n):Srt enc k W blk off n d W:=⟨hn,h,Touch.refl _ _,hl⟩
def Zdh (g:Nat) (lb:Array Value) (enc:α->List Value) (k:Nat) (lt:α->α->Bool) (w0:World) (blk off n:Nat):Prop:=
 ∀(W:World) (d:Array α),Srt enc k w0 blk off n d W->∀i j:Nat,i<n->j<n->Calls Tryz.prog g (#[.int .i64 (i:Int),.int .i64 (j:Int)]++lb) W fun e w'=>e = .returned (.bool (lt d[i]! d[j]!))/\RowKit.Below W.heap.size W w'
theorem Srt.less (S:Srt enc k w0 blk off n d W) (hL:Zdh g lb enc k lt w0 blk off n) (x y:Int) (i j:Nat) (hi:i<n) (hj:j<n) (hx:(i:Int)=x) (hy:(j:Int)=y) :
 Calls Tryz.prog g (#[.int .i64 x,.int .i64 y]++lb) W fun e w'=>e = .returned (.bool (lt d[i]! d[j]!))/\Srt enc k w0 blk off n d w'/\Touch (· = blk) W w':=by
 subst hx hy
 exact (hL W d S i j hi hj).mono fun _ _ ⟨he,hb⟩=>⟨he,S.below hb,.quiet hb⟩
theorem Zd4 (W:World) (d:Array α):Touch (· = blk) W (putRowK enc k W blk off d):=by
 refine ⟨rfl,rfl,rfl,Nat.le_of_eq (size_putRowK enc k W blk off d).symm,fun j hj hn => ?_⟩
 show (W.heap.modify blk _)[j]? = W.heap[j]?
 rw [Array.getElem?_modify,if_neg (fun e=>hn e.symm)]
theorem Srt.swap (S:Srt enc k w0 blk off n d W) (hS:SwapSwapsK Tryz.prog sf sb enc k blk off n) (hk:∀x,(enc x).length=k) (x y:Int) (i j:Nat) (hi:i<n) (hj:j<n) (hx:(i:Int)=x) (hy:(j:Int)=y) :
 ∃w',(callFunc sf (#[.int .i64 x,.int .i64 y]++sb)).run Tryz.prog W = .ok (.value (.tuple #[])) w'/\Srt enc k w0 blk off n (swp d i j) w'/\Touch (· = blk) W w':=by
 subst hx hy
 have hs:=S.size
 have h:=hS W d S.holds S.size i j hi hj
 have e:=putRowK_swp enc k hk W blk off d i j (by omega) (by omega)
 rw [putRowK_self enc k W blk off d S.holds] at e
 rw [e] at h
 exact ⟨_,h,⟨by rw [size_swp];exact S.size,holdsK_putRowK enc k W blk off d _ S.holds (size_swp _ _ _),S.touch.trans (Zd4 W _),S.lt⟩,Zd4 W _⟩
structure Bxd (x y:Value) (B blk:Nat) (W:World):Prop where
 c0:W.cell? ⟨B,0,none⟩=some x
 c1:W.cell? ⟨B,1,none⟩=some y
 lt:B<W.heap.size
 ne:B≠blk
theorem Bxd.touch {x y:Value} {B:Nat} (h:Bxd x y B blk W) (t:Touch (· = blk) W W'):Bxd x y B blk W':=⟨t.cell h.c0 h.ne,t.cell h.c1 h.ne,Nat.lt_of_lt_of_le h.lt t.size,h.ne⟩
structure Srd (enc:α->List Value) (k:Nat) (w0:World) (blk off n:Nat) (x y:Value) (W:World) (d:Array α) (wr:World):Prop where
 srt:Srt enc k w0 blk off n d wr
 touch:Touch (· = blk) W wr
 box:Bxd x y W.heap.size blk wr
theorem Srd.start {x y:Value} (S:Srt enc k w0 blk off n d W) (t:TypeId):Srd enc k w0 blk off n x y W d (W.alloc (.cells #[x,y] t)):=by
 have hb:RowKit.Below W.heap.size W (W.alloc (.cells #[x,y] t)):=by go_grown
 have hl:=S.lt2
 exact ⟨S.below hb,.quiet hb,⟨by simp,by simp,by simp,by omega⟩⟩
theorem Srd.next {x y:Value} {wr:World} (R:Srd enc k w0 blk off n x y W d wr) (S:Srt enc k w0 blk off n d' W') (t:Touch (· = blk) wr W'):Srd enc k w0 blk off n x y W d' W':=⟨S,R.touch.trans t,R.box.touch t⟩
end
section
variable {α:Type} [Inhabited α] {enc:α->List Value} {k:Nat} {w0:World} {blk off n:Nat} {lt:α->α->Bool} {g:Nat} {lb:Array Value} {sf:Nat} {sb:Array Value}
set_option maxRecDepth 100000 in
theorem Zy9 (hk:∀x,(enc x).length=k) (eg:∀args w,(callFunc g args).run Tryz.prog w = .ok (.enter g args) w) (hL:Zdh g lb enc k lt w0 blk off n) (hS:SwapSwapsK Tryz.prog sf sb enc k blk off n) (hn:n<4611686018427387904)
 (a b:Nat) (ha2:a<=n) (hb:b<=n) (d:Array α) (W:World) (S:Srt enc k w0 blk off n d W) :
 Calls Tryz.prog 158 #[.agg #[.func (.func g) #[] lb,.func (.func sf) #[] sb],.int .i64 (a:Int),.int .i64 (b:Int)] W fun e w'=>
  e = .returned (.tuple #[])/\Srt enc k w0 blk off n (insertionSort lt d a b) w'/\Touch (· = blk) W w':=by
 have HL:=hid hL
 have HSW:=hid hS
 clear hL hS
 have e0:insOuter lt a b (a+1) d=insertionSort lt d a b:=rfl
 by_cases hab:b<=a
 ·rw [<-e0,insOuter_stop lt a b (a+1) d (by omega)]
  have hno:¬((a:Int)+1<(b:Int)):=by omega
  go_enter Tryz.func158,Tryz.ntmps158
  go_wp2_with fail
  have R:=Srd.start (x := .func (.func g) #[] lb) (y := .func (.func sf) #[] sb) S 183
  refine wp_loop_rounds 1 ?_
  rw [rounds_succ]
  go_wp2
  go_end0
  exact ⟨rfl,R.srt,R.touch⟩
 ·have ha:a<b:=by omega
  go_enter Tryz.func158,Tryz.ntmps158
  go_wp2_with fail
  have R:=Srd.start (x := .func (.func g) #[] lb) (y := .func (.func sf) #[] sb) S 183
  clear S
  go_loopg [6] (b-a) (fun kx s6 wr=>∃(i:Nat) (dk:Array α),s6 = .int .i64 (i:Int)/\a<i/\i<=b/\b-i<=kx/\Hid (insOuter lt a b i dk=insOuter lt a b (a+1) d)/\Hid (Srd enc k w0 blk off n (.func (.func g) #[] lb) (.func (.func sf) #[] sb) W dk wr))
  case atStart=>exact ⟨a+1,d,by go_num,by omega,by omega,by omega,rfl,R⟩
  case round=>
   clear R
   obtain ⟨i,dk,rfl,h1,h2,h3,HE,HR⟩:=hrel
   by_cases hi:i<b
   ·go_wp2
    rename World=>wo
    go_loopg [7] i (fun kx s7 wr=>∃(j:Nat) (dj:Array α),s7 = .int .i64 (j:Int)/\a<=j/\j<=i/\j<=kx/\Hid (insInner lt a j dj=insInner lt a i dk)/\Hid (Srd enc k w0 blk off n (.func (.func g) #[] lb) (.func (.func sf) #[] sb) W dj wr))
    case atStart=>exact ⟨i,dk,rfl,by omega,by omega,by omega,rfl,HR⟩
    case round=>
     clear HR
     obtain ⟨j,dj,rfl,j1,j2,j3,HI,HR⟩:=hrel
     have c0:=HR.out.box.c0
     have c1:=HR.out.box.c1
     have hl:=HR.out.box.lt
     by_cases hj:a<j
     ·have hl1:=HR.out.srt.less HL.out (j:Int) ((j:Int)-1) j (j-1) (by omega) (by omega) rfl (by omega)
      cases hv:lt dj[j]! dj[j-1]! with
      | true=>
       rw [hv] at hl1
       go_wp2_with (go_at_fn g;refine hl1.mono ?_;rintro e w1 ⟨rfl,hS1,hT1⟩;have R1:=HR.out.next hS1 hT1;have d1:=R1.box.c1;have hl1:=R1.box.lt;obtain ⟨w2,hrun,hS2,hT2⟩:=R1.srt.swap HSW.out hk (j:Int) ((j:Int)-1) j (j-1) (by omega) (by omega) rfl (by omega);have R2:=hid (R1.next hS2 hT2);clear R1 hS1 hT1 hS2 hT2)
       go_roundg (j-1)
       case measure=>omega
       case rel=>exact ⟨j-1,_,by go_num,by omega,by omega,by omega,hid ((insInner_go lt a j dj hj hv).symm.trans HI.out),R2⟩
      | false=>
       rw [hv] at hl1
       go_wp2_with (go_at_fn g;refine hl1.mono ?_;rintro e w1 ⟨rfl,hS1,hT1⟩;have R1:=hid (HR.out.next hS1 hT1);clear hS1 hT1)
       go_roundg (b-(i+1))
       case measure=>omega
       case rel=>
        have:=HI.out
        rw [insInner_stop lt a j dj (.inr hv)] at this
        exact ⟨i+1,dj,by go_num,by omega,by omega,by omega,hid (by rw [this,<-insOuter_go lt a b i dk hi];exact HE.out),R1⟩
     ·go_wp2
      go_roundg (b-(i+1))
      case measure=>omega
      case rel=>
       have:=HI.out
       rw [insInner_stop lt a j dj (.inl (by omega))] at this
       exact ⟨i+1,dj,by go_num,by omega,by omega,by omega,hid (by rw [this,<-insOuter_go lt a b i dk hi];exact HE.out),HR⟩
   ·go_wp2
    go_end0
    have:=HE.out
    rw [insOuter_stop lt a b i dk hi,e0] at this
    subst this
    exact ⟨rfl,HR.out.srt,HR.out.touch⟩
end
section
variable {α:Type} [Inhabited α] {enc:α->List Value} {k:Nat} {w0:World} {blk off n:Nat} {lt:α->α->Bool} {g:Nat} {lb:Array Value} {sf:Nat} {sb:Array Value}
set_option maxRecDepth 100000 in
theorem Z1l (hk:∀x,(enc x).length=k) (eg:∀args w,(callFunc g args).run Tryz.prog w = .ok (.enter g args) w) (hL:Zdh g lb enc k lt w0 blk off n) (hS:SwapSwapsK Tryz.prog sf sb enc k blk off n) (hn:n<4611686018427387904)
 (lo hi first:Nat) (hlo:lo<=hi) (hb:first+hi<=n) (d:Array α) (W:World) (S:Srt enc k w0 blk off n d W) :
 Calls Tryz.prog 178 #[.agg #[.func (.func g) #[] lb,.func (.func sf) #[] sb],.int .i64 (lo:Int),.int .i64 (hi:Int),.int .i64 (first:Int)] W fun e w'=>
  e = .returned (.tuple #[])/\Srt enc k w0 blk off n (siftDown lt hi first lo d) w'/\Touch (· = blk) W w':=by
 have HL:=hid hL
 have HSW:=hid hS
 clear hL hS
 go_enter Tryz.func178,Tryz.ntmps178
 go_wp2_with fail
 have R:=Srd.start (x := .func (.func g) #[] lb) (y := .func (.func sf) #[] sb) S 183
 clear S
 go_loopg [8] (hi-lo) (fun kx s8 wr=>∃(root:Nat) (dk:Array α),s8 = .int .i64 (root:Int)/\root<=hi/\hi-root<=kx/\Hid (siftDown lt hi first root dk=siftDown lt hi first lo d)/\Hid (Srd enc k w0 blk off n (.func (.func g) #[] lb) (.func (.func sf) #[] sb) W dk wr))
 case atStart=>exact ⟨lo,d,rfl,hlo,Nat.le_refl _,rfl,R⟩
 case round=>
  clear R
  obtain ⟨root,dk,rfl,h1,h2,HE,HR⟩:=hrel
  have c0:=HR.out.box.c0
  have c1:=HR.out.box.c1
  have hl:=HR.out.box.lt
  by_cases hc:hi<=2*root+1
  ·have hcz:(hi:Int)<=2*(root:Int)+1:=by omega
   go_wp2
   go_end0
   have:=HE.out
   rw [sd_end lt dk hc] at this
   subst this
   exact ⟨rfl,HR.out.srt,HR.out.touch⟩
  ·have hcz:¬((hi:Int)<=2*(root:Int)+1):=by omega
   by_cases h1:2*root+2<hi
   ·have h1z:2*(root:Int)+1+1<(hi:Int):=by omega
    cases hL1:lt dk[first+(2*root+1)]! dk[first+(2*root+2)]! with
    | true=>
     cases hv:lt dk[first+root]! dk[first+(2*root+2)]! with
     | true=>
      have HG:=hid (show siftDown lt hi first root dk=_ from sd_right_go lt dk h1 hL1 hv)
      go_wp2_with (first|(go_at_fn g;refine (HR.out.srt.less HL.out _ _ (first+(2*root+1)) (first+(2*root+2)) (by omega) (by omega) (by omega) (by omega)).mono ?_;rw [hL1];rintro e w1 ⟨rfl,hS1,hT1⟩;have R1:=HR.out.next hS1 hT1;have d0:=R1.box.c0;have dl:=R1.box.lt;clear HR c0 c1 hl;have HR:=hid R1;clear R1 hS1 hT1)|(go_at_fn g;refine (HR.out.srt.less HL.out _ _ (first+root) (first+(2*root+2)) (by omega) (by omega) (by omega) (by omega)).mono ?_;rw [hv];rintro e w2 ⟨rfl,hS2,hT2⟩;have R2:=HR.out.next hS2 hT2;have e1:=R2.box.c1;have el:=R2.box.lt;obtain ⟨w3,hrun,hS3,hT3⟩:=R2.srt.swap HSW.out hk ((first:Int)+(root:Int)) ((first:Int)+(2*(root:Int)+1+1)) (first+root) (first+(2*root+2)) (by omega) (by omega) (by omega) (by omega);have R3:=hid (R2.next hS3 hT3);clear R2 hS2 hT2 hS3 hT3))
      go_roundg (hi-(2*root+2))
      case measure=>omega
      case rel=>exact ⟨2*root+2,_,congrArg (Value.int .i64) (show 2*(root:Int)+1+1=((2*root+2:Nat):Int) by omega),by omega,Nat.le_refl _,hid (HG.out.symm.trans HE.out),R3⟩
     | false=>
      have HG:=hid (show siftDown lt hi first root dk=_ from sd_right_stop lt dk h1 hL1 hv)
      go_wp2_with (first|(go_at_fn g;refine (HR.out.srt.less HL.out _ _ (first+(2*root+1)) (first+(2*root+2)) (by omega) (by omega) (by omega) (by omega)).mono ?_;rw [hL1];rintro e w1 ⟨rfl,hS1,hT1⟩;have R1:=HR.out.next hS1 hT1;have d0:=R1.box.c0;have dl:=R1.box.lt;clear HR c0 c1 hl;have HR:=hid R1;clear R1 hS1 hT1)|(go_at_fn g;refine (HR.out.srt.less HL.out _ _ (first+root) (first+(2*root+2)) (by omega) (by omega) (by omega) (by omega)).mono ?_;rw [hv];rintro e w2 ⟨rfl,hS2,hT2⟩;have R2:=hid (HR.out.next hS2 hT2);clear hS2 hT2))
      (try simp only [Exit.inBlock,Exit.then]);refine bodyPost_ret (results_none rfl _ _ _) rfl ?_
      have:=HG.out.symm.trans HE.out
      subst this
      exact ⟨rfl,R2.out.srt,R2.out.touch⟩
    | false=>
     cases hv:lt dk[first+root]! dk[first+(2*root+1)]! with
     | true=>
      have HG:=hid (show siftDown lt hi first root dk=_ from sd_left_go lt dk (by omega) (fun _=>hL1) hv)
      go_wp2_with (first|(go_at_fn g;refine (HR.out.srt.less HL.out _ _ (first+(2*root+1)) (first+(2*root+2)) (by omega) (by omega) (by omega) (by omega)).mono ?_;rw [hL1];rintro e w1 ⟨rfl,hS1,hT1⟩;have R1:=HR.out.next hS1 hT1;have d0:=R1.box.c0;have dl:=R1.box.lt;clear HR c0 c1 hl;have HR:=hid R1;clear R1 hS1 hT1)|(go_at_fn g;refine (HR.out.srt.less HL.out _ _ (first+root) (first+(2*root+1)) (by omega) (by omega) (by omega) (by omega)).mono ?_;rw [hv];rintro e w2 ⟨rfl,hS2,hT2⟩;have R2:=HR.out.next hS2 hT2;have e1:=R2.box.c1;have el:=R2.box.lt;obtain ⟨w3,hrun,hS3,hT3⟩:=R2.srt.swap HSW.out hk ((first:Int)+(root:Int)) ((first:Int)+(2*(root:Int)+1)) (first+root) (first+(2*root+1)) (by omega) (by omega) (by omega) (by omega);have R3:=hid (R2.next hS3 hT3);clear R2 hS2 hT2 hS3 hT3))
      go_roundg (hi-(2*root+1))
      case measure=>omega
      case rel=>exact ⟨2*root+1,_,by go_num,by omega,Nat.le_refl _,hid (HG.out.symm.trans HE.out),R3⟩
     | false=>
      have HG:=hid (show siftDown lt hi first root dk=_ from sd_left_stop lt dk (by omega) (fun _=>hL1) hv)
      go_wp2_with (first|(go_at_fn g;refine (HR.out.srt.less HL.out _ _ (first+(2*root+1)) (first+(2*root+2)) (by omega) (by omega) (by omega) (by omega)).mono ?_;rw [hL1];rintro e w1 ⟨rfl,hS1,hT1⟩;have R1:=HR.out.next hS1 hT1;have d0:=R1.box.c0;have dl:=R1.box.lt;clear HR c0 c1 hl;have HR:=hid R1;clear R1 hS1 hT1)|(go_at_fn g;refine (HR.out.srt.less HL.out _ _ (first+root) (first+(2*root+1)) (by omega) (by omega) (by omega) (by omega)).mono ?_;rw [hv];rintro e w2 ⟨rfl,hS2,hT2⟩;have R2:=hid (HR.out.next hS2 hT2);clear hS2 hT2))
      (try simp only [Exit.inBlock,Exit.then]);refine bodyPost_ret (results_none rfl _ _ _) rfl ?_
      have:=HG.out.symm.trans HE.out
      subst this
      exact ⟨rfl,R2.out.srt,R2.out.touch⟩
   ·have h1z:¬(2*(root:Int)+1+1<(hi:Int)):=by omega
    cases hv:lt dk[first+root]! dk[first+(2*root+1)]! with
    | true=>
     have HG:=hid (show siftDown lt hi first root dk=_ from sd_left_go lt dk (by omega) (fun h=>absurd h h1) hv)
     go_wp2_with ((go_at_fn g;refine (HR.out.srt.less HL.out _ _ (first+root) (first+(2*root+1)) (by omega) (by omega) (by omega) (by omega)).mono ?_;rw [hv];rintro e w2 ⟨rfl,hS2,hT2⟩;have R2:=HR.out.next hS2 hT2;have e1:=R2.box.c1;have el:=R2.box.lt;obtain ⟨w3,hrun,hS3,hT3⟩:=R2.srt.swap HSW.out hk ((first:Int)+(root:Int)) ((first:Int)+(2*(root:Int)+1)) (first+root) (first+(2*root+1)) (by omega) (by omega) (by omega) (by omega);have R3:=hid (R2.next hS3 hT3);clear R2 hS2 hT2 hS3 hT3))
     go_roundg (hi-(2*root+1))
     case measure=>omega
     case rel=>exact ⟨2*root+1,_,by go_num,by omega,Nat.le_refl _,hid (HG.out.symm.trans HE.out),R3⟩
    | false=>
     have HG:=hid (show siftDown lt hi first root dk=_ from sd_left_stop lt dk (by omega) (fun h=>absurd h h1) hv)
     go_wp2_with ((go_at_fn g;refine (HR.out.srt.less HL.out _ _ (first+root) (first+(2*root+1)) (by omega) (by omega) (by omega) (by omega)).mono ?_;rw [hv];rintro e w2 ⟨rfl,hS2,hT2⟩;have R2:=hid (HR.out.next hS2 hT2);clear hS2 hT2))
     (try simp only [Exit.inBlock,Exit.then]);refine bodyPost_ret (results_none rfl _ _ _) rfl ?_
     have:=HG.out.symm.trans HE.out
     subst this
     exact ⟨rfl,R2.out.srt,R2.out.touch⟩
set_option maxRecDepth 100000 in
theorem Z25 (hk:∀x,(enc x).length=k) (eg:∀args w,(callFunc g args).run Tryz.prog w = .ok (.enter g args) w) (hL:Zdh g lb enc k lt w0 blk off n) (hS:SwapSwapsK Tryz.prog sf sb enc k blk off n) (hn:n<4611686018427387904)
 (a b:Nat) (hab:a<=b) (hb:b<=n) (d:Array α) (W:World) (S:Srt enc k w0 blk off n d W) :
 Calls Tryz.prog 159 #[.agg #[.func (.func g) #[] lb,.func (.func sf) #[] sb],.int .i64 (a:Int),.int .i64 (b:Int)] W fun e w'=>
  e = .returned (.tuple #[])/\Srt enc k w0 blk off n (heapSort lt d a b) w'/\Touch (· = blk) W w':=by
 have HSIFT:=hid (fun lo hi first hlo hb d W S=>Z1l (lo:=lo) (hi:=hi) (first:=first) hk eg hL hS hn hlo hb (d:=d) (W:=W) S)
 have HSW:=hid hS
 have hst:=half_start hab
 clear hL hS
 have HST:=hid hst
 have ecast:((b-a:Nat):Int)=(b:Int)-(a:Int):=by omega
 have HEC:=hid ecast
 clear hst ecast
 go_enter Tryz.func159,Tryz.ntmps159
 go_wp2_with fail
 have R:=Srd.start (x := .func (.func g) #[] lb) (y := .func (.func sf) #[] sb) S 183
 clear S
 go_loopg [9] ((b-a-1)/2+1) (fun kx s9 wr=>s9 = .int .i64 ((kx:Int)-1)/\kx<=(b-a-1)/2+1/\∃(dk:Array α),Hid (heapBuild lt (b-a) a kx dk=heapBuild lt (b-a) a ((b-a-1)/2+1) d)/\Hid (Srd enc k w0 blk off n (.func (.func g) #[] lb) (.func (.func sf) #[] sb) W dk wr))
 case atStart=>exact ⟨congrArg (Value.int .i64) HST.out,Nat.le_refl _,d,rfl,R⟩
 case round=>
  clear R
  obtain ⟨rfl,h1,dk,HE,HR⟩:=hrel
  have c0:=HR.out.box.c0
  have c1:=HR.out.box.c1
  have hl:=HR.out.box.lt
  cases gk with
  | zero=>
   go_wp2_with fail
   rename World=>wo
   go_loopg [10] (b-a) (fun kx s10 wr=>s10 = .int .i64 ((kx:Int)-1)/\kx<=b-a/\∃(dj:Array α),Hid (heapPop lt a kx dj=heapPop lt a (b-a) dk)/\Hid (Srd enc k w0 blk off n (.func (.func g) #[] lb) (.func (.func sf) #[] sb) W dj wr))
   case atStart=>exact ⟨congrArg (Value.int .i64) (by have:=HEC.out;omega),Nat.le_refl _,dk,rfl,HR⟩
   case round=>
    clear HR c0 c1 hl
    obtain ⟨rfl,h2,dj,HE2,HR⟩:=hrel
    have c0:=HR.out.box.c0
    have c1:=HR.out.box.c1
    have hl:=HR.out.box.lt
    cases gk with
    | zero=>
     go_wp2
     go_end0
     have e:dj=heapSort lt d a b:=by
      rw [heapSort,<-HE.out]
      exact HE2.out
     subst e
     exact ⟨rfl,HR.out.srt,HR.out.touch⟩
    | succ kx=>
     obtain ⟨w3,hrun,hS3,hT3⟩:=HR.out.srt.swap HSW.out hk (a:Int) ((a:Int)+(kx:Int)) a (a+kx) (by omega) (by omega) (by omega) (by omega)
     have R3:=HR.out.next hS3 hT3
     have d0:=R3.box.c0
     have d1:=R3.box.c1
     have dl:=R3.box.lt
     have HR3:=hid R3
     clear R3 hS3 hT3
     go_wp2_with fail
     refine (HSIFT.out 0 kx a (by omega) (by omega) _ _ HR3.out.srt).mono ?_
     rintro e w4 ⟨rfl,hS4,hT4⟩
     have R4:=hid (HR3.out.next hS4 hT4)
     clear hS4 hT4
     go_wp2_with fail
     go_roundg kx
     case measure=>omega
     case rel=>exact ⟨rfl,by omega,_,HE2,R4⟩
  | succ kx=>
   go_wp2_with fail
   have hcall:=HSIFT.out kx (b-a) a (by omega) (by omega) _ _ HR.out.srt
   rw [HEC.out] at hcall
   refine hcall.mono ?_
   clear hcall
   rintro e w4 ⟨rfl,hS4,hT4⟩
   have R4:=hid (HR.out.next hS4 hT4)
   clear hS4 hT4
   go_wp2_with fail
   go_roundg kx
   case measure=>omega
   case rel=>exact ⟨rfl,by omega,_,HE,R4⟩
end
end
end Go.Proofs.YtgfjmgebecmbiaaGreat
