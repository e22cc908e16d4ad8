/-
  sort.order2_func, median_func, medianAdjacent_func and choosePivot_func, at a test that may make blocks of its own. No condition but those that stand in each.
-/
import Derived.Test.YtgfjmgebecmbiaaGreatM12f
import Derived.Test.YtgfjmgebecmbiaaGreatM12
import Derived.Shelf.GgSortFunc.SmallK
import Derived.Shelf.SlSortFuncK.RowK2
import Derived.Sort.WalkB2
import Derived.Sort.WalkB3
import Derived.Deep.LoopGhost
import Derived.Deep.DeepCutAuto
import Derived.Sort.Walk13
set_option linter.unusedSimpArgs false
set_option linter.unusedVariables false
namespace Go.Proofs.YtgfjmgebecmbiaaGreat
open Go.RowKit Go.Sort M
section
variable {α:Type} [Inhabited α] {enc:α->List Value} {k:Nat} {w0 W W':World} {blk off n:Nat} {d d':Array α} {lt:α->α->Bool} {g:Nat} {lb:Array Value} {sf:Nat} {sb:Array Value}
theorem holdsK_below (h:HoldsK enc k W blk off d) (hl:blk<W.heap.size) (hb:RowKit.Below W.heap.size W W'):HoldsK enc k W' blk off d:=by
 intro j hj
 obtain ⟨h1,h2⟩:=h j hj
 exact ⟨(hb.cell (p:=⟨blk,off+j,none⟩) hl).trans h1,(hb.frozen (p:=⟨blk,off+j,none⟩) hl).trans h2⟩
structure Srt (enc:α->List Value) (k:Nat) (w0:World) (blk off n:Nat) (d:Array α) (W:World):Prop where
 size:d.size=n
 holds:HoldsK enc k W blk off d
 touch:Touch (· = blk) w0 W
 lt:blk<w0.heap.size
theorem Srt.lt2 (S:Srt enc k w0 blk off n d W):blk<W.heap.size:=Nat.lt_of_lt_of_le S.lt S.touch.size
theorem Srt.below (S:Srt enc k w0 blk off n d W) (hb:RowKit.Below W.heap.size W W'):Srt enc k w0 blk off n d W':=⟨S.size,holdsK_below S.holds S.lt2 hb,S.touch.trans (.quiet hb),S.lt⟩
theorem Srt.start (h:HoldsK enc k W blk off d) (hl:blk<W.heap.size) (hn:d.size=n):Srt enc k W blk off n d W:=⟨hn,h,Touch.refl _ _,hl⟩
def LessB (g:Nat) (lb:Array Value) (enc:α->List Value) (k:Nat) (lt:α->α->Bool) (w0:World) (blk off n:Nat):Prop:=
 ∀(W:World) (d:Array α),Srt enc k w0 blk off n d W->∀i j:Nat,i<n->j<n->Calls Tryz.prog g (#[.int .i64 (i:Int),.int .i64 (j:Int)]++lb) W fun e w'=>e = .returned (.bool (lt d[i]! d[j]!))/\RowKit.Below W.heap.size W w'
theorem Srt.less (S:Srt enc k w0 blk off n d W) (hL:LessB g lb enc k lt w0 blk off n) (x y:Int) (i j:Nat) (hi:i<n) (hj:j<n) (hx:(i:Int)=x) (hy:(j:Int)=y) :
 Calls Tryz.prog g (#[.int .i64 x,.int .i64 y]++lb) W fun e w'=>e = .returned (.bool (lt d[i]! d[j]!))/\Srt enc k w0 blk off n d w'/\Touch (· = blk) W w':=by
 subst hx hy
 exact (hL W d S i j hi hj).mono fun _ _ ⟨he,hb⟩=>⟨he,S.below hb,.quiet hb⟩
theorem putRowK_touch (W:World) (d:Array α):Touch (· = blk) W (putRowK enc k W blk off d):=by
 refine ⟨rfl,rfl,rfl,Nat.le_of_eq (size_putRowK enc k W blk off d).symm,fun j hj hn => ?_⟩
 show (W.heap.modify blk _)[j]? = W.heap[j]?
 rw [Array.getElem?_modify,if_neg (fun e=>hn e.symm)]
theorem Srt.swap (S:Srt enc k w0 blk off n d W) (hS:SwapSwapsK Tryz.prog sf sb enc k blk off n) (hk:∀x,(enc x).length=k) (x y:Int) (i j:Nat) (hi:i<n) (hj:j<n) (hx:(i:Int)=x) (hy:(j:Int)=y) :
 ∃w',(callFunc sf (#[.int .i64 x,.int .i64 y]++sb)).run Tryz.prog W = .ok (.value (.tuple #[])) w'/\Srt enc k w0 blk off n (swp d i j) w'/\Touch (· = blk) W w':=by
 subst hx hy
 have hs:=S.size
 have h:=hS W d S.holds S.size i j hi hj
 have e:=putRowK_swp enc k hk W blk off d i j (by omega) (by omega)
 rw [putRowK_self enc k W blk off d S.holds] at e
 rw [e] at h
 exact ⟨_,h,⟨by rw [size_swp];exact S.size,holdsK_putRowK enc k W blk off d _ S.holds (size_swp _ _ _),S.touch.trans (putRowK_touch W _),S.lt⟩,putRowK_touch W _⟩
structure Bxd (x y:Value) (B blk:Nat) (W:World):Prop where
 c0:W.cell? ⟨B,0,none⟩=some x
 c1:W.cell? ⟨B,1,none⟩=some y
 lt:B<W.heap.size
 ne:B≠blk
theorem Bxd.touch {x y:Value} {B:Nat} (h:Bxd x y B blk W) (t:Touch (· = blk) W W'):Bxd x y B blk W':=⟨t.cell h.c0 h.ne,t.cell h.c1 h.ne,Nat.lt_of_lt_of_le h.lt t.size,h.ne⟩
structure Srd (enc:α->List Value) (k:Nat) (w0:World) (blk off n:Nat) (x y:Value) (W:World) (d:Array α) (wr:World):Prop where
 srt:Srt enc k w0 blk off n d wr
 touch:Touch (· = blk) W wr
 box:Bxd x y W.heap.size blk wr
theorem Srd.start {x y:Value} (S:Srt enc k w0 blk off n d W) (t:TypeId):Srd enc k w0 blk off n x y W d (W.alloc (.cells #[x,y] t)):=by
 have hb:RowKit.Below W.heap.size W (W.alloc (.cells #[x,y] t)):=by go_grown
 have hl:=S.lt2
 exact ⟨S.below hb,.quiet hb,⟨by simp,by simp,by simp,by omega⟩⟩
theorem Srd.next {x y:Value} {wr:World} (R:Srd enc k w0 blk off n x y W d wr) (S:Srt enc k w0 blk off n d' W') (t:Touch (· = blk) wr W'):Srd enc k w0 blk off n x y W d' W':=⟨S,R.touch.trans t,R.box.touch t⟩
end
section
variable {α:Type} [Inhabited α] {enc:α->List Value} {k:Nat} {w0:World} {blk off n:Nat} {lt:α->α->Bool} {g:Nat} {lb:Array Value} {sf:Nat} {sb:Array Value}
set_option maxHeartbeats 1000000 in
set_option maxRecDepth 100000 in
theorem ins_any (hk:∀x,(enc x).length=k) (eg:∀args w,(callFunc g args).run Tryz.prog w = .ok (.enter g args) w) (hL:LessB g lb enc k lt w0 blk off n) (hS:SwapSwapsK Tryz.prog sf sb enc k blk off n) (hn:n<4611686018427387904)
 (a b:Nat) (ha2:a<=n) (hb:b<=n) (d:Array α) (W:World) (S:Srt enc k w0 blk off n d W) :
 Calls Tryz.prog 158 #[.agg #[.func (.func g) #[] lb,.func (.func sf) #[] sb],.int .i64 (a:Int),.int .i64 (b:Int)] W fun e w'=>
  e = .returned (.tuple #[])/\Srt enc k w0 blk off n (insertionSort lt d a b) w'/\Touch (· = blk) W w':=by
 have HL:=Lib.hid hL
 have HSW:=Lib.hid hS
 clear hL hS
 have e0:insOuter lt a b (a+1) d=insertionSort lt d a b:=rfl
 by_cases hab:b<=a
 ·rw [<-e0,insOuter_stop lt a b (a+1) d (by omega)]
  have hno:¬((a:Int)+1<(b:Int)):=by omega
  go_enter Tryz.func158,Tryz.ntmps158
  go_wp2_with fail
  have R:=Srd.start (x := .func (.func g) #[] lb) (y := .func (.func sf) #[] sb) S 183
  refine wp_loop_rounds 1 ?_
  rw [rounds_succ]
  go_wp2
  go_end0
  exact ⟨rfl,R.srt,R.touch⟩
 ·have ha:a<b:=by omega
  go_enter Tryz.func158,Tryz.ntmps158
  go_wp2_with fail
  have R:=Srd.start (x := .func (.func g) #[] lb) (y := .func (.func sf) #[] sb) S 183
  clear S
  go_loopg [6] (b-a) (fun kx s6 wr=>∃(i:Nat) (dk:Array α),s6 = .int .i64 (i:Int)/\a<i/\i<=b/\b-i<=kx/\Hid (insOuter lt a b i dk=insOuter lt a b (a+1) d)/\Hid (Srd enc k w0 blk off n (.func (.func g) #[] lb) (.func (.func sf) #[] sb) W dk wr))
  case atStart=>exact ⟨a+1,d,by go_num,by omega,by omega,by omega,rfl,R⟩
  case round=>
   clear R
   obtain ⟨i,dk,rfl,h1,h2,h3,HE,HR⟩:=hrel
   by_cases hi:i<b
   ·go_wp2
    rename World=>wo
    go_loopg [7] i (fun kx s7 wr=>∃(j:Nat) (dj:Array α),s7 = .int .i64 (j:Int)/\a<=j/\j<=i/\j<=kx/\Hid (insInner lt a j dj=insInner lt a i dk)/\Hid (Srd enc k w0 blk off n (.func (.func g) #[] lb) (.func (.func sf) #[] sb) W dj wr))
    case atStart=>exact ⟨i,dk,rfl,by omega,by omega,by omega,rfl,HR⟩
    case round=>
     clear HR
     obtain ⟨j,dj,rfl,j1,j2,j3,HI,HR⟩:=hrel
     have c0:=HR.out.box.c0
     have c1:=HR.out.box.c1
     have hl:=HR.out.box.lt
     by_cases hj:a<j
     ·have hl1:=HR.out.srt.less HL.out (j:Int) ((j:Int)-1) j (j-1) (by omega) (by omega) rfl (by omega)
      cases hv:lt dj[j]! dj[j-1]! with
      | true=>
       rw [hv] at hl1
       go_wp2_with (go_at_fn g;refine hl1.mono ?_;rintro e w1 ⟨rfl,hS1,hT1⟩;have R1:=HR.out.next hS1 hT1;have d1:=R1.box.c1;have hl1:=R1.box.lt;obtain ⟨w2,hrun,hS2,hT2⟩:=R1.srt.swap HSW.out hk (j:Int) ((j:Int)-1) j (j-1) (by omega) (by omega) rfl (by omega);have R2:=Lib.hid (R1.next hS2 hT2);clear R1 hS1 hT1 hS2 hT2)
       go_roundg (j-1)
       case measure=>omega
       case rel=>exact ⟨j-1,_,by go_num,by omega,by omega,by omega,Lib.hid ((insInner_go lt a j dj hj hv).symm.trans HI.out),R2⟩
      | false=>
       rw [hv] at hl1
       go_wp2_with (go_at_fn g;refine hl1.mono ?_;rintro e w1 ⟨rfl,hS1,hT1⟩;have R1:=Lib.hid (HR.out.next hS1 hT1);clear hS1 hT1)
       go_roundg (b-(i+1))
       case measure=>omega
       case rel=>
        have:=HI.out
        rw [insInner_stop lt a j dj (.inr hv)] at this
        exact ⟨i+1,dj,by go_num,by omega,by omega,by omega,Lib.hid (by rw [this,<-insOuter_go lt a b i dk hi];exact HE.out),R1⟩
     ·go_wp2
      go_roundg (b-(i+1))
      case measure=>omega
      case rel=>
       have:=HI.out
       rw [insInner_stop lt a j dj (.inl (by omega))] at this
       exact ⟨i+1,dj,by go_num,by omega,by omega,by omega,Lib.hid (by rw [this,<-insOuter_go lt a b i dk hi];exact HE.out),HR⟩
   ·go_wp2
    go_end0
    have:=HE.out
    rw [insOuter_stop lt a b i dk hi,e0] at this
    subst this
    exact ⟨rfl,HR.out.srt,HR.out.touch⟩
end
section
variable {α:Type} [Inhabited α] {enc:α->List Value} {k:Nat} {w0:World} {blk off n:Nat} {lt:α->α->Bool} {g:Nat} {lb:Array Value} {sf:Nat} {sb:Array Value}
set_option maxHeartbeats 1000000 in
set_option maxRecDepth 100000 in
theorem sift_any (hk:∀x,(enc x).length=k) (eg:∀args w,(callFunc g args).run Tryz.prog w = .ok (.enter g args) w) (hL:LessB g lb enc k lt w0 blk off n) (hS:SwapSwapsK Tryz.prog sf sb enc k blk off n) (hn:n<4611686018427387904)
 (lo hi first:Nat) (hlo:lo<=hi) (hb:first+hi<=n) (d:Array α) (W:World) (S:Srt enc k w0 blk off n d W) :
 Calls Tryz.prog 178 #[.agg #[.func (.func g) #[] lb,.func (.func sf) #[] sb],.int .i64 (lo:Int),.int .i64 (hi:Int),.int .i64 (first:Int)] W fun e w'=>
  e = .returned (.tuple #[])/\Srt enc k w0 blk off n (siftDown lt hi first lo d) w'/\Touch (· = blk) W w':=by
 have HL:=Lib.hid hL
 have HSW:=Lib.hid hS
 clear hL hS
 go_enter Tryz.func178,Tryz.ntmps178
 go_wp2_with fail
 have R:=Srd.start (x := .func (.func g) #[] lb) (y := .func (.func sf) #[] sb) S 183
 clear S
 go_loopg [8] (hi-lo) (fun kx s8 wr=>∃(root:Nat) (dk:Array α),s8 = .int .i64 (root:Int)/\root<=hi/\hi-root<=kx/\Hid (siftDown lt hi first root dk=siftDown lt hi first lo d)/\Hid (Srd enc k w0 blk off n (.func (.func g) #[] lb) (.func (.func sf) #[] sb) W dk wr))
 case atStart=>exact ⟨lo,d,rfl,hlo,Nat.le_refl _,rfl,R⟩
 case round=>
  clear R
  obtain ⟨root,dk,rfl,h1,h2,HE,HR⟩:=hrel
  have c0:=HR.out.box.c0
  have c1:=HR.out.box.c1
  have hl:=HR.out.box.lt
  by_cases hc:hi<=2*root+1
  ·have hcz:(hi:Int)<=2*(root:Int)+1:=by omega
   go_wp2
   go_end0
   have:=HE.out
   rw [sd_end lt dk hc] at this
   subst this
   exact ⟨rfl,HR.out.srt,HR.out.touch⟩
  ·have hcz:¬((hi:Int)<=2*(root:Int)+1):=by omega
   by_cases h1:2*root+2<hi
   ·have h1z:2*(root:Int)+1+1<(hi:Int):=by omega
    cases hL1:lt dk[first+(2*root+1)]! dk[first+(2*root+2)]! with
    | true=>
     cases hv:lt dk[first+root]! dk[first+(2*root+2)]! with
     | true=>
      have HG:=Lib.hid (show siftDown lt hi first root dk=_ from sd_right_go lt dk h1 hL1 hv)
      go_wp2_with (first|(go_at_fn g;refine (HR.out.srt.less HL.out _ _ (first+(2*root+1)) (first+(2*root+2)) (by omega) (by omega) (by omega) (by omega)).mono ?_;rw [hL1];rintro e w1 ⟨rfl,hS1,hT1⟩;have R1:=HR.out.next hS1 hT1;have d0:=R1.box.c0;have dl:=R1.box.lt;clear HR c0 c1 hl;have HR:=Lib.hid R1;clear R1 hS1 hT1)|(go_at_fn g;refine (HR.out.srt.less HL.out _ _ (first+root) (first+(2*root+2)) (by omega) (by omega) (by omega) (by omega)).mono ?_;rw [hv];rintro e w2 ⟨rfl,hS2,hT2⟩;have R2:=HR.out.next hS2 hT2;have e1:=R2.box.c1;have el:=R2.box.lt;obtain ⟨w3,hrun,hS3,hT3⟩:=R2.srt.swap HSW.out hk ((first:Int)+(root:Int)) ((first:Int)+(2*(root:Int)+1+1)) (first+root) (first+(2*root+2)) (by omega) (by omega) (by omega) (by omega);have R3:=Lib.hid (R2.next hS3 hT3);clear R2 hS2 hT2 hS3 hT3))
      go_roundg (hi-(2*root+2))
      case measure=>omega
      case rel=>exact ⟨2*root+2,_,congrArg (Value.int .i64) (show 2*(root:Int)+1+1=((2*root+2:Nat):Int) by omega),by omega,Nat.le_refl _,Lib.hid (HG.out.symm.trans HE.out),R3⟩
     | false=>
      have HG:=Lib.hid (show siftDown lt hi first root dk=_ from sd_right_stop lt dk h1 hL1 hv)
      go_wp2_with (first|(go_at_fn g;refine (HR.out.srt.less HL.out _ _ (first+(2*root+1)) (first+(2*root+2)) (by omega) (by omega) (by omega) (by omega)).mono ?_;rw [hL1];rintro e w1 ⟨rfl,hS1,hT1⟩;have R1:=HR.out.next hS1 hT1;have d0:=R1.box.c0;have dl:=R1.box.lt;clear HR c0 c1 hl;have HR:=Lib.hid R1;clear R1 hS1 hT1)|(go_at_fn g;refine (HR.out.srt.less HL.out _ _ (first+root) (first+(2*root+2)) (by omega) (by omega) (by omega) (by omega)).mono ?_;rw [hv];rintro e w2 ⟨rfl,hS2,hT2⟩;have R2:=Lib.hid (HR.out.next hS2 hT2);clear hS2 hT2))
      (try simp only [Exit.inBlock,Exit.then]);refine bodyPost_ret (results_none rfl _ _ _) rfl ?_
      have:=HG.out.symm.trans HE.out
      subst this
      exact ⟨rfl,R2.out.srt,R2.out.touch⟩
    | false=>
     cases hv:lt dk[first+root]! dk[first+(2*root+1)]! with
     | true=>
      have HG:=Lib.hid (show siftDown lt hi first root dk=_ from sd_left_go lt dk (by omega) (fun _=>hL1) hv)
      go_wp2_with (first|(go_at_fn g;refine (HR.out.srt.less HL.out _ _ (first+(2*root+1)) (first+(2*root+2)) (by omega) (by omega) (by omega) (by omega)).mono ?_;rw [hL1];rintro e w1 ⟨rfl,hS1,hT1⟩;have R1:=HR.out.next hS1 hT1;have d0:=R1.box.c0;have dl:=R1.box.lt;clear HR c0 c1 hl;have HR:=Lib.hid R1;clear R1 hS1 hT1)|(go_at_fn g;refine (HR.out.srt.less HL.out _ _ (first+root) (first+(2*root+1)) (by omega) (by omega) (by omega) (by omega)).mono ?_;rw [hv];rintro e w2 ⟨rfl,hS2,hT2⟩;have R2:=HR.out.next hS2 hT2;have e1:=R2.box.c1;have el:=R2.box.lt;obtain ⟨w3,hrun,hS3,hT3⟩:=R2.srt.swap HSW.out hk ((first:Int)+(root:Int)) ((first:Int)+(2*(root:Int)+1)) (first+root) (first+(2*root+1)) (by omega) (by omega) (by omega) (by omega);have R3:=Lib.hid (R2.next hS3 hT3);clear R2 hS2 hT2 hS3 hT3))
      go_roundg (hi-(2*root+1))
      case measure=>omega
      case rel=>exact ⟨2*root+1,_,by go_num,by omega,Nat.le_refl _,Lib.hid (HG.out.symm.trans HE.out),R3⟩
     | false=>
      have HG:=Lib.hid (show siftDown lt hi first root dk=_ from sd_left_stop lt dk (by omega) (fun _=>hL1) hv)
      go_wp2_with (first|(go_at_fn g;refine (HR.out.srt.less HL.out _ _ (first+(2*root+1)) (first+(2*root+2)) (by omega) (by omega) (by omega) (by omega)).mono ?_;rw [hL1];rintro e w1 ⟨rfl,hS1,hT1⟩;have R1:=HR.out.next hS1 hT1;have d0:=R1.box.c0;have dl:=R1.box.lt;clear HR c0 c1 hl;have HR:=Lib.hid R1;clear R1 hS1 hT1)|(go_at_fn g;refine (HR.out.srt.less HL.out _ _ (first+root) (first+(2*root+1)) (by omega) (by omega) (by omega) (by omega)).mono ?_;rw [hv];rintro e w2 ⟨rfl,hS2,hT2⟩;have R2:=Lib.hid (HR.out.next hS2 hT2);clear hS2 hT2))
      (try simp only [Exit.inBlock,Exit.then]);refine bodyPost_ret (results_none rfl _ _ _) rfl ?_
      have:=HG.out.symm.trans HE.out
      subst this
      exact ⟨rfl,R2.out.srt,R2.out.touch⟩
   ·have h1z:¬(2*(root:Int)+1+1<(hi:Int)):=by omega
    cases hv:lt dk[first+root]! dk[first+(2*root+1)]! with
    | true=>
     have HG:=Lib.hid (show siftDown lt hi first root dk=_ from sd_left_go lt dk (by omega) (fun h=>absurd h h1) hv)
     go_wp2_with ((go_at_fn g;refine (HR.out.srt.less HL.out _ _ (first+root) (first+(2*root+1)) (by omega) (by omega) (by omega) (by omega)).mono ?_;rw [hv];rintro e w2 ⟨rfl,hS2,hT2⟩;have R2:=HR.out.next hS2 hT2;have e1:=R2.box.c1;have el:=R2.box.lt;obtain ⟨w3,hrun,hS3,hT3⟩:=R2.srt.swap HSW.out hk ((first:Int)+(root:Int)) ((first:Int)+(2*(root:Int)+1)) (first+root) (first+(2*root+1)) (by omega) (by omega) (by omega) (by omega);have R3:=Lib.hid (R2.next hS3 hT3);clear R2 hS2 hT2 hS3 hT3))
     go_roundg (hi-(2*root+1))
     case measure=>omega
     case rel=>exact ⟨2*root+1,_,by go_num,by omega,Nat.le_refl _,Lib.hid (HG.out.symm.trans HE.out),R3⟩
    | false=>
     have HG:=Lib.hid (show siftDown lt hi first root dk=_ from sd_left_stop lt dk (by omega) (fun h=>absurd h h1) hv)
     go_wp2_with ((go_at_fn g;refine (HR.out.srt.less HL.out _ _ (first+root) (first+(2*root+1)) (by omega) (by omega) (by omega) (by omega)).mono ?_;rw [hv];rintro e w2 ⟨rfl,hS2,hT2⟩;have R2:=Lib.hid (HR.out.next hS2 hT2);clear hS2 hT2))
     (try simp only [Exit.inBlock,Exit.then]);refine bodyPost_ret (results_none rfl _ _ _) rfl ?_
     have:=HG.out.symm.trans HE.out
     subst this
     exact ⟨rfl,R2.out.srt,R2.out.touch⟩
set_option maxHeartbeats 1000000 in
set_option maxRecDepth 100000 in
theorem heap_any (hk:∀x,(enc x).length=k) (eg:∀args w,(callFunc g args).run Tryz.prog w = .ok (.enter g args) w) (hL:LessB g lb enc k lt w0 blk off n) (hS:SwapSwapsK Tryz.prog sf sb enc k blk off n) (hn:n<4611686018427387904)
 (a b:Nat) (hab:a<=b) (hb:b<=n) (d:Array α) (W:World) (S:Srt enc k w0 blk off n d W) :
 Calls Tryz.prog 159 #[.agg #[.func (.func g) #[] lb,.func (.func sf) #[] sb],.int .i64 (a:Int),.int .i64 (b:Int)] W fun e w'=>
  e = .returned (.tuple #[])/\Srt enc k w0 blk off n (heapSort lt d a b) w'/\Touch (· = blk) W w':=by
 have HSIFT:=Lib.hid (fun lo hi first hlo hb d W S=>sift_any (lo:=lo) (hi:=hi) (first:=first) hk eg hL hS hn hlo hb (d:=d) (W:=W) S)
 have HSW:=Lib.hid hS
 have hst:=half_start hab
 clear hL hS
 have HST:=Lib.hid hst
 have ecast:((b-a:Nat):Int)=(b:Int)-(a:Int):=by omega
 have HEC:=Lib.hid ecast
 clear hst ecast
 go_enter Tryz.func159,Tryz.ntmps159
 go_wp2_with fail
 have R:=Srd.start (x := .func (.func g) #[] lb) (y := .func (.func sf) #[] sb) S 183
 clear S
 go_loopg [9] ((b-a-1)/2+1) (fun kx s9 wr=>s9 = .int .i64 ((kx:Int)-1)/\kx<=(b-a-1)/2+1/\∃(dk:Array α),Hid (heapBuild lt (b-a) a kx dk=heapBuild lt (b-a) a ((b-a-1)/2+1) d)/\Hid (Srd enc k w0 blk off n (.func (.func g) #[] lb) (.func (.func sf) #[] sb) W dk wr))
 case atStart=>exact ⟨congrArg (Value.int .i64) HST.out,Nat.le_refl _,d,rfl,R⟩
 case round=>
  clear R
  obtain ⟨rfl,h1,dk,HE,HR⟩:=hrel
  have c0:=HR.out.box.c0
  have c1:=HR.out.box.c1
  have hl:=HR.out.box.lt
  cases gk with
  | zero=>
   go_wp2_with fail
   rename World=>wo
   go_loopg [10] (b-a) (fun kx s10 wr=>s10 = .int .i64 ((kx:Int)-1)/\kx<=b-a/\∃(dj:Array α),Hid (heapPop lt a kx dj=heapPop lt a (b-a) dk)/\Hid (Srd enc k w0 blk off n (.func (.func g) #[] lb) (.func (.func sf) #[] sb) W dj wr))
   case atStart=>exact ⟨congrArg (Value.int .i64) (by have:=HEC.out;omega),Nat.le_refl _,dk,rfl,HR⟩
   case round=>
    clear HR c0 c1 hl
    obtain ⟨rfl,h2,dj,HE2,HR⟩:=hrel
    have c0:=HR.out.box.c0
    have c1:=HR.out.box.c1
    have hl:=HR.out.box.lt
    cases gk with
    | zero=>
     go_wp2
     go_end0
     have e:dj=heapSort lt d a b:=by
      rw [heapSort,<-HE.out]
      exact HE2.out
     subst e
     exact ⟨rfl,HR.out.srt,HR.out.touch⟩
    | succ kx=>
     obtain ⟨w3,hrun,hS3,hT3⟩:=HR.out.srt.swap HSW.out hk (a:Int) ((a:Int)+(kx:Int)) a (a+kx) (by omega) (by omega) (by omega) (by omega)
     have R3:=HR.out.next hS3 hT3
     have d0:=R3.box.c0
     have d1:=R3.box.c1
     have dl:=R3.box.lt
     have HR3:=Lib.hid R3
     clear R3 hS3 hT3
     go_wp2_with fail
     refine (HSIFT.out 0 kx a (by omega) (by omega) _ _ HR3.out.srt).mono ?_
     rintro e w4 ⟨rfl,hS4,hT4⟩
     have R4:=Lib.hid (HR3.out.next hS4 hT4)
     clear hS4 hT4
     go_wp2_with fail
     go_roundg kx
     case measure=>omega
     case rel=>exact ⟨rfl,by omega,_,HE2,R4⟩
  | succ kx=>
   go_wp2_with fail
   have hcall:=HSIFT.out kx (b-a) a (by omega) (by omega) _ _ HR.out.srt
   rw [HEC.out] at hcall
   refine hcall.mono ?_
   clear hcall
   rintro e w4 ⟨rfl,hS4,hT4⟩
   have R4:=Lib.hid (HR.out.next hS4 hT4)
   clear hS4 hT4
   go_wp2_with fail
   go_roundg kx
   case measure=>omega
   case rel=>exact ⟨rfl,by omega,_,HE,R4⟩
end
section
variable {α:Type} [Inhabited α] {enc:α->List Value} {k:Nat} {w0:World} {blk off n:Nat} {lt:α->α->Bool} {g:Nat} {lb:Array Value} {sfn:Fn} {sa sb:Array Value}
theorem holdsK_block {W W':World} {d:Array α} (h:HoldsK enc k W blk off d) (hb:W'.heap[blk]? = W.heap[blk]?):HoldsK enc k W' blk off d:=by
 intro j hj
 obtain ⟨h1,h2⟩:=h j hj
 exact ⟨(World.cell?_of_block hb).trans h1,(World.frozen?_of_block hb).trans h2⟩
theorem Srt.moved {W W':World} {d:Array α} {T:Nat->Prop} (S:Srt enc k w0 blk off n d W) (t:Touch T W W') (hT:∀j,T j->w0.heap.size<=j):Srt enc k w0 blk off n d W':=by
 have hl:=S.lt
 refine ⟨S.size,holdsK_block S.holds (t.block blk S.lt2 (fun h=>by have:=hT _ h;omega)),⟨t.os.trans S.touch.os,t.tape.trans S.touch.tape,t.output.trans S.touch.output,Nat.le_trans S.touch.size t.size,fun j hj hn => ?_⟩,S.lt⟩
 exact (t.block j (Nat.lt_of_lt_of_le hj S.touch.size) (fun h=>by have:=hT _ h;omega)).trans (S.touch.block j hj hn)
theorem Srt.lessB {W:World} {d:Array α} (S:Srt enc k w0 blk off n d W) (hL:LessB g lb enc k lt w0 blk off n) (x y:Int) (i j:Nat) (hi:i<n) (hj:j<n) (hx:(i:Int)=x) (hy:(j:Int)=y) :
 Calls Tryz.prog g (#[.int .i64 x,.int .i64 y]++lb) W fun e w'=>e = .returned (.bool (lt d[i]! d[j]!))/\RowKit.Below W.heap.size W w':=by
 subst hx hy
 exact hL W d S i j hi hj
structure Ctr (cb s:Nat) (W:World):Prop where
 c:W.cell? ⟨cb,0,none⟩=some (.int .i64 (s:Int))
 f:W.frozen? ⟨cb,0,none⟩=false
 lt:cb<W.heap.size
theorem Ctr.below {cb s:Nat} {W W':World} (h:Ctr cb s W) (t:RowKit.Below W.heap.size W W'):Ctr cb s W':=
 ⟨(t.cell (p:=⟨cb,0,none⟩) h.lt).trans h.c,(t.frozen (p:=⟨cb,0,none⟩) h.lt).trans h.f,Nat.lt_of_lt_of_le h.lt t.size⟩
theorem Ctr.set {cb s:Nat} {W:World} (h:Ctr cb s W) (t:Nat) (x:Int) (hx:x=(t:Int)):Ctr cb t (W.setCell ⟨cb,0,none⟩ (.int .i64 x))/\Touch (· = cb) W (W.setCell ⟨cb,0,none⟩ (.int .i64 x)):=by
 subst hx
 refine ⟨⟨?_,?_,by simpa using h.lt⟩,?_⟩
 ·exact World.cell?_setCell_same _ _ _ h.c
 ·rw [World.frozen?_setCell]
  exact h.f
 ·rw [setCell_eq]
  refine ⟨rfl,rfl,rfl,by simp [mapBlock],fun j hj hn => ?_⟩
  show (W.heap.modify cb _)[j]? = W.heap[j]?
  rw [Array.getElem?_modify,if_neg (fun e=>hn e.symm)]
set_option maxHeartbeats 1000000 in
set_option maxRecDepth 100000 in
theorem order2_any (eg:∀args w,(callFunc g args).run Tryz.prog w = .ok (.enter g args) w) (hL:LessB g lb enc k lt w0 blk off n)
 (a b s cb:Nat) (ha:a<n) (hb:b<n) (hs:s<=1000000) (d:Array α) (W:World) (S:Srt enc k w0 blk off n d W) (K:Ctr cb s W) :
 Calls Tryz.prog 188 #[.agg #[.func (.func g) #[] lb,.func sfn sa sb],.int .i64 (a:Int),.int .i64 (b:Int),.pointer (some ⟨cb,0,none⟩)] W fun e w'=>
  e = .returned (.tuple #[.int .i64 ((order2 lt d a b s).1:Nat),.int .i64 ((order2 lt d a b s).2.1:Nat)])/\Touch (· = cb) W w'/\Ctr cb (order2 lt d a b s).2.2 w':=by
 have HL:=Lib.hid hL
 clear hL
 cases hv:lt d[b]! d[a]! with
 | true=>
  rw [show order2 lt d a b s=(b,a,s+1) by simp [order2,hv]]
  go_enter Tryz.func188,Tryz.ntmps188
  go_wp2_with fail
  have R:=Srd.start (x := .func (.func g) #[] lb) (y := .func sfn sa sb) S 183
  have hw1:RowKit.Below W.heap.size W (W.alloc (.cells #[.func (.func g) #[] lb,.func sfn sa sb] 183)):=by go_grown
  have K1:=K.below hw1
  have c0:=R.box.c0
  have hl:=R.box.lt
  have HR:=Lib.hid R
  have HK:=Lib.hid K1
  clear S K R K1
  go_wp2_with (go_at_fn g;refine (HR.out.srt.lessB HL.out _ _ b a hb ha rfl rfl).mono ?_;rw [hv];rintro e w2 ⟨rfl,hb2⟩;have hw2:=hw1.trans (hb2.mono hw1.size);have K2:=HK.out.below hb2;have k0:=K2.c;have k1:=K2.f;have k2:=K2.lt;have HK2:=Lib.hid K2;clear K2)
  go_ret2
  have hN:=HK2.out.set (s+1) ((s:Int)+1) (by omega)
  exact ⟨rfl,(Touch.quiet hw2).trans hN.2,hN.1⟩
 | false=>
  rw [show order2 lt d a b s=(a,b,s) by simp [order2,hv]]
  go_enter Tryz.func188,Tryz.ntmps188
  go_wp2_with fail
  have R:=Srd.start (x := .func (.func g) #[] lb) (y := .func sfn sa sb) S 183
  have hw1:RowKit.Below W.heap.size W (W.alloc (.cells #[.func (.func g) #[] lb,.func sfn sa sb] 183)):=by go_grown
  have K1:=K.below hw1
  have c0:=R.box.c0
  have hl:=R.box.lt
  have HR:=Lib.hid R
  have HK:=Lib.hid K1
  clear S K R K1
  go_wp2_with (go_at_fn g;refine (HR.out.srt.lessB HL.out _ _ b a hb ha rfl rfl).mono ?_;rw [hv];rintro e w2 ⟨rfl,hb2⟩;have hw2:=hw1.trans (hb2.mono hw1.size);have HK2:=Lib.hid (HK.out.below hb2))
  go_ret2
  exact ⟨rfl,.quiet hw2,HK2.out⟩
theorem ord_lt (lt:α->α->Bool) (d:Array α) {a b m:Nat} (s:Nat) (ha:a<m) (hb:b<m):(order2 lt d a b s).1<m/\(order2 lt d a b s).2.1<m/\(order2 lt d a b s).2.2<=s+1:=by
 unfold order2
 split
 ·exact ⟨hb,ha,Nat.le_refl _⟩
 ·exact ⟨ha,hb,Nat.le_succ _⟩
theorem med_lt (lt:α->α->Bool) (d:Array α) {a b c m:Nat} (s:Nat) (ha:a<m) (hb:b<m) (hc:c<m):(median lt d a b c s).1<m/\(median lt d a b c s).2<=s+3:=by
 have h1:=ord_lt lt d s ha hb
 have h2:=ord_lt lt d (order2 lt d a b s).2.2 h1.2.1 hc
 have h3:=ord_lt lt d (order2 lt d (order2 lt d a b s).2.1 c (order2 lt d a b s).2.2).2.2 h1.1 h2.1
 have h4:=h2.2.2
 have h5:=h1.2.2
 exact ⟨h3.2.1,Nat.le_trans (show (median lt d a b c s).2<=_ from h3.2.2) (by omega)⟩
set_option maxHeartbeats 1000000 in
set_option maxRecDepth 100000 in
theorem median_any (eg:∀args w,(callFunc g args).run Tryz.prog w = .ok (.enter g args) w) (hL:LessB g lb enc k lt w0 blk off n)
 (a b c s cb:Nat) (ha:a<n) (hb:b<n) (hc:c<n) (hs:s<=999000) (hcb:w0.heap.size<=cb) (d:Array α) (W:World) (S:Srt enc k w0 blk off n d W) (K:Ctr cb s W) :
 Calls Tryz.prog 182 #[.agg #[.func (.func g) #[] lb,.func sfn sa sb],.int .i64 (a:Int),.int .i64 (b:Int),.int .i64 (c:Int),.pointer (some ⟨cb,0,none⟩)] W fun e w'=>
  e = .returned (.int .i64 ((median lt d a b c s).1:Nat))/\Touch (· = cb) W w'/\Ctr cb (median lt d a b c s).2 w':=by
 have HO:=Lib.hid (fun a b s ha hb hs W S K=>order2_any (sfn:=sfn) (sa:=sa) (sb:=sb) eg hL a b s cb ha hb hs d W S K)
 have l1:=ord_lt lt d s ha hb
 obtain ⟨r1,e1⟩:∃r,r=order2 lt d a b s:=⟨_,rfl⟩
 rw [<-e1] at l1
 have l2:=ord_lt lt d r1.2.2 l1.2.1 hc
 obtain ⟨r2,e2⟩:∃r,r=order2 lt d r1.2.1 c r1.2.2:=⟨_,rfl⟩
 rw [<-e2] at l2
 have l3:=ord_lt lt d r2.2.2 l1.1 l2.1
 obtain ⟨r3,e3⟩:∃r,r=order2 lt d r1.1 r2.1 r2.2.2:=⟨_,rfl⟩
 rw [<-e3] at l3
 have em:median lt d a b c s=(r3.2.1,r3.2.2):=by
  unfold median
  simp only [<-e1]
  simp only [<-e2]
  simp only [<-e3]
 rw [em]
 have E1:=Lib.hid e1
 have E2:=Lib.hid e2
 have E3:=Lib.hid e3
 obtain ⟨q1,q2,q3⟩:=r1
 obtain ⟨u1,u2,u3⟩:=r2
 obtain ⟨v1,v2,v3⟩:=r3
 simp only at l1 l2 l3
 obtain ⟨l1a,l1b,l1c⟩:=l1
 obtain ⟨l2a,l2b,l2c⟩:=l2
 obtain ⟨l3a,l3b,l3c⟩:=l3
 have hcl:=K.lt
 clear e1 e2 e3 em hL
 go_enter Tryz.func182,Tryz.ntmps182
 go_wp2_with fail
 have hw1:RowKit.Below W.heap.size W (W.alloc (.cells #[.func (.func g) #[] lb,.func sfn sa sb] 183)):=by go_grown
 have B1:Bxd (.func (.func g) #[] lb) (.func sfn sa sb) W.heap.size cb (W.alloc (.cells #[.func (.func g) #[] lb,.func sfn sa sb] 183)):=⟨by simp,by simp,by simp,by omega⟩
 have K1:=K.below hw1
 have S1:=S.below hw1
 clear S K
 refine (HO.out a b s ha hb (by omega) _ S1 K1).mono ?_
 rw [<-E1.out]
 rintro e w2 ⟨rfl,hT2,K2⟩
 have S2:=S1.moved hT2 (by rintro j rfl;exact hcb)
 have B2:=B1.touch hT2
 have HT2:=Lib.hid ((Touch.quiet (S:=(· = cb)) hw1).trans hT2)
 have c0:=B2.c0
 have c1:=B2.c1
 have hl:=B2.lt
 clear K1 S1 B1 hT2 hw1
 go_wp2_with fail
 refine (HO.out q2 c q3 l1b hc (by omega) _ S2 K2).mono ?_
 rw [<-E2.out]
 rintro e w3 ⟨rfl,hT3,K3⟩
 have S3:=S2.moved hT3 (by rintro j rfl;exact hcb)
 have B3:=B2.touch hT3
 have HT3:=Lib.hid (HT2.out.trans hT3)
 have c0:=B3.c0
 have c1:=B3.c1
 have hl:=B3.lt
 clear K2 S2 B2 hT3 HT2
 go_wp2_with fail
 refine (HO.out q1 u1 u3 l1a l2a (by omega) _ S3 K3).mono ?_
 rw [<-E3.out]
 rintro e w4 ⟨rfl,hT4,K4⟩
 have HT4:=Lib.hid (HT3.out.trans hT4)
 clear hT4
 go_wp2
 go_ret
 exact ⟨rfl,HT4.out,K4⟩
set_option maxHeartbeats 1000000 in
set_option maxRecDepth 100000 in
theorem medAdj_any (eg:∀args w,(callFunc g args).run Tryz.prog w = .ok (.enter g args) w) (hL:LessB g lb enc k lt w0 blk off n) (hn:n<4611686018427387904)
 (a s cb:Nat) (ha1:1<=a) (ha2:a+1<n) (hs:s<=999000) (hcb:w0.heap.size<=cb) (d:Array α) (W:World) (S:Srt enc k w0 blk off n d W) (K:Ctr cb s W) :
 Calls Tryz.prog 181 #[.agg #[.func (.func g) #[] lb,.func sfn sa sb],.int .i64 (a:Int),.pointer (some ⟨cb,0,none⟩)] W fun e w'=>
  e = .returned (.int .i64 ((medianAdjacent lt d a s).1:Nat))/\Touch (· = cb) W w'/\Ctr cb (medianAdjacent lt d a s).2 w':=by
 have HM:=Lib.hid (fun W S K=>median_any (sfn:=sfn) (sa:=sa) (sb:=sb) eg hL (a-1) a (a+1) s cb (by omega) (by omega) (by omega) hs hcb d W S K)
 have hcl:=K.lt
 clear hL
 go_enter Tryz.func181,Tryz.ntmps181
 go_wp2_with fail
 have hw1:RowKit.Below W.heap.size W (W.alloc (.cells #[.func (.func g) #[] lb,.func sfn sa sb] 183)):=by go_grown
 have hc:=HM.out _ (S.below hw1) (K.below hw1)
 rw [show ((a-1:Nat):Int)=(a:Int)-1 by omega,show ((a+1:Nat):Int)=(a:Int)+1 by omega] at hc
 refine hc.mono ?_
 clear hc
 rintro e w2 ⟨rfl,hT2,K2⟩
 have HT2:=Lib.hid ((Touch.quiet (S:=(· = cb)) hw1).trans hT2)
 clear hT2 hw1
 go_wp2
 go_ret
 exact ⟨rfl,HT2.out,K2⟩
end
end Go.Proofs.YtgfjmgebecmbiaaGreat
