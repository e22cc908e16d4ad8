import Derived.Test.YtpdphfgpdgadpaaGreatTouch
import Derived.Shelf.GgSortFunc.SmallK
import Derived.Shelf.SlSortFuncK.RowK2
import Derived.Sort.WalkB3
import Derived.Deep.DeepCutAuto
import Derived.Sort.Walk13
import Derived.Sort.WalkC4
import Derived.Deep.CutBlock
import Derived.Sort.WalkA6
import Derived.Test.YtpdphfgpdgadpaaGreatW12e
import Derived.Sort.AssemblyPlain
import Derived.Shelf.GgSortFunc.Tiny
import Derived.Test.YtpdphfgpdgadpaaGreatStb2
import Derived.Test.YtpdphfgpdgadpaaGreatW12l
import Derived.Test.YtpdphfgpdgadpaaGreatRT9
import Derived.Test.YtpdphfgpdgadpaaGreatL22d
set_option linter.unusedSimpArgs false
set_option linter.unusedVariables false
set_option maxHeartbeats 2000000
set_option maxRecDepth 100000
open Go.Proofs.Tryz
namespace Go.Proofs.YtpdphfgpdgadpaaGreat
open Lib(hid)
section
open Go.RowKit Go.Sort M
section
variable {α:Type} [Inhabited α] {enc:α->List Value} {k:Nat} {w0 W W':World} {blk off n:Nat} {d d':Array α} {lt:α->α->Bool} {g:Nat} {lb:Array Value} {sf:Nat} {sb:Array Value}
theorem Zo8 (h:HoldsK enc k W blk off d) (a:blk<W.heap.size) (b:RowKit.Below W.heap.size W W'):HoldsK enc k W' blk off d:=by intro j c;obtain ⟨f,e⟩:=h j c;exact ⟨(b.cell (p:=⟨blk,off+j,none⟩) a).trans f,(b.frozen (p:=⟨blk,off+j,none⟩) a).trans e⟩
structure Srt (enc:α->List Value) (k:Nat) (w0:World) (blk off n:Nat) (d:Array α) (W:World):Prop where
 size:d.size=n
 holds:HoldsK enc k W blk off d
 touch:Touch (· = blk) w0 W
 lt:blk<w0.heap.size
theorem Srt.lt2 (S:Srt enc k w0 blk off n d W):blk<W.heap.size:=Qm S.lt S.touch.size
theorem Srt.below (S:Srt enc k w0 blk off n d W) (a:RowKit.Below W.heap.size W W'):Srt enc k w0 blk off n d W':=⟨S.size,Zo8 S.holds S.lt2 a,S.touch.trans (.quiet a),S.lt⟩
theorem Srt.start (h:HoldsK enc k W blk off d) (b:blk<W.heap.size) (a:d.size=n):Srt enc k W blk off n d W:=⟨a,h,Touch.refl _ _,b⟩
def Ea (g:Nat) (lb:Array Value) (enc:α->List Value) (k:Nat) (lt:α->α->Bool) (w0:World) (blk off n:Nat):Prop:=
 ∀(W:World) (d:Array α),Srt enc k w0 blk off n d W->∀i j:Nat,i<n->j<n->Calls prog g (#[.int .i64 (i:Int),.int .i64 (j:Int)]++lb) W λe w'=>e = .returned (.bool (lt d[i]! d[j]!))/\RowKit.Below W.heap.size W w'
theorem Srt.less (S:Srt enc k w0 blk off n d W) (l:Ea g lb enc k lt w0 blk off n) (x y:Int) (i j:Nat) (hi:i<n) (f:j<n) (c:(i:Int)=x) (b:(j:Int)=y) :
 Calls prog g (#[.int .i64 x,.int .i64 y]++lb) W λe w'=>e = .returned (.bool (lt d[i]! d[j]!))/\Srt enc k w0 blk off n d w'/\Touch (· = blk) W w':=by
 subst c b;exact (l W d S i j hi f).mono λ_ _ ⟨h,a⟩=>⟨h,S.below a,.quiet a⟩
theorem Yr (W:World) (d:Array α):Touch (· = blk) W (putRowK enc k W blk off d):=by refine ⟨rfl,rfl,rfl,Nat.le_of_eq (size_putRowK enc k W blk off d).symm,λj b a => ?_⟩;show (W.heap.modify blk _)[j]? = W.heap[j]?;rw [Array.getElem?_modify,if_neg (λe=>a e.symm)]
theorem Srt.swap (S:Srt enc k w0 blk off n d W) (l:SwapSwapsK prog sf sb enc k blk off n) (c:∀x,(enc x).length=k) (x y:Int) (i j:Nat) (hi:i<n) (f:j<n) (b:(i:Int)=x) (a:(j:Int)=y) :
 ∃w',(callFunc sf (#[.int .i64 x,.int .i64 y]++sb)).run prog W = .ok (.value (.tuple #[])) w'/\Srt enc k w0 blk off n (swp d i j) w'/\Touch (· = blk) W w':=by
 subst b a;have m:=S.size;have h:=l W d S.holds S.size i j hi f;have e:=putRowK_swp enc k c W blk off d i j Qa Qa;rw [putRowK_self enc k W blk off d S.holds] at e;rw [e] at h;exact ⟨_,h,⟨by rw [size_swp];exact S.size,holdsK_putRowK enc k W blk off d _ S.holds (size_swp _ _ _),S.touch.trans (Yr W _),S.lt⟩,Yr W _⟩
structure Bxd (x y:Value) (B blk:Nat) (W:World):Prop where
 c0:W.cell? ⟨B,0,none⟩=some x
 c1:W.cell? ⟨B,1,none⟩=some y
 lt:B<W.heap.size
 ne:B≠blk
theorem Bxd.touch {x y:Value} {B:Nat} (h:Bxd x y B blk W) (t:Touch (· = blk) W W'):Bxd x y B blk W':=⟨t.cell h.c0 h.ne,t.cell h.c1 h.ne,Qm h.lt t.size,h.ne⟩
structure Srd (enc:α->List Value) (k:Nat) (w0:World) (blk off n:Nat) (x y:Value) (W:World) (d:Array α) (wr:World):Prop where
 srt:Srt enc k w0 blk off n d wr
 touch:Touch (· = blk) W wr
 box:Bxd x y W.heap.size blk wr
theorem Srd.start {x y:Value} (S:Srt enc k w0 blk off n d W) (t:TypeId):Srd enc k w0 blk off n x y W d (W.alloc (.cells #[x,y] t)):=by have a:RowKit.Below W.heap.size W (W.alloc (.cells #[x,y] t)):=Qg;have b:=S.lt2;exact ⟨S.below a,.quiet a,⟨Qf,Qf,Qf,Qa⟩⟩
theorem Srd.next {x y:Value} {wr:World} (R:Srd enc k w0 blk off n x y W d wr) (S:Srt enc k w0 blk off n d' W') (t:Touch (· = blk) wr W'):Srd enc k w0 blk off n x y W d' W':=⟨S,R.touch.trans t,R.box.touch t⟩
end
section
variable {α:Type} [Inhabited α] {enc:α->List Value} {k:Nat} {w0:World} {blk off n:Nat} {lt:α->α->Bool} {g:Nat} {lb:Array Value} {sf:Nat} {sb:Array Value}
theorem Z6c (J:∀x,(enc x).length=k) (eg:∀args w,(callFunc g args).run prog w = .ok (.enter g args) w) (C:Ea g lb enc k lt w0 blk off n) (B:SwapSwapsK prog sf sb enc k blk off n) (Y:n<4611686018427387904)
 (a b:Nat) (N:a<=n) (hb:b<=n) (d:Array α) (W:World) (S:Srt enc k w0 blk off n d W) :
 Calls prog 65 #[.agg #[.func (.func g) #[] lb,.func (.func sf) #[] sb],.int .i64 (a:Int),.int .i64 (b:Int)] W λe w'=>
  e = .returned (.tuple #[])/\Srt enc k w0 blk off n (insertionSort lt d a b) w'/\Touch (· = blk) W w':=by
 have O:=hid C;have t:=hid B;clear C B;have D:insOuter lt a b (a+1) d=insertionSort lt d a b:=rfl;by_cases L:b<=a
 ·rw [<-D,insOuter_stop lt a b (a+1) d Qa];have I:¬((a:Int)+1<(b:Int)):=Qa;go_enter func65,ntmps65;go_wp2_with fail;have R:=Srd.start (x := .func (.func g) #[] lb) (y := .func (.func sf) #[] sb) S 95;refine wp_loop_rounds 1 ?_;rw [rounds_succ];go_wp2;go_end0;exact ⟨rfl,R.srt,R.touch⟩
 ·have ha:a<b:=Qa;go_enter func65,ntmps65;go_wp2_with fail;have R:=Srd.start (x := .func (.func g) #[] lb) (y := .func (.func sf) #[] sb) S 95;clear S;go_loopg [6] (b-a) (λs F wr=>∃(i:Nat) (o:Array α),F = .int .i64 (i:Int)/\a<i/\i<=b/\b-i<=s/\Hid (insOuter lt a b i o=insOuter lt a b (a+1) d)/\Hid (Srd enc k w0 blk off n (.func (.func g) #[] lb) (.func (.func sf) #[] sb) W o wr))
  case atStart=>exact ⟨a+1,d,Qj,Qa,Qa,Qa,rfl,R⟩
  case round=>
   clear R;obtain ⟨i,o,rfl,h1,h2,h3,z,c⟩:=hrel;by_cases hi:i<b
   ·go_wp2
    rename World=>wo
    go_loopg [7] i (λs E wr=>∃(j:Nat) (m:Array α),E = .int .i64 (j:Int)/\a<=j/\j<=i/\j<=s/\Hid (insInner lt a j m=insInner lt a i o)/\Hid (Srd enc k w0 blk off n (.func (.func g) #[] lb) (.func (.func sf) #[] sb) W m wr))
    case atStart=>exact ⟨i,o,rfl,Qa,Qa,Qa,rfl,c⟩
    case round=>
     clear c;obtain ⟨j,m,rfl,X,U,Q,u,c⟩:=hrel;have c0:=c.o.box.c0;have c1:=c.o.box.c1;have Z:=c.o.box.lt;by_cases K:a<j
     ·have f:=c.o.srt.less O.o (j:Int) ((j:Int)-1) j (j-1) Qa Qa rfl Qa;cases r:lt m[j]! m[j-1]! with
      | true=>
       rw [r] at f;go_wp2_with (go_at_fn g;refine f.mono ?_;rintro e w1 ⟨rfl,l,h⟩;have R1:=c.o.next l h;have d1:=R1.box.c1;have f:=R1.box.lt;obtain ⟨w2,A,q,p⟩:=R1.srt.swap t.o J (j:Int) ((j:Int)-1) j (j-1) Qa Qa rfl Qa;have R2:=hid (R1.next q p);clear R1 l h q p);go_roundg (j-1)
       case measure=>omega
       case rel=>exact ⟨j-1,_,Qj,Qa,Qa,Qa,hid ((insInner_go lt a j m K r).symm.trans u.o),R2⟩
      | false=>
       rw [r] at f;go_wp2_with (go_at_fn g;refine f.mono ?_;rintro e w1 ⟨rfl,l,h⟩;have R1:=hid (c.o.next l h);clear l h);go_roundg (b-(i+1))
       case measure=>omega
       case rel=>have:=u.o;rw [insInner_stop lt a j m (.inr r)] at this;exact ⟨i+1,m,Qj,Qa,Qa,Qa,hid (by rw [this,<-insOuter_go lt a b i o hi];exact z.o),R1⟩
     ·go_wp2;go_roundg (b-(i+1))
      case measure=>omega
      case rel=>have:=u.o;rw [insInner_stop lt a j m (.inl Qa)] at this;exact ⟨i+1,m,Qj,Qa,Qa,Qa,hid (by rw [this,<-insOuter_go lt a b i o hi];exact z.o),c⟩
   ·go_wp2;go_end0;have:=z.o;rw [insOuter_stop lt a b i o hi,D] at this;subst this;exact ⟨rfl,c.o.srt,c.o.touch⟩
end
section
variable {α:Type} [Inhabited α] {enc:α->List Value} {k:Nat} {w0:World} {blk off n:Nat} {lt:α->α->Bool} {g:Nat} {lb:Array Value} {sf:Nat} {sb:Array Value}
end
section
variable {α:Type} [Inhabited α] {enc:α->List Value} {k:Nat} {w0:World} {blk off n:Nat} {lt:α->α->Bool} {g:Nat} {lb:Array Value} {sfn:Fn} {sa sb:Array Value}
structure Ctr (cb s:Nat) (W:World):Prop where
 c:W.cell? ⟨cb,0,none⟩=some (.int .i64 (s:Int))
 f:W.frozen? ⟨cb,0,none⟩=false
 lt:cb<W.heap.size
theorem Ctr.below {a s:Nat} {W W':World} (h:Ctr a s W) (t:RowKit.Below W.heap.size W W'):Ctr a s W':=
 ⟨(t.cell (p:=⟨a,0,none⟩) h.lt).trans h.c,(t.frozen (p:=⟨a,0,none⟩) h.lt).trans h.f,Qm h.lt t.size⟩
theorem Ctr.set {a s:Nat} {W:World} (h:Ctr a s W) (t:Nat) (x:Int) (b:x=(t:Int)):Ctr a t (W.setCell ⟨a,0,none⟩ (.int .i64 x))/\Touch (· = a) W (W.setCell ⟨a,0,none⟩ (.int .i64 x)):=by
 subst b;refine ⟨⟨?_,?_,by simpa using h.lt⟩,?_⟩
 ·exact World.cell?_setCell_same _ _ _ h.c
 ·rw [World.frozen?_setCell];exact h.f
 ·rw [setCell_eq];refine ⟨rfl,rfl,rfl,by simp [mapBlock],λj i d => ?_⟩;show (W.heap.modify a _)[j]? = W.heap[j]?;rw [Array.getElem?_modify,if_neg (λe=>d e.symm)]
end
section
variable {α:Type} [Inhabited α] {enc:α->List Value} {k:Nat} {w0:World} {blk off n:Nat} {lt:α->α->Bool} {g:Nat} {lb:Array Value} {sfn:Fn} {sa sb:Array Value}
end
section
variable {α:Type} [Inhabited α] {enc:α->List Value} {k:Nat} {w0:World} {blk off n:Nat} {lt:α->α->Bool} {g:Nat} {lb:Array Value} {sf:Nat} {sb:Array Value}
end
section
variable {α:Type} [Inhabited α] {enc:α->List Value} {k:Nat} {w0:World} {blk off n:Nat} {lt:α->α->Bool} {g:Nat} {lb:Array Value} {sf:Nat} {sb:Array Value}
end
section
variable {α:Type} [Inhabited α] {enc:α->List Value} {k:Nat} {w0:World} {blk off n:Nat} {lt:α->α->Bool} {g:Nat} {lb:Array Value} {sf:Nat} {sb:Array Value}
end
instance:Inhabited Rt:=⟨⟨⟨0,0,0⟩,0⟩⟩
noncomputable def rtT:TypeInfo:=(prog.info? 27).get Qb
noncomputable def rtE:TypeInfo:=(prog.info? 34).get Qb
theorem rtK (n:Nat) (e:2<=n):Lib.swapperK n rtE 25=9:=by have a:rtE.hasPointers=false:=Qb;have b:rtE.bytes=32:=Qb;have c:(n == 0)=false:=Qe;have d:(n == 1)=false:=Qe;unfold Lib.swapperK;rw [c,d,a,b];rfl
theorem Z7w:∀x:Rt,∀v∈Ae x,v.oneCell'=true:=by intro x v a;simp only [Ae,List.mem_cons,List.not_mem_nil,or_false] at a;rcases a with rfl | rfl | rfl | rfl<;>rfl
theorem Zzh {w:World} {B c:Nat} {blk:Nat} {L:List Rt} (h:w.ownsRow B 34 4 (.slice (some ⟨blk,0,none⟩) L.length c) L.length (rcs L)):HoldsK Ae 4 w blk 0 L.toArray:=by
 intro j d;have a:j<L.length*4:=by simpa using d
 have e:(rcs L)[j]? = some (flatK Ae 4 L.toArray)[j]! := by rw [get_flatK _ _ _ _ (by simpa using a)];have:=Da L (j/4) (j%4) Qa (Nat.mod_lt _ Qd);rw [show j/4*4+j%4=j by omega] at this;rw [this,getElem!_pos L.toArray (j/4) Qe];have b:j%4<(Ae L[j/4]).length:=Nat.mod_lt _ Qd;simp only [List.getElem_toArray];rw [Qr b,getElem!_pos (Ae L[j/4]) (j%4) b]
 rw [Nat.zero_add];exact ⟨(h.cellAt j Qa).trans e,h.frozenAt j⟩
theorem Zxj {w:World} {blk:Nat} {L:List Rt} (h:HoldsK Ae 4 w blk 0 L.toArray) (d:blk<w.heap.size):Row w (some ⟨blk,0,none⟩) (rcs L):=by
 refine .inr ⟨blk,0,rfl,d,λj u b => ?_⟩;have a:j<L.length*4:=by rw [<-Bd];exact (List.getElem?_eq_some_iff.1 b).1
 have:=(h j (by simpa using a)).1;rw [this];rw [get_flatK _ _ _ _ (by simpa using a)];have e:=Da L (j/4) (j%4) Qa (Nat.mod_lt _ Qd);rw [show j/4*4+j%4=j by omega,b] at e;have c:j%4<(Ae L[j/4]).length:=Nat.mod_lt _ Qd;rw [getElem!_pos L.toArray (j/4) Qe];simp only [List.getElem_toArray];rw [Qr c] at e;show some (Ae L[j/4])[j%4]! = _;rw [getElem!_pos (Ae L[j/4]) (j%4) c];exact e.symm
theorem Ys:∀(L:List Rt) (k:Ky),(Aa L).Nodup->(outS L k).length+(if k∈Aa L then 1 else 0)=L.length
 | [],k,_=>by simp [outS,Aa]
 | a::L,k,h=>by
  have i:a.k∉Aa L/\(Aa L).Nodup:=by
   unfold Aa at *
   rw [List.map_cons,List.nodup_cons] at h;exact h
  have d:=Ys L k i.2;by_cases e:a.k=k
  ·have f:outS (a::L) k=outS L k:=by unfold outS;rw [List.filter_cons,if_neg (by simp [e])]
   have c:k∈Aa (a::L):=by unfold Aa;simp [e]
   have j:k∉Aa L:=by rw [<-e];exact i.1
   rw [f,if_pos c,Qt];rw [if_neg j] at d;omega
  ·have f:outS (a::L) k=a::outS L k:=by unfold outS;rw [List.filter_cons,if_pos (by simp [e])]
   have c:k∈Aa (a::L)↔k∈Aa L:=by unfold Aa;simp [Ne.symm e]
   rw [f,Qt,Qt];by_cases b:k∈Aa L
   ·rw [if_pos (c.2 b)];rw [if_pos b] at d;omega
   ·rw [if_neg (λx=>b (c.1 x))];rw [if_neg b] at d;omega
theorem Kept.nodup {T:Tab} {N:List Rt} (H:Kept T N):(Aa (Ab T)).Nodup:=(Cy H.all).nodup_iff.2 H.sort.nodup
theorem Kept.del_len {T:Tab} {N:List Rt} (H:Kept T N) (k:Ky):(if (delT T k).2=true then ((Ab T).length:Int)-1 else ((Ab T).length:Int))=((Ab (delT T k).1).length:Int):=by
 have h:=Mf H.inv k;have b:=h.2.1.length_eq;have a:=Ys (Ab T) k H.nodup;by_cases e:(delT T k).2=true
 ·rw [if_pos e];rw [if_pos (h.2.2.1 e)] at a;omega
 ·rw [if_neg e];rw [if_neg (λx=>e (h.2.2.2 x))] at a;omega
theorem Seat.del {P:Nat->Prop} (t:Nat) (T:Tab) {N:List Rt} (k:Ky) (w:World) (H:Seat P w t T) (c:Kept T N) (b:k.good) (f:(Ab T).length<262144) (n:∀k,w.heap.size<=k->P k) :
 Calls prog 97 #[.pointer (some ⟨t,0,none⟩),kyV k] w λe w'=>e = .returned (.bool (delT T k).2)/\Seat P w' t (delT T k).1/\Touch P w w':=by
 obtain ⟨g,v,h,d⟩:=H;have l:=I8 T;refine (Zpm t g v T _ k w h c.inv.num b Qa Qa c.inv.sort Qa).mono ?_;rintro e w' ⟨rfl,o,v',i,j,m⟩;rw [c.del_len] at i;refine ⟨rfl,⟨o,v',i,λk a => ?_⟩,j.mono λk _ b=>d k b⟩;by_cases e:k<w.heap.size
 ·exact d k (m k a e)
 ·exact n k Qa
structure Df (w wr:World) (t:Nat) (T:Tab) (N:List Rt) (vn:Value):Prop where
 seat:Seat (λk=>w.heap.size<=k/\vn.ownBlock≠some k) wr t T
 own:wr.ownsRow w.heap.size 34 4 vn N.length (rcs N)
 below:Below w.heap.size w wr
theorem Df.quiet {w wr b:World} {t:Nat} {T:Tab} {N:List Rt} {c:Value} (H:Df w wr t T N c) (a:Below wr.heap.size wr b):Df w b t T N c:=⟨H.seat.below a,own_below H.own a,H.below.trans (a.mono H.below.size)⟩
theorem Df.turn {w wr b:World} {t:Nat} {T d:Tab} {N:List Rt} {a:Value} (H:Df w wr t T N a) (f:Seat (λk=>w.heap.size<=k/\a.ownBlock≠some k) b t d) (c:Touch (λk=>w.heap.size<=k/\a.ownBlock≠some k) wr b):Df w b t d N a:=
 ⟨f,Touch.own H.own c (λj e i=>i.2 e),H.below.trans (c.below H.below.size λk h=>h.1)⟩
theorem Df.row {w wr a:World} {t:Nat} {T:Tab} {N M:List Rt} {f:Value} {p:Option Addr} {c:Nat} (H:Df w wr t T N f) (b:a.ownsRow wr.heap.size 34 4 (.slice p M.length c) M.length (rcs M)) (d:Below wr.heap.size wr a):Df w a t T M (.slice p M.length c):=by refine ⟨(H.seat.mono (Q:=λk=>w.heap.size<=k/\(Value.slice p M.length c).ownBlock≠some k) λk i h=>⟨h.1,λe => ?_⟩).below d,A7 b H.below.size,H.below.trans (d.mono H.below.size)⟩;have:=(b.lt k e).1;omega
theorem Df.new {w wr:World} {t:Nat} {T:Tab} {N:List Rt} {a:Value} (H:Df w wr t T N a):∀k,wr.heap.size<=k->w.heap.size<=k/\a.ownBlock≠some k:=by intro k b;exact ⟨Qw H.below.size b,λe=>by have:=(H.own.lt k e).2;omega⟩
end
section
open Go Go.RowKit Go.Sort M
theorem Cu.touched {w w':World} {K S:Nat->Prop} {t:Nat} {V:Lv} {lo hi f g u b:Nat} {v:Value} (H:Cu w K t V lo hi f g u b v) (a:Touch S w w') (c:∀j,K j->¬S j):Cu w' K t V lo hi f g u b v:=
 ⟨Qm H.lt a.size,a.cell H.c0 (c _ H.kt),a.cell H.c1 (c _ H.kt),a.cell H.c2 (c _ H.kt),H.fil.touched a (λj h e=>c _ (H.kf j ⟨h,e⟩)),H.tab.touched Jl a (λj d=>c _ (H.kb j d)),H.kt,H.kf,H.kb,H.tf,H.tb,H.fb⟩
theorem Cu.below {w w':World} {K:Nat->Prop} {t:Nat} {V:Lv} {lo hi f g u b:Nat} {v:Value} (H:Cu w K t V lo hi f g u b v) (a:Below w.heap.size w w'):Cu w' K t V lo hi f g u b v:=H.touched (S:=λ_=>False) (Touch.quiet a) (λ_ _ x=>x)
theorem Cu.mono {w:World} {K K':Nat->Prop} {t:Nat} {V:Lv} {lo hi f g u b:Nat} {v:Value} (H:Cu w K t V lo hi f g u b v) (h:∀j,K j->K' j):Cu w K' t V lo hi f g u b v:=
 ⟨H.lt,H.c0,H.c1,H.c2,H.fil,H.tab,h _ H.kt,λj a=>h _ (H.kf j a),λj a=>h _ (H.kb j a),H.tf,H.tb,H.fb⟩
theorem Cu.fil_step {w w':World} {K:Nat->Prop} {t:Nat} {V:Lv} {lo hi f g u b:Nat} {v:Value} {c:List Nat} (H:Cu w K t V lo hi f g u b v) (i:RFil w' lo hi f g V.s V.k c) (a:Touch (In lo hi) w w') :
 Cu w' K t { V with C:=c } lo hi f g u b v/\Touch K w w':=
 ⟨⟨Qm H.lt a.size,a.cell H.c0 H.tf,a.cell H.c1 H.tf,a.cell H.c2 H.tf,i,H.tab.touched Jl a (λj h d=>H.fb j h d),H.kt,H.kf,H.kb,H.tf,H.tb,H.fb⟩,a.mono λk _ e=>H.kf k e⟩
def Oi (w wr:World) (K:Nat->Prop) (t:Nat) (V:Lv) (N:List Rt):Prop:=LvOk V N/\∃K',RLev wr K' t V/\Touch K w wr/\∀g,K' g->K g\/In w.heap.size wr.heap.size g
theorem Oi.below {w wr w':World} {K:Nat->Prop} {t:Nat} {V:Lv} {N:List Rt} (h:Oi w wr K t V N) (a:Below wr.heap.size wr w'):Oi w w' K t V N:=by
 obtain ⟨f,K',e,d,c⟩:=h;refine ⟨f,K',e.below a,d.trans (.quiet a),λg b => ?_⟩;rcases c g b with h | h
 ·exact .inl h
 ·exact .inr ⟨h.1,Qm h.2 a.size⟩
theorem Bq {a b c:World} {K e:Nat->Prop} (h:Touch K a b) (f:∀g,e g->K g\/a.heap.size<=g) (k:Touch e b c):Touch K a c:=
 ⟨k.os.trans h.os,k.tape.trans h.tape,k.output.trans h.output,Qw h.size k.size,λi hi d=>(k.block i (Qm hi h.size) (λx=>by
  rcases f i x with h | h
  ·exact d h
  ·omega)).trans (h.block i hi d)⟩
structure LevB (w:World) (K:Nat->Prop) (t:Nat) (V:Lv) (lo hi f u:Nat):Prop where
 lt:t<w.heap.size
 c0:w.cell? ⟨t,0,none⟩=some (.int .i64 V.n)
 c1:w.cell? ⟨t,1,none⟩=some (.pointer (some ⟨f,0,none⟩))
 c2:w.cell? ⟨t,2,none⟩=some (.pointer (some ⟨u,0,none⟩))
 fil:Fil w lo hi f V.s V.k V.C
 tab:Seat (λj=>K j/\¬In lo hi j/\j≠t) w u V.T
 kt:K t
 kf:∀j,In lo hi j->K j
 tf:¬In lo hi t
 pos:1<=V.C.length
def LevP (w:World) (K:Nat->Prop) (t:Nat) (V:Lv):Prop:=∃lo hi f u,LevB w K t V lo hi f u
section
variable {w w':World} {K S:Nat->Prop} {t:Nat} {V:Lv} {lo hi f u:Nat}
theorem LevB.top (H:LevB w K t V lo hi f u):hi<=w.heap.size:=by obtain ⟨_,_,_,_,h⟩:=H.fil;exact h.top
theorem LevB.touched (H:LevB w K t V lo hi f u) (a:Touch S w w') (b:∀j,K j->¬S j):LevB w' K t V lo hi f u:=
 ⟨Qm H.lt a.size,a.cell H.c0 (b _ H.kt),a.cell H.c1 (b _ H.kt),a.cell H.c2 (b _ H.kt),H.fil.touched a (λj e d=>b _ (H.kf j ⟨e,d⟩)),H.tab.touched a (λj c=>b _ c.1),H.kt,H.kf,H.tf,H.pos⟩
theorem LevB.below (H:LevB w K t V lo hi f u) (a:Below w.heap.size w w'):LevB w' K t V lo hi f u:=H.touched (S:=λ_=>False) (Touch.quiet a) (λ_ _ x=>x)
theorem LevB.old (H:LevB w K t V lo hi f u):LevB w (λj=>K j/\j<w.heap.size) t V lo hi f u:=
 ⟨H.lt,H.c0,H.c1,H.c2,H.fil,H.tab.mono λ_ a h=>⟨⟨h.1,a⟩,h.2⟩,⟨H.kt,H.lt⟩,λj a=>⟨H.kf j a,Qm a.2 H.top⟩,H.tf,H.pos⟩
def Kp (w:World) (K:Nat->Prop) (t lo hi:Nat) (j:Nat):Prop:=(K j\/w.heap.size<=j)/\¬In lo hi j/\j≠t
theorem LevB.seat (H:LevB w K t V lo hi f u):Seat (Kp w K t lo hi) w u V.T:=H.tab.mono λ_ _ h=>⟨.inl h.1,h.2⟩
theorem LevB.fresh (H:LevB w K t V lo hi f u):∀j,w.heap.size<=j->Kp w K t lo hi j:=λj a=>⟨.inr a,λh=>by
 have:=h.2
 have:=H.top
 omega,λh=>by
 have:=H.lt
 omega⟩
theorem LevB.tab_step {c:Tab} (H:LevB w K t V lo hi f u) (d:Seat (Kp w K t lo hi) w' u c) (a:Touch (Kp w K t lo hi) w w') :
 LevB w' (λj=>K j\/In w.heap.size w'.heap.size j) t { V with T:=c } lo hi f u/\Touch K w w':=by
 refine ⟨⟨Qm H.lt a.size,a.cell H.c0 (λh=>h.2.2 rfl),a.cell H.c1 (λh=>h.2.2 rfl),a.cell H.c2 (λh=>h.2.2 rfl),H.fil.touched a (λj i e h=>h.2.1 ⟨i,e⟩),d.mono λj b h=>⟨?_,h.2⟩,.inl H.kt,λj b => .inl (H.kf j b),H.tf,H.pos⟩,a.mono λj b h => ?_⟩
 ·rcases h.1 with h | h
  ·exact .inl h
  ·exact .inr ⟨h,b⟩
 ·rcases h.1 with h | h
  ·exact h
  ·omega
theorem LevB.fil_step {b:List Nat} (H:LevB w K t V lo hi f u) (h:Fil w' lo hi f V.s V.k b) (a:Touch (In lo hi) w w') (i:b.length=V.C.length) :
 LevB w' K t { V with C:=b } lo hi f u/\Touch K w w':=
 ⟨⟨Qm H.lt a.size,a.cell H.c0 H.tf,a.cell H.c1 H.tf,a.cell H.c2 H.tf,h,H.tab.touched a (λj e c=>e.2.1 c),H.kt,H.kf,H.tf,by show 1<=b.length;have:=H.pos;omega⟩,a.mono λk _ d=>H.kf k d⟩
end
theorem LevP.touched {w w':World} {K S:Nat->Prop} {t:Nat} {V:Lv} (H:LevP w K t V) (a:Touch S w w') (b:∀j,K j->¬S j):LevP w' K t V:=by obtain ⟨lo,hi,f,u,H⟩:=H;exact ⟨lo,hi,f,u,H.touched a b⟩
theorem LevP.below {w w':World} {K:Nat->Prop} {t:Nat} {V:Lv} (H:LevP w K t V) (a:Below w.heap.size w w'):LevP w' K t V:=H.touched (S:=λ_=>False) (Touch.quiet a) (λ_ _ x=>x)
theorem Zvc (n k m b:Int) (s:Nat) (w:World) (o:W64 s) (h:badV n k m b) :
 Calls prog 35 #[.int .i64 n,.int .u64 (s:Int),.int .i64 k,.int .i64 m,.int .i64 b] w λe w'=>e = .returned (.tuple #[.pointer none,.int .i64 1])/\Below w.heap.size w w':=by
 unfold badV at h;by_cases t:n<1
 ·go_enter func35,ntmps35;go_wp2;go_ret2;exact ⟨rfl,Qg⟩
 ·by_cases r:128<n
  ·go_enter func35,ntmps35;go_wp2;go_ret2;exact ⟨rfl,Qg⟩
  ·by_cases d:1<=k/\k<=16/\1<=m/\m<=65536
   ·have hF:=hid (Vq s k m o d.1 d.2.1 d.2.2.1 d.2.2.2 w);have p:=hid (J2 s o);have q:=hid (λW=>Z50 (mixN s) b W Qa);clear h d;go_enter func35,ntmps35;go_wp2_with fail;refine hF.o.mono ?_;rintro e w1 ⟨f,rfl,-,a⟩;clear hF;go_wp2_with fail;refine (p.o _).mono ?_;rintro e w2 ⟨rfl,j⟩;have c:=a.trans (j.mono a.size);clear p a j;go_wp2_with fail;refine (q.o _).mono ?_;rintro e w3 ⟨rfl,i⟩;have l:=c.trans (i.mono c.size);clear q i c;go_wp2;go_ret2;exact ⟨rfl,l⟩
   ·have hF:=hid (Z3c s k m d w);clear h d;go_enter func35,ntmps35;go_wp2_with fail;refine hF.o.mono ?_;rintro e w1 ⟨rfl,a⟩;clear hF;go_wp2;go_ret2;exact ⟨rfl,a⟩
theorem Zvb (n k:Int) (s m b:Nat) (w:World) (B:W64 s) (h:¬badV n k m b) :
 Calls prog 35 #[.int .i64 n,.int .u64 (s:Int),.int .i64 k,.int .i64 (m:Int),.int .i64 (b:Int)] w λe w'=>
  ∃t,e = .returned (.tuple #[.pointer (some ⟨t,0,none⟩),.int .i64 0])/\LevP w' (In w.heap.size w'.heap.size) t (newV n s k m b)/\Below w.heap.size w w':=by
 unfold badV at h;obtain ⟨S,R,z,O,N⟩:=Classical.not_not.1 h;have hF:=hid (Vq s k m B z.1 z.2.1 Qa Qa w);have C:=hid (J2 s B);have D:=hid (λW=>Seat.new (mixN s) b W Qa Qa);have X:Hid (1<=m):=hid Qa;have Y:¬n<1:=Qa;have n2:¬128<n:=Qa;clear h z S R O N;go_enter func35,ntmps35;go_wp2_with fail;refine hF.o.mono ?_;rintro e w1 ⟨f,rfl,a,o⟩;have E:=hid a;clear hF a;go_wp2_with fail;refine (C.o _).mono ?_;rintro e w2 ⟨rfl,l⟩;have c:=o.trans (l.mono o.size);have y:=hid (E.o.below l);clear C E;go_wp2_with fail;refine (D.o _).mono ?_;rintro e w3 ⟨u,rfl,p,i⟩;have K:=c.trans (i.mono c.size);have A:=hid (y.o.below i);have U:=hid p;have J:=o.size;have I:=l.size;have F:=i.size;clear D c y p;go_wp2;go_ret2;refine ⟨w3.heap.size,rfl,⟨w.heap.size,w1.heap.size,f,u,?_⟩,Qg⟩;have r:Below w3.heap.size w3 (w3.alloc (.cells #[.int .i64 n,.pointer (some ⟨f,0,none⟩),.pointer (some ⟨u,0,none⟩)] 113)):=Qg;have L:(w3.alloc (.cells #[.int .i64 n,.pointer (some ⟨f,0,none⟩),.pointer (some ⟨u,0,none⟩)] 113)).heap.size=w3.heap.size+1:=Qf;have q:=A.o.below r;rw [Int.toNat_natCast] at q;refine ⟨Qf,by simp [go_sem,newV],Qi,Qi,q,?_,⟨Qa,Qa⟩,λj d=>⟨d.1,by have:=d.2;omega⟩,λd=>by have:=d.2;omega,by simpa [newV] using X.o⟩;refine ((U.o.mono (Q:=λj=>w2.heap.size<=j/\j<w3.heap.size) λj d h=>⟨h,d⟩).below r).mono λj d h=>⟨⟨Qa,Qa⟩,λx => ?_,?_⟩
 ·have:=x.2;omega
 ·omega
end
end Go.Proofs.YtpdphfgpdgadpaaGreat
