import Derived.Test.YtgfjmgebecmbiaaGreatOwn
import Derived.Maps.AppendAt
import Derived.WalkSpells
import Derived.WalkLawsBesides
import Derived.Handy
import Derived.Lib.Hide
set_option linter.unusedSimpArgs false
set_option linter.unusedVariables false
set_option maxHeartbeats 400000
namespace Go.Proofs.YtgfjmgebecmbiaaGreat.M
def val (h l:Nat):Nat:=h*2^64+l
def hiW (a:Nat):Nat:=a/2^64
def loW (a:Nat):Nat:=a%2^64
def W128 (a:Nat):Prop:=a<2^128
theorem Ztf (h l:Nat) (b:W64 l):hiW (val h l)=h:=by unfold hiW val;unfold W64 at b;omega
theorem Zyv (h l:Nat) (b:W64 l):loW (val h l)=l:=by unfold loW val;unfold W64 at b;omega
theorem Zwp (a:Nat):val (hiW a) (loW a)=a:=by unfold val hiW loW;omega
theorem W128.hi {a:Nat} (h:W128 a):W64 (hiW a):=by unfold W128 at h;unfold W64 hiW;omega
theorem W128.lo {a:Nat}:W64 (loW a):=by unfold W64 loW;omega
theorem W64.val {h l:Nat} (a:W64 h) (b:W64 l):W128 (val h l):=by unfold W128 M.val;unfold W64 at a b;omega
theorem Z46 {h l h2 l2:Nat} (b:W64 l) (d:W64 l2) (e:val h l=val h2 l2):h=h2/\l=l2:=by
 unfold val at e;unfold W64 at b d;omega
theorem Zug (h l k:Nat) (b:W64 l):val h l/2^(64+k)=h/2^k:=by
 rw [Nat.pow_add,<-Nat.div_div_eq_div_mul]
 congr 1
 exact Ztf h l b
theorem Zuf (h l k:Nat) (hk:k<=64):val h l/2^k=h*2^(64-k)+l/2^k:=by
 unfold val
 rw [show (2:Nat)^64=2^(64-k)*2^k by rw [<-Nat.pow_add];congr 1;omega,<-Nat.mul_assoc,Nat.add_comm,Nat.add_mul_div_right _ _ (Nat.two_pow_pos k),Nat.add_comm]
theorem Zqb (h l n:Nat) (b:W64 l) (hn:n<=128):val (cutW h n) (cutW l (n-64))=val h l/2^(128-n)*2^(128-n):=by
 by_cases h1:n<=64
 ·rw [show n-64=0 by omega,Ze3 l b,show 128-n=64+(64-n) by omega,Zug h l _ b]
  unfold val cutW
  rw [Nat.add_zero,Nat.mul_assoc,<-Nat.pow_add,Nat.add_comm]
 ·rw [Ze4 h n (by omega),Zuf h l _ (by omega)]
  unfold val cutW
  rw [show 64-(n-64)=128-n by omega,Nat.add_mul,Nat.mul_assoc,<-Nat.pow_add]
  congr 3
  omega
theorem Zm5 (h l h2 l2 n:Nat) (b:W64 l) (d:W64 l2) (hn:n<=128):(cutW h n=h2/\cutW l (n-64)=l2)↔val h l/2^(128-n)*2^(128-n)=val h2 l2:=by
 rw [<-Zqb h l n b hn]
 exact ⟨fun ⟨e1,e2⟩=>by rw [e1,e2],fun e=>Z46 (b.cut _) d e⟩
theorem Zrq (x y:Nat):x/y*y=x↔y ∣ x:=Nat.dvd_iff_div_mul_eq x y |>.symm
theorem Za1 (h l:Nat) (n:Int) (b:W64 l):Zan h l n=true↔0<=n/\n<=128/\2^(128-n.toNat) ∣ val h l:=by
 rw [Zds]
 constructor
 ·rintro ⟨h0,h1,h2⟩
  refine ⟨h0,h1,?_⟩
  rw [<-Zrq,<-(Zm5 h l h l n.toNat b b (by omega))]
  exact h2
 ·rintro ⟨h0,h1,h2⟩
  refine ⟨h0,h1,?_⟩
  rw [Zm5 h l h l n.toNat b b (by omega),Zrq]
  exact h2
theorem Zmx (h l:Nat) (n:Int) (x y:Nat) (b:W64 l) (d:W64 y):hasB h l n x y=true↔Zan h l n=true/\val x y/2^(128-n.toNat)=val h l/2^(128-n.toNat):=by
 rw [Zth]
 constructor
 ·rintro ⟨h0,h1⟩
  have h2:=h0
  rw [Za1 h l n b] at h2
  obtain ⟨e0,e1,e2⟩:=h2
  rw [Zm5 x y h l n.toNat d b (by omega)] at h1
  refine ⟨h0,?_⟩
  rw [<-h1,Nat.mul_div_cancel _ (Nat.two_pow_pos _)]
 ·rintro ⟨h0,h1⟩
  have h2:=h0
  rw [Za1 h l n b] at h2
  obtain ⟨e0,e1,e2⟩:=h2
  refine ⟨h0,?_⟩
  rw [Zm5 x y h l n.toNat d b (by omega),h1,Zrq]
  exact e2
theorem Zyy (h1 l1:Nat) (n1:Int) (h2 l2:Nat) (n2:Int) (b:W64 l1) (d:W64 l2):lessB h1 l1 n1 h2 l2 n2=true↔val h1 l1<val h2 l2\/val h1 l1=val h2 l2/\n1<n2:=by
 rw [Zdv]
 unfold val
 unfold W64 at b d
 omega
structure Pf where
 a:Nat
 n:Int
deriving DecidableEq
theorem Z4p (x y k:Nat) (hx:2^k ∣ x) (hy:y<2^k):x ||| y=x+y:=by
 obtain ⟨q,rfl⟩:=hx
 exact (Nat.two_pow_add_eq_or_of_lt hy q).symm
theorem Z8g (x y:Nat):hiW (x ||| y)=hiW x ||| hiW y:=by
 unfold hiW
 apply Nat.eq_of_testBit_eq;intro i
 rw [Nat.testBit_or,Nat.testBit_div_two_pow,Nat.testBit_div_two_pow,Nat.testBit_div_two_pow,Nat.testBit_or]
theorem Z8c (x y:Nat):loW (x ||| y)=loW x ||| loW y:=by
 unfold loW
 apply Nat.eq_of_testBit_eq;intro i
 simp only [Nat.testBit_mod_two_pow,Nat.testBit_or]
 by_cases h:i<64<;>simp [h]
def Zf2 (x k:Nat):Nat:=if 64<=k then x*2^(k-64)%2^64 else x/2^(64-k)
def Zf1 (x k:Nat):Nat:=if 64<=k then 0 else x*2^k%2^64
theorem Z1u (x k:Nat) (h:x*2^k<2^128):Zf2 x k=hiW (x*2^k):=by
 unfold Zf2 hiW
 by_cases h1:64<=k
 ·rw [if_pos h1]
  have e:2^k=2^(k-64)*2^64:=by rw [<-Nat.pow_add];congr 1;omega
  rw [e,<-Nat.mul_assoc] at h
  rw [e,<-Nat.mul_assoc,Nat.mul_div_cancel _ (by decide),Nat.mod_eq_of_lt (by omega)]
 ·rw [if_neg h1]
  have e:(2:Nat)^64=2^(64-k)*2^k:=by rw [<-Nat.pow_add];congr 1;omega
  rw [e,Nat.mul_div_mul_right _ _ (Nat.two_pow_pos k)]
theorem Z1t (x k:Nat):Zf1 x k=loW (x*2^k):=by
 unfold Zf1 loW
 by_cases h1:64<=k
 ·rw [if_pos h1]
  have e:2^k=2^(k-64)*2^64:=by rw [<-Nat.pow_add];congr 1;omega
  rw [e,<-Nat.mul_assoc,Nat.mul_mod_left]
 ·rw [if_neg h1]
theorem Zo0 (a x m n:Nat) (hmn:m<=n) (hn:n<=128) (ha:W128 a) (hd:2^(128-m) ∣ a) (hx:x<2^(n-m)) :
 hiW a ||| Zf2 x (128-n)=hiW (a+x*2^(128-n))/\loW a ||| Zf1 x (128-n)=loW (a+x*2^(128-n))/\W128 (a+x*2^(128-n)):=by
 have h1:x*2^(128-n)<2^(128-m):=by
  rw [show 128-m=(n-m)+(128-n) by omega,Nat.pow_add]
  exact Nat.mul_lt_mul_of_pos_right hx (Nat.two_pow_pos _)
 have h2:2^(128-m)<=2^128:=Nat.pow_le_pow_right (by decide) (by omega)
 have e:=Z4p a (x*2^(128-n)) (128-m) hd h1
 rw [Z1u x _ (Nat.lt_of_lt_of_le h1 h2),Z1t,<-Z8g,<-Z8c,e]
 refine ⟨rfl,rfl,?_⟩
 unfold W128
 rw [<-e]
 exact Nat.or_lt_two_pow ha (Nat.lt_of_lt_of_le h1 h2)
def Zfs (a m n:Nat):List Nat:=(List.range (2^(n-m))).map fun i=>a+i*2^(128-n)
def dblN (m:Nat) (L:List Nat):List Nat:=L.flatMap fun x=>[x,x+2^(127-m)]
theorem Zod (k:Nat):List.range (2*k)=(List.range k).flatMap fun i=>[2*i,2*i+1]:=by
 induction k with
 | zero=>rfl
 | succ k ih=>rw [show 2*(k+1)=2*k+1+1 by omega,List.range_succ,List.range_succ,ih,List.range_succ,List.flatMap_append];simp
theorem Z3n (a m j:Nat) (h:m+j<128):dblN (m+j) (Zfs a m (m+j))=Zfs a m (m+j+1):=by
 unfold dblN Zfs
 rw [show m+j+1-m=j+1 by omega,show m+j-m=j by omega,Nat.pow_succ,Nat.mul_comm (2^j) 2,Zod,List.map_flatMap,List.flatMap_map]
 congr 1
 funext i
 have e:(2:Nat)^(128-(m+j))=2*2^(128-(m+j+1)):=by rw [<-Nat.pow_succ'];congr 1;omega
 rw [show 127-(m+j)=128-(m+j+1) by omega,e]
 simp only [List.map_cons,List.map_nil,List.cons.injEq,and_true]
 constructor
 ·rw [<-Nat.mul_assoc,Nat.mul_comm i 2]
 ·rw [Nat.add_mul,Nat.one_mul,Nat.add_assoc,<-Nat.mul_assoc,Nat.mul_comm i 2]
theorem Zy1 (a m:Nat):Zfs a m m=[a]:=by simp [Zfs]
theorem Zms (a m n:Nat):(Zfs a m n).length=2^(n-m):=by simp [Zfs]
theorem Zm4 (m:Nat) (L:List Nat) (k:Nat) (h:k<L.length):dblN m (L.take (k+1))=dblN m (L.take k)++[L[k],L[k]+2^(127-m)]:=by
 unfold dblN
 rw [List.take_succ_eq_append_getElem h,List.flatMap_append]
 simp
theorem Z6q (m:Nat) (L:List Nat):(dblN m L).length=2*L.length:=by
 unfold dblN
 induction L with
 | nil=>rfl
 | cons x L ih=>simp only [List.flatMap_cons,List.length_append,ih,List.length_cons,List.length_nil];omega
theorem Z4t (a m n:Nat) (hmn:m<=n) (hn:n<=128) (ha:W128 a) (hd:2^(128-m) ∣ a):∀x∈Zfs a m n,W128 x/\2^(128-n) ∣ x:=by
 intro x hx
 unfold Zfs at hx
 rw [List.mem_map] at hx
 obtain ⟨i,hi,rfl⟩:=hx
 rw [List.mem_range] at hi
 exact ⟨(Zo0 a i m n hmn hn ha hd hi).2.2,Nat.dvd_add (Nat.dvd_trans (Nat.pow_dvd_pow 2 (by omega)) hd) (Nat.dvd_mul_left _ _)⟩
theorem Z16 (a k:Nat) (hk:k<128) (ha:W128 a) (hd:2^(128-k) ∣ a):(if k<64 then hiW a ||| 2^(63-k) else hiW a)=hiW (a+2^(127-k))/\(if k<64 then loW a else loW a ||| 2^(127-k))=loW (a+2^(127-k))/\W128 (a+2^(127-k)):=by
 have h1:2^(127-k)<2^(128-k):=Nat.pow_lt_pow_right (by decide) (by omega)
 have h2:2^(127-k)<2^128:=Nat.pow_lt_pow_right (by decide) (by omega)
 have e:=Z4p a (2^(127-k)) (128-k) hd h1
 rw [<-e,Z8g,Z8c]
 refine ⟨?_,?_,Nat.or_lt_two_pow ha h2⟩
 ·by_cases h:k<64
  ·rw [if_pos h]
   congr 1
   unfold hiW
   rw [show 127-k=63-k+64 by omega,Nat.pow_add,Nat.mul_div_cancel _ (by decide)]
  ·rw [if_neg h]
   have:hiW (2^(127-k))=0:=Nat.div_eq_of_lt (Nat.pow_lt_pow_right (by decide) (by omega))
   rw [this,Nat.or_zero]
 ·by_cases h:k<64
  ·rw [if_pos h]
   have:loW (2^(127-k))=0:=by
    unfold loW
    rw [show 127-k=63-k+64 by omega,Nat.pow_add,Nat.mul_mod_left]
   rw [this,Nat.or_zero]
  ·rw [if_neg h]
   congr 1
   unfold loW
   rw [Nat.mod_eq_of_lt (Nat.pow_lt_pow_right (by decide) (by omega))]
theorem Z8e (a m n i:Nat) (hmn:m<=n) (hn:n<=128) (hd:2^(128-m) ∣ a) (hi:i<2^(n-m)):(a+i*2^(128-n))/2^(128-m)=a/2^(128-m):=by
 obtain ⟨q,rfl⟩:=hd
 have h1:i*2^(128-n)<2^(128-m):=by
  rw [show 128-m=(n-m)+(128-n) by omega,Nat.pow_add]
  exact Nat.mul_lt_mul_of_pos_right hi (Nat.two_pow_pos _)
 rw [Nat.mul_comm (2^(128-m)) q,Nat.add_comm,Nat.add_mul_div_right _ _ (Nat.two_pow_pos _),Nat.mul_div_cancel _ (Nat.two_pow_pos _),Nat.div_eq_of_lt h1,Nat.zero_add]
end Go.Proofs.YtgfjmgebecmbiaaGreat.M
namespace Go.Proofs.YtgfjmgebecmbiaaGreat
section
open Go.RowKit Go.Sort M
def Zge (p:Pf):List Value:=[.int .u64 (hiW p.a:Nat),.int .u64 (loW p.a:Nat),.int .i64 p.n]
def pcs (L:List Pf):List Value:=L.flatMap Zge
theorem Z5o (L:List Pf):(pcs L).length=L.length*3:=by
 unfold pcs
 induction L with
 | nil=>rfl
 | cons x L ih=>simp only [List.flatMap_cons,List.length_append,ih,Zge,List.length_cons,List.length_nil];omega
theorem Zk7 (L M:List Pf):pcs (L++M)=pcs L++pcs M:=by simp [pcs]
theorem Zso (x:Pf) (L:List Pf):pcs (x::L)=Zge x++pcs L:=rfl
theorem Z5n (p:Pf):pcs [p]=Zge p:=by simp [pcs]
theorem Zi5:∀(L:List Pf) (k j:Nat) (h:k<L.length),j<3->(pcs L)[k*3+j]? = (Zge L[k])[j]?
 | x::L,0,j,_,hj=>by
  rw [Zso,List.getElem?_append_left (by simp [Zge];omega)]
  simp
 | x::L,k+1,j,h,hj=>by
  rw [Zso,List.getElem?_append_right (by simp [Zge];omega),show (k+1)*3+j-(Zge x).length=k*3+j by simp [Zge];omega]
  rw [Zi5 L k j (by simpa using h) hj]
  simp
theorem Zcm {P:Program} {t e:TypeId} {z:Value} {size bytes:Nat} (ht:P.underlying t=some (.slice e)) (hz:(P.info? e).map (fun i=>(i.zero,i.size,i.bytes))=some (some z,size,bytes)) (c:Nat) (hb:bytes*c<=281474976710656) (hm:c<=maxLen) (w:World) :
 (Instr.makeSlice t (.int .i64 (c:Int)) (.int .i64 (c:Int))).run P w = .ok (.slice (some ⟨w.heap.size,0,none⟩) c c) (w.alloc (.cells (madeCells z.cells (c*size)) e)):=by
 obtain ⟨i0,hi0,iz0,iz1,iz2⟩:=info_parts hz
 have h:=run_make (P:=P) w t e i0 z ht hi0 iz0 .i64 .i64 c c (by omega) (by omega) (by rw [iz2];have e:((bytes*c:Nat):Int)<=281474976710656:=(by omega);rwa [Int.natCast_mul] at e) (by unfold maxLen at hm;omega)
 rw [Int.toNat_natCast,iz1] at h
 exact h
def Row (w:World) (p:Option Addr) (xs:List Value):Prop:=xs=[]\/∃g o,p=some ⟨g,o,none⟩/\g<w.heap.size/\∀j u,xs[j]? = some u->w.cell? ⟨g,o+j,none⟩=some u
theorem Row.below {w w':World} {p:Option Addr} {xs:List Value} (h:Row w p xs) (hb:Below w.heap.size w w'):Row w' p xs:=by
 rcases h with h | ⟨g,o,e,hg,hc⟩
 ·exact .inl h
 ·exact .inr ⟨g,o,e,Nat.lt_of_lt_of_le hg hb.size,fun j u hu=>(hb.cell (p:=⟨g,o+j,none⟩) hg).trans (hc j u hu)⟩
theorem Row.of_own {w:World} {B n k c:Nat} {e:TypeId} {p:Option Addr} {xs:List Value} (h:w.ownsRow B e k (.slice p n c) n xs):Row w p xs:=by
 by_cases h0:xs=[]
 ·exact .inl h0
 ·have hc:=fun g hg=>h.cells (g:=g) hg
  have hl:=h.lt
  rcases h.2 with ⟨e,h1⟩ | ⟨g,cap,cur,e,-,-,-,-,-,-⟩
  ·exact absurd (List.length_eq_zero_iff.1 (by rw [h.1,h1,Nat.zero_mul])) h0
  ·injection e with e1 e2 e3
   subst e1
   refine .inr ⟨g,0,rfl,(hl g rfl).2,fun j u hu => ?_⟩
   have:=hc g rfl j u hu
   rw [Nat.zero_add]
   rwa [show (⟨g,0,none⟩:Addr).add j=⟨g,j,none⟩ by unfold Addr.add;split<;>simp_all] at this
theorem Row.at {w:World} {p:Option Addr} {L:List Pf} (h:Row w p (pcs L)) {k:Nat} (hk:k<L.length):∃g o,p=some ⟨g,o,none⟩/\g<w.heap.size /\
 w.cell? ⟨g,o+k*3,none⟩=some (.int .u64 (hiW L[k].a:Nat))/\w.cell? ⟨g,o+k*3+1,none⟩=some (.int .u64 (loW L[k].a:Nat))/\w.cell? ⟨g,o+k*3+2,none⟩=some (.int .i64 L[k].n):=by
 rcases h with h | ⟨g,o,e,hg,hc⟩
 ·have:=Z5o L
  rw [h] at this
  simp at this;omega
 ·exact ⟨g,o,e,hg,hc (k*3) _ (Zi5 L k 0 hk (by omega)),hc (k*3+1) _ (Zi5 L k 1 hk (by omega)),hc (k*3+2) _ (Zi5 L k 2 hk (by omega))⟩
theorem Z7p {w:World} {B g n c:Nat} {e:TypeId} {xs:List Value} (h:w.ownsRow B e 3 (.slice (some ⟨g,0,none⟩) n c) n xs) (k:Nat) (u0 u1 u2:Value) :
 (((w.setCell ⟨g,k*3,none⟩ u0).setCell ⟨g,k*3+1,none⟩ u1).setCell ⟨g,k*3+2,none⟩ u2).ownsRow B e 3 (.slice (some ⟨g,0,none⟩) n c) n (((xs.set (k*3) u0).set (k*3+1) u1).set (k*3+2) u2):=
 (((h.stored _ _).1.stored _ _).1.stored _ _).1
theorem Zxh (xs:List Value) (k:Nat) (u0 u1 u2:Value) (h:k*3+3<=xs.length):(((xs.set (k*3) u0).set (k*3+1) u1).set (k*3+2) u2).take ((k+1)*3)=xs.take (k*3)++[u0,u1,u2]:=by
 apply List.ext_getElem?
 intro i
 rw [List.getElem?_take,List.getElem?_append,List.length_take,Nat.min_eq_left (by omega),List.getElem?_take]
 by_cases h1:i<k*3
 ·rw [if_pos (by omega),if_pos h1,if_pos h1]
  simp only [List.getElem?_set]
  rw [if_neg (by omega),if_neg (by omega),if_neg (by omega)]
 ·rw [if_neg h1]
  by_cases h2:i<(k+1)*3
  ·rw [if_pos h2]
   simp only [List.getElem?_set,List.length_set]
   rcases (show i=k*3\/i=k*3+1\/i=k*3+2 by omega) with rfl | rfl | rfl
   ·rw [if_neg (by omega),if_neg (by omega),if_pos rfl,if_pos (by omega)];simp
   ·rw [if_neg (by omega),if_pos rfl,if_pos (by omega)];simp
   ·rw [if_pos rfl,if_pos (by omega)];simp
  ·rw [if_neg h2,List.getElem?_eq_none (by simp;omega)]
theorem Zeq (w:World) (cs:Array Value) (t:TypeId):∀j u,cs.toList[j]? = some u->(w.alloc (.cells cs t)).cell? ((⟨w.heap.size,0,none⟩:Addr).add j)=some u:=by
 intro j u hu
 rw [show (⟨w.heap.size,0,none⟩:Addr).add j=⟨w.heap.size,j,none⟩ by unfold Addr.add;split<;>simp_all]
 rw [cell_of_row _ _ j cs t (0,0) (heap_alloc_new w _)]
 simpa using hu
def pfs (L:List Nat) (m:Int):List Pf:=L.map fun x=>⟨x,m⟩
theorem Zh0 (L:List Nat) (m:Int):(pfs L m).length=L.length:=by simp [pfs]
theorem Z7y (L:List Nat) (m:Int) (k:Nat) (h:k<(pfs L m).length):(pfs L m)[k]=⟨L[k]'(by rw [Zh0] at h;exact h),m⟩:=by simp [pfs]
theorem Zu6 (L M:List Nat) (m:Int):pfs (L++M) m=pfs L m++pfs M m:=by simp [pfs]
theorem Row.at_pfs {w:World} {p:Option Addr} {L:List Nat} {m:Int} (h:Row w p (pcs (pfs L m))) {k:Nat} (hk:k<L.length):∃g o,p=some ⟨g,o,none⟩/\g<w.heap.size /\
 w.cell? ⟨g,o+k*3,none⟩=some (.int .u64 (hiW L[k]:Nat))/\w.cell? ⟨g,o+k*3+1,none⟩=some (.int .u64 (loW L[k]:Nat))/\w.cell? ⟨g,o+k*3+2,none⟩=some (.int .i64 m):=by
 have:=h.at (k:=k) (by rw [Zh0];exact hk)
 rwa [Z7y] at this
theorem Zmt {w0 w1 w4:World} {O:Obj} {B n k:Nat} {e:TypeId} {v:Value} {xs:List Value} (hb:Below w0.heap.size w0 w1) (hY:(w1.alloc O).ownsRow B e k v n xs) (hg:(w1.alloc O).grownBy w4 v.ownBlock) {g o:Nat} {u:Value}
 (hlt:g<B) (hlt0:g<w0.heap.size) (c:w0.cell? ⟨g,o,none⟩=some u):w4.cell? ⟨g,o,none⟩=some u:=by
 have h1:w1.cell? ⟨g,o,none⟩=some u:=(hb.cell (p:=⟨g,o,none⟩) hlt0).trans c
 have h2:(w1.alloc O).cell? ⟨g,o,none⟩=some u:=(World.cell?_alloc_lt w1 O ⟨g,o,none⟩ (Nat.lt_of_lt_of_le hlt0 hb.size)).trans h1
 refine hg.cell h2 fun e => ?_
 have:=(hY.lt g e.symm).1
 omega
def Zhe (n:Int):Nat:=(2^64-1) ^^^ ((2^64-1)/2^n.toNat)
theorem Zzo (n:Int) (h0:0<=n):bits BinOp.xor IntKind.u64 IntKind.u64.max (18446744073709551615/2^n.toNat)=(Zhe n:Int):=by
 obtain ⟨k,rfl⟩:=Int.eq_ofNat_of_zero_le h0
 unfold Zhe
 have h2:(2^64-1)/2^k<2^64:=Nat.lt_of_le_of_lt (Nat.div_le_self _ _) (by decide)
 have e:(18446744073709551615/2^(k:Int).toNat:Int)=(((2^64-1)/2^k:Nat):Int):=by
  rw [Int.toNat_natCast,Int.natCast_ediv];simp
 rw [e,show IntKind.u64.max=((2^64-1:Nat):Int) from by decide,bits_xor_u64_nat _ _ (by decide) (by simpa using h2)]
 simp
theorem Zcv (n:Int) (w:World) (h0:0<=n) (h1:n<=64) :
 Calls Tryz.prog 85 #[.int .i64 n] w fun e w'=>e = .returned (.int .u64 (Zhe n))/\w=w':=by
 go_enter Tryz.func85,Tryz.ntmps85
 go_wp2
 go_ret
 exact ⟨by show Ending.returned (.int .u64 _)=_;rw [Zzo n h0],rfl⟩
theorem Z5d (x k:Nat) (hx:W64 x):bits BinOp.and IntKind.u64 ((x:Int)/2^k) 1=((x/2^k &&& 1:Nat):Int):=by
 have h2:x/2^k<18446744073709551616:=Nat.lt_of_le_of_lt (Nat.div_le_self _ _) hx.lt
 have e:((x:Int)/2^k)=((x/2^k:Nat):Int):=by simp
 rw [e,show (1:Int)=((1:Nat):Int) from rfl,bits_and_u64_nat _ _ h2 (by decide)]
theorem Zim (x k:Nat) (hx:W64 x):wrap64 (bits BinOp.and IntKind.u64 ((x:Int)/2^k) 1)=((x/2^k &&& 1:Nat):Int):=by
 rw [Z5d x k hx,Nat.and_one_is_mod]
 unfold wrap64
 omega
theorem Zpy (x:Nat) (m:Int) (hx:W64 x) (h0:0<=m) (h1:m<=64):bits BinOp.and IntKind.u64 (x:Int) (Zhe m)=(cutW x m.toNat:Nat):=by
 have h2:Zhe m<2^64:=by
  unfold Zhe
  exact Nat.xor_lt_two_pow (by decide) (Nat.lt_of_le_of_lt (Nat.div_le_self _ _) (by decide))
 rw [bits_and_u64_nat _ _ hx.lt (by simpa using h2)]
 unfold Zhe
 rw [Z2h x m.toNat hx (by omega)]
theorem Ztq (hi lo:Nat) (n m k:Int) (ha:W64 hi) (hb:W64 lo) (h0:0<=m) (h1:m<=64) (h2:0<=k) (h3:k<=64) (e1:m.toNat=min n.toNat 64) (e2:k.toNat=min (n.toNat-64) 64) :
 Ending.returned (.agg #[.int .u64 (bits BinOp.and IntKind.u64 (hi:Int) (Zhe m)),.int .u64 (bits BinOp.and IntKind.u64 (lo:Int) (Zhe k))]) =
  Ending.returned (.agg #[.int .u64 (cutW hi n.toNat:Nat),.int .u64 (cutW lo (n.toNat-64):Nat)]):=by
 rw [Zpy hi m ha h0 h1,Zpy lo k hb h2 h3,e1,e2]
 have g:∀x k,cutW x (min k 64)=cutW x k:=fun x k=>by unfold cutW;rw [show 64-min k 64=64-k by omega]
 rw [g,g]
theorem Zrt (hi lo:Nat) (n:Int) (ha:W64 hi) (hb:W64 lo) :
 Zak Tryz.prog 60 #[.agg #[.int .u64 hi,.int .u64 lo],.int .i64 n] (.agg #[.int .u64 (cutW hi n.toNat),.int .u64 (cutW lo (n.toNat-64))]):=by
 intro w
 have k0:=cell_regrown (w:=(w.alloc (.cells #[.int .u64 hi,.int .u64 lo] 24)).alloc (.cells #[.int .u64 0,.int .u64 0] 24)) (a:=⟨w.heap.size,0,none⟩) (v := .int .u64 hi) (by simp [go_sem])
 have k1:=cell_regrown (w:=(w.alloc (.cells #[.int .u64 hi,.int .u64 lo] 24)).alloc (.cells #[.int .u64 0,.int .u64 0] 24)) (a:=⟨w.heap.size,1,none⟩) (v := .int .u64 lo) (by simp [go_sem])
 by_cases h1:n<=0
 ·go_enter Tryz.func60,Tryz.ntmps60
  go_wp2_with fail
  have kg:=Zaa
  refine Zaj 14 (by kernel_rfl) (by kernel_rfl) ?_
  simp only [List.take_succ_cons,List.take_zero,List.drop_succ_cons,List.drop_zero]
  repeat (any_goals (first|go_big_quiet_step (first|(go_at_call 85;exact Zak.at (Zak.still fun w=>Zcv _ w (by omega) (by omega)) _ _ _))|quiet_step (first|(go_at_call 85;exact Zak.at (Zak.still fun w=>Zcv _ w (by omega) (by omega)) _ _ _))))
  refine wpQuiet_nil ?_
  clear kg
  intro w1 hb1
  obtain ⟨hc1,hf1⟩:=Zaf hb1
  have hw1:Below w.heap.size w w1:=by
   refine Below.trans ?_ (hb1.mono ?_)
   ·go_grown
   ·first|omega|go_size
  go_wp2
  refine bodyPost_ret (by simp [results,Tryz.results60,go_sem,hc1,hf1];try rfl) rfl ?_
  exact ⟨Ztq hi lo n _ _ ha hb (by omega) (by omega) (by omega) (by omega) (by omega) (by omega),by go_grown⟩
 by_cases h2:n<=64
 ·go_enter Tryz.func60,Tryz.ntmps60
  go_wp2_with fail
  have kg:=Zaa
  refine Zaj 14 (by kernel_rfl) (by kernel_rfl) ?_
  simp only [List.take_succ_cons,List.take_zero,List.drop_succ_cons,List.drop_zero]
  repeat (any_goals (first|go_big_quiet_step (first|(go_at_call 85;exact Zak.at (Zak.still fun w=>Zcv _ w (by omega) (by omega)) _ _ _))|quiet_step (first|(go_at_call 85;exact Zak.at (Zak.still fun w=>Zcv _ w (by omega) (by omega)) _ _ _))))
  refine wpQuiet_nil ?_
  clear kg
  intro w1 hb1
  obtain ⟨hc1,hf1⟩:=Zaf hb1
  have hw1:Below w.heap.size w w1:=by
   refine Below.trans ?_ (hb1.mono ?_)
   ·go_grown
   ·first|omega|go_size
  go_wp2
  refine bodyPost_ret (by simp [results,Tryz.results60,go_sem,hc1,hf1];try rfl) rfl ?_
  exact ⟨Ztq hi lo n _ _ ha hb (by omega) (by omega) (by omega) (by omega) (by omega) (by omega),by go_grown⟩
 by_cases h3:n<=128
 ·go_enter Tryz.func60,Tryz.ntmps60
  go_wp2_with fail
  have kg:=Zaa
  refine Zaj 14 (by kernel_rfl) (by kernel_rfl) ?_
  simp only [List.take_succ_cons,List.take_zero,List.drop_succ_cons,List.drop_zero]
  repeat (any_goals (first|go_big_quiet_step (first|(go_at_call 85;exact Zak.at (Zak.still fun w=>Zcv _ w (by omega) (by omega)) _ _ _))|quiet_step (first|(go_at_call 85;exact Zak.at (Zak.still fun w=>Zcv _ w (by omega) (by omega)) _ _ _))))
  refine wpQuiet_nil ?_
  clear kg
  intro w1 hb1
  obtain ⟨hc1,hf1⟩:=Zaf hb1
  have hw1:Below w.heap.size w w1:=by
   refine Below.trans ?_ (hb1.mono ?_)
   ·go_grown
   ·first|omega|go_size
  go_wp2
  refine bodyPost_ret (by simp [results,Tryz.results60,go_sem,hc1,hf1];try rfl) rfl ?_
  exact ⟨Ztq hi lo n _ _ ha hb (by omega) (by omega) (by omega) (by omega) (by omega) (by omega),by go_grown⟩
 by_cases h4:128<n
 ·go_enter Tryz.func60,Tryz.ntmps60
  go_wp2_with fail
  have kg:=Zaa
  refine Zaj 14 (by kernel_rfl) (by kernel_rfl) ?_
  simp only [List.take_succ_cons,List.take_zero,List.drop_succ_cons,List.drop_zero]
  repeat (any_goals (first|go_big_quiet_step (first|(go_at_call 85;exact Zak.at (Zak.still fun w=>Zcv _ w (by omega) (by omega)) _ _ _))|quiet_step (first|(go_at_call 85;exact Zak.at (Zak.still fun w=>Zcv _ w (by omega) (by omega)) _ _ _))))
  refine wpQuiet_nil ?_
  clear kg
  intro w1 hb1
  obtain ⟨hc1,hf1⟩:=Zaf hb1
  have hw1:Below w.heap.size w w1:=by
   refine Below.trans ?_ (hb1.mono ?_)
   ·go_grown
   ·first|omega|go_size
  go_wp2
  refine bodyPost_ret (by simp [results,Tryz.results60,go_sem,hc1,hf1];try rfl) rfl ?_
  exact ⟨Ztq hi lo n _ _ ha hb (by omega) (by omega) (by omega) (by omega) (by omega) (by omega),by go_grown⟩
 omega
end
section
open M
structure Ky where
 h:Nat
 l:Nat
 n:Int
deriving DecidableEq
def Ky.good (k:Ky):Prop:=W64 k.h/\W64 k.l
structure Rt where
 k:Ky
 v:Int
deriving DecidableEq
abbrev Pl:=Option Rt
def hasK (k:Ky) (x:Pl):Bool:=
 match x with
 | some r=>decide (r.k=k)
 | none=>false
def idxI (p:Pl->Bool) (C:List Pl):Int:=
 match C.findIdx? p with
 | some i=>(i:Int)
 | none => -1
def putC (C:List Pl) (k:Ky) (v:Int):Option (List Pl):=
 match C.findIdx? (hasK k) with
 | some i=>some (C.set i (some ⟨k,v⟩))
 | none=>
  match C.findIdx? Option.isNone with
  | some i=>some (C.set i (some ⟨k,v⟩))
  | none=>none
def takeC (C:List Pl) (k:Ky):Option (List Pl):=
 match C.findIdx? (hasK k) with
 | some i=>some (C.set i none)
 | none=>none
def getC (C:List Pl) (k:Ky):Option Int:=
 match C.findIdx? (hasK k) with
 | some i=>(C.getD i none).map Rt.v
 | none=>none
def Zfr (C:List Pl) (i:Int) (k:Ky) (v:Int):Option (Rt×List Pl):=
 if 0<=i then
  match C.getD i.toNat none with
  | some r=>some (r,C.set i.toNat (some ⟨k,v⟩))
  | none=>none
 else none
def allC (C:List Pl):List Rt:=C.filterMap id
def xh (x:Pl):Nat:=match x with | some r=>r.k.h | none=>0
def xl (x:Pl):Nat:=match x with | some r=>r.k.l | none=>0
def xn (x:Pl):Int:=match x with | some r=>r.k.n | none=>0
def xv (x:Pl):Int:=match x with | some r=>r.v | none=>0
theorem Z6c (k:Ky) (x:Pl):hasK k x=(x.isSome&&decide (xh x=k.h/\xl x=k.l/\xn x=k.n)):=by
 cases x with
 | none=>rfl
 | some r=>
  obtain ⟨⟨a,b,c⟩,v⟩:=r
  obtain ⟨d,e,f⟩:=k
  rw [Bool.eq_iff_iff]
  simp [hasK,xh,xl,xn]
  exact decide_eq_true_iff.symm
theorem Z6a {p:Pl->Bool} {C:List Pl} {i:Nat} (hi:i<C.length) (h:p C[i]=true) (hb:∀j (hj:j<C.length),j<i->p C[j]=false):C.findIdx? p=some i:=by
 rw [List.findIdx?_eq_some_iff_getElem]
 exact ⟨hi,h,fun j hj=>by simp [hb j (by omega) hj]⟩
theorem Z22 {p:Pl->Bool} {C:List Pl} (hb:∀j (hj:j<C.length),p C[j]=false):C.findIdx? p=none:=by
 rw [List.findIdx?_eq_none_iff]
 intro x hx
 obtain ⟨j,hj,rfl⟩:=List.getElem_of_mem hx
 exact hb j hj
theorem Ztd {p:Pl->Bool} {C:List Pl} {i:Nat} (hi:i<C.length) (h:p C[i]=true) (hb:∀j (hj:j<C.length),j<i->p C[j]=false):idxI p C=i:=by
 unfold idxI
 rw [Z6a hi h hb]
theorem Zo2 {p:Pl->Bool} {C:List Pl} (hb:∀j (hj:j<C.length),p C[j]=false):idxI p C = -1:=by
 unfold idxI
 rw [Z22 hb]
theorem Zbp (p:Pl->Bool) (C:List Pl):(∃i,∃hi:i<C.length,C.findIdx? p=some i/\idxI p C=i/\p C[i]=true)\/(C.findIdx? p=none/\idxI p C = -1):=by
 cases h:C.findIdx? p with
 | none=>exact .inr ⟨rfl,by unfold idxI;rw [h]⟩
 | some i=>
  have:=List.findIdx?_eq_some_iff_getElem.1 h
  exact .inl ⟨i,this.1,rfl,by unfold idxI;rw [h],this.2.1⟩
theorem Znb (C:List Pl):(allC C).length<=C.length:=List.length_filterMap_le _ _
theorem Z0p (C:List Pl) (i:Nat) (h:i<C.length):allC (C.take (i+1))=allC (C.take i)++(C[i]).toList:=by
 unfold allC
 rw [List.take_succ_eq_append_getElem h,List.filterMap_append]
 cases C[i]<;>rfl
theorem Zmy {C:List Pl} {k:Ky} {i:Nat} (hi:i<C.length) (h:C.findIdx? (hasK k)=some i) (hk:hasK k C[i]=true):getC C k=some (xv C[i]):=by
 unfold getC
 rw [h]
 simp only [List.getD_eq_getElem?_getD,List.getElem?_eq_getElem hi,Option.getD_some]
 cases e:C[i] with
 | none=>rw [e] at hk;cases hk
 | some r=>rfl
theorem Zpb {C:List Pl} {k:Ky} (h:C.findIdx? (hasK k)=none):getC C k=none:=by
 unfold getC
 rw [h]
end
section
open Go.RowKit Go.Sort M
def Zac (r:Rt):List Value:=[.int .u64 (r.k.h:Int),.int .u64 (r.k.l:Int),.int .i64 r.k.n,.int .i64 r.v]
def rcs (L:List Rt):List Value:=L.flatMap Zac
theorem Zaz (L:List Rt):(rcs L).length=L.length*4:=by
 unfold rcs
 induction L with
 | nil=>rfl
 | cons x L ih=>simp only [List.flatMap_cons,List.length_append,ih,Zac,List.length_cons,List.length_nil];omega
theorem Zal (L M:List Rt):rcs (L++M)=rcs L++rcs M:=by simp [rcs]
theorem Zdj (x:Rt) (L:List Rt):rcs (x::L)=Zac x++rcs L:=rfl
theorem Zgc (p:Rt):rcs [p]=Zac p:=by simp [rcs]
theorem Zcc:∀(L:List Rt) (k j:Nat) (h:k<L.length),j<4->(rcs L)[k*4+j]? = (Zac L[k])[j]?
 | x::L,0,j,_,hj=>by
  rw [Zdj,List.getElem?_append_left (by simp [Zac];omega)]
  simp
 | x::L,k+1,j,h,hj=>by
  rw [Zdj,List.getElem?_append_right (by simp [Zac];omega),show (k+1)*4+j-(Zac x).length=k*4+j by simp [Zac];omega]
  rw [Zcc L k j (by simpa using h) hj]
  simp
theorem Zcb (L:List Rt):∀u∈rcs L,u.oneCell'=true:=by
 intro u hu
 unfold rcs at hu
 rw [List.mem_flatMap] at hu
 obtain ⟨p,-,hp⟩:=hu
 simp only [Zac,List.mem_cons,List.not_mem_nil,or_false] at hp
 rcases hp with rfl | rfl | rfl | rfl<;>rfl
theorem Row.rt {w:World} {p:Option Addr} {L:List Rt} (h:Row w p (rcs L)) {k:Nat} (hk:k<L.length):∃g o,p=some ⟨g,o,none⟩/\g<w.heap.size /\
 w.cell? ⟨g,o+k*4,none⟩=some (.int .u64 (L[k].k.h:Int))/\w.cell? ⟨g,o+k*4+1,none⟩=some (.int .u64 (L[k].k.l:Int))/\w.cell? ⟨g,o+k*4+2,none⟩=some (.int .i64 L[k].k.n)/\w.cell? ⟨g,o+k*4+3,none⟩=some (.int .i64 L[k].v):=by
 rcases h with h | ⟨g,o,e,hg,hc⟩
 ·have:=Zaz L
  rw [h] at this
  simp at this;omega
 ·exact ⟨g,o,e,hg,hc (k*4) _ (Zcc L k 0 hk (by omega)),hc (k*4+1) _ (Zcc L k 1 hk (by omega)),hc (k*4+2) _ (Zcc L k 2 hk (by omega)),hc (k*4+3) _ (Zcc L k 3 hk (by omega))⟩
def Zcf (w w':World) (e:Ending) (L:List Rt):Prop:=∃p c,e = .returned (.slice p L.length c)/\w'.ownsRow w.heap.size 41 4 (.slice p L.length c) L.length (rcs L)/\Below w.heap.size w w'
theorem Zd1:(Tryz.prog.info? 41).map (fun i=>(i.zero,i.size,i.bytes))=some (some (.agg #[.int .u64 0,.int .u64 0,.int .i64 0,.int .i64 0]),4,32):=by kernel_rfl
theorem Zb9 {w:World} {g:Nat} {a b c d:Value} (h0:w.cell? ⟨g,0,none⟩=some a) (h1:w.cell? ⟨g,1,none⟩=some b) (h2:w.cell? ⟨g,2,none⟩=some c) (h3:w.cell? ⟨g,3,none⟩=some d) :
 ∀j u,[a,b,c,d][j]? = some u->w.cell? ((⟨g,0,none⟩:Addr).add j)=some u:=by
 intro j u hj
 have hlt:j<4:=(List.getElem?_eq_some_iff.1 hj).1
 have he:(⟨g,0,none⟩:Addr).add j=⟨g,j,none⟩:=by unfold Addr.add;split<;>simp_all
 rw [he]
 rcases (show j=0\/j=1\/j=2\/j=3 by omega) with rfl | rfl | rfl | rfl<;>(simp only [List.getElem?_cons_zero,List.getElem?_cons_succ,Option.some.injEq] at hj;subst hj;assumption)
theorem Zb7 {w:World} {B n:Nat} {e:TypeId} {v:Value} {L:List Rt} {x:Rt} (h:w.ownsRow B e 4 v (n+1) (rcs L++Zac x)) (hn:n=L.length):w.ownsRow B e 4 v (L++[x]).length (rcs (L++[x])):=by
 rw [Zal,Zgc,List.length_append,<-hn]
 exact h
end
section
open Go.ChangeShapes Go.WideShapes Go.ChangeAt Go.RowKit Go.Joins Go.Deep M
def act14 (a:Bool×Rt):List Value:=[.bool a.1,.int .u64 (a.2.k.h:Int),.int .u64 (a.2.k.l:Int),.int .i64 a.2.k.n,.int .i64 a.2.v]
theorem RowA.act14 {w:World} {p:Option Addr} {T:List (Bool×Rt)} (h:RowA 5 act14 w p T) {i:Nat} (hi:i<T.length):∃g o,p=some ⟨g,o,none⟩/\g<w.heap.size /\
 w.cell? ⟨g,o+i*5,none⟩=some (.bool T[i].1)/\w.cell? ⟨g,o+i*5+1,none⟩=some (.int .u64 (T[i].2.k.h:Int))/\w.cell? ⟨g,o+i*5+2,none⟩=some (.int .u64 (T[i].2.k.l:Int))/\w.cell? ⟨g,o+i*5+3,none⟩=some (.int .i64 T[i].2.k.n)/\w.cell? ⟨g,o+i*5+4,none⟩=some (.int .i64 T[i].2.v):=by
 rcases h with h | ⟨g,o,e,hg,hc⟩
 ·rw [h] at hi
  simp at hi
 ·exact ⟨g,o,e,hg,hc i hi 0 _ rfl,hc i hi 1 _ rfl,hc i hi 2 _ rfl,hc i hi 3 _ rfl,hc i hi 4 _ rfl⟩
theorem RowA.rts {w:World} {p:Option Addr} {L:List Rt} (h:RowA 4 Zac w p L):Row w p (rcs L):=by
 rcases h with h | ⟨g,o,e,hg,hc⟩
 ·subst h
  exact .inl rfl
 ·refine .inr ⟨g,o,e,hg,fun j u hu => ?_⟩
  have hj:j<L.length*4:=by
   have:=(List.getElem?_eq_some_iff.1 hu).1
   rwa [Zaz] at this
  have e1:j/4*4+j%4=j:=by omega
  have hlt:j/4<L.length:=by omega
  rw [<-e1,Zcc L (j/4) (j%4) hlt (by omega)] at hu
  have:=hc (j/4) hlt (j%4) u hu
  rw [show o+j/4*4+j%4=o+j by omega] at this
  exact this
section
variable {H:Type} {enc:TypeId×Value->H} {w:World} {base:Nat} {spare:Nat->Bool} {held:Bool} {r:Reach} {b0:Nat}
set_option maxRecDepth 100000 in
theorem Z8j (n:Nat) (cs:List Value) (x:DataW H×List MemPlace) (h:DataW.trod enc Tryz.prog w base spare held n 41 cs=some x):∃a:Rt,cs=Zac a/\a.k.good:=by
 obtain ⟨xs,m,-,-,hl,hxl,hf⟩:=DataW.trod_struct Tryz.underlying41 h
 rw [show Tryz.prog.cellsOf 41=4 by kernel_rfl] at hl
 have h1:DataW.trod enc Tryz.prog w base spare held m 39 ((cs.drop 0).take (Tryz.prog.cellsOf 39))=xs[0]? := hf 0 _ rfl
 have h2:DataW.trod enc Tryz.prog w base spare held m 3 ((cs.drop 3).take (Tryz.prog.cellsOf 3))=xs[1]? := hf 1 _ rfl
 rw [show Tryz.prog.cellsOf 3=1 by kernel_rfl] at h2
 rw [Z4z] at h1
 obtain ⟨c0,c1,c2,c3,rfl⟩:∃c0 c1 c2 c3,cs=[c0,c1,c2,c3]:=by
  rcases cs with _ | ⟨c0,_ | ⟨c1,_ | ⟨c2,_ | ⟨c3,_ | ⟨c4,cs⟩⟩⟩⟩⟩<;>simp at hl
  exact ⟨c0,c1,c2,c3,rfl⟩
 simp only [List.drop_zero,List.take_succ_cons,List.take_zero,List.drop_succ_cons] at h1 h2
 rw [List.getElem?_eq_getElem (by rw [hxl];decide)] at h1 h2
 obtain ⟨hi,lo,k,e1,w1,w2,-⟩:=Zkp h1
 obtain ⟨b,e2,-,-⟩:=DataW.trod_int Tryz.underlying3 h2
 simp only [List.cons.injEq,and_true] at e1 e2
 obtain ⟨e1,e3,e4⟩:=e1
 exact ⟨⟨⟨hi,lo,k⟩,b⟩,by rw [e1,e2,e3,e4];rfl,w1,w2⟩
end
end
end Go.Proofs.YtgfjmgebecmbiaaGreat
namespace Go.Proofs.YtgfjmgebecmbiaaGreat.M
def xsh (s x:Nat):Nat:=x ^^^ (x/2^s)
def mulW (c x:Nat):Nat:=x*c%2^64
def addW (c x:Nat):Nat:=(x+c)%2^64
def mixN (x:Nat):Nat:=xsh 31 (mulW 10723151780598845931 (xsh 27 (mulW 13787848793156543929 (xsh 30 (addW 11400714819323198485 x)))))
theorem Z7i (s x:Nat) (h:W64 x):W64 (xsh s x):=Nat.xor_lt_two_pow h (Nat.lt_of_le_of_lt (Nat.div_le_self _ _) h)
theorem Zyh (c x:Nat):W64 (mulW c x):=Nat.mod_lt _ (by decide)
theorem Z8y (c x:Nat):W64 (addW c x):=Nat.mod_lt _ (by decide)
theorem Zdl (x:Nat):W64 (mixN x):=Z7i _ _ (Zyh _ _)
def Zed (seed h l:Nat) (n:Nat):Nat:=mixN (mixN (mixN (seed ^^^ h) ^^^ l) ^^^ n)
end Go.Proofs.YtgfjmgebecmbiaaGreat.M
