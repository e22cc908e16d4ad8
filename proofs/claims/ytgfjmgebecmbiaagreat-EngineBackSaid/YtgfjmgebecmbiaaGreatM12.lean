/-
  Plain mathematics of tables of buckets: where a key lies, what is put, deleted, found, listed; what a table has, whatever was put. No condition but those that stand in each.
-/
import Derived.Test.YtgfjmgebecmbiaaGreatM4
import Derived.WalkKit
import Derived.Maps.AppendAt
import Derived.Test.YtgfjmgebecmbiaaGreatRows
import Derived.WalkSpells
import Derived.WalkLawsBesides
import Derived.Handy
import Derived.Lib.Hide
import Derived.Laws.Bits64b
set_option linter.unusedSimpArgs false
set_option linter.unusedVariables false
namespace Go.Proofs.YtgfjmgebecmbiaaGreat
open Go.RowKit Go.Sort M
def pcell (p:Pf):List Value:=[.int .u64 (hiW p.a:Nat),.int .u64 (loW p.a:Nat),.int .i64 p.n]
def pcs (L:List Pf):List Value:=L.flatMap pcell
theorem pcs_len (L:List Pf):(pcs L).length=L.length*3:=by
 unfold pcs
 induction L with
 | nil=>rfl
 | cons x L ih=>simp only [List.flatMap_cons,List.length_append,ih,pcell,List.length_cons,List.length_nil];omega
theorem pcs_append (L M:List Pf):pcs (L++M)=pcs L++pcs M:=by simp [pcs]
theorem pcs_cons (x:Pf) (L:List Pf):pcs (x::L)=pcell x++pcs L:=rfl
theorem pcs_one (p:Pf):pcs [p]=pcell p:=by simp [pcs]
theorem pcs_cell:∀(L:List Pf) (k j:Nat) (h:k<L.length),j<3->(pcs L)[k*3+j]? = (pcell L[k])[j]?
 | x::L,0,j,_,hj=>by
  rw [pcs_cons,List.getElem?_append_left (by simp [pcell];omega)]
  simp
 | x::L,k+1,j,h,hj=>by
  rw [pcs_cons,List.getElem?_append_right (by simp [pcell];omega),show (k+1)*3+j-(pcell x).length=k*3+j by simp [pcell];omega]
  rw [pcs_cell L k j (by simpa using h) hj]
  simp
theorem make_row {P:Program} {t e:TypeId} {z:Value} {size bytes:Nat} (ht:P.underlying t=some (.slice e)) (hz:(P.info? e).map (fun i=>(i.zero,i.size,i.bytes))=some (some z,size,bytes)) (c:Nat) (hb:bytes*c<=281474976710656) (hm:c<=maxLen) (w:World) :
 (Instr.makeSlice t (.int .i64 (c:Int)) (.int .i64 (c:Int))).run P w = .ok (.slice (some ⟨w.heap.size,0,none⟩) c c) (w.alloc (.cells (madeCells z.cells (c*size)) e)):=by
 obtain ⟨i0,hi0,iz0,iz1,iz2⟩:=info_parts hz
 have h:=run_make (P:=P) w t e i0 z ht hi0 iz0 .i64 .i64 c c (by omega) (by omega) (by rw [iz2];have e:((bytes*c:Nat):Int)<=281474976710656:=(by omega);rwa [Int.natCast_mul] at e) (by unfold maxLen at hm;omega)
 rw [Int.toNat_natCast,iz1] at h
 exact h
def Row (w:World) (p:Option Addr) (xs:List Value):Prop:=xs=[]\/∃g o,p=some ⟨g,o,none⟩/\g<w.heap.size/\∀j u,xs[j]? = some u->w.cell? ⟨g,o+j,none⟩=some u
theorem Row.below {w w':World} {p:Option Addr} {xs:List Value} (h:Row w p xs) (hb:Below w.heap.size w w'):Row w' p xs:=by
 rcases h with h | ⟨g,o,e,hg,hc⟩
 ·exact .inl h
 ·exact .inr ⟨g,o,e,Nat.lt_of_lt_of_le hg hb.size,fun j u hu=>(hb.cell (p:=⟨g,o+j,none⟩) hg).trans (hc j u hu)⟩
theorem Row.of_own {w:World} {B n k c:Nat} {e:TypeId} {p:Option Addr} {xs:List Value} (h:w.ownsRow B e k (.slice p n c) n xs):Row w p xs:=by
 by_cases h0:xs=[]
 ·exact .inl h0
 ·have hc:=fun g hg=>h.cells (g:=g) hg
  have hl:=h.lt
  rcases h.2 with ⟨e,h1⟩ | ⟨g,cap,cur,e,-,-,-,-,-,-⟩
  ·exact absurd (List.length_eq_zero_iff.1 (by rw [h.1,h1,Nat.zero_mul])) h0
  ·injection e with e1 e2 e3
   subst e1
   refine .inr ⟨g,0,rfl,(hl g rfl).2,fun j u hu => ?_⟩
   have:=hc g rfl j u hu
   rw [Nat.zero_add]
   rwa [show (⟨g,0,none⟩:Addr).add j=⟨g,j,none⟩ by unfold Addr.add;split<;>simp_all] at this
theorem Row.at {w:World} {p:Option Addr} {L:List Pf} (h:Row w p (pcs L)) {k:Nat} (hk:k<L.length):∃g o,p=some ⟨g,o,none⟩/\g<w.heap.size /\
 w.cell? ⟨g,o+k*3,none⟩=some (.int .u64 (hiW L[k].a:Nat))/\w.cell? ⟨g,o+k*3+1,none⟩=some (.int .u64 (loW L[k].a:Nat))/\w.cell? ⟨g,o+k*3+2,none⟩=some (.int .i64 L[k].n):=by
 rcases h with h | ⟨g,o,e,hg,hc⟩
 ·have:=pcs_len L
  rw [h] at this
  simp at this;omega
 ·exact ⟨g,o,e,hg,hc (k*3) _ (pcs_cell L k 0 hk (by omega)),hc (k*3+1) _ (pcs_cell L k 1 hk (by omega)),hc (k*3+2) _ (pcs_cell L k 2 hk (by omega))⟩
theorem store3 {w:World} {B g n c:Nat} {e:TypeId} {xs:List Value} (h:w.ownsRow B e 3 (.slice (some ⟨g,0,none⟩) n c) n xs) (k:Nat) (u0 u1 u2:Value) :
 (((w.setCell ⟨g,k*3,none⟩ u0).setCell ⟨g,k*3+1,none⟩ u1).setCell ⟨g,k*3+2,none⟩ u2).ownsRow B e 3 (.slice (some ⟨g,0,none⟩) n c) n (((xs.set (k*3) u0).set (k*3+1) u1).set (k*3+2) u2):=
 (((h.stored _ _).1.stored _ _).1.stored _ _).1
theorem set3_take (xs:List Value) (k:Nat) (u0 u1 u2:Value) (h:k*3+3<=xs.length):(((xs.set (k*3) u0).set (k*3+1) u1).set (k*3+2) u2).take ((k+1)*3)=xs.take (k*3)++[u0,u1,u2]:=by
 apply List.ext_getElem?
 intro i
 rw [List.getElem?_take,List.getElem?_append,List.length_take,Nat.min_eq_left (by omega),List.getElem?_take]
 by_cases h1:i<k*3
 ·rw [if_pos (by omega),if_pos h1,if_pos h1]
  simp only [List.getElem?_set]
  rw [if_neg (by omega),if_neg (by omega),if_neg (by omega)]
 ·rw [if_neg h1]
  by_cases h2:i<(k+1)*3
  ·rw [if_pos h2]
   simp only [List.getElem?_set,List.length_set]
   rcases (show i=k*3\/i=k*3+1\/i=k*3+2 by omega) with rfl | rfl | rfl
   ·rw [if_neg (by omega),if_neg (by omega),if_pos rfl,if_pos (by omega)];simp
   ·rw [if_neg (by omega),if_pos rfl,if_pos (by omega)];simp
   ·rw [if_pos rfl,if_pos (by omega)];simp
  ·rw [if_neg h2,List.getElem?_eq_none (by simp;omega)]
theorem new_cells (w:World) (cs:Array Value) (t:TypeId):∀j u,cs.toList[j]? = some u->(w.alloc (.cells cs t)).cell? ((⟨w.heap.size,0,none⟩:Addr).add j)=some u:=by
 intro j u hu
 rw [show (⟨w.heap.size,0,none⟩:Addr).add j=⟨w.heap.size,j,none⟩ by unfold Addr.add;split<;>simp_all]
 rw [cell_of_row _ _ j cs t (0,0) (heap_alloc_new w _)]
 simpa using hu
def pfs (L:List Nat) (m:Int):List Pf:=L.map fun x=>⟨x,m⟩
theorem pfs_len (L:List Nat) (m:Int):(pfs L m).length=L.length:=by simp [pfs]
def firstN (n:Int):Nat:=(2^64-1) ^^^ ((2^64-1)/2^n.toNat)
theorem firstN_eq (n:Int) (h0:0<=n):bits BinOp.xor IntKind.u64 IntKind.u64.max (18446744073709551615/2^n.toNat)=(firstN n:Int):=by
 obtain ⟨k,rfl⟩:=Int.eq_ofNat_of_zero_le h0
 unfold firstN
 have h2:(2^64-1)/2^k<2^64:=Nat.lt_of_le_of_lt (Nat.div_le_self _ _) (by decide)
 have e:(18446744073709551615/2^(k:Int).toNat:Int)=(((2^64-1)/2^k:Nat):Int):=by
  rw [Int.toNat_natCast,Int.natCast_ediv];simp
 rw [e,show IntKind.u64.max=((2^64-1:Nat):Int) from by decide,bits_xor_u64_nat _ _ (by decide) (by simpa using h2)]
 simp
set_option maxHeartbeats 400000 in
theorem first_any (n:Int) (w:World) (h0:0<=n) (h1:n<=64) :
 Calls Tryz.prog 85 #[.int .i64 n] w fun e w'=>e = .returned (.int .u64 (firstN n))/\w=w':=by
 go_enter Tryz.func85,Tryz.ntmps85
 go_wp2
 go_ret
 exact ⟨by show Ending.returned (.int .u64 _)=_;rw [firstN_eq n h0],rfl⟩
theorem and_first (x:Nat) (m:Int) (hx:W64 x) (h0:0<=m) (h1:m<=64):bits BinOp.and IntKind.u64 (x:Int) (firstN m)=(cutW x m.toNat:Nat):=by
 have h2:firstN m<2^64:=by
  unfold firstN
  exact Nat.xor_lt_two_pow (by decide) (Nat.lt_of_le_of_lt (Nat.div_le_self _ _) (by decide))
 rw [bits_and_u64_nat _ _ hx.lt (by simpa using h2)]
 unfold firstN
 rw [mask_and x m.toNat hx (by omega)]
theorem cut_eq (hi lo:Nat) (n m k:Int) (ha:W64 hi) (hb:W64 lo) (h0:0<=m) (h1:m<=64) (h2:0<=k) (h3:k<=64) (e1:m.toNat=min n.toNat 64) (e2:k.toNat=min (n.toNat-64) 64) :
 Ending.returned (.agg #[.int .u64 (bits BinOp.and IntKind.u64 (hi:Int) (firstN m)),.int .u64 (bits BinOp.and IntKind.u64 (lo:Int) (firstN k))]) =
  Ending.returned (.agg #[.int .u64 (cutW hi n.toNat:Nat),.int .u64 (cutW lo (n.toNat-64):Nat)]):=by
 rw [and_first hi m ha h0 h1,and_first lo k hb h2 h3,e1,e2]
 have g:∀x k,cutW x (min k 64)=cutW x k:=fun x k=>by unfold cutW;rw [show 64-min k 64=64-k by omega]
 rw [g,g]
set_option maxHeartbeats 400000 in
theorem cut_any (hi lo:Nat) (n:Int) (ha:W64 hi) (hb:W64 lo) :
 Gives Tryz.prog 60 #[.agg #[.int .u64 hi,.int .u64 lo],.int .i64 n] (.agg #[.int .u64 (cutW hi n.toNat),.int .u64 (cutW lo (n.toNat-64))]):=by
 intro w
 have k0:=cell_regrown (w:=(w.alloc (.cells #[.int .u64 hi,.int .u64 lo] 24)).alloc (.cells #[.int .u64 0,.int .u64 0] 24)) (a:=⟨w.heap.size,0,none⟩) (v := .int .u64 hi) (by simp [go_sem])
 have k1:=cell_regrown (w:=(w.alloc (.cells #[.int .u64 hi,.int .u64 lo] 24)).alloc (.cells #[.int .u64 0,.int .u64 0] 24)) (a:=⟨w.heap.size,1,none⟩) (v := .int .u64 lo) (by simp [go_sem])
 by_cases h1:n<=0
 ·go_enter Tryz.func60,Tryz.ntmps60
  go_wp2_with fail
  have kg:=cell_grow
  refine region_tail 14 (by kernel_rfl) (by kernel_rfl) ?_
  simp only [List.take_succ_cons,List.take_zero,List.drop_succ_cons,List.drop_zero]
  repeat (any_goals (first|go_big_quiet_step (first|(go_at_call 85;exact Gives.at (Gives.still fun w=>first_any _ w (by omega) (by omega)) _ _ _))|quiet_step (first|(go_at_call 85;exact Gives.at (Gives.still fun w=>first_any _ w (by omega) (by omega)) _ _ _))))
  refine wpQuiet_nil ?_
  clear kg
  intro w1 hb1
  obtain ⟨hc1,hf1⟩:=bcell hb1
  have hw1:Below w.heap.size w w1:=by
   refine Below.trans ?_ (hb1.mono ?_)
   ·go_grown
   ·first|omega|go_size
  go_wp2
  refine bodyPost_ret (by simp [results,Tryz.results60,go_sem,hc1,hf1];try rfl) rfl ?_
  exact ⟨cut_eq hi lo n _ _ ha hb (by omega) (by omega) (by omega) (by omega) (by omega) (by omega),by go_grown⟩
 by_cases h2:n<=64
 ·go_enter Tryz.func60,Tryz.ntmps60
  go_wp2_with fail
  have kg:=cell_grow
  refine region_tail 14 (by kernel_rfl) (by kernel_rfl) ?_
  simp only [List.take_succ_cons,List.take_zero,List.drop_succ_cons,List.drop_zero]
  repeat (any_goals (first|go_big_quiet_step (first|(go_at_call 85;exact Gives.at (Gives.still fun w=>first_any _ w (by omega) (by omega)) _ _ _))|quiet_step (first|(go_at_call 85;exact Gives.at (Gives.still fun w=>first_any _ w (by omega) (by omega)) _ _ _))))
  refine wpQuiet_nil ?_
  clear kg
  intro w1 hb1
  obtain ⟨hc1,hf1⟩:=bcell hb1
  have hw1:Below w.heap.size w w1:=by
   refine Below.trans ?_ (hb1.mono ?_)
   ·go_grown
   ·first|omega|go_size
  go_wp2
  refine bodyPost_ret (by simp [results,Tryz.results60,go_sem,hc1,hf1];try rfl) rfl ?_
  exact ⟨cut_eq hi lo n _ _ ha hb (by omega) (by omega) (by omega) (by omega) (by omega) (by omega),by go_grown⟩
 by_cases h3:n<=128
 ·go_enter Tryz.func60,Tryz.ntmps60
  go_wp2_with fail
  have kg:=cell_grow
  refine region_tail 14 (by kernel_rfl) (by kernel_rfl) ?_
  simp only [List.take_succ_cons,List.take_zero,List.drop_succ_cons,List.drop_zero]
  repeat (any_goals (first|go_big_quiet_step (first|(go_at_call 85;exact Gives.at (Gives.still fun w=>first_any _ w (by omega) (by omega)) _ _ _))|quiet_step (first|(go_at_call 85;exact Gives.at (Gives.still fun w=>first_any _ w (by omega) (by omega)) _ _ _))))
  refine wpQuiet_nil ?_
  clear kg
  intro w1 hb1
  obtain ⟨hc1,hf1⟩:=bcell hb1
  have hw1:Below w.heap.size w w1:=by
   refine Below.trans ?_ (hb1.mono ?_)
   ·go_grown
   ·first|omega|go_size
  go_wp2
  refine bodyPost_ret (by simp [results,Tryz.results60,go_sem,hc1,hf1];try rfl) rfl ?_
  exact ⟨cut_eq hi lo n _ _ ha hb (by omega) (by omega) (by omega) (by omega) (by omega) (by omega),by go_grown⟩
 by_cases h4:128<n
 ·go_enter Tryz.func60,Tryz.ntmps60
  go_wp2_with fail
  have kg:=cell_grow
  refine region_tail 14 (by kernel_rfl) (by kernel_rfl) ?_
  simp only [List.take_succ_cons,List.take_zero,List.drop_succ_cons,List.drop_zero]
  repeat (any_goals (first|go_big_quiet_step (first|(go_at_call 85;exact Gives.at (Gives.still fun w=>first_any _ w (by omega) (by omega)) _ _ _))|quiet_step (first|(go_at_call 85;exact Gives.at (Gives.still fun w=>first_any _ w (by omega) (by omega)) _ _ _))))
  refine wpQuiet_nil ?_
  clear kg
  intro w1 hb1
  obtain ⟨hc1,hf1⟩:=bcell hb1
  have hw1:Below w.heap.size w w1:=by
   refine Below.trans ?_ (hb1.mono ?_)
   ·go_grown
   ·first|omega|go_size
  go_wp2
  refine bodyPost_ret (by simp [results,Tryz.results60,go_sem,hc1,hf1];try rfl) rfl ?_
  exact ⟨cut_eq hi lo n _ _ ha hb (by omega) (by omega) (by omega) (by omega) (by omega) (by omega),by go_grown⟩
 omega
end Go.Proofs.YtgfjmgebecmbiaaGreat
namespace Go.Proofs.YtgfjmgebecmbiaaGreat
open M
structure Ky where
 h:Nat
 l:Nat
 n:Int
deriving DecidableEq
def Ky.good (k:Ky):Prop:=W64 k.h/\W64 k.l
structure Rt where
 k:Ky
 v:Int
deriving DecidableEq
abbrev Pl:=Option Rt
def hasK (k:Ky) (x:Pl):Bool:=
 match x with
 | some r=>decide (r.k=k)
 | none=>false
def idxI (p:Pl->Bool) (C:List Pl):Int:=
 match C.findIdx? p with
 | some i=>(i:Int)
 | none => -1
def putC (C:List Pl) (k:Ky) (v:Int):Option (List Pl):=
 match C.findIdx? (hasK k) with
 | some i=>some (C.set i (some ⟨k,v⟩))
 | none=>
  match C.findIdx? Option.isNone with
  | some i=>some (C.set i (some ⟨k,v⟩))
  | none=>none
def takeC (C:List Pl) (k:Ky):Option (List Pl):=
 match C.findIdx? (hasK k) with
 | some i=>some (C.set i none)
 | none=>none
def getC (C:List Pl) (k:Ky):Option Int:=
 match C.findIdx? (hasK k) with
 | some i=>(C.getD i none).map Rt.v
 | none=>none
def swapC (C:List Pl) (i:Int) (k:Ky) (v:Int):Option (Rt×List Pl):=
 if 0<=i then
  match C.getD i.toNat none with
  | some r=>some (r,C.set i.toNat (some ⟨k,v⟩))
  | none=>none
 else none
def allC (C:List Pl):List Rt:=C.filterMap id
def xh (x:Pl):Nat:=match x with | some r=>r.k.h | none=>0
def xl (x:Pl):Nat:=match x with | some r=>r.k.l | none=>0
def xn (x:Pl):Int:=match x with | some r=>r.k.n | none=>0
def xv (x:Pl):Int:=match x with | some r=>r.v | none=>0
theorem hasK_eq (k:Ky) (x:Pl):hasK k x=(x.isSome&&decide (xh x=k.h/\xl x=k.l/\xn x=k.n)):=by
 cases x with
 | none=>rfl
 | some r=>
  obtain ⟨⟨a,b,c⟩,v⟩:=r
  obtain ⟨d,e,f⟩:=k
  rw [Bool.eq_iff_iff]
  simp [hasK,xh,xl,xn]
  exact decide_eq_true_iff.symm
theorem idx_hit {p:Pl->Bool} {C:List Pl} {i:Nat} (hi:i<C.length) (h:p C[i]=true) (hb:∀j (hj:j<C.length),j<i->p C[j]=false):C.findIdx? p=some i:=by
 rw [List.findIdx?_eq_some_iff_getElem]
 exact ⟨hi,h,fun j hj=>by simp [hb j (by omega) hj]⟩
theorem idx_miss {p:Pl->Bool} {C:List Pl} (hb:∀j (hj:j<C.length),p C[j]=false):C.findIdx? p=none:=by
 rw [List.findIdx?_eq_none_iff]
 intro x hx
 obtain ⟨j,hj,rfl⟩:=List.getElem_of_mem hx
 exact hb j hj
theorem idxI_hit {p:Pl->Bool} {C:List Pl} {i:Nat} (hi:i<C.length) (h:p C[i]=true) (hb:∀j (hj:j<C.length),j<i->p C[j]=false):idxI p C=i:=by
 unfold idxI
 rw [idx_hit hi h hb]
theorem idxI_miss {p:Pl->Bool} {C:List Pl} (hb:∀j (hj:j<C.length),p C[j]=false):idxI p C = -1:=by
 unfold idxI
 rw [idx_miss hb]
theorem idx_cases (p:Pl->Bool) (C:List Pl):(∃i,∃hi:i<C.length,C.findIdx? p=some i/\idxI p C=i/\p C[i]=true)\/(C.findIdx? p=none/\idxI p C = -1):=by
 cases h:C.findIdx? p with
 | none=>exact .inr ⟨rfl,by unfold idxI;rw [h]⟩
 | some i=>
  have:=List.findIdx?_eq_some_iff_getElem.1 h
  exact .inl ⟨i,this.1,rfl,by unfold idxI;rw [h],this.2.1⟩
theorem allC_len (C:List Pl):(allC C).length<=C.length:=List.length_filterMap_le _ _
theorem allC_snoc (C:List Pl) (i:Nat) (h:i<C.length):allC (C.take (i+1))=allC (C.take i)++(C[i]).toList:=by
 unfold allC
 rw [List.take_succ_eq_append_getElem h,List.filterMap_append]
 cases C[i]<;>rfl
theorem getC_hit {C:List Pl} {k:Ky} {i:Nat} (hi:i<C.length) (h:C.findIdx? (hasK k)=some i) (hk:hasK k C[i]=true):getC C k=some (xv C[i]):=by
 unfold getC
 rw [h]
 simp only [List.getD_eq_getElem?_getD,List.getElem?_eq_getElem hi,Option.getD_some]
 cases e:C[i] with
 | none=>rw [e] at hk;cases hk
 | some r=>rfl
theorem getC_miss {C:List Pl} {k:Ky} (h:C.findIdx? (hasK k)=none):getC C k=none:=by
 unfold getC
 rw [h]
end Go.Proofs.YtgfjmgebecmbiaaGreat
namespace Go.Proofs.YtgfjmgebecmbiaaGreat
open Go.RowKit Go.Sort M
def rcell (r:Rt):List Value:=[.int .u64 (r.k.h:Int),.int .u64 (r.k.l:Int),.int .i64 r.k.n,.int .i64 r.v]
def rcs (L:List Rt):List Value:=L.flatMap rcell
theorem rcs_len (L:List Rt):(rcs L).length=L.length*4:=by
 unfold rcs
 induction L with
 | nil=>rfl
 | cons x L ih=>simp only [List.flatMap_cons,List.length_append,ih,rcell,List.length_cons,List.length_nil];omega
theorem rcs_append (L M:List Rt):rcs (L++M)=rcs L++rcs M:=by simp [rcs]
theorem rcs_cons (x:Rt) (L:List Rt):rcs (x::L)=rcell x++rcs L:=rfl
theorem rcs_one (p:Rt):rcs [p]=rcell p:=by simp [rcs]
theorem rcs_cell:∀(L:List Rt) (k j:Nat) (h:k<L.length),j<4->(rcs L)[k*4+j]? = (rcell L[k])[j]?
 | x::L,0,j,_,hj=>by
  rw [rcs_cons,List.getElem?_append_left (by simp [rcell];omega)]
  simp
 | x::L,k+1,j,h,hj=>by
  rw [rcs_cons,List.getElem?_append_right (by simp [rcell];omega),show (k+1)*4+j-(rcell x).length=k*4+j by simp [rcell];omega]
  rw [rcs_cell L k j (by simpa using h) hj]
  simp
theorem rcs_one' (L:List Rt):∀u∈rcs L,u.oneCell'=true:=by
 intro u hu
 unfold rcs at hu
 rw [List.mem_flatMap] at hu
 obtain ⟨p,-,hp⟩:=hu
 simp only [rcell,List.mem_cons,List.not_mem_nil,or_false] at hp
 rcases hp with rfl | rfl | rfl | rfl<;>rfl
theorem Row.rt {w:World} {p:Option Addr} {L:List Rt} (h:Row w p (rcs L)) {k:Nat} (hk:k<L.length):∃g o,p=some ⟨g,o,none⟩/\g<w.heap.size /\
 w.cell? ⟨g,o+k*4,none⟩=some (.int .u64 (L[k].k.h:Int))/\w.cell? ⟨g,o+k*4+1,none⟩=some (.int .u64 (L[k].k.l:Int))/\w.cell? ⟨g,o+k*4+2,none⟩=some (.int .i64 L[k].k.n)/\w.cell? ⟨g,o+k*4+3,none⟩=some (.int .i64 L[k].v):=by
 rcases h with h | ⟨g,o,e,hg,hc⟩
 ·have:=rcs_len L
  rw [h] at this
  simp at this;omega
 ·exact ⟨g,o,e,hg,hc (k*4) _ (rcs_cell L k 0 hk (by omega)),hc (k*4+1) _ (rcs_cell L k 1 hk (by omega)),hc (k*4+2) _ (rcs_cell L k 2 hk (by omega)),hc (k*4+3) _ (rcs_cell L k 3 hk (by omega))⟩
def NewRts (w w':World) (e:Ending) (L:List Rt):Prop:=∃p c,e = .returned (.slice p L.length c)/\w'.ownsRow w.heap.size 41 4 (.slice p L.length c) L.length (rcs L)/\Below w.heap.size w w'
theorem infoR:(Tryz.prog.info? 41).map (fun i=>(i.zero,i.size,i.bytes))=some (some (.agg #[.int .u64 0,.int .u64 0,.int .i64 0,.int .i64 0]),4,32):=by kernel_rfl
theorem four_new {w:World} {g:Nat} {a b c d:Value} (h0:w.cell? ⟨g,0,none⟩=some a) (h1:w.cell? ⟨g,1,none⟩=some b) (h2:w.cell? ⟨g,2,none⟩=some c) (h3:w.cell? ⟨g,3,none⟩=some d) :
 ∀j u,[a,b,c,d][j]? = some u->w.cell? ((⟨g,0,none⟩:Addr).add j)=some u:=by
 intro j u hj
 have hlt:j<4:=(List.getElem?_eq_some_iff.1 hj).1
 have he:(⟨g,0,none⟩:Addr).add j=⟨g,j,none⟩:=by unfold Addr.add;split<;>simp_all
 rw [he]
 rcases (show j=0\/j=1\/j=2\/j=3 by omega) with rfl | rfl | rfl | rfl<;>(simp only [List.getElem?_cons_zero,List.getElem?_cons_succ,Option.some.injEq] at hj;subst hj;assumption)
theorem own_rsnoc {w:World} {B n:Nat} {e:TypeId} {v:Value} {L:List Rt} {x:Rt} (h:w.ownsRow B e 4 v (n+1) (rcs L++rcell x)) (hn:n=L.length):w.ownsRow B e 4 v (L++[x]).length (rcs (L++[x])):=by
 rw [rcs_append,rcs_one,List.length_append,<-hn]
 exact h
end Go.Proofs.YtgfjmgebecmbiaaGreat
namespace Go.Proofs.YtgfjmgebecmbiaaGreat
open Go.ChangeShapes Go.WideShapes Go.ChangeAt Go.RowKit Go.Joins Go.Deep M
theorem RowA.rts {w:World} {p:Option Addr} {L:List Rt} (h:RowA 4 rcell w p L):Row w p (rcs L):=by
 rcases h with h | ⟨g,o,e,hg,hc⟩
 ·subst h
  exact .inl rfl
 ·refine .inr ⟨g,o,e,hg,fun j u hu => ?_⟩
  have hj:j<L.length*4:=by
   have:=(List.getElem?_eq_some_iff.1 hu).1
   rwa [rcs_len] at this
  have e1:j/4*4+j%4=j:=by omega
  have hlt:j/4<L.length:=by omega
  rw [<-e1,rcs_cell L (j/4) (j%4) hlt (by omega)] at hu
  have:=hc (j/4) hlt (j%4) u hu
  rw [show o+j/4*4+j%4=o+j by omega] at this
  exact this
section
variable {H:Type} {enc:TypeId×Value->H} {w:World} {base:Nat} {spare:Nat->Bool} {held:Bool} {r:Reach} {b0:Nat}
set_option maxRecDepth 100000 in
theorem elemRt (n:Nat) (cs:List Value) (x:DataW H×List MemPlace) (h:DataW.trod enc Tryz.prog w base spare held n 41 cs=some x):∃a:Rt,cs=rcell a/\a.k.good:=by
 obtain ⟨xs,m,-,-,hl,hxl,hf⟩:=DataW.trod_struct Tryz.underlying41 h
 rw [show Tryz.prog.cellsOf 41=4 by kernel_rfl] at hl
 have h1:DataW.trod enc Tryz.prog w base spare held m 39 ((cs.drop 0).take (Tryz.prog.cellsOf 39))=xs[0]? := hf 0 _ rfl
 have h2:DataW.trod enc Tryz.prog w base spare held m 3 ((cs.drop 3).take (Tryz.prog.cellsOf 3))=xs[1]? := hf 1 _ rfl
 rw [show Tryz.prog.cellsOf 3=1 by kernel_rfl] at h2
 rw [cellsP] at h1
 obtain ⟨c0,c1,c2,c3,rfl⟩:∃c0 c1 c2 c3,cs=[c0,c1,c2,c3]:=by
  rcases cs with _ | ⟨c0,_ | ⟨c1,_ | ⟨c2,_ | ⟨c3,_ | ⟨c4,cs⟩⟩⟩⟩⟩<;>simp at hl
  exact ⟨c0,c1,c2,c3,rfl⟩
 simp only [List.drop_zero,List.take_succ_cons,List.take_zero,List.drop_succ_cons] at h1 h2
 rw [List.getElem?_eq_getElem (by rw [hxl];decide)] at h1 h2
 obtain ⟨hi,lo,k,e1,w1,w2,-⟩:=open_pfx_cells h1
 obtain ⟨b,e2,-,-⟩:=DataW.trod_int Tryz.underlying3 h2
 simp only [List.cons.injEq,and_true] at e1 e2
 obtain ⟨e1,e3,e4⟩:=e1
 exact ⟨⟨⟨hi,lo,k⟩,b⟩,by rw [e1,e2,e3,e4];rfl,w1,w2⟩
set_option maxRecDepth 100000 in
theorem open_routes {v:Value} {d:DataW H} {p:List MemPlace} (hv:Value.okWide Tryz.prog w r b0 35 v) (h:DataW.Trod enc Tryz.prog w base spare held 35 v d p) :
 ∃(q:Option Addr) (c:Nat) (L:List Rt),v = .slice q L.length c/\Row w q (rcs L)/\(∀a∈L,a.k.good)/\L.length<=maxLen:=by
 haveI:Inhabited Rt:=⟨⟨⟨0,0,0⟩,0⟩⟩
 obtain ⟨q,c,L,e,hr,hg,hl⟩:=open_elems Tryz.underlying35 (show Tryz.prog.cellsOf 41=4 by kernel_rfl) (by decide) (fun _ _=>by simp [rcell]) elemRt hv h
 exact ⟨q,c,L,e,hr.rts,hg,hl⟩
end
end Go.Proofs.YtgfjmgebecmbiaaGreat
namespace Go.Proofs.YtgfjmgebecmbiaaGreat.M
def xsh (s x:Nat):Nat:=x ^^^ (x/2^s)
def mulW (c x:Nat):Nat:=x*c%2^64
def addW (c x:Nat):Nat:=(x+c)%2^64
def mixN (x:Nat):Nat:=xsh 31 (mulW 10723151780598845931 (xsh 27 (mulW 13787848793156543929 (xsh 30 (addW 11400714819323198485 x)))))
theorem xsh_w (s x:Nat) (h:W64 x):W64 (xsh s x):=Nat.xor_lt_two_pow h (Nat.lt_of_le_of_lt (Nat.div_le_self _ _) h)
theorem mulW_w (c x:Nat):W64 (mulW c x):=Nat.mod_lt _ (by decide)
theorem addW_w (c x:Nat):W64 (addW c x):=Nat.mod_lt _ (by decide)
theorem mixN_w (x:Nat):W64 (mixN x):=xsh_w _ _ (mulW_w _ _)
def hashN (seed h l:Nat) (n:Nat):Nat:=mixN (mixN (mixN (seed ^^^ h) ^^^ l) ^^^ n)
end Go.Proofs.YtgfjmgebecmbiaaGreat.M
namespace Go.Proofs.YtgfjmgebecmbiaaGreat
open Go.RowKit Go.Sort M
def wordZ (n:Int):Nat:=(n%18446744073709551616).toNat
theorem wordZ_w (n:Int):W64 (wordZ n):=W64.mk (by unfold wordZ;omega)
theorem wordZ_nat (x:Nat) (h:W64 x):wordZ (x:Int)=x:=by
 have:=h.lt
 unfold wordZ
 omega
theorem wrap_word (n:Int):IntKind.u64.wrap n=(wordZ n:Int):=by
 rw [IntKind.wrap_u64]
 unfold wordZ
 omega
def mixZ (x:Int):Int:=(mixN (wordZ x):Nat)
theorem mixZ_nat (x:Nat) (h:W64 x):mixZ (x:Int)=(mixN x:Nat):=by unfold mixZ;rw [wordZ_nat x h]
theorem add_word (x:Int):IntKind.u64.wrap (x+11400714819323198485)=(addW 11400714819323198485 (wordZ x):Nat):=by
 rw [IntKind.wrap_u64]
 unfold addW wordZ
 omega
theorem mul_word (c x:Nat):IntKind.u64.wrap ((x:Int)*(c:Int))=(mulW c x:Nat):=by
 rw [IntKind.wrap_u64,<-Int.natCast_mul]
 unfold mulW
 omega
theorem xsh_word (x s:Nat) (h:W64 x):bits BinOp.xor IntKind.u64 (x:Int) ((x:Int)/(2^s:Nat))=(xsh s x:Nat):=by
 rw [<-Int.natCast_ediv,bits_xor_u64_nat _ _ h.lt (Nat.lt_of_le_of_lt (Nat.div_le_self _ _) h.lt)]
 rfl
theorem mix_eq (x:Int) :
 bits BinOp.xor IntKind.u64 (IntKind.u64.wrap (bits BinOp.xor IntKind.u64 (IntKind.u64.wrap (bits BinOp.xor IntKind.u64 (IntKind.u64.wrap (x+11400714819323198485)) (IntKind.u64.wrap (x+11400714819323198485)/1073741824)*13787848793156543929)) (IntKind.u64.wrap (bits BinOp.xor IntKind.u64 (IntKind.u64.wrap (x+11400714819323198485)) (IntKind.u64.wrap (x+11400714819323198485)/1073741824)*13787848793156543929)/134217728)*10723151780598845931))
  (IntKind.u64.wrap (bits BinOp.xor IntKind.u64 (IntKind.u64.wrap (bits BinOp.xor IntKind.u64 (IntKind.u64.wrap (x+11400714819323198485)) (IntKind.u64.wrap (x+11400714819323198485)/1073741824)*13787848793156543929)) (IntKind.u64.wrap (bits BinOp.xor IntKind.u64 (IntKind.u64.wrap (x+11400714819323198485)) (IntKind.u64.wrap (x+11400714819323198485)/1073741824)*13787848793156543929)/134217728)*10723151780598845931)/2147483648)=mixZ x:=by
 have e1:=add_word x
 have w1:=addW_w 11400714819323198485 (wordZ x)
 have e2:=xsh_word _ 30 w1
 have w2:=xsh_w 30 _ w1
 have e3:=mul_word 13787848793156543929 (xsh 30 (addW 11400714819323198485 (wordZ x)))
 have w3:=mulW_w 13787848793156543929 (xsh 30 (addW 11400714819323198485 (wordZ x)))
 have e4:=xsh_word _ 27 w3
 have e5:=mul_word 10723151780598845931 (xsh 27 (mulW 13787848793156543929 (xsh 30 (addW 11400714819323198485 (wordZ x)))))
 have w5:=mulW_w 10723151780598845931 (xsh 27 (mulW 13787848793156543929 (xsh 30 (addW 11400714819323198485 (wordZ x)))))
 have e6:=xsh_word _ 31 w5
 simp only [Nat.reducePow,Int.cast_ofNat_Int] at e2 e3 e4 e5 e6
 rw [e1,e2,e3,e4,e5,e6]
 rfl
set_option maxHeartbeats 400000 in
theorem mix_any (x:Int):Gives Tryz.prog 27 #[.int .u64 x] (.int .u64 (mixZ x)):=by
 intro w
 go_enter Tryz.func27,Tryz.ntmps27
 go_wp2
 go_ret
 exact ⟨ret_num (mix_eq x),by go_grown⟩
theorem xor_word (x y:Nat) (h:W64 x) (h2:W64 y):bits BinOp.xor IntKind.u64 (x:Int) (y:Int)=(x ^^^ y:Nat):=bits_xor_u64_nat _ _ h.lt h2.lt
theorem hash_eq (s h l:Nat) (n:Int) (hs:W64 s) (hh:W64 h) (hl:W64 l) :
 mixZ (bits BinOp.xor IntKind.u64 (mixZ (bits BinOp.xor IntKind.u64 (mixZ (bits BinOp.xor IntKind.u64 (s:Int) (h:Int))) (l:Int))) (IntKind.u64.wrap n))=(hashN s h l (wordZ n):Nat):=by
 rw [xor_word s h hs hh,mixZ_nat _ (Nat.xor_lt_two_pow hs hh),xor_word _ l (mixN_w _) hl,mixZ_nat _ (Nat.xor_lt_two_pow (mixN_w _) hl),wrap_word,xor_word _ _ (mixN_w _) (wordZ_w n),mixZ_nat _ (Nat.xor_lt_two_pow (mixN_w _) (wordZ_w n))]
 rfl
set_option maxHeartbeats 400000 in
theorem hash_any (s h l:Nat) (n:Int) (hs:W64 s) (hh:W64 h) (hl:W64 l) :
 Gives Tryz.prog 144 #[.int .u64 s,.agg #[.int .u64 h,.int .u64 l,.int .i64 n]] (.int .u64 (hashN s h l (wordZ n))):=by
 intro w
 have he:=Lib.hid (hash_eq s h l n hs hh hl)
 go_enter Tryz.func144,Tryz.ntmps144
 go_wp2_with fail
 have kg:=cell_grow
 refine region_whole (by kernel_rfl) (by kernel_rfl) ?_
 repeat (any_goals (first|go_big_quiet_step (first|(go_at_call 27;exact Gives.at (mix_any _) _ _ _))|quiet_step (first|(go_at_call 27;exact Gives.at (mix_any _) _ _ _))))
 refine wpQuiet_nil ?_
 clear kg
 intro w1 hb1
 obtain ⟨hc1,hf1⟩:=bcell hb1
 have hw1:Below w.heap.size w w1:=by
  refine Below.trans ?_ (hb1.mono ?_)
  ·go_grown
  ·first|omega|go_size
 go_wp2
 go_ret
 exact ⟨ret_num he.out,by go_grown⟩
end Go.Proofs.YtgfjmgebecmbiaaGreat
namespace Go.Proofs.YtgfjmgebecmbiaaGreat.M
def redN (x m:Nat):Nat:=x*m/2^64
theorem redN_lt (x m:Nat) (hx:W64 x) (hm:0<m):redN x m<m:=by
 unfold redN
 rw [Nat.div_lt_iff_lt_mul (by decide),Nat.mul_comm m]
 exact Nat.mul_lt_mul_of_pos_right hx hm
end Go.Proofs.YtgfjmgebecmbiaaGreat.M
namespace Go.Proofs.YtgfjmgebecmbiaaGreat
open Go.RowKit Go.Sort
def ics (L:List Int):List Value:=L.map fun x => .int .i64 x
theorem ics_len (L:List Int):(ics L).length=L.length:=by simp [ics]
theorem ics_append (L M:List Int):ics (L++M)=ics L++ics M:=by simp [ics]
theorem ics_one (x:Int):ics [x]=[.int .i64 x]:=rfl
theorem ics_cell (L:List Int) (k:Nat) (h:k<L.length):(ics L)[k]? = some (.int .i64 L[k]):=by simp [ics,h]
theorem set1_take (xs:List Value) (k:Nat) (u:Value) (h:k<xs.length):(xs.set k u).take (k+1)=xs.take k++[u]:=by
 rw [List.take_succ_eq_append_getElem (by rw [List.length_set];exact h),List.take_set_of_le (Nat.le_refl _)]
 simp
def IRow (w:World) (p:Option Addr) (L:List Int):Prop:=L=[]\/∃g o,p=some ⟨g,o,none⟩/\g<w.heap.size/\∀j u,(ics L)[j]? = some u->w.cell? ⟨g,o+j,none⟩=some u
theorem IRow.below {w w':World} {p:Option Addr} {L:List Int} (h:IRow w p L) (hb:Below w.heap.size w w'):IRow w' p L:=by
 rcases h with h | ⟨g,o,e,hg,hc⟩
 ·exact .inl h
 ·exact .inr ⟨g,o,e,Nat.lt_of_lt_of_le hg hb.size,fun j u hu=>(hb.cell (p:=⟨g,o+j,none⟩) hg).trans (hc j u hu)⟩
theorem IRow.of_own {w:World} {B n c:Nat} {e:TypeId} {p:Option Addr} {L:List Int} (h:w.ownsRow B e 1 (.slice p n c) n (ics L)):IRow w p L:=by
 by_cases h0:L=[]
 ·exact .inl h0
 ·have hc:=fun g hg=>h.cells (g:=g) hg
  have hl:=h.lt
  rcases h.2 with ⟨e,h1⟩ | ⟨g,cap,cur,e,-,-,-,-,-,-⟩
  ·have:=h.1
   rw [ics_len,h1] at this
   exact absurd (List.length_eq_zero_iff.1 (by omega)) h0
  ·injection e with e1 e2 e3
   subst e1
   refine .inr ⟨g,0,rfl,(hl g rfl).2,fun j u hu => ?_⟩
   have:=hc g rfl j u hu
   rw [Nat.zero_add]
   rwa [show (⟨g,0,none⟩:Addr).add j=⟨g,j,none⟩ by unfold Addr.add;split<;>simp_all] at this
theorem IRow.at {w:World} {p:Option Addr} {L:List Int} (h:IRow w p L) {k:Nat} (hk:k<L.length):∃g o,p=some ⟨g,o,none⟩/\g<w.heap.size/\w.cell? ⟨g,o+k,none⟩=some (.int .i64 L[k]):=by
 rcases h with h | ⟨g,o,e,hg,hc⟩
 ·rw [h] at hk
  simp at hk
 ·exact ⟨g,o,e,hg,hc k _ (ics_cell L k hk)⟩
def GivesInts (f:FuncId) (args:Array Value) (L:List Int):Prop:=∀w,Calls Tryz.prog f args w fun e w'=>∃p c,e = .returned (.slice p L.length c)/\w'.ownsRow w.heap.size 3 1 (.slice p L.length c) L.length (ics L)/\Below w.heap.size w w'
theorem infoI:(Tryz.prog.info? 3).map (fun i=>(i.zero,i.size,i.bytes))=some (some (.int .i64 0),1,8):=by kernel_rfl
theorem one_new {w:World} {g:Nat} {v:Value} (h:w.cell? ⟨g,0,none⟩=some v):∀j u,[v][j]? = some u->w.cell? ((⟨g,0,none⟩:Addr).add j)=some u:=by
 intro j u hj
 match j,hj with
 | 0,hj=>simp only [List.getElem?_cons_zero,Option.some.injEq] at hj;subst hj;simpa [Addr.add] using h
theorem own_isnoc {w:World} {B n:Nat} {e:TypeId} {v:Value} {L:List Int} {x:Int} (h:w.ownsRow B e 1 v (n+1) (ics L++[.int .i64 x])) (hn:n=L.length):w.ownsRow B e 1 v (L++[x]).length (ics (L++[x])):=by
 rw [ics_append,ics_one,List.length_append,<-hn]
 exact h
end Go.Proofs.YtgfjmgebecmbiaaGreat
namespace Go.Proofs.YtgfjmgebecmbiaaGreat
open Go.RowKit Go.Sort M
def redI (x:Nat) (m:Int):Int:=if m<1 then 0 else (redN x m.toNat:Nat)
theorem redI_none {x:Nat} {m:Int} (h:m<1):redI x m=0:=if_pos h
theorem redI_nat (x m:Nat) (h:0<m):redI x (m:Int)=(redN x m:Nat):=by
 unfold redI
 rw [if_neg (by omega),Int.toNat_natCast]
theorem redI_nonneg (x:Nat) (m:Int):0<=redI x m:=by
 unfold redI
 split<;>omega
theorem redI_lt {x:Nat} {m:Int} (hx:W64 x) (h:1<=m):redI x m<m:=by
 obtain ⟨k,rfl⟩:=Int.eq_ofNat_of_zero_le (show 0<=m by omega)
 rw [redI_nat x k (by omega)]
 have:=redN_lt x k hx (by omega)
 omega
def buckI (h i:Nat) (m:Int):Int:=redI (mixN (h ^^^ i)) m
end Go.Proofs.YtgfjmgebecmbiaaGreat
namespace Go.Proofs.YtgfjmgebecmbiaaGreat
open M
def b1 (s:Nat) (k:Ky) (n:Nat):Nat:=(buckI (hashN s k.h k.l (wordZ k.n)) 1 n).toNat
def b2 (s:Nat) (k:Ky) (n:Nat):Nat:=(buckI (hashN s k.h k.l (wordZ k.n)) 2 n).toNat
theorem buck_nat (h i n:Nat) (hn:1<=n):∃j:Nat,buckI h i n=(j:Int)/\j<n:=by
 have h0:=redI_nonneg (mixN (h ^^^ i)) (n:Int)
 have h1:=redI_lt (x:=mixN (h ^^^ i)) (m:=(n:Int)) (mixN_w _) (by omega)
 exact ⟨(buckI h i n).toNat,by unfold buckI;omega,by unfold buckI;omega⟩
theorem b1_lt {s n:Nat} {k:Ky} (hn:1<=n):b1 s k n<n:=by
 obtain ⟨j,h,hl⟩:=buck_nat (hashN s k.h k.l (wordZ k.n)) 1 n hn
 unfold b1
 rw [h]
 simpa using hl
theorem b2_lt {s n:Nat} {k:Ky} (hn:1<=n):b2 s k n<n:=by
 obtain ⟨j,h,hl⟩:=buck_nat (hashN s k.h k.l (wordZ k.n)) 2 n hn
 unfold b2
 rw [h]
 simpa using hl
theorem b1_int {s n:Nat} {k:Ky} (hn:1<=n):buckI (hashN s k.h k.l (wordZ k.n)) 1 n=(b1 s k n:Int):=by
 obtain ⟨j,h,hl⟩:=buck_nat (hashN s k.h k.l (wordZ k.n)) 1 n hn
 unfold b1
 rw [h]
 simp
theorem b2_int {s n:Nat} {k:Ky} (hn:1<=n):buckI (hashN s k.h k.l (wordZ k.n)) 2 n=(b2 s k n:Int):=by
 obtain ⟨j,h,hl⟩:=buck_nat (hashN s k.h k.l (wordZ k.n)) 2 n hn
 unfold b2
 rw [h]
 simp
structure Tab where
 s:Nat
 B:List (List Pl)
 st:List Rt
def Tab.x1 (T:Tab) (k:Ky):Nat:=b1 T.s k T.B.length
def Tab.x2 (T:Tab) (k:Ky):Nat:=b2 T.s k T.B.length
def Tab.other (T:Tab) (k:Ky) (b:Nat):Nat:=if b=T.x1 k then T.x2 k else T.x1 k
def Tab.bk (T:Tab) (i:Nat):List Pl:=T.B.getD i []
def Tab.set (T:Tab) (i:Nat) (C:List Pl):Tab:={ T with B:=T.B.set i C }
def lessK (a b:Ky):Bool:=lessB a.h a.l a.n b.h b.l b.n
def intoS:List Rt->Rt->List Rt
 | [],r=>[r]
 | a::l,r=>if lessK a.k r.k then a::intoS l r else if a.k=r.k then r::l else r::a::l
def outS (l:List Rt) (k:Ky):List Rt:=l.filter fun r=>decide (r.k≠k)
def findS (l:List Rt) (k:Ky):Option Nat:=l.findIdx? fun r=>decide (r.k=k)
def contT (T:Tab):List Rt:=T.B.flatMap allC++T.st
def kOut (T:Tab) (b i:Nat) (r:Rt):Rt:=((swapC (T.bk b) ((i%4:Nat):Int) r.k r.v).map Prod.fst).getD ⟨⟨0,0,0⟩,0⟩
def kTab (T:Tab) (b i:Nat) (r:Rt):Tab:=T.set b (((swapC (T.bk b) ((i%4:Nat):Int) r.k r.v).map Prod.snd).getD (T.bk b))
def kNew (T:Tab) (b i:Nat) (r:Rt):Nat:=(kTab T b i r).other (kOut T b i r).k b
def kicks:Nat->Nat->Tab->Nat->Rt->Tab×Option Rt
 | 0,_,T,_,r=>(T,some r)
 | f+1,i,T,b,r=>
  match putC ((kTab T b i r).bk (kNew T b i r)) (kOut T b i r).k (kOut T b i r).v with
  | some C=>((kTab T b i r).set (kNew T b i r) C,none)
  | none=>kicks f (i+1) (kTab T b i r) (kNew T b i r) (kOut T b i r)
def putIn (T:Tab) (r:Rt):Tab×Option Rt:=
 if (getC (T.bk (T.x1 r.k)) r.k).isSome then (T.set (T.x1 r.k) ((putC (T.bk (T.x1 r.k)) r.k r.v).getD (T.bk (T.x1 r.k))),none)
 else if (getC (T.bk (T.x2 r.k)) r.k).isSome then (T.set (T.x2 r.k) ((putC (T.bk (T.x2 r.k)) r.k r.v).getD (T.bk (T.x2 r.k))),none)
 else if (findS T.st r.k).isSome then ({ T with st:=intoS T.st r },none)
 else
  match putC (T.bk (T.x1 r.k)) r.k r.v with
  | some C=>(T.set (T.x1 r.k) C,none)
  | none=>
   match putC (T.bk (T.x2 r.k)) r.k r.v with
   | some C=>(T.set (T.x2 r.k) C,none)
   | none=>kicks 16 0 T (T.x2 r.k) r
def stay (T:Tab) (r:Rt):Tab×Bool:=
 match (putIn T r).2 with
 | none=>((putIn T r).1,false)
 | some q=>({ (putIn T r).1 with st:=intoS (putIn T r).1.st q },true)
def emptyT (s n:Nat):Tab:=⟨s,List.replicate n [none,none,none,none],[]⟩
def grows (p:Tab×Bool):Bool:=p.2&&(decide (8<p.1.st.length)&&decide (p.1.B.length<65536))
def grown (T:Tab):Tab:=emptyT (mixN T.s) (min (2*T.B.length) 65536)
def putF:Nat->Tab->Rt->Tab
 | 0,T,r=>(stay T r).1
 | d+1,T,r=>if grows (stay T r) then (contT (stay T r).1).foldl (putF d) (grown (stay T r).1) else (stay T r).1
def getT (T:Tab) (k:Ky):Option Int:=
 match getC (T.bk (T.x1 k)) k with
 | some v=>some v
 | none=>
  match getC (T.bk (T.x2 k)) k with
  | some v=>some v
  | none=>(T.st.find? fun r=>decide (r.k=k)).map Rt.v
def readT (T:Tab) (k:Ky):List Int:=if (getC (T.bk (T.x1 k)) k).isSome then [(T.x1 k:Int)] else [(T.x1 k:Int),(T.x2 k:Int)]
def delT (T:Tab) (k:Ky):Tab×Bool:=
 match takeC (T.bk (T.x1 k)) k with
 | some C=>(T.set (T.x1 k) C,true)
 | none=>
  match takeC (T.bk (T.x2 k)) k with
  | some C=>(T.set (T.x2 k) C,true)
  | none=>({ T with st:=outS T.st k },decide ((outS T.st k).length<T.st.length))
def sortR (l:List Rt):List Rt:=l.foldl intoS []
def allT (T:Tab):List Rt:=sortR (contT T)
end Go.Proofs.YtgfjmgebecmbiaaGreat
