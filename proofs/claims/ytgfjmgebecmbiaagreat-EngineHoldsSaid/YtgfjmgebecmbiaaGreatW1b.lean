import Derived.Test.YtgfjmgebecmbiaaGreatAppR
import Derived.Lib.Overlaps
import Derived.Test.YtgfjmgebecmbiaaGreatW11e
import Derived.Deep.DeepCutAuto
import Derived.Shelf.Bits.Mul64
import Derived.Shelf.Small.Bits
set_option linter.unusedSimpArgs false
set_option linter.unusedVariables false
set_option maxHeartbeats 4000000
namespace Go.Proofs.YtgfjmgebecmbiaaGreat
open Lib(hid)
section
open Go.RowKit Go.Sort M
def Zje (w w':World) (e:Ending) (v:Value) (L:List Rt):Prop:=∃v',e = .returned v'/\w'.ownsRow 0 41 4 v' L.length (rcs L)/\w.grownBy w' v.ownBlock/\(v'.ownBlock=v.ownBlock\/∃k,v'.ownBlock=some k/\w.heap.size<=k)
theorem oneR (L:List Rt) (u:Value) (h:u∈rcs L):u.oneCell'=true:=Zcb L u h
set_option maxRecDepth 100000 in
theorem Zvu (v:Value) (L:List Rt) (r:Rt) (vb:Nat) (w:World) (hown:w.ownsRow 0 41 4 v L.length (rcs L)) (hL:L.length<1048576) (hvb:w.heap[vb]? = some (.cells (Zac r).toArray 41 (0,0))) :
 Calls Tryz.prog 34 #[v,.int .i64 (L.length:Int),.slice (some ⟨vb,0,none⟩) 1 1] w fun e w'=>Zje w w' e v (L++[r]):=by
 obtain ⟨i0,hi0,iz0,iz1,iz2⟩:=info_parts Zd1
 have hnews:=Zbw hvb 0 (Zac r) (by simp [Zac])
 obtain ⟨p,c,rfl⟩:=Zag hown
 have hlc:L.length<=c:=by
  rcases hown.2 with ⟨e,h0⟩ | ⟨g,cap,cur,e,-,-,h1,-⟩
  ·omega
  ·injection e with _ _ e3;omega
 generalize hn:L.length=n at *
 by_cases hcn:c=n
 ·subst hcn
  go_enter Tryz.func34,Tryz.ntmps34
  go_wp2_with (at_builtin;go_loud (refine wpList_append_own_at _ rfl (.tmp 23) (.tmp 24) 35 rfl 0 41 i0 _ 4 32 Tryz.underlying35 hi0 iz0 iz1 iz2 rfl (by decide) _ _ _ rfl hown ⟨vb,0,none⟩ 1 1 (Zac r) rfl rfl hnews (by simp [Zac,Value.oneCell']) (by unfold maxLen;omega) (by omega) (by omega) ?_))
  intro v3 w3 hown3 hg3 _ hat
  go_wp2
  go_ret
  exact ⟨v3,rfl,Zb7 hown3 hn.symm,hg3,hat.imp id (fun e=>⟨_,e,Nat.le_refl _⟩)⟩
 ·go_enter Tryz.func34,Tryz.ntmps34
  go_wp2_with (at_builtin;go_loud (refine wpList_append_own_at _ rfl (.tmp 23) (.tmp 24) 35 rfl 0 41 i0 _ 4 32 Tryz.underlying35 hi0 iz0 iz1 iz2 rfl (by decide) _ _ _ rfl hown ⟨vb,0,none⟩ 1 1 (Zac r) rfl rfl hnews (by simp [Zac,Value.oneCell']) (by unfold maxLen;omega) (by omega) (by omega) ?_))
  intro v3 w3 hown3 hg3 _ hat
  go_wp2
  go_ret
  exact ⟨v3,rfl,Zb7 hown3 hn.symm,hg3,hat.imp id (fun e=>⟨_,e,Nat.le_refl _⟩)⟩
theorem Zf6 {P:Program} {ops:Array Oper} {rest:List Oper} {o:Oper} {a:Act} {w:World} {Q:Exit->Act->World->Prop} (hgd:o.guard=none) (s x:Operand) (t tn:TypeId)
 (ho:o.op = .call { callee := .builtin .append,args := #[s,x],argTypes := #[t,tn] }) (e:TypeId) (i:TypeInfo) (z:Value) (size bytes:Nat) (kn:IntKind) (ht:P.underlying t=some (.slice e)) (htn:P.underlying tn=some (.int kn)) (hi:P.info? e=some i) (hz:i.zero=some z)
 (hsz:i.size=size) (hby:i.bytes=bytes) (hzs:z.cells.size=size) (h0s:0<size) (g:Nat) (off sLen sCap:Nat) (hs:a.eval s = .slice (some ⟨g,off,none⟩) sLen sCap) (k:Nat) (hx:a.eval x = .int .i64 (k:Int))
 (olds:List Value) (hlo:olds.length=sLen*size) (holds:∀j v,olds[j]? = some v->w.cell? ((⟨g,off,none⟩:Addr).add j)=some v) (h0:0<k) (hg:sCap<sLen+k) (h63:sLen+k<=maxLen) (hbytes:(sLen+k)*bytes<=140737488355328)
 (h:∀(cap:Nat) (Z:List Value) w',sLen+k<=cap->cap<=maxLen->Z.length=(cap-sLen)*size->Hid (w'.heap[w.heap.size]? = some (.cells (olds++Z).toArray e (0,0)))->w.grownBy w' none->wpList P ops Q rest (a.put o.dst (.slice (some ⟨w.heap.size,0,none⟩) (sLen+k) cap)) w'):wpList P ops Q (o::rest) a w:=by
 subst hsz hby
 have hold:(Builtin.firstCells i.size sLen (.slice (some ⟨g,off,none⟩) sLen sCap)).run P w.drew = .ok olds.toArray w.drew:=run_firstCells_some w.drew i.size sLen ⟨g,off,none⟩ sLen sCap olds hlo (fun j v hj=>holds j v hj)
 have h63':sLen+k<=9223372036854775807:=by simp only [maxLen] at h63;omega
 have hkb:k*i.bytes<=281474976710656:=Nat.le_trans (Nat.mul_le_mul_right _ (Nat.le_add_left k sLen)) (by omega)
 have hr:=Lib.run_append_grow_zeros (P:=P) w t tn o.type e i z .i64 kn ht htn hi hz (some ⟨g,off,none⟩) sLen sCap olds hold k h0 h0s hg (by omega) hkb (growslice_fits hg hbytes)
 refine Lib.wpList_append_run w hgd s x t tn ho _ _ hs hx _ _ hr ?_
 have hge:=grownCap_ge w (sLen+k) sCap e
 refine h _ ((Builtin.zeroCells z.cells k).toList++(Builtin.zeroCells z.cells (grownCap w (sLen+k) sCap e-(sLen+k))).toList) _ hge (grownCap_le_maxLen w _ _ _ h63) ?_ ?_ ?_
 ·rw [List.length_append,Array.length_toList,Array.length_toList,size_zeroCells,size_zeroCells,hzs,<-Nat.add_mul]
  congr 1
  omega
 ·show _=_
  refine (heap_alloc_new w.drew _).trans ?_
  simp [Array.append_assoc]
 ·exact ⟨rfl,rfl,rfl,by simp,fun j hj _=>(heap_alloc_old w.drew _ hj).trans rfl⟩
set_option maxRecDepth 100000 in
theorem Zrc (g c n i:Nat) (cur:Array Value) (L:List Rt) (r:Rt) (vb:Nat) (w:World) (hn:L.length=n) (hg:w.heap[g]? = some (.cells cur 41 (0,0))) (hc:n+1<=c) (hcm:c<=maxLen) (hcs:cur.size=c*4) (htk:cur.toList.take (n*4)=rcs L)
 (hi:i<n) (hL:n<1048576) (hvb:w.heap[vb]? = some (.cells (Zac r).toArray 41 (0,0))) (hne:vb≠g) :
 Calls Tryz.prog 34 #[.slice (some ⟨g,0,none⟩) n c,.int .i64 (i:Int),.slice (some ⟨vb,0,none⟩) 1 1] w fun e w'=>Zje w w' e (.slice (some ⟨g,0,none⟩) n c) (L.take i++r::L.drop i):=by
 obtain ⟨i0,hi0,iz0,iz1,iz2⟩:=info_parts Zd1
 have hin:¬((i:Int)=(n:Int)):=by omega
 have hw1:IntKind.i64.wrap ((i:Int)+1)=(i:Int)+1:=by rw [IntKind.wrap_i64];omega
 have hb1:(0:Int)<=(i:Int)+1:=by omega
 have hb2:¬(c=i+1):=by omega
 have hb3:(i:Int)<=(n:Int)+1:=by omega
 have hb4:¬(c=i):=by omega
 have hb5:(i:Int)<=(n:Int):=by omega
 have htn:((i:Int)+1).toNat=i+1:=by omega
 have hov:∀lb cb,(callFunc 61 #[.slice (some ⟨vb,0,none⟩) 1 1,.slice (some ⟨g,(i+1)*4,none⟩) lb cb]).run Tryz.prog w = .ok (.value (.bool false)) w:=fun lb cb=>by
  rw [run_callFunc_extern Tryz.func61 (by kernel_rfl) (by kernel_rfl) (by kernel_rfl) (e:=Extern.SlicesOverlaps.overlaps #[35,35] #[4]) (by kernel_rfl),
   Lib.run_overlaps_apart w 35 4 41 Tryz.underlying35 4 Tryz.sizeOf41 ⟨vb,0,none⟩ ⟨g,(i+1)*4,none⟩ 1 1 lb cb hne 41 41 4 (c*4) (by unfold World.shape?;rw [hvb];rfl) (by unfold World.shape?;rw [hg];simp [hcs]) (by omega) (by unfold World.frozen?;rw [hvb];rfl) (by unfold World.frozen?;rw [hvb];rfl)]
  rfl
 have hdl:(L.drop i).length=n-i:=by rw [List.length_drop,hn]
 have hd4:(rcs (L.drop i)).length=(n-i)*4:=by rw [Zaz,hdl]
 have hX:=Zbw hg (i*4) (rcs (L.drop i)) (by
  rw [hd4,<-Zmd,<-htk,List.drop_take]
  congr 1
  omega)
 have hnews:=Zbw hvb 0 (Zac r) (by simp [Zac])
 generalize hX2:rcs (L.drop i)=X2 at *
 go_enter Tryz.func34,Tryz.ntmps34
 go_wp2_with (simp only [hov])
 go_region_law (refine Zik rfl (.tmp 73) (.tmp 76) 35 35 rfl 41 i0 Tryz.underlying35 hi0 4 iz1 g ((i+1)*4) (n+1-(i+1)) (c-(i+1)) ⟨g,i*4,none⟩ (n+1-i) (c-i) (by simp [Act.eval,Act.put]) (by simp [Act.eval,Act.put]) cur 41 hg X2 (n-i) (by simp only [Nat.min_def];split<;>omega) hd4 hX (by omega) (by rw [<-hX2];exact oneR _) ?_;intro w4 hg4 hb4)
 have hvb4:w4.heap[vb]? = some (.cells (Zac r).toArray 41 (0,0)):=(hb4.block vb (Array.getElem?_eq_some_iff.1 hvb).1 (by intro e;injection e with e;exact hne e)).trans hvb
 have hnews4:=Zbw hvb4 0 (Zac r) (by simp [Zac])
 have hsl:(splice cur.toList ((i+1)*4) X2).length=c*4:=by rw [length_splice _ _ _ (by rw [hd4,Array.length_toList,hcs];omega),Array.length_toList,hcs]
 obtain ⟨cur4,hcur4⟩:∃x,x=splice cur.toList ((i+1)*4) X2:=⟨_,rfl⟩
 have hg4:Hid (w4.heap[g]? = some (.cells cur4.toArray 41 (0,0))):=by show _=_;rw [hcur4];exact hg4.out
 rw [<-hcur4] at hsl
 have hgw4:Hid (w.grownBy w4 (some g)):=(⟨hb4.os,hb4.tape,hb4.output,hb4.size,hb4.block⟩:w.grownBy w4 (some g))
 have HC4:=hid hcur4.symm
 have HX2:=hid hX2
 have HTK:=hid htk
 clear hov hcur4 hX hnews hvb hg htk hX2
 have hs1:(i*4)+(Zac r).length<=cur4.toArray.size:=by simp [Zac,hsl];omega
 have hs2:∀v∈Zac r,v.oneCell'=true:=by simp [Zac,Value.oneCell']
 have hs3:Nat.min 1 (n+1-i)=1:=by simp only [Nat.min_def];split<;>omega
 go_wp2_with (with_reducible refine Zfu rfl (.tmp 80) (.tmp 81) 35 35 rfl 41 i0 Tryz.underlying35 hi0 4 iz1 g (i*4) (n+1-i) (c-i) ⟨vb,0,none⟩ 1 1 rfl rfl cur4.toArray 41 hg4.out (Zac r) 1 hs3 rfl hnews4 hs1 hs2 ?_)
 intro w5 hg5 hb5'
 go_wp2
 go_ret
 refine ⟨_,rfl,?_,World.grownBy.trans hgw4.out hb5',.inl rfl⟩
 have hlen:(L.take i++r::L.drop i).length=n+1:=by simp;omega
 rw [hlen]
 refine Zcl (Nat.zero_le _) hg5.out (by omega) hcm (by simp [length_splice,Zac,hsl];rw [length_splice _ _ _ (by simp [Zac,hsl];omega),hsl]) ?_
 have h1:=Zw8 cur.toList (rcs (L.take i)) (Zac r) X2 (i*4) 4 ((n-i)*4) (by rw [Zaz,List.length_take];omega) rfl hd4 (by
  rw [show i*4+(n-i)*4=n*4 by omega,HTK.out,<-HX2.out,<-Zal,List.take_append_drop]) (by rw [Array.length_toList,hcs];omega)
 rw [show i*4+4+(n-i)*4=(n+1)*4 by omega,show i*4+4=(i+1)*4 by omega,HC4.out] at h1
 rw [Zal,Zdj,HX2.out,<-List.append_assoc]
 simpa using h1
set_option maxRecDepth 100000 in
theorem Zrd (g c n i:Nat) (cur:Array Value) (L:List Rt) (r:Rt) (vb:Nat) (w:World) (hn:L.length=n) (hg:w.heap[g]? = some (.cells cur 41 (0,0))) (hc:c<n+1) (hnc:n<=c) (hcs:cur.size=c*4) (htk:cur.toList.take (n*4)=rcs L)
 (hi:i<n) (hL:n<1048576) (hvb:w.heap[vb]? = some (.cells (Zac r).toArray 41 (0,0))) :
 Calls Tryz.prog 34 #[.slice (some ⟨g,0,none⟩) n c,.int .i64 (i:Int),.slice (some ⟨vb,0,none⟩) 1 1] w fun e w'=>Zje w w' e (.slice (some ⟨g,0,none⟩) n c) (L.take i++r::L.drop i):=by
 obtain ⟨i0,hi0,iz0,iz1,iz2⟩:=info_parts Zd1
 have hgl:=(Array.getElem?_eq_some_iff.1 hg).1
 have hvl:=(Array.getElem?_eq_some_iff.1 hvb).1
 have hin:¬((i:Int)=(n:Int)):=by omega
 have hz3:(c:Int)<(n:Int)+1:=by omega
 have hw1:IntKind.i64.wrap ((i:Int)+1)=(i:Int)+1:=by rw [IntKind.wrap_i64];omega
 have hkk:(n:Int)+1-(i:Int)=((n+1-i:Nat):Int):=by omega
 have hb1:(0:Int)<=(i:Int)+1:=by omega
 have hb3:(i:Int)<=(n:Int)+1:=by omega
 have hb4:¬(c=i):=by omega
 have hb5:(i:Int)<=(n:Int):=by omega
 have htn:((i:Int)+1).toNat=i+1:=by omega
 have hdl:(L.drop i).length=n-i:=by rw [List.length_drop,hn]
 have hd4:(rcs (L.drop i)).length=(n-i)*4:=by rw [Zaz,hdl]
 have ht4:(rcs (L.take i)).length=i*4:=by rw [Zaz,List.length_take];omega
 have hX:(cur.toList.drop (i*4)).take (rcs (L.drop i)).length=rcs (L.drop i):=by
  rw [hd4,<-Zmd,<-htk,List.drop_take]
  congr 1
  omega
 have hX1:=Zbw hg 0 (rcs (L.take i)) (by
  rw [ht4,<-Zi2,<-htk,List.drop_zero,List.take_take]
  congr 1
  omega)
 have h1d:∀v∈rcs (L.drop i),v.oneCell'=true:=oneR _
 obtain ⟨X2,hX2⟩:∃x,x=rcs (L.drop i):=⟨_,rfl⟩
 obtain ⟨X1,hX1e⟩:∃x,x=rcs (L.take i):=⟨_,rfl⟩
 rw [<-hX2] at hd4 hX h1d
 rw [<-hX1e] at ht4 hX1
 have HX:=hid hX
 have HX1:=hid hX1
 have HX2:=hid hX2
 have HX1e:=hid hX1e
 have HG:=hid hg
 have HVB:=hid hvb
 have HKK:=hid hkk
 clear hX hX1 hX2 hX1e htk hg hvb hkk
 go_enter Tryz.func34,Tryz.ntmps34
 go_wp2_with (at_builtin;go_loud (refine Zf6 rfl (.tmp 34) (.tmp 39) 35 3 rfl 41 i0 _ 4 32 .i64 Tryz.underlying35 Tryz.underlying3 hi0 iz0 iz1 iz2 rfl (by decide) g 0 i c rfl (n+1-i) (by rw [<-HKK.out];rfl) X1 ht4 HX1.out (by omega) (by omega) (by unfold maxLen;omega) (by omega) ?_))
 intro cap Z w4 hcap hcm hZ hg4 hgw
 rw [show i+(n+1-i)=n+1 by omega] at hcap ⊢
 have hc1:¬(cap=i+1):=by omega
 have hc2:¬(cap=i):=by omega
 have hc3:(i:Int)<=(cap:Int):=by omega
 have hvb4:w4.heap[vb]? = some (.cells (Zac r).toArray 41 (0,0)):=(hgw.block vb hvl (by simp)).trans HVB.out
 have hnews4:=Zbw hvb4 0 (Zac r) (by simp [Zac])
 have hsz4:(X1++Z).length=cap*4:=by rw [List.length_append,ht4,hZ];omega
 have hs1:(i*4)+(Zac r).length<=(X1++Z).toArray.size:=by simp only [List.size_toArray,hsz4,Zac,List.length_cons,List.length_nil];omega
 have hs2:∀v∈Zac r,v.oneCell'=true:=by simp [Zac,Value.oneCell']
 have hs3:Nat.min 1 (n+1-i)=1:=by simp only [Nat.min_def];split<;>omega
 have HGW:=hid hgw
 have HZ:=hid hZ
 have HS:=hid hsz4
 obtain ⟨R4,hR4⟩:∃x,x=(X1++Z):=⟨_,rfl⟩
 rw [<-hR4] at hs1 hg4 HS
 have HR4:=hid hR4
 clear hvb4 hgw hZ hsz4 hR4
 go_wp2_with (with_reducible refine Zfu rfl (.tmp 43) (.tmp 44) 35 35 rfl 41 i0 Tryz.underlying35 hi0 4 iz1 w.heap.size (i*4) (n+1-i) (cap-i) ⟨vb,0,none⟩ 1 1 rfl rfl R4.toArray 41 hg4.out (Zac r) 1 hs3 rfl hnews4 hs1 hs2 ?_)
 intro w5 hg5 hgw5
 obtain ⟨R5,hR5⟩:∃x,x=splice R4 (i*4) (Zac r):=⟨_,rfl⟩
 have hg5':w5.heap[w.heap.size]? = some (.cells R5.toArray 41 (0,0)):=by rw [hR5];exact hg5.out
 have hl5:R5.length=cap*4:=by rw [hR5,length_splice _ _ _ (by rw [HS.out];simp [Zac];omega),HS.out]
 have hg05:w5.heap[g]? = some (.cells cur 41 (0,0)):=(hgw5.block g (Nat.lt_of_lt_of_le hgl HGW.out.size) (by intro e;injection e with e;omega)).trans ((HGW.out.block g hgl (by simp)).trans HG.out)
 have hX5:=Zbw hg05 (i*4) X2 HX.out
 have hfit5:(i+1)*4+X2.length<=R5.toArray.size:=by rw [List.size_toArray,hl5,hd4];omega
 have hmin5:Nat.min (n-i) (n+1-(i+1))=n-i:=by simp only [Nat.min_def];split<;>omega
 have HW5:=hid hgw5
 have HR5:=hid hR5
 clear hg5 hgw5 hR5 hg05 hnews4 hg4 hs1
 go_wp2_with fail
 go_region_law (refine Zik rfl (.tmp 50) (.tmp 53) 35 35 rfl 41 i0 Tryz.underlying35 hi0 4 iz1 w.heap.size ((i+1)*4) (n+1-(i+1)) (cap-(i+1)) ⟨g,i*4,none⟩ (n-i) (c-i) (by simp [Act.eval,Act.put]) (by simp [Act.eval,Act.put]) R5.toArray 41 hg5' X2 (n-i) hmin5 hd4 hX5 hfit5 h1d ?_;intro w6 hg6 hb6)
 have hb6':w5.grownBy w6 (some w.heap.size):=⟨hb6.os,hb6.tape,hb6.output,hb6.size,hb6.block⟩
 clear hX5 hg5'
 go_wp2
 go_ret
 refine ⟨_,rfl,?_,?_,.inr ⟨_,rfl,Nat.le_refl _⟩⟩
 ·have hlen:(L.take i++r::L.drop i).length=n+1:=by simp;omega
  rw [hlen]
  refine Zcl (Nat.zero_le _) hg6.out (by omega) hcm (by rw [List.size_toArray,length_splice _ _ _ (by simpa using hfit5)];simpa using hl5) ?_
  have h1:=Zum X1 Z (Zac r) X2 (i*4) 4 ((n-i)*4) ht4 rfl hd4 (by rw [HZ.out];omega)
  rw [show i*4+4+(n-i)*4=(n+1)*4 by omega,show i*4+4=(i+1)*4 by omega,<-HR4.out,<-HR5.out] at h1
  rw [Zal,Zdj,<-HX2.out,<-HX1e.out,<-List.append_assoc]
  simpa using h1
 ·have h4:=HGW.out
  have h5:=HW5.out
  exact ⟨hb6'.os.trans (h5.os.trans h4.os),hb6'.tape.trans (h5.tape.trans h4.tape),hb6'.output.trans (h5.output.trans h4.output),Nat.le_trans h4.size (Nat.le_trans h5.size hb6'.size),fun k hk _=>(hb6'.block k (Nat.lt_of_lt_of_le hk (Nat.le_trans h4.size h5.size)) (by intro e;injection e with e;omega)).trans ((h5.block k (Nat.lt_of_lt_of_le hk h4.size) (by intro e;injection e with e;omega)).trans (h4.block k hk (by simp)))⟩
theorem Zlj (v:Value) (L:List Rt) (i:Nat) (r:Rt) (vb:Nat) (w:World) (hown:w.ownsRow 0 41 4 v L.length (rcs L)) (hi:i<=L.length) (hL:L.length<1048576) (hvb:w.heap[vb]? = some (.cells (Zac r).toArray 41 (0,0))) (hne:v.ownBlock≠some vb) :
 Calls Tryz.prog 34 #[v,.int .i64 (i:Int),.slice (some ⟨vb,0,none⟩) 1 1] w fun e w'=>Zje w w' e v (L.take i++r::L.drop i):=by
 by_cases h:i=L.length
 ·subst h
  have:=Zvu v L r vb w hown hL hvb
  rwa [List.take_length,List.drop_length]
 ·obtain ⟨g,cap,cur,rfl,-,hgl,hg,h1,h2,h3,h4⟩:=Zbk hown (by omega)
  by_cases hr:L.length+1<=cap
  ·exact Zrc g cap L.length i cur L r vb w rfl hg hr h2 h3 h4 (by omega) hL hvb (fun e=>hne (by rw [e];rfl))
  ·exact Zrd g cap L.length i cur L r vb w rfl hg (by omega) h1 h3 h4 (by omega) hL hvb
end
section
open M
theorem Z3a {T:Tab} (H:Inv T) {f:Tab->Rt->Tab} (hf:∀T r,Inv T->r.k.good->Zp1 T r (f T r)) (j:Nat) (hj:j<=(Zae T).length) :
 Inv (((Zae T).take j).foldl f (grown T))/\(Zae (((Zae T).take j).foldl f (grown T))).length=j/\(grown T).B.length<=(((Zae T).take j).foldl f (grown T)).B.length:=by
 have hG:=Zj9 H
 have he:Zae (grown T)=[]:=Zb8 _ _
 have h:=Zrm hf ((Zae T).take j) (grown T) hG.1 (fun r hr=>H.good r (List.mem_of_mem_take hr)) (by
  rw [he,List.append_nil]
  have:=H.keys
  unfold Zad at *
  rw [List.map_take]
  exact this.sublist (List.take_sublist _ _))
 refine ⟨h.1,?_,h.2.2⟩
 have hl:=h.2.1.length_eq
 rw [he,List.append_nil,List.length_take] at hl
 omega
theorem Zhd {α β:Type} (f:β->α->β) (L:List α) (x:β) (j:Nat) (h:j<L.length):(L.take (j+1)).foldl f x=f ((L.take j).foldl f x) L[j]:=by
 rw [List.take_succ_eq_append_getElem h,List.foldl_append]
 rfl
end
section
open Go.RowKit Go.Sort M
end
section
open Go Go.RowKit Go.Sort M
end
section
open Go Go.RowKit Go.Sort
section
variable {P:Program} {ops:Array Oper} {Q:Exit->Act->World->Prop} {S:World->Prop} {pre:Nat->Bool}
def Zty (P:Program) (ops:Array Oper) (Q:Exit->Act->World->Prop) (S:World->Prop) (tl:List Nat):List Nat->Act->World->Prop
 | [],a,w'=>wpList P ops Q (Zah ops tl) a w'
 | x::xs,a,w'=>∀K:Act->World->Prop,(∀a3 w3,S w3->Zty P ops Q S tl xs a3 w3->K a3 w3)->Zkr P ops Q x K a w'
theorem Zkj (tl:List Nat) (pre2:∀i∈tl,pre i=false):∀(xs:List Nat) (listed:Array Bool) (a:Act) (w':World),Zfn ops tl xs listed=true->Zty P ops Q S tl xs a w'->anyP P .any ops Q S pre (xs.length+tl.length) listed a w'
 | [],listed,a,w',hB,h=>by
  rw [List.length_nil,Nat.zero_add]
  exact Zdz tl listed a w' pre2 hB h
 | x::xs,listed,a,w',hB,h=>by
  simp only [Zfn,Bool.and_eq_true,decide_eq_true_eq] at hB
  obtain ⟨⟨r0,hx⟩,ht⟩:=hB
  rw [List.length_cons,show xs.length+1+tl.length=(xs.length+tl.length)+1 by omega]
  refine ⟨fun h1=>(by rw [r0] at h1;cases h1),fun i hi => ?_⟩
  rw [r0] at hi
  have hix:i=x:=by simpa using hi
  subst hix
  exact (h _ (fun a3 w3 hb3 h3=>⟨fun _ _=>hb3,Zkj tl pre2 xs _ a3 w3 ht h3⟩)).wpOp hx
theorem Zki {a:Act} {w:World} {l:List Oper} (S:World->Prop) (tA tB xs tl:List Nat) (hQ:∀c a w,Q (.panic c) a w->False) (hsel:Region.noSelect l.toArray=true) (hB:rowB l.toArray tA tB xs tl=true)
 (hS:S w.drew)
 (h:wpQuiet P l.toArray (fun _=>True) (fun a1=>wpQuiet P l.toArray S (fun a2=>Zty P l.toArray Q S tl xs a2 w.drew) (Zah l.toArray tB) a1) (Zah l.toArray tA) a) :
 wpAny P .any l.toArray Q l.toArray.size (Array.replicate l.toArray.size false) a { w with drawn:=w.drawn+1 }:=by
 generalize l.toArray=ops at *
 simp only [rowB,Bool.and_eq_true,decide_eq_true_eq] at hB
 obtain ⟨hsz,hB⟩:=hB
 have inv0:HeadInv .any ops ops.size (Array.replicate ops.size false):=
  ⟨by simp,fun j oj _ hl=>(by rw [getD_replicate_false] at hl;cases hl),fun t h1 h2=>absurd h2 (by omega)⟩
 have pre2:∀i∈tl,(!tl.contains i)=false:=fun i hi=>by simp [hi]
 refine Zbs (S:=S) (pre:=fun j => !tl.contains j) _ _ _ _ ?_
 suffices hh:anyP P .any ops Q S (fun j => !tl.contains j) (tA.length+(tB.length+(xs.length+tl.length))) (Array.replicate ops.size false) a w.drew by
  rw [<-hsz] at hh
  exact hh
 refine Zbj (T:=fun _=>True) hsel hQ (fun _ _=>trivial) (fun _ _ => .inr (fun _=>trivial)) hS (fun l1 a1 hF1 inv1 h1 => ?_) tA _ a hB inv0 h
 refine Zbj (T:=S) hsel hQ (fun _ h=>h) (fun i hi => .inl hi) hS (fun l2 a2 hF2 inv2 h2 => ?_) tB l1 a1 hF1 inv1 h1
 exact Zkj tl pre2 xs l2 a2 _ hF2 h2
theorem Zn8 {id:Nat} {a:Act} {w:World} {l:List Oper} (S:World->Prop) (tA tB xs tl:List Nat) (hm:P.follows .mixedOrders=true) (hQ:∀c a w,Q (.panic c) a w->False) (hsel:Region.noSelect l.toArray=true) (hB:rowB l.toArray tA tB xs tl=true)
 (hS:S w.drew)
 (h:wpQuiet P l.toArray (fun _=>True) (fun a1=>wpQuiet P l.toArray S (fun a2=>Zty P l.toArray Q S tl xs a2 w.drew) (Zah l.toArray tB) a1) (Zah l.toArray tA) a) :
 (Code.region id l.toArray true).wp P Q a w:=
 wp_region_any hm (Zki S tA tB xs tl hQ hsel hB hS h)
theorem Zdt {C:World->Prop} {Q:Act->Prop} {a:Act} {o:Oper} {rest:List Oper} (v:Value) (hg:Region.wanted o (yielded ops a.tmps)=true) (h:∀w,C w->(execOp a.eval o).run P w = .ok (.value v) w) (hK:wpQuiet P ops C Q rest (a.put o.dst v)):wpQuiet P ops C Q (o::rest) a:=by
 unfold wpQuiet
 rw [if_pos hg]
 refine ⟨v,fun w hw => ?_,hK⟩
 unfold Oper.quietAt
 rw [h w hw]
 exact ⟨rfl,rfl⟩
end
end
section
structure Wc where
 c:Nat
 f:Nat
 t:Bool
end
section
open Go Go.RowKit Go.Sort M
def WRow (w:World) (q:Option Addr) (lo wd:Nat) (F:Nat->Wc):Prop:=∃g,q=some ⟨g,0,none⟩/\g<w.heap.size/\∀j,lo<=j->j<=wd ->
 w.cell? ⟨g,j*3,none⟩=some (.int .i64 ((F j).c:Int))/\w.cell? ⟨g,j*3+1,none⟩=some (.int .i64 ((F j).f:Int))/\w.cell? ⟨g,j*3+2,none⟩=some (.bool (F j).t)
theorem WRow.below {w w':World} {q:Option Addr} {lo wd:Nat} {F:Nat->Wc} (h:WRow w q lo wd F) (hb:Below w.heap.size w w'):WRow w' q lo wd F:=by
 obtain ⟨g,e,hg,hc⟩:=h
 exact ⟨g,e,Nat.lt_of_lt_of_le hg hb.size,fun j h1 h2=>⟨(hb.cell (p:=⟨g,j*3,none⟩) hg).trans (hc j h1 h2).1,(hb.cell (p:=⟨g,j*3+1,none⟩) hg).trans (hc j h1 h2).2.1,(hb.cell (p:=⟨g,j*3+2,none⟩) hg).trans (hc j h1 h2).2.2⟩⟩
theorem IRow.take {w:World} {p:Option Addr} {L:List Int} (h:IRow w p L) (k:Nat):IRow w p (L.take k):=by
 rcases h with h | ⟨g,o,e,hg,hc⟩
 ·exact .inl (by rw [h];simp)
 ·refine .inr ⟨g,o,e,hg,fun j u hu=>hc j u ?_⟩
  unfold ics at hu ⊢
  rw [List.map_take,List.getElem?_take] at hu
  split at hu
  ·exact hu
  ·cases hu
def Cts (w:World) (p:Option Addr) (lo wd:Nat) (f:Nat->List Int):Prop:=∃g,p=some ⟨g,0,none⟩/\g<w.heap.size/\∀k,lo<=k->k<wd->∃q c,w.cell? ⟨g,k,none⟩=some (.slice q (f k).length c)/\IRow w q (f k)
theorem Cts.below {w w':World} {p:Option Addr} {lo wd:Nat} {f:Nat->List Int} (h:Cts w p lo wd f) (hb:Below w.heap.size w w'):Cts w' p lo wd f:=by
 obtain ⟨g,e,hg,hc⟩:=h
 refine ⟨g,e,Nat.lt_of_lt_of_le hg hb.size,fun k h1 h2 => ?_⟩
 obtain ⟨q,c,e2,h3⟩:=hc k h1 h2
 exact ⟨q,c,(hb.cell (p:=⟨g,k,none⟩) hg).trans e2,h3.below hb⟩
theorem Z2t (w:World) (x:Int) (t:TypeId):IRow (w.alloc (.cells #[.int .i64 x] t)) (some ⟨w.heap.size,0,none⟩) [x]:=by
 refine .inr ⟨_,0,rfl,by simp,fun j u hu => ?_⟩
 match j,hu with
 | 0,hu=>
  simp [ics] at hu
  subst hu
  simp [go_sem]
end
section
open Go.ChangeShapes Go.WideShapes Go.ChangeAt Go.RowKit Go.Joins Go.Deep M
section
variable {H:Type} {enc:TypeId×Value->H} {P:Program} {w:World} {base:Nat} {spare:Nat->Bool} {held:Bool} {r:Reach} {b0:Nat}
theorem Zwf {t e:TypeId} {q:Option Addr} {n c:Nat} {d:DataW H} {p:List MemPlace} (ht:P.underlying t=some (.slice e)) (hv:Value.okWide P w r b0 t (.slice q n c)) (h:DataW.Trod enc P w base spare held t (.slice q n c) d p):n<=c:=by
 obtain ⟨fuel,hf⟩:=h
 rcases open_slice ht hf with ⟨h0,-⟩ | ⟨a,len',cap,m,n',D,Pl,hcs,-,hl,hm,hmm,-,hx⟩
 ·simp only [Value.cells,List.cons.injEq,Value.slice.injEq,and_true] at h0
  omega
 ·simp only [Value.cells,List.cons.injEq,Value.slice.injEq,and_true] at hcs
  omega
end
end
end Go.Proofs.YtgfjmgebecmbiaaGreat
namespace Go.Proofs
open Go.Shelf Go.RowKit
def Tryz.lays264_ren:Go.Shelf.Ren:=⟨fun | 264=>177 | n=>n,fun | 53=>24 | 46=>109 | n=>n,fun | n=>n⟩
theorem Tryz.lays264:Go.Proofs.Lays.n264 Tryz.prog Tryz.lays264_ren:={
 mixed:=by kernel_rfl
 f264:=Tryz.func177.trans (congrArg some (by kernel_rfl))
 t46:=Tryz.underlying109
 a46:=Tryz.isAgg109
 z46:=Tryz.sizeOf109
 v46:=Tryz.zeroValue109
 t53:=Tryz.underlying24
 a53:=Tryz.isAgg24
 z53:=Tryz.sizeOf24
 v53:=Tryz.zeroValue24 }
open Go.RowKit Go.Lib in
theorem Tryz.bits_Mul64 (x y:Nat) (hx:x<18446744073709551616) (hy:y<18446744073709551616) (w:World) :
 Calls Tryz.prog 177 #[.int .u64 x,.int .u64 y] w fun e w'=>e = .returned (.tuple #[.int .u64 ((x*y/18446744073709551616:Nat):Int),.int .u64 ((x*y%18446744073709551616:Nat):Int)])/\w'=w:=Any.bits_Mul64 Tryz.lays264 x y hx hy w
def Tryz.lays134_ren:Go.Shelf.Ren:=⟨fun | 134=>139 | 129=>157 | n=>n,fun | 53=>24 | 3=>3 | 4=>4 | 46=>109 | 5=>5 | 9=>9 | n=>n,fun | n=>n⟩
theorem Tryz.lays134:Go.Proofs.Lays.n134 Tryz.prog Tryz.lays134_ren:={
 mixed:=by kernel_rfl
 f129:=Tryz.func157.trans (congrArg some (by kernel_rfl))
 f134:=Tryz.func139.trans (congrArg some (by kernel_rfl))
 t3:=Tryz.underlying3
 a3:=Tryz.isAgg3
 z3:=Tryz.sizeOf3
 v3:=Tryz.zeroValue3
 t4:=Tryz.underlying4
 a4:=Tryz.isAgg4
 z4:=Tryz.sizeOf4
 v4:=Tryz.zeroValue4
 t5:=Tryz.underlying5
 a5:=Tryz.isAgg5
 z5:=Tryz.sizeOf5
 v5:=Tryz.zeroValue5
 t9:=Tryz.underlying9
 a9:=Tryz.isAgg9
 z9:=Tryz.sizeOf9
 v9:=Tryz.zeroValue9
 t46:=Tryz.underlying109
 a46:=Tryz.isAgg109
 z46:=Tryz.sizeOf109
 v46:=Tryz.zeroValue109
 t53:=Tryz.underlying24
 a53:=Tryz.isAgg24
 z53:=Tryz.sizeOf24
 v53:=Tryz.zeroValue24 }
theorem Tryz.bits_LeadingZeros64 (x:Int) (w:World) (h0:0<=x) (h1:x<=18446744073709551615) :
 Calls Tryz.prog 139 #[.int .u64 x] w fun e w'=>e = .returned (.int .i64 (64-(Lib.bitLen x.toNat:Int)))/\w'=w:=Any.bits_LeadingZeros64 Tryz.lays134 x w h0 h1
end Go.Proofs
namespace Go.Proofs.YtgfjmgebecmbiaaGreat
open Lib(hid)
open Go.RowKit Go.Sort M
theorem Zm0 (a b c d:Nat) (w:World):(binOp .eql 37 (.agg #[.int .u64 a,.int .u64 b]) (.agg #[.int .u64 c,.int .u64 d])).run Tryz.prog w = .ok (.bool (decide (a=c)&&decide (b=d))) w:=by
 have e1:decide (a=c)=decide ((a:Int)=c):=by rw [decide_eq_decide];omega
 have e2:decide (b=d)=decide ((b:Int)=d):=by rw [decide_eq_decide];omega
 rw [e1,e2]
 by_cases h1:(a:Int)=c<;>by_cases h2:(b:Int)=d<;>simp [go_sem,h1,h2]
theorem Zn4 (hi lo:Nat) (n:Int) (ha:W64 hi) (hb:W64 lo) :
 Zak Tryz.prog 33 #[.agg #[.int .u64 hi,.int .u64 lo,.int .i64 n]] (.bool (Zan hi lo n)):=by
 intro w
 have ea:=Zm0
 by_cases h0:0<=n
 ·have d0:decide (0<=n)=true:=by simpa using h0
  by_cases h1:n<=128
  ·have d1:decide (n<=128)=true:=by simpa using h1
   go_enter Tryz.func33,Tryz.ntmps33
   go_wp2_with fail
   have kg:=Zaa
   refine Zab (by kernel_rfl) (by kernel_rfl) ?_
   repeat (any_goals (first|go_big_quiet_step ((go_at_call 60;exact Zak.at (Zrt hi lo n ha hb) _ _ _))|quiet_step ((go_at_call 60;exact Zak.at (Zrt hi lo n ha hb) _ _ _))))
   refine wpQuiet_nil ?_
   clear kg
   intro w1 hb1
   obtain ⟨hc1,hf1⟩:=Zaf hb1
   have hw1:Below w.heap.size w w1:=by
    refine Below.trans ?_ (hb1.mono ?_)
    ·go_grown
    ·first|omega|go_size
   go_wp2
   go_ret
   refine ⟨Zai ?_,by go_grown⟩
   simp [Zan,h0,h1]
  ·have d1:decide (n<=128)=false:=by simpa using h1
   go_enter Tryz.func33,Tryz.ntmps33
   go_wp2_with fail
   have kg:=Zaa
   refine Zab (by kernel_rfl) (by kernel_rfl) ?_
   repeat (any_goals (first|go_big_quiet_step (fail)|quiet_step (fail)))
   refine wpQuiet_nil ?_
   clear kg
   intro w1 hb1
   obtain ⟨hc1,hf1⟩:=Zaf hb1
   have hw1:Below w.heap.size w w1:=by
    refine Below.trans ?_ (hb1.mono ?_)
    ·go_grown
    ·first|omega|go_size
   go_wp2
   go_ret
   refine ⟨Zai ?_,by go_grown⟩
   unfold Zan
   rw [eq_comm,decide_eq_false_iff_not]
   omega
 ·have d0:decide (0<=n)=false:=by simpa using h0
  go_enter Tryz.func33,Tryz.ntmps33
  go_wp2_with fail
  have kg:=Zaa
  refine Zab (by kernel_rfl) (by kernel_rfl) ?_
  repeat (any_goals (first|go_big_quiet_step (fail)|quiet_step (fail)))
  refine wpQuiet_nil ?_
  clear kg
  intro w1 hb1
  obtain ⟨hc1,hf1⟩:=Zaf hb1
  have hw1:Below w.heap.size w w1:=by
   refine Below.trans ?_ (hb1.mono ?_)
   ·go_grown
   ·first|omega|go_size
  go_wp2
  go_ret
  refine ⟨Zai ?_,by go_grown⟩
  unfold Zan
  rw [eq_comm,decide_eq_false_iff_not]
  omega
theorem Zfg (h1 l1:Nat) (n1:Int) (h2 l2:Nat) (n2:Int) :
 Zak Tryz.prog 56 #[.agg #[.int .u64 h1,.int .u64 l1,.int .i64 n1],.agg #[.int .u64 h2,.int .u64 l2,.int .i64 n2]] (.bool (lessB h1 l1 n1 h2 l2 n2)):=by
 intro w
 by_cases e1:h1=h2
 ·by_cases e2:l1=l2
  ·subst e1 e2
   go_enter Tryz.func56,Tryz.ntmps56
   go_wp2
   go_ret
   refine ⟨Zai ?_,by go_grown⟩
   simp [lessB]
  ·subst e1
   go_enter Tryz.func56,Tryz.ntmps56
   go_wp2
   go_ret
   refine ⟨Zai ?_,by go_grown⟩
   simp [lessB,e2]
 ·go_enter Tryz.func56,Tryz.ntmps56
  go_wp2
  go_ret
  refine ⟨Zai ?_,by go_grown⟩
  simp [lessB,e1]
theorem Zv8 (h1 l1 h2 l2:Nat) (ha:W64 h1) (hb:W64 l1) (hc:W64 h2) (hd:W64 l2) :
 Zak Tryz.prog 106 #[.agg #[.int .u64 h1,.int .u64 l1],.agg #[.int .u64 h2,.int .u64 l2]] (.int .i64 (Zbr h1 l1 h2 l2)):=by
 intro w
 have hx:h1 ^^^ h2<2^64:=Nat.xor_lt_two_pow ha hc
 have hy:l1 ^^^ l2<2^64:=Nat.xor_lt_two_pow hb hd
 have b1:=bitLen_le (h1 ^^^ h2)
 have b2:=bitLen_le (l1 ^^^ l2)
 have x1:bits .xor .u64 (h1:Int) (h2:Int)=((h1 ^^^ h2:Nat):Int):=bits_xor_u64_nat _ _ ha.lt hc.lt
 have x2:bits .xor .u64 (l1:Int) (l2:Int)=((l1 ^^^ l2:Nat):Int):=bits_xor_u64_nat _ _ hb.lt hd.lt
 have c1:∀w,Calls Tryz.prog 139 #[.int .u64 ((h1 ^^^ h2:Nat):Int)] w fun e w'=>e = .returned (.int .i64 (64-(Lib.bitLen (h1 ^^^ h2):Int)))/\w=w':=fun w=>
  (Tryz.bits_LeadingZeros64 _ w (by omega) (by omega)).mono fun e w' ⟨he,hw⟩=>⟨by rw [he,Int.toNat_natCast],hw.symm⟩
 have c2:∀w,Calls Tryz.prog 139 #[.int .u64 ((l1 ^^^ l2:Nat):Int)] w fun e w'=>e = .returned (.int .i64 (64-(Lib.bitLen (l1 ^^^ l2):Int)))/\w=w':=fun w=>
  (Tryz.bits_LeadingZeros64 _ w (by omega) (by omega)).mono fun e w' ⟨he,hw⟩=>⟨by rw [he,Int.toNat_natCast],hw.symm⟩
 have C1:=hid c1
 have C2:=hid c2
 clear hx hy c1 c2
 by_cases e1:h1=h2
 ·subst e1
  go_enter Tryz.func106,Tryz.ntmps106
  go_wp2_with (go_at_call 139;refine (C2.out _).mono ?_;rintro e w' ⟨rfl,rfl⟩)
  go_ret
  refine ⟨Zbb ?_,by go_grown⟩
  simp [Zbr]
  omega
 ·go_enter Tryz.func106,Tryz.ntmps106
  go_wp2_with (go_at_call 139;refine (C1.out _).mono ?_;rintro e w' ⟨rfl,rfl⟩)
  go_ret
  refine ⟨Zbb ?_,by go_grown⟩
  simp [Zbr,e1]
  omega
end Go.Proofs.YtgfjmgebecmbiaaGreat
