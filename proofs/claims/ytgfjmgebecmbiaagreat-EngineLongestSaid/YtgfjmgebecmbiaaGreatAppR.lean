import Derived.Test.YtgfjmgebecmbiaaGreatW11
import Derived.Laws.CopyOwn
import Derived.Lib.AppendZerosOnto
import Derived.Laws.AppendOwnNone
set_option linter.unusedSimpArgs false
set_option linter.unusedVariables false
set_option maxHeartbeats 1000000
namespace Go.Proofs.YtgfjmgebecmbiaaGreat
open Lib(hid)
section
open Go.RowKit Go.Sort M
set_option maxRecDepth 100000 in
theorem Z0r (g o:Nat) (C:List Pl) (w:World) (H:Bkt w g o C) :
 Calls Tryz.prog 120 #[.pointer (some ⟨g,o,none⟩)] w fun e w'=>Zcf w w' e (allC C):=by
 have hld:=H.range
 have hll:(bcs C).length=20:=by rw [Zm9,H.four]
 have HI:=hid (fun i hi=>Zj7 H.four i hi)
 have h4:=H.four
 have hg:=H.lt
 have HS:=hid (fun i h=>Z0p C i h)
 have HA:=hid (Znb C)
 obtain ⟨i0,hi0,iz0,iz1,iz2⟩:=info_parts Zd1
 generalize bcs C=X at hld hll HI
 clear H
 go_enter Tryz.func120,Tryz.ntmps120
 go_wp2_with (refine Zc2 _ g o X rfl rfl rfl hld hll ?_)
 clear hld hll
 go_loopw [3,5,12] (fun s3 s5 i wr=>∃(j:Nat) (p:Option Addr) (c:Nat) (L:List Rt),j<=4/\i = .int .i64 (j:Int)/\s3 = .slice p L.length c/\L.length<=4/\Hid (L=allC (C.take j))/\wr.ownsRow w.heap.size 41 4 (.slice p L.length c) L.length (rcs L)/\Below w.heap.size w wr) (fun _ _ i _=>4-(intOf i).toNat)
 case atStart=>exact ⟨0,none,0,[],by omega,rfl,rfl,by simp,hid rfl,World.ownsRow_nil _ _ _ _,by go_grown⟩
 case round=>
  obtain ⟨j,p,c,L,hj,rfl,rfl,hL,hLe,hown,hb⟩:=hrel
  have hz:=hb.size
  by_cases hlt:j<4
  ·have hi:=HI.out j (by omega)
   have hs:=HS.out j (by omega)
   rw [<-hLe.out] at hs
   have hle:=Znb (C.take (j+1))
   rw [hs] at hle
   have hle2:(C.take (j+1)).length<=4:=by simp;omega
   have HLE:Hid ((L++(C[j]'(by omega)).toList).length<=4):=by show _<=4;omega
   clear hle hle2
   have HN:=hid hs
   clear hs hLe
   generalize hx:(C[j]'(by omega))=x at hi HN HLE
   clear hx
   cases x with
   | none=>
    simp only [xh,xl,xn,xv,Option.isSome_none] at hi
    have HN':Hid (L=allC (C.take (j+1))):=by show L=_;rw [HN.out];simp
    clear HN
    go_wp2_with (refine Za2 _ _ _ _ _ rfl rfl rfl rfl hi ?_)
    go_roundw
    case rel=>exact ⟨j+1,p,c,L,by omega,by go_num,rfl,hL,HN',hown.alloc _,by go_grown⟩
    case measure=>simp [intOf];omega
   | some r=>
    simp only [xh,xl,xn,xv,Option.isSome_some] at hi
    have HN':Hid (L++[r]=allC (C.take (j+1))):=by show L++[r]=_;rw [HN.out];simp
    have HL':Hid ((L++[r]).length<=4):=by show _<=4;exact HLE.out
    have hLl:L.length<=3:=by have:=HL'.out;simp at this;omega
    clear HN HLE
    go_wp2_with (first
     | (refine Za2 _ _ _ _ _ rfl rfl rfl rfl hi ?_)
     | (at_builtin;go_loud (refine wpList_append_own _ rfl (.tmp 17) (.tmp 23) 35 rfl w.heap.size 41 i0 _ 4 32 Tryz.underlying35 hi0 iz0 iz1 iz2 rfl (by decide) _ _ _ rfl ((hown.alloc _).alloc _) ⟨wr.heap.size+1,0,none⟩ 1 1 (Zac r) rfl rfl (Zb9 (by simp [go_sem]) (by simp [go_sem]) (by simp [go_sem]) (by simp [go_sem])) (by simp [Zac,Value.oneCell']) (by unfold maxLen;omega) (by omega) (by simp;omega) ?_)))
    intro v3 w3 hown3 hg3 _
    have hown4:=Zb7 hown3 rfl
    have hw3:Below w.heap.size w w3:=((hb.alloc hz _).alloc (by simp;omega) _).grown hg3 (by simp;omega) (fun j hj=>(hown.lt j hj).1)
    obtain ⟨p3,c3,rfl⟩:=Zag hown4
    clear hown3 hg3 hown hb
    go_wp2
    go_roundw
    case rel=>exact ⟨j+1,p3,c3,L++[r],by omega,by go_num,rfl,HL'.out,HN',hown4,hw3⟩
    case measure=>simp [intOf];omega
  ·go_wp2
   go_ret
   have he:L=allC C:=by have:=hLe.out;rwa [List.take_of_length_le (by omega)] at this
   subst he
   exact ⟨p,c,rfl,hown,hb⟩
structure RBk (w:World) (g o:Nat) (C:List Pl):Prop where
 four:C.length=4
 lt:g<w.heap.size
 rt:∀(i:Nat) (hi:i<C.length),w.cell? ⟨g,o+i*4,none⟩=some (.int .u64 (xh C[i]:Int))/\w.cell? ⟨g,o+i*4+1,none⟩=some (.int .u64 (xl C[i]:Int))/\w.cell? ⟨g,o+i*4+2,none⟩=some (.int .i64 (xn C[i]))/\w.cell? ⟨g,o+i*4+3,none⟩=some (.int .i64 (xv C[i]))
 on:∀(i:Nat) (hi:i<C.length),w.cell? ⟨g,o+16+i,none⟩=some (.bool C[i].isSome)
 free:∀j,j<20->w.frozen? ⟨g,o+j,none⟩=false
theorem RBk.kept {w w':World} {g o:Nat} {C:List Pl} (H:RBk w g o C) (hs:w.heap.size<=w'.heap.size) (h:∀x,x<20->w'.cell? ⟨g,o+x,none⟩=w.cell? ⟨g,o+x,none⟩/\w'.frozen? ⟨g,o+x,none⟩=w.frozen? ⟨g,o+x,none⟩):RBk w' g o C:=by
 have h4:=H.four
 refine ⟨H.four,Nat.lt_of_lt_of_le H.lt hs,fun i hi => ?_,fun i hi => ?_,fun j hj=>(h j hj).2.trans (H.free j hj)⟩
 ·obtain ⟨a,b,c,d⟩:=H.rt i hi
  simp only [Nat.add_assoc] at *
  exact ⟨(h _ (by omega)).1.trans a,(h _ (by omega)).1.trans b,(h _ (by omega)).1.trans c,(h _ (by omega)).1.trans d⟩
 ·have:=H.on i hi
  rw [Nat.add_assoc] at *
  exact (h _ (by omega)).1.trans this
theorem RBk.below {w w':World} {g o:Nat} {C:List Pl} (H:RBk w g o C) (hb:Below w.heap.size w w'):RBk w' g o C:=
 H.kept hb.size fun x _=>⟨hb.cell (p:=⟨g,o+x,none⟩) H.lt,hb.frozen (p:=⟨g,o+x,none⟩) H.lt⟩
theorem RBk.apart {w w':World} {g o g' o' n:Nat} {C:List Pl} (H:RBk w g o C) (h:Turn w w' g' o' n) (hne:g≠g'\/o+20<=o'\/o'+n<=o):RBk w' g o C:=by
 refine H.kept h.grown.size fun x hx => ?_
 by_cases e:g=g'
 ·subst e
  exact ⟨h.cell _ (by omega),h.frozen _⟩
 ·have hb:=h.grown.block g H.lt (by simpa using e)
  exact ⟨World.cell?_of_block hb,by unfold World.frozen?;rw [hb]⟩
structure BK (K:World->Nat->Nat->List Pl->Prop):Prop where
 lt:∀{w g o C},K w g o C->g<w.heap.size
 turn:∀{w w' g o o' n C},K w g o C->Turn w w' g o' n->(o+20<=o'\/o'+n<=o)->K w' g o C
 block:∀{w w' g o C},K w g o C->w.heap.size<=w'.heap.size->w'.heap[g]? = w.heap[g]? -> K w' g o C
theorem Zpv:BK Bkt where
 lt:=Bkt.lt
 turn:=fun H h hne=>H.kept h (.inr hne)
 block:=fun {w w' g o C} H hs hb=>by
  have hc:∀x,w'.cell? ⟨g,x,none⟩=w.cell? ⟨g,x,none⟩/\w'.frozen? ⟨g,x,none⟩=w.frozen? ⟨g,x,none⟩:=fun x=>⟨World.cell?_of_block (a:=⟨g,x,none⟩) hb,World.frozen?_of_block (a:=⟨g,x,none⟩) hb⟩
  exact ⟨H.four,Nat.lt_of_lt_of_le H.lt hs,fun i hi j u hu=>(hc _).1.trans (H.cell i hi j u hu),fun j hj=>(hc _).2.trans (H.free j hj)⟩
theorem Zt3:BK RBk where
 lt:=RBk.lt
 turn:=fun H h hne=>H.apart h (.inr hne)
 block:=fun {w w' g o C} H hs hb=>H.kept hs fun x _=>⟨World.cell?_of_block (a:=⟨g,o+x,none⟩) hb,World.frozen?_of_block (a:=⟨g,o+x,none⟩) hb⟩
def Blk (t g:Nat) (v:Value) (k:Nat):Prop:=k=t\/k=g\/v.ownBlock=some k
structure Tb (K:World->Nat->Nat->List Pl->Prop) (w:World) (t g:Nat) (v:Value) (T:Tab):Prop where
 bk:∀i,i<T.B.length->K w g (i*20) (T.bk i)
 blt:g<w.heap.size
 tlt:t<w.heap.size
 c0:w.cell? ⟨t,0,none⟩=some (.int .u64 (T.s:Int))
 c1:w.cell? ⟨t,1,none⟩=some (.slice (some ⟨g,0,none⟩) T.B.length T.B.length)
 c2:w.cell? ⟨t,2,none⟩=some v
 f:∀j,w.frozen? ⟨t,j,none⟩=false
 own:w.ownsRow 0 41 4 v T.st.length (rcs T.st)
 tg:t≠g
 tv:v.ownBlock≠some t
 gv:v.ownBlock≠some g
section
variable {K:World->Nat->Nat->List Pl->Prop} {w w':World} {t g:Nat} {v:Value} {T:Tab}
theorem Tb.blk (H:Tb K w t g v T):∀k,Blk t g v k->k<w.heap.size:=by
 intro k h
 rcases h with rfl | rfl | h
 ·exact H.tlt
 ·exact H.blt
 ·exact (H.own.lt k h).2
theorem Zf3 {w w':World} {B n k:Nat} {e:TypeId} {v:Value} {xs:List Value} (h:w.ownsRow B e k v n xs) (hb:∀j,v.ownBlock=some j->w'.heap[j]? = w.heap[j]?):w'.ownsRow B e k v n xs:=by
 refine ⟨h.1,?_⟩
 rcases h.2 with hx | ⟨g,cap,cur,rfl,hb2,hgg,rest⟩
 ·exact .inl hx
 ·exact .inr ⟨g,cap,cur,rfl,hb2,(hb g rfl).trans hgg,rest⟩
theorem Tb.blocks (hK:BK K) (H:Tb K w t g v T) (hs:w.heap.size<=w'.heap.size) (hb:∀k,Blk t g v k->w'.heap[k]? = w.heap[k]?):Tb K w' t g v T:=by
 have ht:=hb t (.inl rfl)
 have hg:=hb g (.inr (.inl rfl))
 exact ⟨fun i hi=>hK.block (H.bk i hi) hs hg,Nat.lt_of_lt_of_le H.blt hs,Nat.lt_of_lt_of_le H.tlt hs,(World.cell?_of_block (a:=⟨t,0,none⟩) ht).trans H.c0,(World.cell?_of_block (a:=⟨t,1,none⟩) ht).trans H.c1,
  (World.cell?_of_block (a:=⟨t,2,none⟩) ht).trans H.c2,fun j=>(World.frozen?_of_block (a:=⟨t,j,none⟩) ht).trans (H.f j),Zf3 H.own (fun j e=>hb j (.inr (.inr e))),H.tg,H.tv,H.gv⟩
theorem Tb.below (hK:BK K) (H:Tb K w t g v T) (hb:Below w.heap.size w w'):Tb K w' t g v T:=H.blocks hK hb.size fun k hk=>hb.block k (H.blk k hk)
theorem Tb.touched (hK:BK K) (H:Tb K w t g v T) {S:Nat->Prop} (ht:Touch S w w') (hn:∀k,Blk t g v k->¬S k):Tb K w' t g v T:=H.blocks hK ht.size fun k hk=>ht.block k (H.blk k hk) (hn k hk)
theorem Turn.touch {o n:Nat} {S:Nat->Prop} (h:Turn w w' g o n) (hS:S g):Touch S w w':=Touch.of_grown h.grown fun k e=>by injection e with e;exact e▸hS
theorem Tb.turn (hK:BK K) (H:Tb K w t g v T) {i:Nat} (hi:i<T.B.length) {C:List Pl} (h:Turn w w' g (i*20) 20) (hC:K w' g (i*20) C):Tb K w' t g v (T.set i C)/\Touch (Blk t g v) w w':=by
 have ht:w'.heap[t]? = w.heap[t]? := h.grown.block t H.tlt (by intro e;injection e with e;exact H.tg e)
 refine ⟨⟨fun k hk => ?_,Nat.lt_of_lt_of_le H.blt h.grown.size,Nat.lt_of_lt_of_le H.tlt h.grown.size,(World.cell?_of_block (a:=⟨t,0,none⟩) ht).trans H.c0,?_,(World.cell?_of_block (a:=⟨t,2,none⟩) ht).trans H.c2,
  fun j=>(World.frozen?_of_block (a:=⟨t,j,none⟩) ht).trans (H.f j),Zf3 H.own (fun j e=>h.grown.block j (H.own.lt j e).2 (fun e2=>H.gv (e.trans e2))),H.tg,H.tv,H.gv⟩,h.touch (.inr (.inl rfl))⟩
 ·rw [Zci] at hk
  rw [Zpu T i hi]
  split
  ·rename_i e;subst e;exact hC
  ·rename_i e
   exact hK.turn (H.bk k hk) h (by omega)
 ·rw [Zci]
  exact (World.cell?_of_block (a:=⟨t,1,none⟩) ht).trans H.c1
end
structure CT (w:World) (t g:Nat) (v:Value) (T:Tab) (m:Int):Prop where
 tb:Tb Bkt w t g v T
 c3:w.cell? ⟨t,3,none⟩=some (.int .i64 m)
section
variable {w w':World} {t g:Nat} {v:Value} {T:Tab} {m:Int}
theorem CT.blocks (H:CT w t g v T m) (hs:w.heap.size<=w'.heap.size) (hb:∀k,Blk t g v k->w'.heap[k]? = w.heap[k]?):CT w' t g v T m:=
 ⟨H.tb.blocks Zpv hs hb,(World.cell?_of_block (a:=⟨t,3,none⟩) (hb t (.inl rfl))).trans H.c3⟩
theorem CT.below (H:CT w t g v T m) (hb:Below w.heap.size w w'):CT w' t g v T m:=H.blocks hb.size fun k hk=>hb.block k (H.tb.blk k hk)
theorem CT.touched (H:CT w t g v T m) {S:Nat->Prop} (ht:Touch S w w') (hn:∀k,Blk t g v k->¬S k):CT w' t g v T m:=H.blocks ht.size fun k hk=>ht.block k (H.tb.blk k hk) (hn k hk)
theorem CT.turn (H:CT w t g v T m) {i:Nat} (hi:i<T.B.length) {C:List Pl} (h:Turn w w' g (i*20) 20) (hC:Bkt w' g (i*20) C):CT w' t g v (T.set i C) m/\Touch (Blk t g v) w w':=by
 have ht:w'.heap[t]? = w.heap[t]? := h.grown.block t H.tb.tlt (by intro e;injection e with e;exact H.tb.tg e)
 have:=H.tb.turn Zpv hi h hC
 exact ⟨⟨this.1,(World.cell?_of_block (a:=⟨t,3,none⟩) ht).trans H.c3⟩,this.2⟩
end
def Zar (w w':World) (t g:Nat) (v:Value) (T':Tab) (m':Int):Prop:=∃g' v',CT w' t g' v' T' m'/\Touch (Blk t g v) w w'/\∀k,Blk t g' v' k->k<w.heap.size->Blk t g v k
def Zr3 (w w':World) (t g:Nat) (v:Value) (T':Tab):Prop:=∃g' v',Tb RBk w' t g' v' T'/\Touch (Blk t g v) w w'/\∀k,Blk t g' v' k->k<w.heap.size->Blk t g v k
theorem Touch.then {a b c:World} {t g g':Nat} {v v':Value} (h:Touch (Blk t g v) a b) (hs:∀k,Blk t g' v' k->k<a.heap.size->Blk t g v k) (k:Touch (Blk t g' v') b c):Touch (Blk t g v) a c:=
 ⟨k.os.trans h.os,k.tape.trans h.tape,k.output.trans h.output,Nat.le_trans h.size k.size,fun i hi hn=>(k.block i (Nat.lt_of_lt_of_le hi h.size) (fun x=>hn (hs i x hi))).trans (h.block i hi hn)⟩
theorem Zar.trans {a b c:World} {t g g':Nat} {v v':Value} {T':Tab} {m':Int} (h:Touch (Blk t g v) a b) (hs:∀k,Blk t g' v' k->k<a.heap.size->Blk t g v k) (k:Zar b c t g' v' T' m'):Zar a c t g v T' m':=by
 obtain ⟨g2,v2,h1,h2,h3⟩:=k
 exact ⟨g2,v2,h1,h.then hs h2,fun k hk hl=>hs k (h3 k hk (Nat.lt_of_lt_of_le hl h.size)) hl⟩
theorem Zr3.trans {a b c:World} {t g g':Nat} {v v':Value} {T':Tab} (h:Touch (Blk t g v) a b) (hs:∀k,Blk t g' v' k->k<a.heap.size->Blk t g v k) (k:Zr3 b c t g' v' T'):Zr3 a c t g v T':=by
 obtain ⟨g2,v2,h1,h2,h3⟩:=k
 exact ⟨g2,v2,h1,h.then hs h2,fun k hk hl=>hs k (h3 k hk (Nat.lt_of_lt_of_le hl h.size)) hl⟩
theorem Zar.quiet {a b:World} {t g:Nat} {v:Value} {T:Tab} {m:Int} (H:CT a t g v T m) (h:Below a.heap.size a b):Zar a b t g v T m:=⟨g,v,H.below h,Touch.quiet h,fun _ h _=>h⟩
theorem Zr3.quiet {a b:World} {t g:Nat} {v:Value} {T:Tab} (H:Tb RBk a t g v T) (h:Below a.heap.size a b):Zr3 a b t g v T:=⟨g,v,H.below Zt3 h,Touch.quiet h,fun _ h _=>h⟩
theorem Zar.same {a b:World} {t g:Nat} {v:Value} {T:Tab} {m:Int} (H:CT b t g v T m) (h:Touch (Blk t g v) a b):Zar a b t g v T m:=⟨g,v,H,h,fun _ h _=>h⟩
theorem Zr3.same {a b:World} {t g:Nat} {v:Value} {T:Tab} (H:Tb RBk b t g v T) (h:Touch (Blk t g v) a b):Zr3 a b t g v T:=⟨g,v,H,h,fun _ h _=>h⟩
end
section
open Go Go.RowKit Go.Sort
section
variable {P:Program}
theorem Zut (w:World) (dT sT ty elem:TypeId) (i0:TypeInfo) (hu:P.underlying dT=some (.slice elem)) (hi:P.info? elem=some i0) (k:Nat) (hk:i0.size=k) (g o dLen dCap:Nat) (a:Addr) (sLen sCap:Nat) (cur:Array Value) (t:TypeId) (cs:List Value)
 (m:Nat) (hm:Nat.min sLen dLen=m) (hn:cs.length=m*k) (hg:w.heap[g]? = some (.cells cur t (0,0))) (hsrc:∀j v,cs[j]? = some v->w.cell? (a.add j)=some v) (hfit:o+cs.length<=cur.size) (h1:∀v∈cs,v.oneCell'=true) :
 (Builtin.copy_ #[dT,sT] ty #[.slice (some ⟨g,o,none⟩) dLen dCap,.slice (some a) sLen sCap]).run P w = .ok (goInt m) (w.setRow g (splice cur.toList o cs).toArray):=by
 have hl:=run_firstCells_some (P:=P) w k m a sLen sCap cs hn hsrc
 have hst:=run_storeCells_at P g o t cs 0 cur w hg (by simpa using hfit) h1
 simp [Builtin.copy_,run_underlying hu,Builtin.lenOf,sizeOf,typeInfo,hi,hk,hm,hl,hst,splice]
theorem Zcu (w:World) (g:Nat) (cs:Array Value):w.grownBy (w.setRow g cs) (some g):=
 ⟨rfl,rfl,rfl,by simp [World.setRow],fun k _ hk=>setRow_other w g k cs (fun e=>hk (by rw [e]))⟩
theorem Zkx {o:Oper} {a:Act} {w:World} {K:Act->World->Prop} {Q:Exit->Act->World->Prop} (d s:Operand) (dT sT:TypeId)
 (ho:o.op = .call { callee := .builtin .copy,args := #[d,s],argTypes := #[dT,sT] }) (elem:TypeId) (i0:TypeInfo) (hu:P.underlying dT=some (.slice elem)) (hi:P.info? elem=some i0) (k:Nat) (hk:i0.size=k)
 (g off dLen dCap:Nat) (ad:Addr) (sLen sCap:Nat) (hd:a.eval d = .slice (some ⟨g,off,none⟩) dLen dCap) (hs:a.eval s = .slice (some ad) sLen sCap)
 (cur:Array Value) (t:TypeId) (hg:w.heap[g]? = some (.cells cur t (0,0))) (cs:List Value) (m:Nat) (hm:Nat.min sLen dLen=m) (hn:cs.length=m*k)
 (hsrc:∀j v,cs[j]? = some v->w.cell? (ad.add j)=some v) (hfit:off+cs.length<=cur.size) (h1:∀v∈cs,v.oneCell'=true)
 (h:∀w',Hid (w'.heap[g]? = some (.cells (splice cur.toList off cs).toArray t (0,0)))->w.grownBy w' (some g)->K (a.put o.dst (goInt m)) w'):o.wp P a w K Q:=by
 have hr:=Zut (P:=P) w dT sT o.type elem i0 hu hi k hk g off dLen dCap ad sLen sCap cur t cs m hm hn hg hsrc hfit h1
 unfold Oper.wp execOp
 simp only [ho,resolve,invoke,builtin,Sem.run_bind,Sem.run_pure,Result.andThen_ok,List.map_toArray,List.map_cons,List.map_nil,hd,hs,hr]
 exact h _ (show _=_ from setRow_heap w g cur _ t _ hg) (Zcu w g _)
theorem Zfu {ops:Array Oper} {rest:List Oper} {o:Oper} {a:Act} {w:World} {Q:Exit->Act->World->Prop} (hgd:o.guard=none) (d s:Operand) (dT sT:TypeId)
 (ho:o.op = .call { callee := .builtin .copy,args := #[d,s],argTypes := #[dT,sT] }) (elem:TypeId) (i0:TypeInfo) (hu:P.underlying dT=some (.slice elem)) (hi:P.info? elem=some i0) (k:Nat) (hk:i0.size=k)
 (g off dLen dCap:Nat) (ad:Addr) (sLen sCap:Nat) (hd:a.eval d = .slice (some ⟨g,off,none⟩) dLen dCap) (hs:a.eval s = .slice (some ad) sLen sCap)
 (cur:Array Value) (t:TypeId) (hg:w.heap[g]? = some (.cells cur t (0,0))) (cs:List Value) (m:Nat) (hm:Nat.min sLen dLen=m) (hn:cs.length=m*k)
 (hsrc:∀j v,cs[j]? = some v->w.cell? (ad.add j)=some v) (hfit:off+cs.length<=cur.size) (h1:∀v∈cs,v.oneCell'=true)
 (h:∀w',Hid (w'.heap[g]? = some (.cells (splice cur.toList off cs).toArray t (0,0)))->w.grownBy w' (some g)->wpList P ops Q rest (a.put o.dst (goInt m)) w'):wpList P ops Q (o::rest) a w:=
 wpList_plain hgd fun _ hK=>Zkx d s dT sT ho elem i0 hu hi k hk g off dLen dCap ad sLen sCap hd hs cur t hg cs m hm hn hsrc hfit h1 fun w' h2 h3=>hK _ _ (h w' h2 h3)
theorem Zik {ops:Array Oper} {o:Oper} {a:Act} {w:World} {K:Act->World->Prop} {Q:Exit->Act->World->Prop} {E:Prop} (hgd:o.guard=none) (d s:Operand) (dT sT:TypeId)
 (ho:o.op = .call { callee := .builtin .copy,args := #[d,s],argTypes := #[dT,sT] }) (elem:TypeId) (i0:TypeInfo) (hu:P.underlying dT=some (.slice elem)) (hi:P.info? elem=some i0) (k:Nat) (hk:i0.size=k)
 (g off dLen dCap:Nat) (ad:Addr) (sLen sCap:Nat) (hd:a.eval d = .slice (some ⟨g,off,none⟩) dLen dCap) (hs:a.eval s = .slice (some ad) sLen sCap)
 (cur:Array Value) (t:TypeId) (hg:w.heap[g]? = some (.cells cur t (0,0))) (cs:List Value) (m:Nat) (hm:Nat.min sLen dLen=m) (hn:cs.length=m*k)
 (hsrc:∀j v,cs[j]? = some v->w.cell? (ad.add j)=some v) (hfit:off+cs.length<=cur.size) (h1:∀v∈cs,v.oneCell'=true)
 (h:∀w',Hid (w'.heap[g]? = some (.cells (splice cur.toList off cs).toArray t (0,0)))->w.grownBy w' (some g)->K (a.put o.dst (goInt m)) w') :
 if Region.wanted o (yielded ops a.tmps)=true then Oper.wp P o a w K Q else E:=by
 have hw:Region.wanted o (yielded ops a.tmps)=true:=by simp [Region.wanted,hgd]
 rw [if_pos hw]
 exact Zkx d s dT sT ho elem i0 hu hi k hk g off dLen dCap ad sLen sCap hd hs cur t hg cs m hm hn hsrc hfit h1 h
end
theorem Zbk {w:World} {B n k:Nat} {e:TypeId} {v:Value} {xs:List Value} (h:w.ownsRow B e k v n xs) (hn:0<n) :
 ∃g cap cur,v = .slice (some ⟨g,0,none⟩) n cap/\B<=g/\g<w.heap.size/\w.heap[g]? = some (.cells cur e (0,0))/\n<=cap/\cap<=maxLen/\cur.size=cap*k/\cur.toList.take (n*k)=xs:=by
 rcases h.2 with ⟨-,h0⟩ | ⟨g,cap,cur,rfl,hB,hg,h1,h2,h3,h4⟩
 ·omega
 ·exact ⟨g,cap,cur,rfl,hB,(Array.getElem?_eq_some_iff.1 hg).1,hg,h1,h2,h3,h4⟩
theorem Zcl {w:World} {B n k g cap:Nat} {e:TypeId} {cur:Array Value} {xs:List Value} (hB:B<=g) (hg:w.heap[g]? = some (.cells cur e (0,0))) (h1:n<=cap) (h2:cap<=maxLen) (h3:cur.size=cap*k) (h4:cur.toList.take (n*k)=xs) :
 w.ownsRow B e k (.slice (some ⟨g,0,none⟩) n cap) n xs:=
 ⟨by rw [<-h4,List.length_take,Array.length_toList,h3];exact Nat.min_eq_left (Nat.mul_le_mul_right _ h1),.inr ⟨g,cap,cur,rfl,hB,hg,h1,h2,h3,h4⟩⟩
theorem Zi2 (L:List Rt) (i:Nat):(rcs L).take (i*4)=rcs (L.take i):=by
 by_cases h:i<=L.length
 ·have e:rcs L=rcs (L.take i)++rcs (L.drop i):=by rw [<-Zal,List.take_append_drop]
  rw [e,List.take_append_of_le_length (by rw [Zaz,List.length_take];omega),List.take_of_length_le (by rw [Zaz,List.length_take];omega)]
 ·rw [List.take_of_length_le (by rw [Zaz];omega),List.take_of_length_le (by omega)]
theorem Zmd (L:List Rt) (i:Nat):(rcs L).drop (i*4)=rcs (L.drop i):=by
 by_cases h:i<=L.length
 ·have e:rcs L=rcs (L.take i)++rcs (L.drop i):=by rw [<-Zal,List.take_append_drop]
  rw [e,List.drop_append,List.drop_eq_nil_of_le (by rw [Zaz,List.length_take];omega),Zaz,List.length_take,Nat.min_eq_left h,Nat.sub_self]
  simp
 ·rw [List.drop_eq_nil_of_le (by rw [Zaz];omega),List.drop_eq_nil_of_le (by omega)]
  rfl
theorem Zbw {w:World} {g:Nat} {cur:Array Value} {t:TypeId} (hg:w.heap[g]? = some (.cells cur t (0,0))) (o:Nat) (cs:List Value) (h:(cur.toList.drop o).take cs.length=cs):∀j u,cs[j]? = some u->w.cell? ((⟨g,o,none⟩:Addr).add j)=some u:=by
 intro j u hu
 have hlt:=(List.getElem?_eq_some_iff.1 hu).1
 rw [show (⟨g,o,none⟩:Addr).add j=⟨g,o+j,none⟩ by unfold Addr.add;split<;>simp_all]
 rw [cell_of_row w g (o+j) cur t (0,0) hg]
 rw [<-h,List.getElem?_take,if_pos hlt,List.getElem?_drop] at hu
 simpa using hu
theorem Zf9 {α:Type} (L:List α) (o n:Nat) (cs:List α) (h:n<=o) (ho:o<=L.length):(splice L o cs).take n=L.take n:=by
 unfold splice
 rw [List.take_append_of_le_length (by rw [List.length_take];omega),List.take_take,Nat.min_eq_left h]
theorem Zw8 {α:Type} (cur X1 Y X2:List α) (a b c:Nat) (ha:X1.length=a) (hb:Y.length=b) (hc:X2.length=c) (h:cur.take (a+c)=X1++X2) (hl:a+b+c<=cur.length) :
 (splice (splice cur (a+b) X2) a Y).take (a+b+c)=X1++Y++X2:=by
 subst ha hb hc
 obtain ⟨Z,rfl⟩:∃Z,cur=X1++X2++Z:=⟨cur.drop (X1.length+X2.length),by rw [<-h,List.take_append_drop]⟩
 unfold splice
 have e1:(X1++X2++Z).take (X1.length+Y.length)++(X2++(X1++X2++Z).drop (X1.length+Y.length+X2.length))=X1++((X2++Z).take Y.length++(X2++(X1++X2++Z).drop (X1.length+Y.length+X2.length))):=by
  rw [List.append_assoc X1,List.take_length_add_append,List.append_assoc]
 rw [e1,List.take_left' rfl,List.drop_length_add_append]
 have hlen:Y.length<=(X2++Z).length:=by simp at hl ⊢;omega
 rw [List.drop_append,List.drop_eq_nil_of_le (by rw [List.length_take];omega),List.length_take,Nat.min_eq_left hlen,Nat.sub_self,List.drop_zero,List.nil_append]
 rw [<-List.append_assoc,<-List.append_assoc]
 exact List.take_left' (by simp;omega)
theorem Zum {α:Type} (X1 Z Y X2:List α) (a b c:Nat) (ha:X1.length=a) (hb:Y.length=b) (hc:X2.length=c) (hl:b+c<=Z.length):(splice (splice (X1++Z) a Y) (a+b) X2).take (a+b+c)=X1++Y++X2:=by
 subst ha hb hc
 have e1:splice (X1++Z) X1.length Y=X1++Y++Z.drop Y.length:=by
  unfold splice
  rw [List.take_left,List.drop_length_add_append,List.append_assoc]
 rw [e1]
 unfold splice
 rw [List.take_left' (l₁:=X1++Y) (by simp),<-List.append_assoc (X1++Y)]
 exact List.take_left' (by simp;omega)
end
section
open Go Go.RowKit Go.Sort M
theorem Zcg {ops:Array Oper} {rest:List Oper} {o:Oper} {a:Act} {w:World} {Q:Exit->Act->World->Prop} (hgd:o.guard=none) (s x:Operand)
 (ho:o.op = .call { callee := .builtin .append,args := #[s,x],argTypes := #[35,35] }) (B B2:Nat) (v u:Value) (L M N:List Rt) (hN:N=L++M) (hs:a.eval s=v) (hx:a.eval x=u)
 (hown:w.ownsRow B 41 4 v L.length (rcs L)) (hsrc:w.ownsRow B2 41 4 u M.length (rcs M)) (hlen:L.length+M.length<=1099511627776) (hB:B<=w.heap.size)
 (h:∀v' w',w'.ownsRow B 41 4 v' N.length (rcs N)->w.grownBy w' v.ownBlock->(v'.ownBlock=v.ownBlock\/v'.ownBlock=some w.heap.size)->wpList Tryz.prog ops Q rest (a.put o.dst v') w'):wpList Tryz.prog ops Q (o::rest) a w:=by
 subst hN
 obtain ⟨i0,hi0,iz0,iz1,iz2⟩:=info_parts Zd1
 rcases hsrc.2 with ⟨hu,h0⟩ | ⟨g,cap,cur,hu,-,-,-,-,-,-⟩
 ·subst hu
  refine wpList_append_own_none hgd s x 35 ho B 41 i0 4 Tryz.underlying35 hi0 v _ _ hs hown hx ?_
  have hM:=List.length_eq_zero_iff.1 h0
  subst hM
  refine h v w ?_ ⟨rfl,rfl,rfl,Nat.le_refl _,fun _ _ _=>rfl⟩ (.inl rfl)
  rwa [List.append_nil]
 ·have hc:=fun hg=>hsrc.cells (g:=g) hg
  subst hu
  refine wpList_append_own_at w hgd s x 35 ho B 41 i0 _ 4 32 Tryz.underlying35 hi0 iz0 iz1 iz2 rfl (by decide) v _ _ hs hown ⟨g,0,none⟩ M.length cap (rcs M) hx (Zaz M) (hc rfl) (Zcb M) (by unfold maxLen;omega) (by omega) hB ?_
  intro v' w' h1 h2 _ h4
  refine h v' w' ?_ h2 h4
  rw [Zal,List.length_append]
  exact h1
end
end Go.Proofs.YtgfjmgebecmbiaaGreat
