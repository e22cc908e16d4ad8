/-
  What the reference's Hop and Set hand back. No condition but that the routes lie in memory, their words are words, and they are short of a million.
-/
import Derived.Test.YtgfjmgebecmbiaaGreatM22
import Derived.Test.YtgfjmgebecmbiaaGreatM10
import Derived.Test.YtgfjmgebecmbiaaGreatW10d
import Derived.Test.YtgfjmgebecmbiaaGreatM19b
import Derived.Test.YtgfjmgebecmbiaaGreatRT1
import Derived.Deep.LoopGhost
import Derived.Test.YtgfjmgebecmbiaaGreatFil2d
import Derived.Test.YtgfjmgebecmbiaaGreatReg9
import Derived.Test.YtgfjmgebecmbiaaGreatM12
import Derived.Test.YtgfjmgebecmbiaaGreatStb2
set_option linter.unusedSimpArgs false
set_option linter.unusedVariables false
namespace Go.Proofs.YtgfjmgebecmbiaaGreat
open M
structure Cf where
 wd:Int
 di:Int
 lv:Int
 st:Int
 hs:Int
 bt:Int
 le:Int
 bk:Int
 rt:Int
 hp:Int
def okCf (c:Cf):Bool:=decide ((1<=c.wd/\c.wd<=128)/\(0<=c.di/\c.di<=c.wd/\c.di<=8)/\(0<=c.lv/\c.lv<=128)/\(1<=c.st/\c.st<=6)/\(1<=c.hs/\c.hs<=16)/\(1<=c.le/\c.le<=65536)/\(c.le*max c.lv 1<=c.bt/\c.bt<=1073741824)/\(1<=c.bk/\c.bk<=1000)/\(0<=c.rt/\c.rt<=300)/\(0<=c.hp/\c.hp<=60)/\c.wd-c.di<=c.lv*c.st)
def sumE (C:List Int) (a b:Int):Nat:=sumF (fun j=>atC C (a.toNat+1+j)*2^((b-a).toNat-1-j)) (b-a).toNat
def weightE (C:List Int):Int->List Int->List Nat
 | _,[]=>[]
 | a,b::L=>sumE C a b::weightE C b L
theorem weightE_len (C:List Int):∀(L:List Int) (a:Int),(weightE C a L).length=L.length
 | [],_=>rfl
 | b::L,a=>by unfold weightE;rw [List.length_cons,List.length_cons,weightE_len C L b]
def capB (n:Int):Nat:=(max 1 (min n 65536)).toNat
def bitsE (c:Cf) (levels C:List Int):List Nat:=(shL c.bt c.le ((weightE C c.di levels).map fl)).map capB
theorem bitsE_len (c:Cf) (levels C:List Int):(bitsE c levels C).length=levels.length:=by
 unfold bitsE
 rw [List.length_map,shL_len,List.length_map,weightE_len]
def mkE (c:Cf) (s:Nat):Nat->List Int->List Nat->List Lv
 | i,n::L,b::B=>newV n (mixN ((s+i)%18446744073709551616)) c.hs b c.bk.toNat::mkE c s (i+1) L B
 | _,_,_=>[]
structure Eg where
 wd:Int
 di:Int
 L:List Lv
 R:List Rt
def newE (c:Cf) (s:Nat) (levels C:List Int):Eg:=⟨c.wd,c.di,mkE c s 0 levels (bitsE c levels C),[]⟩
structure Eg.ok (E:Eg):Prop where
 rts:RtsOk E.R
 lev:EgLv E.R E.di E.L
 top:topE E.di E.L=E.wd
 dir:0<=E.di/\E.di<=8
 wid:E.wd<=128
def takesE (E:Eg) (r:Rt):Bool:=rightB r.k.h r.k.l r.k.n&&decide (r.k.n<=E.wd)&&decide (0<=r.v)
def Eg.toR (E:Eg) (R':List Rt):Eg:={ E with L:=turnE E.R R' E.di E.L,R:=R' }
def Eg.put (E:Eg) (r:Rt):Eg:=if takesE E r=true then E.toR (intoS E.R r) else E
def Eg.del (E:Eg) (k:Ky):Eg:=if k∈keysR E.R then E.toR (outS E.R k) else E
def Eg.cutA (E:Eg) (ah al:Nat):Ky:=cutK ah al E.wd.toNat
def Eg.dir22 (E:Eg) (ah al:Nat):Option Int:=hopK (upS E.R E.di) (-1) (cutK ah al E.di.toNat)
def Eg.hop (E:Eg) (ah al:Nat):Int:=(((lookL (E.cutA ah al).h (E.cutA ah al).l E.L.reverse).1).or (E.dir22 (E.cutA ah al).h (E.cutA ah al).l)).getD (-1)
def Eg.probes (E:Eg) (ah al:Nat):List Int:=(lookL (E.cutA ah al).h (E.cutA ah al).l E.L.reverse).2
theorem into_ok {R:List Rt} (h:RtsOk R) {r:Rt} (hg:r.k.good) (hv:0<=r.v):RtsOk (intoS R r):=by
 refine ⟨intoS_sorted r h.sort,fun q hq => ?_,fun q hq => ?_⟩
 ·rcases (mem_into h.sort).1 hq with e | ⟨e,-⟩
  ·rw [e];exact hg
  ·exact h.good q e
 ·rcases (mem_into h.sort).1 hq with e | ⟨e,-⟩
  ·rw [e];exact hv
  ·exact h.pos q e
theorem out_ok {R:List Rt} (h:RtsOk R) (k:Ky):RtsOk (outS R k):=⟨outS_sorted k h.sort,fun q hq=>h.good q (mem_outS.1 hq).1,fun q hq=>h.pos q (mem_outS.1 hq).1⟩
theorem Eg.ok.toR {E:Eg} (h:E.ok) {R':List Rt} (h':RtsOk R'):(E.toR R').ok:=
 ⟨h',turnE_ok h.rts h' _ _ h.lev,(turnE_top _ _ _ _).trans h.top,h.dir,h.wid⟩
theorem Eg.ok.put {E:Eg} (h:E.ok) (r:Rt) (hg:r.k.good):(E.put r).ok:=by
 unfold Eg.put
 by_cases ht:takesE E r=true
 ·rw [if_pos ht]
  unfold takesE at ht
  simp only [Bool.and_eq_true,decide_eq_true_eq] at ht
  exact h.toR (into_ok h.rts hg ht.2)
 ·rw [if_neg ht]
  exact h
theorem Eg.ok.del {E:Eg} (h:E.ok) (k:Ky):(E.del k).ok:=by
 unfold Eg.del
 split
 ·exact h.toR (out_ok h.rts k)
 ·exact h
theorem put_R (E:Eg) (r:Rt):(E.put r).R=if takesE E r=true then intoS E.R r else E.R:=by unfold Eg.put;split<;>rfl
theorem del_R (E:Eg) (k:Ky):(E.del k).R=outS E.R k:=by
 unfold Eg.del
 split
 ·rfl
 ·rename_i h
  exact (out_same h).symm
theorem put_wd (E:Eg) (r:Rt):(E.put r).wd=E.wd:=by unfold Eg.put;split<;>rfl
theorem del_wd (E:Eg) (k:Ky):(E.del k).wd=E.wd:=by unfold Eg.del;split<;>rfl
theorem put_di (E:Eg) (r:Rt):(E.put r).di=E.di:=by unfold Eg.put;split<;>rfl
theorem put_ns (E:Eg) (r:Rt):(E.put r).L.map Lv.n=E.L.map Lv.n:=by
 unfold Eg.put
 split
 ·exact turnE_ns _ _ _ _
 ·rfl
theorem turnE_cs (R R':List Rt):∀(L:List Lv) (a:Int),(turnE R R' a L).map (fun V=>V.C.length)=L.map (fun V=>V.C.length)
 | [],_=>rfl
 | V::L,a=>by
  unfold turnE
  rw [List.map_cons,List.map_cons,(turns_s V _).2.2,turnE_cs R R' L V.n]
theorem put_cs (E:Eg) (r:Rt):(E.put r).L.map (fun V=>V.C.length)=E.L.map (fun V=>V.C.length):=by
 unfold Eg.put
 split
 ·exact turnE_cs _ _ _ _
 ·rfl
theorem Eg.ok.longest {E:Eg} (h:E.ok) {ah al:Nat} (wa:W64 ah) (wb:W64 al) :
 E.hop ah al=((bestM (depV E.R (E.cutA ah al).h (E.cutA ah al).l) (-1) E.wd 129).bind (depV E.R (E.cutA ah al).h (E.cutA ah al).l)).getD (-1):=by
 obtain ⟨d,hd⟩:=Int.eq_ofNat_of_zero_le h.dir.1
 have hl:=h.lev
 have ht:=h.top
 unfold Eg.hop Eg.dir22
 rw [hd] at hl ht ⊢
 have h1:W64 (E.cutA ah al).h:=wa.cut _
 have h2:W64 (E.cutA ah al).l:=wb.cut _
 rw [Int.toNat_natCast,eg_longest h.rts h1 h2 hl,ht]
theorem Eg.ok.down {E:Eg} (h:E.ok) (ah al:Nat):(E.probes ah al).Pairwise (· > ·):=probes_down h.lev _ _
theorem setS_nil (a b:Int):setS [] a b=[]:=by
 unfold setS
 split<;>rfl
theorem rg_le {st wd:Int}:∀(L:List Int) (a:Int),rgB st wd a L=true->a<=wd
 | [],a,h=>by
  have:a=wd:=of_decide_eq_true h
  omega
 | b::L,a,h=>by
  simp only [rgB,Bool.and_eq_true,decide_eq_true_eq] at h
  have:=rg_le L b h.2
  omega
theorem mkE_ok (c:Cf) (s:Nat) (h6:c.st<=8) (h128:c.wd<=128) (hb1:1<=c.bk) (hb2:c.bk<=65536):∀(levels:List Int) (B:List Nat) (i:Nat) (a:Int),B.length=levels.length->0<=a->rgB c.st c.wd a levels=true->EgLv [] a (mkE c s i levels B)/\topE a (mkE c s i levels B)=c.wd
 | [],[],_,a,_,_,h=>⟨trivial,of_decide_eq_true h⟩
 | [],b::B,_,_,hl,_,_=>by simp at hl
 | n::L,[],_,_,hl,_,_=>by simp at hl
 | n::L,b::B,i,a,hl,ha,h=>by
  simp only [rgB,Bool.and_eq_true,decide_eq_true_eq] at h
  obtain ⟨⟨h1,h2⟩,h3⟩:=h
  obtain ⟨i1,i2⟩:=mkE_ok c s h6 h128 hb1 hb2 L B (i+1) n (by simpa using hl) (by omega) h3
  have hle:=rg_le L n h3
  unfold mkE EgLv topE
  refine ⟨⟨⟨⟨ha,h1,by show n-a<=8;omega,by show n<=128;omega⟩,?_⟩,i1⟩,i2⟩
  rw [setS_nil]
  exact newV_ok _ _ _ _ _ (by omega) (by omega)
theorem mkE_ns (c:Cf) (s:Nat):∀(levels:List Int) (B:List Nat) (i:Nat),B.length=levels.length->(mkE c s i levels B).map Lv.n=levels
 | [],[],_,_=>rfl
 | [],b::B,_,hl=>by simp at hl
 | n::L,[],_,hl=>by simp at hl
 | n::L,b::B,i,hl=>by
  unfold mkE
  rw [List.map_cons,mkE_ns c s L B (i+1) (by simpa using hl)]
  rfl
theorem newE_ok {c:Cf} {s:Nat} {levels C:List Int} (h:okCf c=true) (hr:rightI c.wd c.di c.lv c.st levels=true):(newE c s levels C).ok:=by
 unfold okCf at h
 obtain ⟨⟨w1,w2⟩,⟨d1,d2,d3⟩,-,⟨s1,s2⟩,-,-,-,⟨b1,b2⟩,-⟩:=of_decide_eq_true h
 unfold rightI at hr
 simp only [Bool.and_eq_true] at hr
 have hm:=mkE_ok c s (by omega) w2 b1 (by omega) levels (bitsE c levels C) 0 c.di (bitsE_len c levels C) d1 hr.2
 exact ⟨⟨List.Pairwise.nil,fun r hr=>(by cases hr),fun r hr=>(by cases hr)⟩,hm.1,hm.2,⟨d1,d3⟩,w2⟩
end Go.Proofs.YtgfjmgebecmbiaaGreat
namespace Go.Proofs.YtgfjmgebecmbiaaGreat
open Go.ChangeShapes Go.WideShapes Go.ChangeAt Go.RowKit Go.Joins Go.Deep M
def cfgL (c:Cf):List Value:=[.int .i64 c.wd,.int .i64 c.di,.int .i64 c.lv,.int .i64 c.st,.int .i64 c.hs,.int .i64 c.bt,.int .i64 c.le,.int .i64 c.bk,.int .i64 c.rt,.int .i64 c.hp]
def cfgA (c:Cf):Value := .agg #[.int .i64 c.wd,.int .i64 c.di,.int .i64 c.lv,.int .i64 c.st,.int .i64 c.hs,.int .i64 c.bt,.int .i64 c.le,.int .i64 c.bk,.int .i64 c.rt,.int .i64 c.hp]
section
variable {H:Type} {enc:TypeId×Value->H} {w:World} {base:Nat} {spare:Nat->Bool} {held:Bool} {r:Reach} {b0:Nat}
set_option maxRecDepth 100000 in
theorem open_cfg_cells {n:Nat} {cs:List Value} {x:DataW H×List MemPlace} (h:DataW.trod enc Tryz.prog w base spare held n 23 cs=some x):∃c:Cf,cs=cfgL c:=by
 obtain ⟨xs,m,-,-,hl,hxl,hf⟩:=DataW.trod_struct Tryz.underlying23 h
 rw [show Tryz.prog.cellsOf 23=10 by kernel_rfl] at hl
 have h0:DataW.trod enc Tryz.prog w base spare held m 3 ((cs.drop 0).take (Tryz.prog.cellsOf 3))=xs[0]? := hf 0 _ rfl
 have h1:DataW.trod enc Tryz.prog w base spare held m 3 ((cs.drop 1).take (Tryz.prog.cellsOf 3))=xs[1]? := hf 1 _ rfl
 have h2:DataW.trod enc Tryz.prog w base spare held m 3 ((cs.drop 2).take (Tryz.prog.cellsOf 3))=xs[2]? := hf 2 _ rfl
 have h3:DataW.trod enc Tryz.prog w base spare held m 3 ((cs.drop 3).take (Tryz.prog.cellsOf 3))=xs[3]? := hf 3 _ rfl
 have h4:DataW.trod enc Tryz.prog w base spare held m 3 ((cs.drop 4).take (Tryz.prog.cellsOf 3))=xs[4]? := hf 4 _ rfl
 have h5:DataW.trod enc Tryz.prog w base spare held m 3 ((cs.drop 5).take (Tryz.prog.cellsOf 3))=xs[5]? := hf 5 _ rfl
 have h6:DataW.trod enc Tryz.prog w base spare held m 3 ((cs.drop 6).take (Tryz.prog.cellsOf 3))=xs[6]? := hf 6 _ rfl
 have h7:DataW.trod enc Tryz.prog w base spare held m 3 ((cs.drop 7).take (Tryz.prog.cellsOf 3))=xs[7]? := hf 7 _ rfl
 have h8:DataW.trod enc Tryz.prog w base spare held m 3 ((cs.drop 8).take (Tryz.prog.cellsOf 3))=xs[8]? := hf 8 _ rfl
 have h9:DataW.trod enc Tryz.prog w base spare held m 3 ((cs.drop 9).take (Tryz.prog.cellsOf 3))=xs[9]? := hf 9 _ rfl
 rw [show Tryz.prog.cellsOf 3=1 by kernel_rfl] at h0 h1 h2 h3 h4 h5 h6 h7 h8 h9
 obtain ⟨c0,c1,c2,c3,c4,c5,c6,c7,c8,c9,rfl⟩:∃c0 c1 c2 c3 c4 c5 c6 c7 c8 c9,cs=[c0,c1,c2,c3,c4,c5,c6,c7,c8,c9]:=by
  rcases cs with _ | ⟨c0,_ | ⟨c1,_ | ⟨c2,_ | ⟨c3,_ | ⟨c4,_ | ⟨c5,_ | ⟨c6,_ | ⟨c7,_ | ⟨c8,_ | ⟨c9,_ | ⟨c10,cs⟩⟩⟩⟩⟩⟩⟩⟩⟩⟩⟩<;>simp at hl
  exact ⟨c0,c1,c2,c3,c4,c5,c6,c7,c8,c9,rfl⟩
 simp only [List.drop_zero,List.take_succ_cons,List.take_zero,List.drop_succ_cons] at h0 h1 h2 h3 h4 h5 h6 h7 h8 h9
 rw [List.getElem?_eq_getElem (by rw [hxl];decide)] at h0 h1 h2 h3 h4 h5 h6 h7 h8 h9
 obtain ⟨y0,e0,-,-⟩:=DataW.trod_int Tryz.underlying3 h0
 obtain ⟨y1,e1,-,-⟩:=DataW.trod_int Tryz.underlying3 h1
 obtain ⟨y2,e2,-,-⟩:=DataW.trod_int Tryz.underlying3 h2
 obtain ⟨y3,e3,-,-⟩:=DataW.trod_int Tryz.underlying3 h3
 obtain ⟨y4,e4,-,-⟩:=DataW.trod_int Tryz.underlying3 h4
 obtain ⟨y5,e5,-,-⟩:=DataW.trod_int Tryz.underlying3 h5
 obtain ⟨y6,e6,-,-⟩:=DataW.trod_int Tryz.underlying3 h6
 obtain ⟨y7,e7,-,-⟩:=DataW.trod_int Tryz.underlying3 h7
 obtain ⟨y8,e8,-,-⟩:=DataW.trod_int Tryz.underlying3 h8
 obtain ⟨y9,e9,-,-⟩:=DataW.trod_int Tryz.underlying3 h9
 simp only [List.cons.injEq,and_true] at e0 e1 e2 e3 e4 e5 e6 e7 e8 e9
 exact ⟨⟨y0,y1,y2,y3,y4,y5,y6,y7,y8,y9⟩,by rw [e0,e1,e2,e3,e4,e5,e6,e7,e8,e9];rfl⟩
set_option maxRecDepth 100000 in
theorem open_cfg {v:Value} {d:DataW H} {p:List MemPlace} (hv:Value.okWide Tryz.prog w r b0 23 v) (h:DataW.Trod enc Tryz.prog w base spare held 23 v d p):∃c:Cf,v=cfgA c:=by
 obtain ⟨cs,rfl,hsz⟩:=okWide_struct Tryz.underlying23 hv
 obtain ⟨m,hm⟩:=h
 obtain ⟨c,e⟩:=open_cfg_cells hm
 refine ⟨c,?_⟩
 obtain ⟨l⟩:=cs
 have e':l=_:=e
 rw [e']
 rfl
set_option maxRecDepth 100000 in
theorem open_route {v:Value} {d:DataW H} {p:List MemPlace} (hv:Value.okWide Tryz.prog w r b0 41 v) (h:DataW.Trod enc Tryz.prog w base spare held 41 v d p) :
 ∃(hi lo:Nat) (k x:Int),v = .agg #[.int .u64 hi,.int .u64 lo,.int .i64 k,.int .i64 x]/\W64 hi/\W64 lo:=by
 obtain ⟨cs,rfl,hsz⟩:=okWide_struct Tryz.underlying41 hv
 obtain ⟨m,hm⟩:=h
 obtain ⟨a,e,g⟩:=elemRt _ _ _ hm
 refine ⟨a.k.h,a.k.l,a.k.n,a.v,?_,g.1,g.2⟩
 obtain ⟨l⟩:=cs
 have e':l=_:=e
 rw [e']
 rfl
end
end Go.Proofs.YtgfjmgebecmbiaaGreat
namespace Go.Proofs.YtgfjmgebecmbiaaGreat
open Go Go.RowKit Go.Sort M
def atE (E:Eg) (i:Nat):Int:=if i=0 then E.di else (E.L.map Lv.n).getD (i-1) 0
def okE (c:Cf) (levels:List Int):Bool:=okCf c&&rightI c.wd c.di c.lv c.st levels
structure EngC (P:World->(Nat->Prop)->Nat->Eg->Prop):Prop where
 bad:∀(c:Cf) (s:Nat) (levels C:List Int) (p q:Option Addr) (k l:Nat) (w:World),W64 s->IRow w p levels->IRow w q C->levels.length<=1000->C.length<=1000->levels.length<=k->C.length<=l->(∀x∈levels,x<=9223372036854775807)->okE c levels=false ->
  Calls Tryz.prog 8 #[cfgA c,.int .u64 (s:Int),.slice p levels.length k,.slice q C.length l] w fun e w'=>e = .returned (.tuple #[.pointer none,.int .i64 1])/\Below w.heap.size w w'
 new:∀(c:Cf) (s:Nat) (levels C:List Int) (p q:Option Addr) (k l:Nat) (w:World),W64 s->IRow w p levels->IRow w q C->levels.length<=1000->C.length<=1000->levels.length<=k->C.length<=l->okE c levels=true ->
  Calls Tryz.prog 8 #[cfgA c,.int .u64 (s:Int),.slice p levels.length k,.slice q C.length l] w fun e w'=>
   ∃t,e = .returned (.tuple #[.pointer (some ⟨t,0,none⟩),.int .i64 0])/\P w' (In w.heap.size w'.heap.size) t (newE c s levels C)/\Below w.heap.size w w'
 put:∀(w:World) (K:Nat->Prop) (t:Nat) (E:Eg) (r:Rt),P w K t E->E.ok->r.k.good->E.R.length<=300 ->
  Calls Tryz.prog 12 #[.pointer (some ⟨t,0,none⟩),rtA r] w fun e w'=>e = .returned (.tuple #[])/\∃K',P w' K' t (E.put r)/\Touch K w w'/\∀g,K' g->K g\/In w.heap.size w'.heap.size g
 del:∀(w:World) (K:Nat->Prop) (t:Nat) (E:Eg) (k:Ky),P w K t E->E.ok->k.good->E.R.length<=300 ->
  Calls Tryz.prog 10 #[.pointer (some ⟨t,0,none⟩),kyV k] w fun e w'=>e = .returned (.bool (decide (k∈keysR E.R)))/\∃K',P w' K' t (E.del k)/\Touch K w w'/\∀g,K' g->K g\/In w.heap.size w'.heap.size g
 look:∀(w:World) (K:Nat->Prop) (t:Nat) (E:Eg) (ah al:Nat),P w K t E->E.ok->E.R.length<=301->W64 ah->W64 al ->
  Calls Tryz.prog 15 #[.pointer (some ⟨t,0,none⟩),.agg #[.int .u64 (ah:Int),.int .u64 (al:Int)]] w fun e w'=>∃p c,e = .returned (.tuple #[.int .i64 (E.hop ah al),.slice p (E.probes ah al).length c])/\IRow w' p (E.probes ah al)/\Below w.heap.size w w'
 routes:∀(w:World) (K:Nat->Prop) (t:Nat) (E:Eg),P w K t E->E.ok->E.R.length<=301 ->
  Calls Tryz.prog 17 #[.pointer (some ⟨t,0,none⟩)] w fun e w'=>NewRts w w' e E.R
 level:∀(w:World) (K:Nat->Prop) (t:Nat) (E:Eg) (i:Nat) (V:Lv),P w K t E->E.ok->E.R.length<=301->E.L[i]? = some V ->
  Calls Tryz.prog 18 #[.pointer (some ⟨t,0,none⟩),.int .i64 (i:Int)] w fun e w'=>∃p c,e = .returned (.tuple #[.slice p (setS E.R (atE E i) V.n).length c,.int .i64 (V.C.length:Int)])/\Row w' p (rcs (setS E.R (atE E i) V.n))/\Below w.heap.size w w'
 right:∀(c:Cf) (w:World),Calls Tryz.prog 22 #[cfgA c] w fun e w'=>e = .returned (.bool (okCf c))/\Below w.heap.size w w'
 touched:∀(w w':World) (K S:Nat->Prop) (t:Nat) (E:Eg),P w K t E->Touch S w w'->(∀g,K g->¬S g)->P w' K t E
theorem EngC.below {P:World->(Nat->Prop)->Nat->Eg->Prop} (D:EngC P) {w w':World} {K:Nat->Prop} {t:Nat} {E:Eg} (h:P w K t E) (hb:Below w.heap.size w w'):P w' K t E:=
 D.touched w w' K (fun _=>False) t E h (Touch.quiet hb) (fun _ _ x=>x)
theorem num22_any (n:Int):Gives Tryz.prog 9 #[.int .i64 n] (.int .i64 n):=by
 intro w
 go_enter Tryz.func9,Tryz.ntmps9
 go_wp2
 go_ret
 exact ⟨rfl,by go_grown⟩
def smallB (c:Cf):Bool:=decide ((c.wd<=24\/128<c.wd)/\(c.bt<=4000\/1073741824<c.bt)/\(c.le<=500\/65536<c.le)/\(c.bk<=20\/1000<c.bk))
set_option maxHeartbeats 4000000 in
set_option maxRecDepth 100000 in
theorem small_any (c:Cf):Gives Tryz.prog 7 #[cfgA c] (.bool (smallB c)):=by
 intro w
 obtain ⟨wd,di,lv,st,hs,bt,le,bk,rt,hp⟩:=c
 unfold cfgA
 simp only
 go_enter Tryz.func7,Tryz.ntmps7
 go_wp2
 all_goals
  go_ret
  refine ⟨ret_bool ?_,by go_grown⟩
  unfold smallB
  rw [Bool.eq_iff_iff]
  simp only [Bool.and_eq_true,Bool.or_eq_true,decide_eq_true_eq,Bool.false_eq_true,Bool.true_eq_false,true_iff,false_iff,iff_true,iff_false,true_and,and_true,true_or,or_true,false_or,or_false]
  omega
def longV (N:List Rt) (ah al:Nat) (wd:Int):Int:=((bestM (depV N (cutK ah al wd.toNat).h (cutK ah al wd.toNat).l) (-1) wd 129).bind (depV N (cutK ah al wd.toNat).h (cutK ah al wd.toNat).l)).getD (-1)
structure RLevB (w:World) (K:Nat->Prop) (t:Nat) (V:Lv) (lo hi f g u b:Nat) (v:Value):Prop where
 lt:t<w.heap.size
 c0:w.cell? ⟨t,0,none⟩=some (.int .i64 V.n)
 c1:w.cell? ⟨t,1,none⟩=some (.pointer (some ⟨f,0,none⟩))
 c2:w.cell? ⟨t,2,none⟩=some (.pointer (some ⟨u,0,none⟩))
 fil:RFil w lo hi f g V.s V.k V.C
 tab:Tb RBk w u b v V.T
 kt:K t
 kf:∀j,In lo hi j->K j
 kb:∀j,Blk u b v j->K j
 tf:¬In lo hi t
 tb:¬Blk u b v t
 fb:∀j,Blk u b v j->¬In lo hi j
def RLev (w:World) (K:Nat->Prop) (t:Nat) (V:Lv):Prop:=∃lo hi f g u b v,RLevB w K t V lo hi f g u b v
theorem RLev.touched {w w':World} {K S:Nat->Prop} {t:Nat} {V:Lv} (H:RLev w K t V) (ht:Touch S w w') (hn:∀j,K j->¬S j):RLev w' K t V:=by
 obtain ⟨lo,hi,f,g,u,b,v,H⟩:=H
 exact ⟨lo,hi,f,g,u,b,v,Nat.lt_of_lt_of_le H.lt ht.size,ht.cell H.c0 (hn _ H.kt),ht.cell H.c1 (hn _ H.kt),ht.cell H.c2 (hn _ H.kt),H.fil.touched ht (fun j h1 h2=>hn _ (H.kf j ⟨h1,h2⟩)),H.tab.touched bk_rbk ht (fun j hj=>hn _ (H.kb j hj)),H.kt,H.kf,H.kb,H.tf,H.tb,H.fb⟩
theorem RLev.below {w w':World} {K:Nat->Prop} {t:Nat} {V:Lv} (H:RLev w K t V) (hb:Below w.heap.size w w'):RLev w' K t V:=H.touched (S:=fun _=>False) (Touch.quiet hb) (fun _ _ x=>x)
def lookA (V:Lv) (ah al:Nat):Value := .tuple #[.int .i64 ((V.hit ah al).getD 0),.bool (V.hit ah al).isSome,.bool (V.may ah al)]
def lkD (kh kl:Nat) (n:Int) (S:Nat) (i:Nat) (v:Value) (W:World):Prop:=
 match i with
 | 5=>v = .agg #[.int .u64 (kh:Int),.int .u64 (kl:Int)]
 | 10=>v = .agg #[.int .u64 (kh:Int),.int .u64 (kl:Int),.int .i64 n]
 | 11=>∃b,v = .pointer (some ⟨b,0,none⟩)/\S<=b/\b<W.heap.size/\W.cell? ⟨b,0,none⟩=some (.int .u64 0)/\W.cell? ⟨b,1,none⟩=some (.int .u64 0)/\W.cell? ⟨b,2,none⟩=some (.int .i64 0)/\∀j,W.frozen? ⟨b,j,none⟩=false
 | _=>True
theorem lkD_stable (kh kl:Nat) (n:Int) (S:Nat):∀i v W W',Below W.heap.size W W'->lkD kh kl n S i v W->lkD kh kl n S i v W':=by
 intro i v W W' hb h
 unfold lkD at h ⊢
 split at h
 ·exact h
 ·exact h
 ·obtain ⟨b,e,h1,h2,h3,h4,h5,h6⟩:=h
  exact ⟨b,e,h1,Nat.lt_of_lt_of_le h2 hb.size,(hb.cell (p:=⟨b,0,none⟩) h2).trans h3,(hb.cell (p:=⟨b,1,none⟩) h2).trans h4,(hb.cell (p:=⟨b,2,none⟩) h2).trans h5,fun j=>(hb.frozen (p:=⟨b,j,none⟩) h2).trans (h6 j)⟩
 ·trivial
def lgD (hv:Int) (hs:Bool) (n:Nat) (i:Nat) (v:Value) (_:World):Prop:=
 match i with
 | 5=>∃p c,v = .tuple #[.int .i64 hv,.bool hs,.slice p n c]
 | 6=>∃p c,v = .tuple #[.int .i64 hv,.bool hs,.slice p n c]
 | 7=>v = .int .i64 hv
 | 8=>v = .bool hs
 | 10=>v = .int .i64 hv
 | 11=>v = .bool hs
 | _=>True
structure LevC (P:World->(Nat->Prop)->Nat->Lv->Prop):Prop where
 bad:∀(n k m b:Int) (s:Nat) (w:World),W64 s->badV n k m b ->
  Calls Tryz.prog 26 #[.int .i64 n,.int .u64 (s:Int),.int .i64 k,.int .i64 m,.int .i64 b] w fun e w'=>e = .returned (.tuple #[.pointer none,.int .i64 1])/\Below w.heap.size w w'
 new:∀(n k:Int) (s m b:Nat) (w:World),W64 s->¬badV n k m b ->
  Calls Tryz.prog 26 #[.int .i64 n,.int .u64 (s:Int),.int .i64 k,.int .i64 (m:Int),.int .i64 (b:Int)] w fun e w'=>
   ∃t,e = .returned (.tuple #[.pointer (some ⟨t,0,none⟩),.int .i64 0])/\P w' (In w.heap.size w'.heap.size) t (newV n s k m b)/\Below w.heap.size w w'
 turn:∀(w:World) (K:Nat->Prop) (t:Nat) (V:Lv) (N:List Rt) (p:Option Addr) (c:Nat) (L:List Ch),P w K t V->LvOk V N->(∀x∈L,x.k.good)->N.length+L.length<=100000->L.length<=c->Row w p (ccs L)->(∀a,p=some a->¬K a.block) ->
  Calls Tryz.prog 57 #[.pointer (some ⟨t,0,none⟩),.slice p L.length c] w fun e w'=>e = .returned (.tuple #[])/\∃K',P w' K' t (V.turns L)/\Touch K w w'/\∀g,K' g->K g\/In w.heap.size w'.heap.size g
 look:∀(w:World) (K:Nat->Prop) (t:Nat) (V:Lv) (N:List Rt) (ah al:Nat),P w K t V->LvOk V N->N.length<=100000->0<=V.n->W64 ah->W64 al ->
  Calls Tryz.prog 38 #[.pointer (some ⟨t,0,none⟩),.agg #[.int .u64 (ah:Int),.int .u64 (al:Int)]] w fun e w'=>e = .returned (lookA V ah al)/\Below w.heap.size w w'
 keys:∀(w:World) (K:Nat->Prop) (t:Nat) (V:Lv) (N:List Rt),P w K t V->LvOk V N->N.length<=100000 ->
  Calls Tryz.prog 43 #[.pointer (some ⟨t,0,none⟩)] w fun e w'=>∃p c,e = .returned (.slice p N.length c)/\Row w' p (rcs N)/\Below w.heap.size w w'
 bits:∀(w:World) (K:Nat->Prop) (t:Nat) (V:Lv),P w K t V ->
  Calls Tryz.prog 39 #[.pointer (some ⟨t,0,none⟩)] w fun e w'=>e = .returned (.int .i64 V.n)/\Below w.heap.size w w'
 touched:∀(w w':World) (K S:Nat->Prop) (t:Nat) (V:Lv),P w K t V->Touch S w w'->(∀g,K g->¬S g)->P w' K t V
section
variable {P:World->(Nat->Prop)->Nat->Lv->Prop}
theorem LevC.below (D:LevC P) {w w':World} {K:Nat->Prop} {t:Nat} {V:Lv} (h:P w K t V) (hb:Below w.heap.size w w'):P w' K t V:=
 D.touched w w' K (fun _=>False) t V h (Touch.quiet hb) (fun _ _ x=>x)
end
section
variable {P:World->(Nat->Prop)->Nat->Lv->Prop}
end
structure SureI (P:World->(Nat->Prop)->Nat->Lv->Prop) (w0 wr:World) (t:Nat) (V:Lv) (N:List Rt) (q:Option Addr) (c:Nat) (K:Nat->Prop):Prop where
 lev:P wr K t V
 ok:LvOk V N
 top:∀g,K g->w0.heap.size<=g/\g<wr.heap.size
 own:wr.ownsRow w0.heap.size 41 4 (.slice q N.length c) N.length (rcs N)
 far:∀j,(Value.slice q N.length c).ownBlock=some j->¬K j
 below:Below w0.heap.size w0 wr
section
variable {P:World->(Nat->Prop)->Nat->Lv->Prop}
theorem SureI.grow (D:LevC P) {w0 wr w':World} {t:Nat} {V:Lv} {N:List Rt} {q:Option Addr} {c:Nat} {K:Nat->Prop} (h:SureI P w0 wr t V N q c K) (hb:Below wr.heap.size wr w'):SureI P w0 w' t V N q c K:=
 ⟨D.below h.lev hb,h.ok,fun g hg=>⟨(h.top g hg).1,Nat.lt_of_lt_of_le (h.top g hg).2 hb.size⟩,own_below h.own hb,h.far,h.below.trans (hb.mono h.below.size)⟩
theorem LvOk.good {V:Lv} {N:List Rt} (H:LvOk V N):∀r∈N,r.k.good:=fun r hr=>H.kept.inv.good r (H.kept.all.mem_iff.2 hr)
end
theorem look_some (ah al:Nat):∀(M:List Lv),(lookL ah al M).1.isSome=true->0<(lookL ah al M).2.length
 | [],h=>by cases h
 | V::M,h=>by
  have e:lookL ah al (V::M)=if V.may ah al then (match V.hit ah al with
   | some v=>(some v,[V.n])
   | none=>((lookL ah al M).1,V.n::(lookL ah al M).2)) else lookL ah al M:=rfl
  rw [e] at h ⊢
  by_cases hm:V.may ah al=true
  ·rw [if_pos hm]
   cases V.hit ah al with
   | some v=>exact Nat.zero_lt_one
   | none=>exact Nat.succ_pos _
  ·rw [if_neg hm] at h ⊢
   exact look_some ah al M h
def c22:Cf:=⟨8,2,2,4,2,64,8,2,9,4⟩
def r22:Rt:=⟨⟨0,0,5⟩,3⟩
def e22:Eg:=newE c22 1 [6,8] []
theorem okE22:okE c22 [6,8]=true:=by decide
theorem e22_ok:e22.ok:=newE_ok (by decide) (by decide)
theorem r22_good:r22.k.good:=⟨W64.mk (by decide),W64.mk (by decide)⟩
theorem z64:W64 0:=W64.mk (by decide)
theorem e22_first:e22.hop 0 0 = -1:=by
 rw [e22_ok.longest z64 z64]
 have:bestM (depV e22.R (e22.cutA 0 0).h (e22.cutA 0 0).l) (-1) e22.wd 129=none:=best_none.2 fun m _ h=>by
  have h2:=h.2.2
  have e:depV e22.R (e22.cutA 0 0).h (e22.cutA 0 0).l m=none:=rfl
  rw [e] at h2
  cases h2
 rw [this]
 rfl
theorem e22_R:(e22.put r22).R=[r22]:=by
 rw [put_R]
 rfl
theorem e22_second:(e22.put r22).hop 0 0=3:=by
 rw [(e22_ok.put r22 r22_good).longest z64 z64,e22_R]
 have h1:(e22.put r22).wd=8:=put_wd _ _
 have h2:(e22.put r22).cutA 0 0=cutK 0 0 8:=by unfold Eg.cutA;rw [h1];rfl
 rw [h1,h2]
 rfl
theorem e22_probes:1<=((e22.put r22).probes 0 0).length:=by
 have hok:=e22_ok.put r22 r22_good
 have h1:(e22.put r22).wd=8:=put_wd _ _
 have h2:(e22.put r22).cutA 0 0=cutK 0 0 8:=by unfold Eg.cutA;rw [h1];rfl
 have h3:(e22.put r22).di=2:=put_di _ _
 have h:=look_best hok.rts (ah:=(cutK 0 0 8).h) (al:=(cutK 0 0 8).l) (W64.cut _ z64) (W64.cut _ z64) _ _ hok.lev
 rw [hok.top,e22_R,h1,h3] at h
 unfold Eg.probes
 rw [h2]
 refine look_some _ _ _ ?_
 rw [h]
 rfl
section
variable {P:World->(Nat->Prop)->Nat->Eg->Prop}
set_option maxHeartbeats 4000000 in
set_option maxRecDepth 100000 in
theorem alive22_any (D:EngC P) (w:World):Calls Tryz.prog 6 #[] w fun e w'=>e = .returned (.bool true)/\Below w.heap.size w w':=by
 have h1:Hid (∀W p,IRow W p [6,8]->Calls Tryz.prog 8 #[.agg #[.int .i64 8,.int .i64 2,.int .i64 2,.int .i64 4,.int .i64 2,.int .i64 64,.int .i64 8,.int .i64 2,.int .i64 9,.int .i64 4],.int .u64 1,.slice p 2 2,.slice none 0 0] W fun e w'=>
  ∃t,e = .returned (.tuple #[.pointer (some ⟨t,0,none⟩),.int .i64 0])/\P w' (In W.heap.size w'.heap.size) t e22/\Below W.heap.size W w'):=
  Lib.hid fun W p h=>D.new c22 1 [6,8] [] p none 2 0 W (W64.mk (by decide)) h (.inl rfl) (by decide) (by decide) (by decide) (by decide) okE22
 have h2:Hid (∀W K t,P W K t e22->Calls Tryz.prog 15 #[.pointer (some ⟨t,0,none⟩),.agg #[.int .u64 0,.int .u64 0]] W fun e w'=>∃p n c,e = .returned (.tuple #[.int .i64 (-1),.slice p n c])/\Below W.heap.size W w'):=
  Lib.hid fun W K t h=>by
   have:=D.look W K t e22 0 0 h e22_ok (by decide) z64 z64
   rw [e22_first] at this
   exact this.mono fun e w' ⟨p,c,h1,_,h3⟩=>⟨p,_,c,h1,h3⟩
 have h3:Hid (∀W K t,P W K t e22->Calls Tryz.prog 12 #[.pointer (some ⟨t,0,none⟩),.agg #[.int .u64 0,.int .u64 0,.int .i64 5,.int .i64 3]] W fun e w'=>e = .returned (.tuple #[])/\∃K',P w' K' t (e22.put r22)/\Touch K W w'/\∀g,K' g->K g\/In W.heap.size w'.heap.size g):=
  Lib.hid fun W K t h=>D.put W K t e22 r22 h e22_ok r22_good (by decide)
 have h4:Hid (∀W K t,P W K t (e22.put r22)->Calls Tryz.prog 15 #[.pointer (some ⟨t,0,none⟩),.agg #[.int .u64 0,.int .u64 0]] W fun e w'=>∃p n c,e = .returned (.tuple #[.int .i64 3,.slice p n c])/\1<=n/\Below W.heap.size W w'):=
  Lib.hid fun W K t h=>by
   have:=D.look W K t (e22.put r22) 0 0 h (e22_ok.put r22 r22_good) (by rw [e22_R];decide) z64 z64
   rw [e22_second] at this
   exact this.mono fun e w' ⟨p,c,h1,_,h3⟩=>⟨p,_,c,h1,e22_probes,h3⟩
 have h5:Hid (∀W,Calls Tryz.prog 22 #[.agg #[.int .i64 8,.int .i64 2,.int .i64 2,.int .i64 4,.int .i64 2,.int .i64 64,.int .i64 8,.int .i64 2,.int .i64 9,.int .i64 4]] W fun e w'=>e = .returned (.bool true)/\Below W.heap.size W w'):=
  Lib.hid fun W=>by
   have:=D.right c22 W
   rw [show okCf c22=true by decide] at this
   exact this
 have HD:=Lib.hid D
 go_enter Tryz.func6,Tryz.ntmps6
 go_wp2_with fail
 generalize hwA:World.alloc (World.alloc w _) _=wA
 have hA:Below w.heap.size w wA:=by rw [<-hwA];go_grown
 have hz:w.heap.size<wA.heap.size:=by rw [<-hwA];simp;omega
 have hrow:IRow wA (some ⟨w.heap.size+1,0,none⟩) [6,8]:=by
  rw [<-hwA]
  refine .inr ⟨w.heap.size+1,0,by simp,by simp,fun j u hu => ?_⟩
  match j,hu with
  | 0,hu=>simp [ics] at hu;subst hu;simp [go_sem]
  | 1,hu=>simp [ics] at hu;subst hu;simp [go_sem]
 have hcell:Hid (∀wx,Below wA.heap.size wA wx->(wx.cell? ⟨w.heap.size,0,none⟩=some (.int .i64 8)/\wx.cell? ⟨w.heap.size,1,none⟩=some (.int .i64 2)/\wx.cell? ⟨w.heap.size,2,none⟩=some (.int .i64 2)/\wx.cell? ⟨w.heap.size,3,none⟩=some (.int .i64 4)/\wx.cell? ⟨w.heap.size,4,none⟩=some (.int .i64 2)) /\
  (wx.cell? ⟨w.heap.size,5,none⟩=some (.int .i64 64)/\wx.cell? ⟨w.heap.size,6,none⟩=some (.int .i64 8)/\wx.cell? ⟨w.heap.size,7,none⟩=some (.int .i64 2)/\wx.cell? ⟨w.heap.size,8,none⟩=some (.int .i64 9)/\wx.cell? ⟨w.heap.size,9,none⟩=some (.int .i64 4))/\w.heap.size<wx.heap.size):=by
  refine Lib.hid fun wx h=>⟨⟨(h.cell (p:=⟨w.heap.size,0,none⟩) hz).trans ?_,(h.cell (p:=⟨w.heap.size,1,none⟩) hz).trans ?_,(h.cell (p:=⟨w.heap.size,2,none⟩) hz).trans ?_,(h.cell (p:=⟨w.heap.size,3,none⟩) hz).trans ?_,(h.cell (p:=⟨w.heap.size,4,none⟩) hz).trans ?_⟩,⟨(h.cell (p:=⟨w.heap.size,5,none⟩) hz).trans ?_,(h.cell (p:=⟨w.heap.size,6,none⟩) hz).trans ?_,(h.cell (p:=⟨w.heap.size,7,none⟩) hz).trans ?_,(h.cell (p:=⟨w.heap.size,8,none⟩) hz).trans ?_,(h.cell (p:=⟨w.heap.size,9,none⟩) hz).trans ?_⟩,Nat.lt_of_lt_of_le hz h.size⟩<;>rw [<-hwA]<;>simp [go_sem]
 have hrw:=Lib.hid hrow
 clear hwA hrow
 refine (h1.out _ _ hrw.out).mono ?_
 rintro e w1 ⟨t,rfl,hP,hb1⟩
 have HP:=Lib.hid hP
 clear hP h1 hrw
 go_wp2_with fail
 refine (num22_any 0 _).mono ?_
 rintro e w2 ⟨rfl,hb2⟩
 have HP2:=Lib.hid (HD.out.below HP.out hb2)
 have hw2:=hb1.trans (hb2.mono hb1.size)
 have hz1:=hb1.size
 have hz2:=hb2.size
 clear HP hb2 hb1
 go_wp2_with fail
 refine (h2.out _ _ _ HP2.out).mono ?_
 rintro e w3 ⟨p3,n3,c3,rfl,hb3⟩
 have HP3:=Lib.hid (HD.out.below HP2.out hb3)
 have hw3:=hw2.trans (hb3.mono hw2.size)
 have hz3:=hb3.size
 clear HP2 hb3 hw2
 go_wp2_with fail
 refine (h3.out _ _ _ HP3.out).mono ?_
 rintro e w4 ⟨rfl,K',hP4,hT4,-⟩
 have HP4:=Lib.hid hP4
 have hw4:Below wA.heap.size wA w4:=hw3.trans (hT4.below (by omega) (fun j hj=>hj.1))
 clear HP3 hP4 hT4 hw3
 go_wp2_with fail
 refine (h4.out _ _ _ HP4.out).mono ?_
 rintro e w5 ⟨p5,n5,c5,rfl,hn5,hb5⟩
 have hw5:=hw4.trans (hb5.mono hw4.size)
 obtain ⟨⟨k0,k1,k2,k3,k4⟩,⟨k5,k6,k7,k8,k9⟩,kl⟩:=hcell.out w5 hw5
 have n1:(1:Int)<=(n5:Int):=by omega
 clear HP4 hb5 hw4
 go_wp2_with fail
 refine (h5.out _).mono ?_
 rintro e w6 ⟨rfl,hb6⟩
 have hw6:=hA.trans ((hw5.trans (hb6.mono hw5.size)).mono hA.size)
 clear k0 k1 k2 k3 k4 k5 k6 k7 k8 k9 hb6
 go_wp2
 go_ret
 exact ⟨rfl,hw6⟩
end
structure EngI (P:World->(Nat->Prop)->Nat->Eg->Prop) (w0 wr:World) (t:Nat) (E:Eg) (q:Option Addr) (c:Nat) (K:Nat->Prop):Prop where
 lev:P wr K t E
 ok:E.ok
 top:∀g,K g->w0.heap.size<=g/\g<wr.heap.size
 own:wr.ownsRow w0.heap.size 41 4 (.slice q E.R.length c) E.R.length (rcs E.R)
 far:∀j,(Value.slice q E.R.length c).ownBlock=some j->¬K j
 below:Below w0.heap.size w0 wr
section
variable {P:World->(Nat->Prop)->Nat->Eg->Prop}
theorem EngI.grow (D:EngC P) {w0 wr w':World} {t:Nat} {E:Eg} {q:Option Addr} {c:Nat} {K:Nat->Prop} (h:EngI P w0 wr t E q c K) (hb:Below wr.heap.size wr w'):EngI P w0 w' t E q c K:=
 ⟨D.below h.lev hb,h.ok,fun g hg=>⟨(h.top g hg).1,Nat.lt_of_lt_of_le (h.top g hg).2 hb.size⟩,own_below h.own hb,h.far,h.below.trans (hb.mono h.below.size)⟩
theorem into_len22 {N:List Rt} (h:Sorted N) (r:Rt):(intoS N r).length<=N.length+1:=by
 have h1:=(intoS_perm r h).length_eq
 have h2:(outS N r.k).length<=N.length:=List.length_filter_le _ _
 simp only [List.length_cons] at h1
 omega
end
end Go.Proofs.YtgfjmgebecmbiaaGreat
namespace Go.Proofs.YtgfjmgebecmbiaaGreat
open M
theorem capB_le {x l:Nat} (h0:1<=l) (h1:l<=x) (h2:l<=65536):l<=capB (x:Int)/\capB (x:Int)<=65536/\capB (x:Int)<=x:=by
 unfold capB
 omega
theorem cap_sum (f:Nat->Nat) (l:Nat) (h0:1<=l) (h2:l<=65536) (h1:∀j,l<=f j):∀n,((List.range n).map fun j=>capB (f j:Int)).sum<=sumF f n
 | 0=>Nat.le_refl _
 | n+1=>by
  have ih:=cap_sum f l h0 h2 h1 n
  have:=(capB_le h0 (h1 n) h2).2.2
  rw [List.range_succ,List.map_append,List.sum_append]
  show _+([capB (f n:Int)]).sum<=sumF f n+f n
  simp only [List.sum_cons,List.sum_nil]
  omega
theorem bits_ok {c:Cf} {levels C:List Int} (h:okCf c=true) (hr:rightI c.wd c.di c.lv c.st levels=true):(∀b∈bitsE c levels C,c.le<=(b:Int)/\b<=65536)/\((bitsE c levels C).sum:Int)<=c.bt:=by
 unfold okCf at h
 obtain ⟨-,-,⟨v1,v2⟩,-,-,⟨l1,l2⟩,⟨t1,t2⟩,-⟩:=of_decide_eq_true h
 unfold rightI at hr
 simp only [Bool.and_eq_true,decide_eq_true_eq] at hr
 have hn:(levels.length:Int)<=c.lv:=hr.1.2
 obtain ⟨l,hl⟩:=Int.eq_ofNat_of_zero_le (show 0<=c.le by omega)
 have hle:c.le*(levels.length:Int)<=c.bt:=by
  refine Int.le_trans (Int.mul_le_mul_of_nonneg_left (show (levels.length:Int)<=max c.lv 1 by omega) (by omega)) t1
 unfold bitsE shL
 rw [List.map_map,List.length_map,weightE_len]
 rw [hl] at hle l1 l2 ⊢
 obtain ⟨n,hnn⟩:∃n,n=levels.length:=⟨_,rfl⟩
 rw [<-hnn] at hle ⊢
 obtain ⟨left,hleft⟩:=Int.eq_ofNat_of_zero_le (show 0<=c.bt-(l:Int)*(n:Int) by omega)
 rw [hleft,Int.toNat_natCast,Int.toNat_natCast]
 generalize wtF _=w
 have e:(capB ∘ shF w l left n)=fun j=>capB ((share w l left n j:Nat):Int):=rfl
 rw [e]
 have hl1:1<=l:=by omega
 have hl2:l<=65536:=by omega
 refine ⟨fun b hb => ?_,?_⟩
 ·obtain ⟨j,-,rfl⟩:=List.mem_map.1 hb
  have:=capB_le hl1 (share_least w l left n j) hl2
  omega
 ·by_cases h0:0<n
  ·have h1:=cap_sum (share w l left n) l hl1 hl2 (share_least w l left n) n
   rw [share_sum w l left n h0] at h1
   have h3:((n*l:Nat):Int)=(l:Int)*(n:Int):=by rw [Int.natCast_mul,Int.mul_comm]
   omega
  ·obtain rfl:n=0:=by omega
   show ((0:Nat):Int)<=c.bt
   simp only [Int.natCast_zero,Int.mul_zero] at hleft
   omega
end Go.Proofs.YtgfjmgebecmbiaaGreat
namespace Go.Proofs.YtgfjmgebecmbiaaGreat
open Go Go.RowKit Go.Sort M
theorem sortR_len:∀(l:List Rt),(sortR l).length<=l.length:=by
 intro l
 suffices H:∀(n:Nat) (l:List Rt),l.length=n->(sortR l).length<=l.length from H l.length l rfl
 intro n
 induction n with
 | zero=>
  intro l hl
  obtain rfl:=List.eq_nil_of_length_eq_zero hl
  simp [sortR]
 | succ n ih=>
  intro l hl
  obtain ⟨l,r,rfl⟩:∃l' r,l=l'++[r]:=⟨l.dropLast,l.getLast (by intro e;simp [e] at hl),(List.dropLast_concat_getLast _).symm⟩
  have:=ih l (by simpa using hl)
  rw [sortR_snoc]
  have h1:=(intoS_perm r (sortR_mem l).1).length_eq
  have h2:(outS (sortR l) r.k).length<=(sortR l).length:=List.length_filter_le _ _
  simp only [List.length_cons] at h1
  simp
  omega
def kyA (k:Ky):Value := .agg #[.int .u64 (k.h:Int),.int .u64 (k.l:Int),.int .i64 k.n]
theorem sortR_sub {l:List Rt} {q:Rt} (h:q∈sortR l):q∈l:=by
 have h:=((sortR_mem l).2 q).1 h
 unfold lst at h
 exact (List.mem_filter.1 (List.mem_of_getLast? h)).1
end Go.Proofs.YtgfjmgebecmbiaaGreat
