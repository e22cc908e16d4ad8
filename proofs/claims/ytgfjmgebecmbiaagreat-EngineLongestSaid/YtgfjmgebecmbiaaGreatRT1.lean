import Derived.Test.YtgfjmgebecmbiaaGreatW12a
set_option linter.unusedSimpArgs false
set_option linter.unusedVariables false
set_option maxHeartbeats 1000000
namespace Go.Proofs.YtgfjmgebecmbiaaGreat
open Lib(hid)
open Go.RowKit Go.Sort M
set_option maxRecDepth 100000 in
theorem Zhw (F:Nat) (p q:Value) (n b:Nat) (hb:b<=n) (hn:n<4611686018427387904) (w:World) (eg:∀args w,(callFunc F args).run Tryz.prog w = .ok (.enter F args) w)
 (hf:∀wx (i:Nat),Below w.heap.size w wx->i<n->Calls Tryz.prog F #[.int .i64 (i:Int),p,q] wx fun e w'=>e = .returned (.bool (decide (b<=i)))/\Below wx.heap.size wx w') :
 Calls Tryz.prog 54 #[.int .i64 (n:Int),.func (.func F) #[] #[p,q]] w fun e w'=>e = .returned (.int .i64 (b:Int))/\Below w.heap.size w w':=by
 have HF:=hid hf
 clear hf
 go_enter Tryz.func54,Tryz.ntmps54
 go_wp2
 go_loopw [5,6] (fun s5 s6 wr=>∃(lo hi:Nat),s5 = .int .i64 (lo:Int)/\s6 = .int .i64 (hi:Int)/\lo<=b/\b<=hi/\hi<=n/\Below w.heap.size w wr) (fun s5 s6 _=>(intOf s6).toNat-(intOf s5).toNat)
 case atStart=>exact ⟨0,n,rfl,rfl,Nat.zero_le _,hb,Nat.le_refl _,by go_grown⟩
 case round=>
  obtain ⟨lo,hi,rfl,rfl,h1,h2,h3,hw⟩:=hrel
  by_cases hlt:lo<hi
  ·have hc:=HF.out wr ((lo+hi)/2) hw (by omega)
   rw [show (((lo+hi)/2:Nat):Int)=((lo:Int)+(hi:Int))/2 by omega] at hc
   by_cases ht:b<=(lo+hi)/2
   ·rw [decide_eq_true ht] at hc
    go_wp2_with (go_at_fn F;refine hc.mono ?_;rintro e w1 ⟨rfl,hb1⟩)
    go_roundw
    case rel=>exact ⟨lo,(lo+hi)/2,rfl,by rw [show ((lo:Int)+(hi:Int))/2=(((lo+hi)/2:Nat):Int) by omega],h1,ht,by omega,hw.trans (hb1.mono hw.size)⟩
    case measure=>simp [intOf];omega
   ·rw [decide_eq_false ht] at hc
    go_wp2_with (go_at_fn F;refine hc.mono ?_;rintro e w1 ⟨rfl,hb1⟩)
    go_roundw
    case rel=>exact ⟨(lo+hi)/2+1,hi,by rw [show ((lo:Int)+(hi:Int))/2+1=(((lo+hi)/2+1:Nat):Int) by omega],rfl,by omega,h2,h3,hw.trans (hb1.mono hw.size)⟩
    case measure=>simp [intOf];omega
  ·obtain rfl:lo=b:=by omega
   go_wp2
   go_ret
   exact ⟨rfl,hw⟩
set_option maxRecDepth 100000 in
theorem Z1b (t g:Nat) (v:Value) (T:Tab) (m:Int) (k:Ky) (b0 b1 i:Nat) (w:World) (H:CT w t g v T m) (hs:Sorted T.st) (hi:i<T.st.length) (l0:b0<w.heap.size) (l1:b1<w.heap.size)
 (k0:w.cell? ⟨b0,0,none⟩=some (.pointer (some ⟨t,0,none⟩))) (d0:w.cell? ⟨b1,0,none⟩=some (.int .u64 (k.h:Int))) (d1:w.cell? ⟨b1,1,none⟩=some (.int .u64 (k.l:Int))) (d2:w.cell? ⟨b1,2,none⟩=some (.int .i64 k.n)) :
 Calls Tryz.prog 146 #[.int .i64 (i:Int),.pointer (some ⟨b0,0,none⟩),.pointer (some ⟨b1,0,none⟩)] w fun e w'=>e = .returned (.bool (decide (bh T.st k<=i)))/\Below w.heap.size w w':=by
 have hl:=H.tb.tlt
 obtain ⟨p,c,rfl⟩:=Zag H.tb.own
 have c2:=H.tb.c2
 obtain ⟨gr,o,rfl,hgr,r0,r1,r2,-⟩:=(Row.of_own H.tb.own).rt hi
 have hT:=Zrx T.st k hs i hi
 have HL:=Zfg T.st[i].k.h T.st[i].k.l T.st[i].k.n k.h k.l k.n
 change Zak _ _ _ (.bool (Zau T.st[i].k k)) at HL
 have HL:=hid HL
 have i1:(0:Int)<=(i:Int):=by omega
 have i2:(i:Int)<(T.st.length:Int):=by omega
 generalize Zau T.st[i].k k=ls at *
 generalize decide (bh T.st k<=i)=ds at *
 subst hT
 generalize T.st[i].k=q at *
 generalize T.st.length=n at *
 clear H hs
 go_enter Tryz.func146,Tryz.ntmps146
 go_wp2_with fail
 have kg:=Zaa
 refine Zab (by kernel_rfl) (by kernel_rfl) ?_
 repeat (any_goals (first|go_big_quiet_step ((exact HL.out.at _ _ _))|quiet_step ((exact HL.out.at _ _ _))))
 refine wpQuiet_nil ?_
 clear kg
 intro w1 hb1
 obtain ⟨hc1,hf1⟩:=Zaf hb1
 have hw1:Below w.heap.size w w1:=by
  refine Below.trans ?_ (hb1.mono ?_)
  ·go_grown
  ·first|omega|go_size
 go_wp2
 go_ret
 exact ⟨rfl,hw1⟩
set_option maxRecDepth 100000 in
theorem Zlu (t g:Nat) (v:Value) (T:Tab) (m:Int) (k:Ky) (w:World) (H:CT w t g v T m) (hs:Sorted T.st) (hf:T.st.length<1048576) :
 Calls Tryz.prog 119 #[.pointer (some ⟨t,0,none⟩),kyV k] w fun e w'=>e = .returned (.int .i64 (bh T.st k:Int))/\Below w.heap.size w w':=by
 have HH:=hid H
 have hl:=H.tb.tlt
 obtain ⟨p,c,rfl⟩:=Zag H.tb.own
 have c2:=H.tb.c2
 have eg:=enters_of Tryz.func146 (by kernel_rfl) rfl
 have hS:∀W,Below w.heap.size w W->W.heap.size=w.heap.size+2->W.cell? ⟨w.heap.size,0,none⟩=some (.pointer (some ⟨t,0,none⟩))->W.cell? ⟨w.heap.size+1,0,none⟩=some (.int .u64 (k.h:Int))->W.cell? ⟨w.heap.size+1,1,none⟩=some (.int .u64 (k.l:Int))->W.cell? ⟨w.heap.size+1,2,none⟩=some (.int .i64 k.n) ->
  Calls Tryz.prog 54 #[.int .i64 (T.st.length:Int),.func (.func 146) #[] #[.pointer (some ⟨w.heap.size,0,none⟩),.pointer (some ⟨w.heap.size+1,0,none⟩)]] W fun e w'=>e = .returned (.int .i64 (bh T.st k:Int))/\Below W.heap.size W w':=by
  intro W hW hz e0 e1 e2 e3
  refine Zhw _ _ _ _ _ (Zpw T.st k) (by omega) W eg fun wx i hx hi => ?_
  refine Z1b t g _ T m k w.heap.size (w.heap.size+1) i wx (HH.out.below (hW.trans (hx.mono hW.size))) hs hi (by have:=hx.size;omega) (by have:=hx.size;omega) ?_ ?_ ?_ ?_
  ·exact (hx.cell (p:=⟨w.heap.size,0,none⟩) (by show w.heap.size<_;omega)).trans e0
  ·exact (hx.cell (p:=⟨w.heap.size+1,0,none⟩) (by show w.heap.size+1<_;omega)).trans e1
  ·exact (hx.cell (p:=⟨w.heap.size+1,1,none⟩) (by show w.heap.size+1<_;omega)).trans e2
  ·exact (hx.cell (p:=⟨w.heap.size+1,2,none⟩) (by show w.heap.size+1<_;omega)).trans e3
 have HS:=hid hS
 generalize bh T.st k=b at *
 generalize T.st.length=n at *
 clear H hs hS
 unfold kyV
 go_enter Tryz.func119,Tryz.ntmps119
 go_wp2_with fail
 refine (HS.out _ (by go_grown) (by simp) (by simp [go_sem]) (by simp [go_sem]) (by simp [go_sem]) (by simp [go_sem])).mono ?_
 rintro e w1 ⟨rfl,hb1⟩
 have hw1:Below w.heap.size w w1:=Below.trans (by go_grown) (hb1.mono (by go_size))
 clear hb1
 go_wp2
 go_ret
 exact ⟨rfl,hw1⟩
theorem neqK (a b:Nat) (n:Int) (c d:Nat) (m:Int) (w:World):(binOp .neq 39 (.agg #[.int .u64 a,.int .u64 b,.int .i64 n]) (.agg #[.int .u64 c,.int .u64 d,.int .i64 m])).run Tryz.prog w =
 .ok (.bool (!decide (a=c/\b=d/\n=m))) w:=by
 have e1:decide (a=c/\b=d/\n=m)=(decide ((a:Int)=c)&&(decide ((b:Int)=d)&&decide (n=m))):=by
  rw [<-Bool.decide_and,<-Bool.decide_and,decide_eq_decide];omega
 rw [e1]
 by_cases h1:(a:Int)=c<;>by_cases h2:(b:Int)=d<;>by_cases h3:n=m<;>simp [go_sem,h1,h2,h3]
theorem Zyz (a b:Ky):(a.h=b.h/\a.l=b.l/\a.n=b.n)↔a=b:=by
 cases a;cases b;simp
set_option maxRecDepth 100000 in
theorem Zb1 (t g:Nat) (v:Value) (T:Tab) (m:Int) (k:Ky) (w:World) (H:CT w t g v T m) (hs:Sorted T.st) (hf:T.st.length<1048576) :
 Calls Tryz.prog 93 #[.pointer (some ⟨t,0,none⟩),kyV k] w fun e w'=>e = .returned (.int .i64 (stI T.st k))/\Below w.heap.size w w':=by
 have HH:=hid H
 have hl:=H.tb.tlt
 obtain ⟨p,c,rfl⟩:=Zag H.tb.own
 have c2:=H.tb.c2
 have HB:=hid (fun w (H:CT w t g (.slice p T.st.length c) T m)=>Zlu t g _ T m k w H hs hf)
 have hle:=Zpw T.st k
 have hfd:=Zcz T.st k hs
 by_cases hb:bh T.st k<T.st.length
 ·obtain ⟨gr,o,rfl,hgr,r0,r1,r2,-⟩:=(Row.of_own H.tb.own).rt hb
  have hN:=neqK T.st[bh T.st k].k.h T.st[bh T.st k].k.l T.st[bh T.st k].k.n k.h k.l k.n
  have hg1:((bh T.st k:Int) == (T.st.length:Int))=false:=by simp;omega
  have i1:(0:Int)<=(bh T.st k:Int):=by omega
  have i2:(bh T.st k:Int)<(T.st.length:Int):=by omega
  by_cases hk:T.st[bh T.st k].k=k
  ·have hE:stI T.st k=(bh T.st k:Int):=by
    cases e:Zaw T.st k with
    | none=>exact absurd hk (hfd.2 e hb)
    | some i=>rw [Ziz e,(hfd.1 i e).1]
   rw [decide_eq_true ((Zyz _ _).2 hk)] at hN
   rw [hE]
   clear H hs hfd hk hE hle
   generalize T.st[bh T.st k].k=q at *
   generalize bh T.st k=b at *
   generalize T.st.length=n at *
   clear hb
   unfold kyV at *
   go_enter Tryz.func93,Tryz.ntmps93
   go_wp2_with fail
   refine (HB.out _ (HH.out.below (by go_grown))).mono ?_
   rintro e w1 ⟨rfl,hb1⟩
   have hw1:Below w.heap.size w w1:=Below.trans (by go_grown) (hb1.mono (by go_size))
   have d0:w1.cell? ⟨w.heap.size,0,none⟩=some (.int .u64 (k.h:Int)):=by
    rw [hb1.cell (by simp<;>omega)]
    first|assumption|(simp [go_sem];done)|(simp [go_sem, *];done)
   have d1:w1.cell? ⟨w.heap.size,1,none⟩=some (.int .u64 (k.l:Int)):=by
    rw [hb1.cell (by simp<;>omega)]
    first|assumption|(simp [go_sem];done)|(simp [go_sem, *];done)
   have d2:w1.cell? ⟨w.heap.size,2,none⟩=some (.int .i64 k.n):=by
    rw [hb1.cell (by simp<;>omega)]
    first|assumption|(simp [go_sem];done)|(simp [go_sem, *];done)
   have hz1:w.heap.size<w1.heap.size:=by
    have hs:=hb1.size
    try simp only [World.size_alloc,World.size_setCell] at hs
    omega
   have c2:=(hw1.cell (p:=⟨t,2,none⟩) hl).trans c2
   have r0:=(hw1.cell (p:=⟨gr,o+b*4,none⟩) hgr).trans r0
   have r1:=(hw1.cell (p:=⟨gr,o+b*4+1,none⟩) hgr).trans r1
   have r2:=(hw1.cell (p:=⟨gr,o+b*4+2,none⟩) hgr).trans r2
   have hl1:=Nat.lt_of_lt_of_le hl hw1.size
   have hgr1:=Nat.lt_of_lt_of_le hgr hw1.size
   clear hb1
   go_wp2_with fail
   have kg:=Zaa
   refine Zab (by kernel_rfl) (by kernel_rfl) ?_
   repeat (any_goals (first|go_big_quiet_step (fail)|quiet_step (fail)))
   refine wpQuiet_nil ?_
   clear kg
   intro w2 hb2
   obtain ⟨hc2,hf2⟩:=Zaf hb2
   have hw2:Below w.heap.size w w2:=by
    refine Below.trans ?_ (hb2.mono ?_)
    ·go_grown
    ·first|omega|go_size
   go_wp2
   go_ret
   exact ⟨rfl,hw1.trans (hb2.mono hw1.size)⟩
  ·have hE:stI T.st k = -1:=by
    cases e:Zaw T.st k with
    | none=>rw [Zgr e]
    | some i=>
     obtain ⟨e1,h1,h2⟩:=hfd.1 i e
     subst e1
     exact absurd h2 hk
   rw [decide_eq_false (fun h=>hk ((Zyz _ _).1 h))] at hN
   rw [hE]
   clear H hs hfd hk hE hle
   generalize T.st[bh T.st k].k=q at *
   generalize bh T.st k=b at *
   generalize T.st.length=n at *
   clear hb
   unfold kyV at *
   go_enter Tryz.func93,Tryz.ntmps93
   go_wp2_with fail
   refine (HB.out _ (HH.out.below (by go_grown))).mono ?_
   rintro e w1 ⟨rfl,hb1⟩
   have hw1:Below w.heap.size w w1:=Below.trans (by go_grown) (hb1.mono (by go_size))
   have d0:w1.cell? ⟨w.heap.size,0,none⟩=some (.int .u64 (k.h:Int)):=by
    rw [hb1.cell (by simp<;>omega)]
    first|assumption|(simp [go_sem];done)|(simp [go_sem, *];done)
   have d1:w1.cell? ⟨w.heap.size,1,none⟩=some (.int .u64 (k.l:Int)):=by
    rw [hb1.cell (by simp<;>omega)]
    first|assumption|(simp [go_sem];done)|(simp [go_sem, *];done)
   have d2:w1.cell? ⟨w.heap.size,2,none⟩=some (.int .i64 k.n):=by
    rw [hb1.cell (by simp<;>omega)]
    first|assumption|(simp [go_sem];done)|(simp [go_sem, *];done)
   have hz1:w.heap.size<w1.heap.size:=by
    have hs:=hb1.size
    try simp only [World.size_alloc,World.size_setCell] at hs
    omega
   have c2:=(hw1.cell (p:=⟨t,2,none⟩) hl).trans c2
   have r0:=(hw1.cell (p:=⟨gr,o+b*4,none⟩) hgr).trans r0
   have r1:=(hw1.cell (p:=⟨gr,o+b*4+1,none⟩) hgr).trans r1
   have r2:=(hw1.cell (p:=⟨gr,o+b*4+2,none⟩) hgr).trans r2
   have hl1:=Nat.lt_of_lt_of_le hl hw1.size
   have hgr1:=Nat.lt_of_lt_of_le hgr hw1.size
   clear hb1
   go_wp2_with fail
   have kg:=Zaa
   refine Zab (by kernel_rfl) (by kernel_rfl) ?_
   repeat (any_goals (first|go_big_quiet_step (fail)|quiet_step (fail)))
   refine wpQuiet_nil ?_
   clear kg
   intro w2 hb2
   obtain ⟨hc2,hf2⟩:=Zaf hb2
   have hw2:Below w.heap.size w w2:=by
    refine Below.trans ?_ (hb2.mono ?_)
    ·go_grown
    ·first|omega|go_size
   go_wp2
   go_ret
   exact ⟨rfl,hw1.trans (hb2.mono hw1.size)⟩
 ·have hbe:bh T.st k=T.st.length:=by omega
  have hE:stI T.st k = -1:=by
   cases e:Zaw T.st k with
   | none=>rw [Zgr e]
   | some i=>
    obtain ⟨e1,h1,h2⟩:=hfd.1 i e
    omega
  rw [hE]
  rw [hbe] at HB
  clear H hs hfd hE hb hle hbe
  generalize T.st.length=n at *
  have hg1:((n:Int) == (n:Int))=true:=by simp
  unfold kyV at *
  go_enter Tryz.func93,Tryz.ntmps93
  go_wp2_with fail
  refine (HB.out _ (HH.out.below (by go_grown))).mono ?_
  rintro e w1 ⟨rfl,hb1⟩
  have hw1:Below w.heap.size w w1:=Below.trans (by go_grown) (hb1.mono (by go_size))
  have c2:=(hw1.cell (p:=⟨t,2,none⟩) hl).trans c2
  have hl1:=Nat.lt_of_lt_of_le hl hw1.size
  have hz1:=hw1.size
  clear hb1
  go_wp2_with fail
  have kg:=Zaa
  refine Zab (by kernel_rfl) (by kernel_rfl) ?_
  repeat (any_goals (first|go_big_quiet_step (fail)|quiet_step (fail)))
  refine wpQuiet_nil ?_
  clear kg
  intro w2 hb2
  obtain ⟨hc2,hf2⟩:=Zaf hb2
  have hw2:Below w.heap.size w w2:=by
   refine Below.trans ?_ (hb2.mono ?_)
   ·go_grown
   ·first|omega|go_size
  go_wp2
  go_ret
  exact ⟨rfl,hw1.trans (hb2.mono hw1.size)⟩
theorem Z1s (hi lo:Nat) (i:Int) (ha:W64 hi) (hb:W64 lo) :
 Zak Tryz.prog 64 #[.agg #[.int .u64 hi,.int .u64 lo],.int .i64 i] (.int .i64 (bitI hi lo i)):=by
 intro w
 by_cases h:0<=i/\i<128
 ·obtain ⟨h0,h1⟩:=h
  by_cases h2:i<64
  ·go_enter Tryz.func64,Tryz.ntmps64
   go_wp2
   go_ret
   refine ⟨?_,by go_grown⟩
   show Ending.returned (.int .i64 (wrap64 (bits BinOp.and IntKind.u64 _ 1)))=_
   obtain ⟨k,rfl⟩:=Int.eq_ofNat_of_zero_le h0
   rw [show (63-(k:Int)).toNat=63-k by omega,Zim hi _ ha,Z61 hi lo k (by omega)]
  ·go_enter Tryz.func64,Tryz.ntmps64
   go_wp2
   go_ret
   refine ⟨?_,by go_grown⟩
   show Ending.returned (.int .i64 (wrap64 (bits BinOp.and IntKind.u64 _ 1)))=_
   obtain ⟨k,rfl⟩:=Int.eq_ofNat_of_zero_le h0
   rw [show (127-(k:Int)).toNat=127-k by omega,Zim lo _ hb,Z60 hi lo k (by omega) (by omega)]
 ·have hz:=Z34 hi lo i (by omega)
  have HZ:=hid hz
  clear hz
  go_enter Tryz.func64,Tryz.ntmps64
  go_wp2
  all_goals
   go_ret
   exact ⟨by rw [HZ.out];rfl,by go_grown⟩
theorem Z5e (k:Nat) (h:k<64):IntKind.u64.wrap (2^k)=((2^k:Nat):Int):=by
 have h1:2^k<2^64:=Nat.pow_lt_pow_right (by decide) h
 have e:(2^k:Int)=((2^k:Nat):Int):=by simp
 rw [e,IntKind.wrap_u64]
 generalize 2^k=x at *
 omega
theorem Z4o (x k:Nat) (hx:W64 x) (h:k<64):bits BinOp.or IntKind.u64 (x:Int) (IntKind.u64.wrap (2^k))=((x ||| 2^k:Nat):Int):=by
 rw [Z5e k h,bits_or_u64_nat _ _ hx.lt (Nat.pow_lt_pow_right (by decide) h:2^k<2^64)]
theorem Z6z (n lo hi:Int) (w:World) :
 Calls Tryz.prog 63 #[.int .i64 n,.int .i64 lo,.int .i64 hi] w fun e w'=>e = .returned (.int .i64 (if n<lo then lo else if hi<n then hi else n))/\w=w':=by
 by_cases h1:n<lo
 ·go_enter Tryz.func63,Tryz.ntmps63
  go_wp2
  go_ret
  exact ⟨Zbb (by simp [h1]),rfl⟩
 ·by_cases h2:hi<n
  ·go_enter Tryz.func63,Tryz.ntmps63
   go_wp2
   go_ret
   exact ⟨Zbb (by simp [h1,h2]),rfl⟩
  ·go_enter Tryz.func63,Tryz.ntmps63
   go_wp2
   go_ret
   exact ⟨Zbb (by simp [h1,h2]),rfl⟩
def onHi (hi k:Nat):Nat:=if k<64 then hi ||| 2^(63-k) else hi
def onLo (lo k:Nat):Nat:=if k<64 then lo else lo ||| 2^(127-k)
theorem Zr7 (hi lo:Nat) (k:Nat) (ha:W64 hi) (hb:W64 lo) (h1:k<128) :
 Zak Tryz.prog 65 #[.agg #[.int .u64 hi,.int .u64 lo],.int .i64 k] (.agg #[.int .u64 (onHi hi k),.int .u64 (onLo lo k)]):=by
 intro w
 obtain ⟨i,hi'⟩:∃i:Int,i=k:=⟨_,rfl⟩
 have HI:=hid hi'
 rw [<-hi']
 have h0:0<=i:=by omega
 have h1':i<128:=by omega
 clear hi' h1
 by_cases h2:i<64
 ·go_enter Tryz.func65,Tryz.ntmps65
  go_wp2
  refine bodyPost_ret (by simp [results,Tryz.results65,go_sem];try rfl) rfl ?_
  have hk:=HI.out
  have e:(63-i).toNat=63-k:=by omega
  have hk2:k<64:=by omega
  exact ⟨by rw [e,Z4o hi _ ha (by omega)];simp [onHi,onLo,hk2],by go_grown⟩
 ·go_enter Tryz.func65,Tryz.ntmps65
  go_wp2
  refine bodyPost_ret (by simp [results,Tryz.results65,go_sem];try rfl) rfl ?_
  have hk:=HI.out
  have e:(127-i).toNat=127-k:=by omega
  have hk2:¬k<64:=by omega
  exact ⟨by rw [e,Z4o lo _ hb (by omega)];simp [onHi,onLo,hk2],by go_grown⟩
theorem Z74 (hi lo k:Nat) (hb:W64 lo) (h:k<128) (hbit:bitN hi lo k=true):onHi (cutW hi k) k=cutW hi (k+1)/\onLo (cutW lo (k-64)) k=cutW lo (k+1-64):=by
 unfold bitN at hbit
 unfold onHi onLo
 by_cases h1:k<64
 ·rw [if_pos h1] at hbit
  rw [if_pos h1,if_pos h1,Zhf hi k h1,if_pos hbit,show k-64=0 by omega,show k+1-64=0 by omega]
  exact ⟨rfl,rfl⟩
 ·rw [if_neg h1,if_pos h] at hbit
  rw [if_neg h1,if_neg h1,Ze4 hi k (by omega),Ze4 hi (k+1) (by omega),show k+1-64=(k-64)+1 by omega,Zhf lo (k-64) (by omega),show 63-(k-64)=127-k by omega,if_pos hbit]
  exact ⟨rfl,rfl⟩
theorem Z5s (hi lo k:Nat) (h:k<128) (hbit:bitN hi lo k=false):cutW hi k=cutW hi (k+1)/\cutW lo (k-64)=cutW lo (k+1-64):=by
 unfold bitN at hbit
 by_cases h1:k<64
 ·rw [if_pos h1] at hbit
  rw [Zhf hi k h1,hbit,show k-64=0 by omega,show k+1-64=0 by omega]
  exact ⟨rfl,rfl⟩
 ·rw [if_neg h1,if_pos h] at hbit
  rw [Ze4 hi k (by omega),Ze4 hi (k+1) (by omega),show k+1-64=(k-64)+1 by omega,Zhf lo (k-64) (by omega),show 63-(k-64)=127-k by omega,hbit]
  exact ⟨rfl,rfl⟩
theorem Ztr (x n:Nat) (h:W64 x):W64 (cutW x n):=Nat.lt_of_le_of_lt (Zz9 x n) h
theorem Ztt (x n:Nat):cutW x (min n 128)=cutW x n/\cutW x (min n 128-64)=cutW x (n-64):=by
 unfold cutW
 rw [show 64-min n 128=64-n by omega,show 64-(min n 128-64)=64-(n-64) by omega]
 exact ⟨rfl,rfl⟩
theorem Zig (hi lo:Nat) (n:Int) (ha:W64 hi) (hb:W64 lo) :
 Zak Tryz.prog 35 #[.agg #[.int .u64 hi,.int .u64 lo],.int .i64 n] (.agg #[.int .u64 (cutW hi n.toNat),.int .u64 (cutW lo (n.toNat-64))]):=by
 intro w
 obtain ⟨m,hm⟩:∃m:Nat,m=min n.toNat 128:=⟨_,rfl⟩
 have hc:∀w,Calls Tryz.prog 63 #[.int .i64 n,.int .i64 0,.int .i64 128] w fun e w'=>e = .returned (.int .i64 m)/\w=w':=fun w=>
  (Z6z n 0 128 w).mono fun e w' ⟨he,hw⟩=>⟨by rw [he];exact Zbb (by split<;>(try split)<;>omega),hw⟩
 have HC:=hid hc
 have HM:=hid hm
 have hm2:m<=128:=by omega
 clear hc hm
 have e1:=Ze3 hi ha
 have e2:=Ze3 lo hb
 have E1:=hid e1
 have E2:=hid e2
 clear e1 e2
 go_enter Tryz.func35,Tryz.ntmps35
 go_wp2_with (go_at_call 63;refine (HC.out _).mono ?_;rintro e w' ⟨rfl,rfl⟩)
 go_loopw [6] (fun i wr=>∃k:Nat,k<=m/\i = .int .i64 k/\Below w.heap.size w wr/\w.heap.size+3<=wr.heap.size/\wr.cell? ⟨w.heap.size,0,none⟩=some (.int .u64 hi)/\wr.cell? ⟨w.heap.size,1,none⟩=some (.int .u64 lo) /\
  wr.cell? ⟨w.heap.size+1,0,none⟩=some (.int .u64 0)/\wr.cell? ⟨w.heap.size+1,1,none⟩=some (.int .u64 0) /\
  wr.cell? ⟨w.heap.size+2,0,none⟩=some (.int .u64 (cutW hi k))/\wr.cell? ⟨w.heap.size+2,1,none⟩=some (.int .u64 (cutW lo (k-64))) /\
  wr.frozen? ⟨w.heap.size+1,0,none⟩=false/\wr.frozen? ⟨w.heap.size+1,1,none⟩=false/\wr.frozen? ⟨w.heap.size+2,0,none⟩=false/\wr.frozen? ⟨w.heap.size+2,1,none⟩=false)
  (fun i _=>m-(intOf i).toNat)
 case atStart=>
  refine ⟨0,Nat.zero_le _,rfl,by go_grown,by go_size,?_⟩
  simp [go_sem,E1.out,E2.out]
 case round=>
  obtain ⟨k,hk,rfl,hw0,hz,c0,c1,c2,c3,c4,c5,f0,f1,f2,f3⟩:=hrel
  by_cases hlt:k<m
  ·have hB:Zak Tryz.prog 64 #[.agg #[.int .u64 hi,.int .u64 lo],.int .i64 (k:Int)] (.int .i64 (bitI hi lo k)):=Z1s hi lo k ha hb
   have hW:Zak Tryz.prog 65 #[.agg #[.int .u64 (cutW hi k),.int .u64 (cutW lo (k-64))],.int .i64 (k:Int)] (.agg #[.int .u64 (onHi (cutW hi k) k),.int .u64 (onLo (cutW lo (k-64)) k)]):=
    Zr7 _ _ k (Ztr _ _ ha) (Ztr _ _ hb) (by omega)
   rw [Z35] at hB
   cases hbit:bitN hi lo k
   ·obtain ⟨g1,g2⟩:=Z5s hi lo k (by omega) hbit
    rw [hbit] at hB
    have HB:=hid hB
    have G1:=hid g1
    have G2:=hid g2
    clear hB hW hbit g1 g2
    go_wp2_with fail
    refine (HB.out _).mono ?_
    rintro e w1 ⟨rfl,hb1⟩
    obtain ⟨hc1,hf1⟩:=Zaf hb1
    have c0:=(hc1 _ _ (by omega)).trans c0
    have c1:=(hc1 _ _ (by omega)).trans c1
    have c2:=(hc1 _ _ (by omega)).trans c2
    have c3:=(hc1 _ _ (by omega)).trans c3
    have c4:=(hc1 _ _ (by omega)).trans c4
    have c5:=(hc1 _ _ (by omega)).trans c5
    have f0:=(hf1 _ _ (by omega)).trans f0
    have f1:=(hf1 _ _ (by omega)).trans f1
    have f2:=(hf1 _ _ (by omega)).trans f2
    have f3:=(hf1 _ _ (by omega)).trans f3
    have hw0:=Below.trans hw0 (hb1.mono (by omega))
    have hz:=Nat.lt_of_lt_of_le hz hb1.size
    clear hc1 hf1 hb1
    go_wp2
    go_roundw
    case rel=>
     refine ⟨k+1,by omega,by go_num,hw0,hz,c0,c1,c2,c3,?_,?_,f0,f1,f2,f3⟩
     ·rw [<-G1.out];exact c4
     ·rw [<-G2.out];exact c5
    case measure=>simp [intOf];omega
   ·obtain ⟨g1,g2⟩:=Z74 hi lo k hb (by omega) hbit
    rw [hbit] at hB
    rw [g1,g2] at hW
    have HB:=hid hB
    have HW:=hid hW
    clear hB hW hbit g1 g2
    go_wp2_with fail
    refine (HB.out _).mono ?_
    rintro e w1 ⟨rfl,hb1⟩
    obtain ⟨hc1,hf1⟩:=Zaf hb1
    have c0:=(hc1 _ _ (by omega)).trans c0
    have c1:=(hc1 _ _ (by omega)).trans c1
    have c2:=(hc1 _ _ (by omega)).trans c2
    have c3:=(hc1 _ _ (by omega)).trans c3
    have c4:=(hc1 _ _ (by omega)).trans c4
    have c5:=(hc1 _ _ (by omega)).trans c5
    have f0:=(hf1 _ _ (by omega)).trans f0
    have f1:=(hf1 _ _ (by omega)).trans f1
    have f2:=(hf1 _ _ (by omega)).trans f2
    have f3:=(hf1 _ _ (by omega)).trans f3
    have hw0:=Below.trans hw0 (hb1.mono (by omega))
    have hz:=Nat.lt_of_lt_of_le hz hb1.size
    clear hc1 hf1 hb1
    go_wp2_with fail
    refine (HW.out _).mono ?_
    rintro e w2 ⟨rfl,hb2⟩
    obtain ⟨hc2,hf2⟩:=Zaf hb2
    have c0:=(hc2 _ _ (by omega)).trans c0
    have c1:=(hc2 _ _ (by omega)).trans c1
    have c2:=(hc2 _ _ (by omega)).trans c2
    have c3:=(hc2 _ _ (by omega)).trans c3
    have c4:=(hc2 _ _ (by omega)).trans c4
    have c5:=(hc2 _ _ (by omega)).trans c5
    have f0:=(hf2 _ _ (by omega)).trans f0
    have f1:=(hf2 _ _ (by omega)).trans f1
    have f2:=(hf2 _ _ (by omega)).trans f2
    have f3:=(hf2 _ _ (by omega)).trans f3
    have hw0:=Below.trans hw0 (hb2.mono (by omega))
    have hz:=Nat.lt_of_lt_of_le hz hb2.size
    clear hc2 hf2 hb2
    go_wp2
    go_roundw
    case rel=>
     refine ⟨k+1,by omega,by go_num,by go_grown,by go_size,?_⟩
     simp [go_sem,c0,c1,c2,c3,c4,c5,f0,f1,f2,f3]
    case measure=>simp [intOf];omega
  ·go_wp2
   refine bodyPost_ret (by simp [results,Tryz.results35,go_sem,c2,c3,f0,f1];try rfl) rfl ?_
   have e:k=m:=by omega
   obtain ⟨g1,g2⟩:=Ztt hi n.toNat
   obtain ⟨g3,g4⟩:=Ztt lo n.toNat
   exact ⟨by rw [e,HM.out,g1,g4],by go_grown⟩
theorem Zjf (hi lo:Nat) (n:Int) (ha:W64 hi) (hb:W64 lo) :
 Zak Tryz.prog 13 #[.agg #[.int .u64 hi,.int .u64 lo,.int .i64 n]] (.bool (Zan hi lo n)):=by
 intro w
 have ea:=Zm0
 by_cases h0:0<=n
 ·have d0:decide (0<=n)=true:=by simpa using h0
  by_cases h1:n<=128
  ·have d1:decide (n<=128)=true:=by simpa using h1
   go_enter Tryz.func13,Tryz.ntmps13
   go_wp2_with fail
   have kg:=Zaa
   refine Zab (by kernel_rfl) (by kernel_rfl) ?_
   repeat (any_goals (first|go_big_quiet_step ((go_at_call 35;exact Zak.at (Zig hi lo n ha hb) _ _ _))|quiet_step ((go_at_call 35;exact Zak.at (Zig hi lo n ha hb) _ _ _))))
   refine wpQuiet_nil ?_
   clear kg
   intro w1 hb1
   obtain ⟨hc1,hf1⟩:=Zaf hb1
   have hw1:Below w.heap.size w w1:=by
    refine Below.trans ?_ (hb1.mono ?_)
    ·go_grown
    ·first|omega|go_size
   go_wp2
   go_ret
   refine ⟨Zai ?_,by go_grown⟩
   simp [Zan,h0,h1]
  ·have d1:decide (n<=128)=false:=by simpa using h1
   go_enter Tryz.func13,Tryz.ntmps13
   go_wp2_with fail
   have kg:=Zaa
   refine Zab (by kernel_rfl) (by kernel_rfl) ?_
   repeat (any_goals (first|go_big_quiet_step (fail)|quiet_step (fail)))
   refine wpQuiet_nil ?_
   clear kg
   intro w1 hb1
   obtain ⟨hc1,hf1⟩:=Zaf hb1
   have hw1:Below w.heap.size w w1:=by
    refine Below.trans ?_ (hb1.mono ?_)
    ·go_grown
    ·first|omega|go_size
   go_wp2
   go_ret
   refine ⟨Zai ?_,by go_grown⟩
   unfold Zan
   rw [eq_comm,decide_eq_false_iff_not]
   omega
 ·have d0:decide (0<=n)=false:=by simpa using h0
  go_enter Tryz.func13,Tryz.ntmps13
  go_wp2_with fail
  have kg:=Zaa
  refine Zab (by kernel_rfl) (by kernel_rfl) ?_
  repeat (any_goals (first|go_big_quiet_step (fail)|quiet_step (fail)))
  refine wpQuiet_nil ?_
  clear kg
  intro w1 hb1
  obtain ⟨hc1,hf1⟩:=Zaf hb1
  have hw1:Below w.heap.size w w1:=by
   refine Below.trans ?_ (hb1.mono ?_)
   ·go_grown
   ·first|omega|go_size
  go_wp2
  go_ret
  refine ⟨Zai ?_,by go_grown⟩
  unfold Zan
  rw [eq_comm,decide_eq_false_iff_not]
  omega
theorem Z1p (hi lo:Nat) (n:Int) (xh xl:Nat) (ha:W64 hi) (hb:W64 lo) (hc:W64 xh) (hd:W64 xl) :
 Zak Tryz.prog 71 #[.agg #[.int .u64 hi,.int .u64 lo,.int .i64 n],.agg #[.int .u64 xh,.int .u64 xl]] (.bool (hasB hi lo n xh xl)):=by
 intro w
 have ea:=Zm0
 have hr:=Zjf hi lo n ha hb
 cases hR:Zan hi lo n
 ·rw [hR] at hr
  have HR:=hid hR
  clear hR
  go_enter Tryz.func71,Tryz.ntmps71
  go_wp2_with fail
  have kg:=Zaa
  refine Zab (by kernel_rfl) (by kernel_rfl) ?_
  repeat (any_goals (first|go_big_quiet_step ((go_at_call 13;exact Zak.at hr _ _ _))|quiet_step ((go_at_call 13;exact Zak.at hr _ _ _))))
  refine wpQuiet_nil ?_
  clear kg
  intro w1 hb1
  obtain ⟨hc1,hf1⟩:=Zaf hb1
  have hw1:Below w.heap.size w w1:=by
   refine Below.trans ?_ (hb1.mono ?_)
   ·go_grown
   ·first|omega|go_size
  go_wp2
  go_ret
  refine ⟨Zai ?_,by go_grown⟩
  simp [hasB,HR.out]
 ·rw [hR] at hr
  have HR:=hid hR
  clear hR
  go_enter Tryz.func71,Tryz.ntmps71
  go_wp2_with fail
  have kg:=Zaa
  refine Zab (by kernel_rfl) (by kernel_rfl) ?_
  repeat (any_goals (first|go_big_quiet_step (first|(go_at_call 13;exact Zak.at hr _ _ _)|(go_at_call 35;exact Zak.at (Zig xh xl n hc hd) _ _ _))|quiet_step (first|(go_at_call 13;exact Zak.at hr _ _ _)|(go_at_call 35;exact Zak.at (Zig xh xl n hc hd) _ _ _))))
  refine wpQuiet_nil ?_
  clear kg
  intro w1 hb1
  obtain ⟨hc1,hf1⟩:=Zaf hb1
  have hw1:Below w.heap.size w w1:=by
   refine Below.trans ?_ (hb1.mono ?_)
   ·go_grown
   ·first|omega|go_size
  go_wp2
  go_ret
  refine ⟨Zai ?_,by go_grown⟩
  simp [hasB,HR.out]
theorem Zel (h1 l1:Nat) (n1:Int) (h2 l2:Nat) (n2:Int) :
 Zak Tryz.prog 36 #[.agg #[.int .u64 h1,.int .u64 l1,.int .i64 n1],.agg #[.int .u64 h2,.int .u64 l2,.int .i64 n2]] (.bool (lessB h1 l1 n1 h2 l2 n2)):=by
 intro w
 by_cases e1:h1=h2
 ·by_cases e2:l1=l2
  ·subst e1 e2
   go_enter Tryz.func36,Tryz.ntmps36
   go_wp2
   go_ret
   refine ⟨Zai ?_,by go_grown⟩
   simp [lessB]
  ·subst e1
   go_enter Tryz.func36,Tryz.ntmps36
   go_wp2
   go_ret
   refine ⟨Zai ?_,by go_grown⟩
   simp [lessB,e2]
 ·go_enter Tryz.func36,Tryz.ntmps36
  go_wp2
  go_ret
  refine ⟨Zai ?_,by go_grown⟩
  simp [lessB,e1]
structure RFil (w:World) (lo hi f g s:Nat) (k:Int) (C:List Nat):Prop where
 c0:w.cell? ⟨f,0,none⟩=some (.int .u64 (s:Int))
 c1:w.cell? ⟨f,1,none⟩=some (.int .i64 k)
 c2:w.cell? ⟨f,2,none⟩=some (.slice (some ⟨g,0,none⟩) C.length C.length)
 own:w.ownsRow lo 3 1 (.slice (some ⟨g,0,none⟩) C.length C.length) C.length (iC C)
 small:∀c∈C,c<=15
 len:C.length<=65536
 top:hi<=w.heap.size
 fin:lo<=f/\f<hi
 gin:g<hi
 ne:f≠g
 ws:W64 s
section
variable {w w':World} {lo hi f g s:Nat} {k:Int} {C:List Nat} {S:Nat->Prop}
theorem RFil.low (H:RFil w lo hi f g s k C):lo<=g:=(H.own.lt g rfl).1
theorem RFil.touched (H:RFil w lo hi f g s k C) (ht:Touch S w w') (hn:∀j,lo<=j->j<hi->¬S j):RFil w' lo hi f g s k C:=
 ⟨ht.cell H.c0 (hn _ H.fin.1 H.fin.2),ht.cell H.c1 (hn _ H.fin.1 H.fin.2),ht.cell H.c2 (hn _ H.fin.1 H.fin.2),Touch.own H.own ht (fun j e=>by cases e;exact hn _ H.low H.gin),H.small,H.len,Nat.le_trans H.top ht.size,H.fin,H.gin,H.ne,H.ws⟩
theorem RFil.below (H:RFil w lo hi f g s k C) (hb:Below w.heap.size w w'):RFil w' lo hi f g s k C:=H.touched (S:=fun _=>False) (Touch.quiet hb) (fun _ _ _ h=>h)
theorem RFil.lt (H:RFil w lo hi f g s k C):f<w.heap.size:=Nat.lt_of_lt_of_le H.fin.2 H.top
theorem RFil.lt2 (H:RFil w lo hi f g s k C):g<w.heap.size:=Nat.lt_of_lt_of_le H.gin H.top
end
def zB:Value := .agg #[.int .u64 0,.int .u64 0,.int .i64 0,.int .i64 0,.bool false,.int .u64 0,.int .u64 0,.int .i64 0,.int .i64 0,.bool false,.int .u64 0,.int .u64 0,.int .i64 0,.int .i64 0,.bool false,.int .u64 0,.int .u64 0,.int .i64 0,.int .i64 0,.bool false]
theorem Zza:(Tryz.prog.info? 154).map (fun i=>(i.zero,i.size,i.bytes))=some (some zB,20,160):=by kernel_rfl
theorem Zyq {w:World} {g n i x:Nat} {z:Array Value} {t:TypeId} (hz:z.size=20) (hg:w.heap[g]? = some (.cells (madeCells z (n*20)) t (0,0))) (hi:i<n) (hx:x<20):w.cell? ⟨g,i*20+x,none⟩=some z[x]! := by
 rw [cell_of_row w g _ _ t (0,0) hg]
 unfold madeCells
 rw [Array.getElem?_map,Array.getElem?_range,if_pos (by omega)]
 simp only [Option.map_some,hz]
 rw [show (i*20+x)%20=x by omega]
theorem Zyp {w:World} {g n:Nat} {z:Array Value} {t:TypeId} (hg:w.heap[g]? = some (.cells (madeCells z (n*20)) t (0,0))) (j:Nat):w.frozen? ⟨g,j,none⟩=false:=frozen_of_row w g j _ t hg
theorem Zs2 {w:World} {g n i:Nat} {t:TypeId} (hg:w.heap[g]? = some (.cells (madeCells zB.cells (n*20)) t (0,0))) (hi:i<n):Bkt w g (i*20) [none,none,none,none]:=by
 refine ⟨rfl,(Array.getElem?_eq_some_iff.1 hg).1,fun k hk j u hu => ?_,fun j _=>Zyp hg _⟩
 have hj:j<5:=(List.getElem?_eq_some_iff.1 hu).1
 simp only [List.length_cons,List.length_nil] at hk
 rw [Nat.add_assoc,Zyq (by rfl) hg hi (by omega)]
 rcases (show k=0\/k=1\/k=2\/k=3 by omega) with rfl | rfl | rfl | rfl<;>rcases (show j=0\/j=1\/j=2\/j=3\/j=4 by omega) with rfl | rfl | rfl | rfl | rfl<;>(simp only [x5,List.getElem_cons_zero,List.getElem_cons_succ,List.getElem?_cons_zero,List.getElem?_cons_succ,Option.some.injEq] at hu;subst hu;rfl)
theorem Zpf (s n:Nat):(Zbq s n).B.length=n:=by simp [Zbq]
theorem Tb.fresh {K:World->Nat->Nat->List Pl->Prop} {w:World} {t g s n:Nat} (hK:∀i,i<n->K w g (i*20) [none,none,none,none]) (hg:g<w.heap.size) (ht:t<w.heap.size) (c0:w.cell? ⟨t,0,none⟩=some (.int .u64 (s:Int))) (c1:w.cell? ⟨t,1,none⟩=some (.slice (some ⟨g,0,none⟩) n n))
 (c2:w.cell? ⟨t,2,none⟩=some (.slice none 0 0)) (f:∀j,w.frozen? ⟨t,j,none⟩=false) (tg:t≠g):Tb K w t g (.slice none 0 0) (Zbq s n):=
 ⟨fun i hi=>by rw [Zpf] at hi;rw [Zm1 s n i hi];exact hK i hi,hg,ht,c0,by rw [Zpf];exact c1,c2,f,World.ownsRow_nil _ _ _ _,tg,by simp [Value.ownBlock],by simp [Value.ownBlock]⟩
set_option maxRecDepth 100000 in
theorem Z5y (s:Nat) (n:Int) (w:World) (h:n<1\/65536<n) :
 Calls Tryz.prog 53 #[.int .u64 (s:Int),.int .i64 n] w fun e w'=>e = .returned (.tuple #[.pointer none,.int .i64 1])/\Below w.heap.size w w':=by
 rcases h with h | h
 ·go_enter Tryz.func53,Tryz.ntmps53
  go_wp2
  go_ret2
  exact ⟨rfl,by go_grown⟩
 ·have h2:¬n<1:=by omega
  go_enter Tryz.func53,Tryz.ntmps53
  go_wp2
  go_ret2
  exact ⟨rfl,by go_grown⟩
set_option maxRecDepth 100000 in
theorem Z3v (s n:Nat) (w:World) (h1:1<=n) (h2:n<=65536) :
 Calls Tryz.prog 53 #[.int .u64 (s:Int),.int .i64 (n:Int)] w fun e w'=>∃t,e = .returned (.tuple #[.pointer (some ⟨t,0,none⟩),.int .i64 0])/\∃g,CT w' t g (.slice none 0 0) (Zbq s n) 0/\Below w.heap.size w w'/\w.heap.size<=t/\w.heap.size<=g:=by
 have PLA:=fun w=>Zcm Tryz.underlying139 Zza n (by omega) (by unfold maxLen;omega) w
 have h3:¬((n:Int)<1):=by omega
 have h4:¬((65536:Int)<n):=by omega
 generalize hM:madeCells zB.cells (n*20)=M at PLA
 go_enter Tryz.func53,Tryz.ntmps53
 go_wp2
 go_ret2
 refine ⟨w.heap.size+1,rfl,w.heap.size,⟨Tb.fresh (fun i hi=>Zs2 (t:=154) (n:=n) ?_ hi) (by simp;omega) (by simp) (by simp [go_sem]) (by simp [go_sem]) (by simp [go_sem]) (fun j=>by simp [go_sem]) (by omega),by simp [go_sem]⟩,by go_grown,by omega,Nat.le_refl _⟩
 rw [hM]
 rw [heap_alloc_old _ _ (by simp)]
 exact heap_alloc_new w _
end Go.Proofs.YtgfjmgebecmbiaaGreat
