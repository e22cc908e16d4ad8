import Derived.Test.YtgfjmgebecmbiaaGreatStbR
import Derived.Test.YtgfjmgebecmbiaaGreatL21c
import Derived.Test.YtgfjmgebecmbiaaGreatW18a
set_option linter.unusedSimpArgs false
set_option linter.unusedVariables false
set_option maxHeartbeats 4000000
namespace Go.Proofs.YtgfjmgebecmbiaaGreat
open Lib(hid)
open Go Go.RowKit Go.Sort M
theorem Zbf {ops:Array Oper} {rest:List Oper} {o:Oper} {a:Act} {w:World} {Q:Exit->Act->World->Prop} (hgd:o.guard=none) (s x:Operand)
 (ho:o.op = .call { callee := .builtin .append,args := #[s,x],argTypes := #[35,35] }) (B:Nat) (v:Value) (L M N:List Rt) (hN:N=L++M) (hs:a.eval s=v) (ad:Addr) (c:Nat) (hx:a.eval x = .slice (some ad) M.length c)
 (hown:w.ownsRow B 41 4 v L.length (rcs L)) (hsrc:∀j u,(rcs M)[j]? = some u->w.cell? (ad.add j)=some u) (hlen:L.length+M.length<=1099511627776) (hB:B<=w.heap.size)
 (h:∀v' w',w'.ownsRow B 41 4 v' N.length (rcs N)->w.grownBy w' v.ownBlock->(v'.ownBlock=v.ownBlock\/v'.ownBlock=some w.heap.size)->wpList Tryz.prog ops Q rest (a.put o.dst v') w'):wpList Tryz.prog ops Q (o::rest) a w:=by
 subst hN
 obtain ⟨i0,hi0,iz0,iz1,iz2⟩:=info_parts Zd1
 refine wpList_append_own_at w hgd s x 35 ho B 41 i0 _ 4 32 Tryz.underlying35 hi0 iz0 iz1 iz2 rfl (by decide) v _ _ hs hown ad M.length c (rcs M) hx (Zaz M) hsrc (Zcb M) (by unfold maxLen;omega) (by omega) hB ?_
 intro v' w' h1 h2 _ h4
 refine h v' w' ?_ h2 h4
 rw [Zal,List.length_append]
 exact h1
theorem Z4c (g o i:Nat):(⟨g,o,none⟩:Addr).add i=⟨g,o+i,none⟩:=by unfold Addr.add;split<;>simp_all
theorem Z10 (w:World):(w.alloc (.cells #[] 41)).ownsRow w.heap.size 41 4 (.slice (some ⟨w.heap.size,0,none⟩) 0 0) 0 []:=
 Zcl (Nat.le_refl _) (heap_alloc_new w _) (Nat.le_refl _) (by unfold maxLen;omega) (by simp) (by simp)
set_option maxRecDepth 100000 in
theorem Zkh (p:Option Addr) (c:Nat) (L:List Rt) (w:World) (hR:Row w p (rcs L)) (hp:p=none->c=0) (hl:L.length<1099511627776) :
 Calls Tryz.prog 42 #[.slice p L.length c] w fun e w'=>Zcf w w' e L:=by
 have q:∀(w:World) (a:Option Addr) (n c:Nat),(binOp .eql 35 (.slice a n c) (.slice none 0 0)).run Tryz.prog w = .ok (.bool a.isNone) w:=fun w a n c=>Lib.run_eql_slice_nil w _ _ a n c 0 0 Tryz.underlying35
 cases p with
 | none=>
  obtain rfl:=hp rfl
  have q:=q w none 0 0
  have hL:L=[]:=by
   rcases hR with h | ⟨g,o,h,-⟩
   ·rw [<-List.length_eq_zero_iff]
    have:=congrArg List.length h
    rw [Zaz] at this
    simp at this
    omega
   ·cases h
  subst hL
  go_enter Tryz.func42,Tryz.ntmps42
  go_wp2
  go_ret
  exact ⟨none,0,rfl,World.ownsRow_nil _ _ _ _,by go_grown⟩
 | some a=>
  have q:=q w (some a) L.length c
  go_enter Tryz.func42,Tryz.ntmps42
  have hO:=hid (Z10 w)
  have hsrc:Hid (∀j u,(rcs L)[j]? = some u->(w.alloc (.cells #[] 41)).cell? (a.add j)=some u):=hid fun j u hu=>by
   rcases hR with h | ⟨g,o,h,hg,hc⟩
   ·rw [h] at hu
    cases hu
   ·injection h with h
    subst h
    rw [Z4c]
    have:=hc j u hu
    rw [<-this]
    exact ((show Below w.heap.size w (w.alloc (.cells #[] 41)) from by go_grown).cell (p:=⟨g,o+j,none⟩) hg)
  go_wp2_with (at_builtin;go_loud (refine Zbf rfl (.tmp 5) (.tmp 6) rfl w.heap.size _ [] L L rfl rfl a c rfl hO.out hsrc.out (by simp;omega) (by simp) ?_))
  intro v' w' h1 h2 _
  obtain ⟨p',c',rfl⟩:=Zag h1
  have hb:Below w.heap.size w (w.alloc (.cells #[] 41)):=by go_grown
  have hb2:Below w.heap.size w w':=hb.grown h2 hb.size (fun k e=>by simp [Value.ownBlock] at e;omega)
  clear hb h2 q
  have HF:=hid (And.intro h1 hb2)
  clear h1 hb2
  go_wp2
  go_ret
  exact ⟨p',c',rfl,HF.out.1,HF.out.2⟩
set_option maxRecDepth 100000 in
theorem Zng (bx blk c n:Nat) (hn:n<1000000000) (w0:World) (hc:w0.cell? ⟨bx,0,none⟩=some (.slice (some ⟨blk,0,none⟩) n c)) (hne:bx≠blk) :
 Zdh 141 #[.pointer (some ⟨bx,0,none⟩)] Zac 4 ltR w0 blk 0 n:=by
 intro W d S i j hi hj
 have hb0:bx<w0.heap.size:=World.block_lt_of_cell? w0 _ hc
 have b0:=S.touch.cell hc hne
 have hbl:bx<W.heap.size:=Nat.lt_of_lt_of_le hb0 S.touch.size
 have hl:=S.lt2
 have hs:=S.size
 have x0:=(S.holds.cell (i:=i) (c:=0) (by omega) (by decide)).1
 have x1:=(S.holds.cell (i:=i) (c:=1) (by omega) (by decide)).1
 have x2:=(S.holds.cell (i:=i) (c:=2) (by omega) (by decide)).1
 have y0:=(S.holds.cell (i:=j) (c:=0) (by omega) (by decide)).1
 have y1:=(S.holds.cell (i:=j) (c:=1) (by omega) (by decide)).1
 have y2:=(S.holds.cell (i:=j) (c:=2) (by omega) (by decide)).1
 have HL:=Zfg d[i]!.k.h d[i]!.k.l d[i]!.k.n d[j]!.k.h d[j]!.k.l d[j]!.k.n
 change Zak _ _ _ (.bool (ltR d[i]! d[j]!)) at HL
 generalize ltR d[i]! d[j]! = ls at *
 change W.cell? _=some (.int .u64 (d[i]!.k.h:Int)) at x0
 change W.cell? _=some (.int .u64 (d[i]!.k.l:Int)) at x1
 change W.cell? _=some (.int .i64 d[i]!.k.n) at x2
 change W.cell? _=some (.int .u64 (d[j]!.k.h:Int)) at y0
 change W.cell? _=some (.int .u64 (d[j]!.k.l:Int)) at y1
 change W.cell? _=some (.int .i64 d[j]!.k.n) at y2
 generalize d[i]!.k=q at *
 generalize d[j]!.k=r at *
 rw [Nat.zero_add] at x0 x1 x2 y0 y1 y2
 rw [Nat.add_zero] at x0 y0
 have HL:=hid HL
 have i1:(0:Int)<=(i:Int):=by omega
 have i2:(i:Int)<(n:Int):=by omega
 have j1:(0:Int)<=(j:Int):=by omega
 have j2:(j:Int)<(n:Int):=by omega
 clear S hc hb0
 show Calls _ _ #[.int .i64 (i:Int),.int .i64 (j:Int),.pointer (some ⟨bx,0,none⟩)] _ _
 obtain ⟨w,hw⟩:∃w,w=W:=⟨_,rfl⟩
 subst hw
 go_enter Tryz.func141,Tryz.ntmps141
 go_wp2_with fail
 have kg:=Zaa
 refine Zab (by kernel_rfl) (by kernel_rfl) ?_
 repeat (any_goals (first|go_big_quiet_step ((exact HL.out.at _ _ _))|quiet_step ((exact HL.out.at _ _ _))))
 refine wpQuiet_nil ?_
 clear kg
 intro w1 hb1
 obtain ⟨hc1,hf1⟩:=Zaf hb1
 have hw1:Below w.heap.size w w1:=by
  refine Below.trans ?_ (hb1.mono ?_)
  ·go_grown
  ·first|omega|go_size
 go_wp2
 go_ret
 exact ⟨rfl,hw1⟩
theorem Zoo (a b:Nat) (n:Int) (c d:Nat) (m:Int) (w:World):(binOp .neq 39 (.agg #[.int .u64 a,.int .u64 b,.int .i64 n]) (.agg #[.int .u64 c,.int .u64 d,.int .i64 m])).run Tryz.prog w =
 .ok (.bool (!decide (a=c/\b=d/\n=m))) w:=by
 have e1:decide (a=c/\b=d/\n=m)=(decide ((a:Int)=c)&&(decide ((b:Int)=d)&&decide (n=m))):=by
  rw [<-Bool.decide_and,<-Bool.decide_and,decide_eq_decide];omega
 rw [e1]
 by_cases h1:(a:Int)=c<;>by_cases h2:(b:Int)=d<;>by_cases h3:n=m<;>simp [go_sem,h1,h2,h3]
set_option maxRecDepth 100000 in
theorem Zp6 (p:Option Addr) (c:Nat) (L:List Rt) (w:World) (hR:Row w p (rcs L)) (hp:p=none->c=0) (hl:L.length<1048576) :
 Calls Tryz.prog 109 #[.slice p L.length c] w fun e w'=>Zcf w w' e (Zap L):=by
 have HC:=hid (Zkh p c L w hR hp (by omega))
 have HLn:=hid hl
 clear hR hp hl
 go_enter Tryz.func109,Tryz.ntmps109
 go_wp2_with fail
 refine HC.out.mono ?_
 rintro e w1 ⟨p,c,rfl,hown,hb1⟩
 have eg:=enters_of Tryz.func141 (by kernel_rfl) rfl
 have hz1:=hb1.size
 have hS:∀W,RowKit.Below w1.heap.size w1 W->w1.heap.size<W.heap.size->W.cell? ⟨w1.heap.size,0,none⟩=some (.slice p L.length c) ->
  Calls Tryz.prog 140 #[.iface 35 (.slice p L.length c),.func (.func 141) #[] #[.pointer (some ⟨w1.heap.size,0,none⟩)]] W fun e w'=>e = .returned (.tuple #[])/\∃M:List Rt,M.length=L.length/\Asc ltR M/\Stb ltR L M/\Row w' p (rcs M)/\RowKit.Below w.heap.size w1 w'/\w'.cell? ⟨w1.heap.size,0,none⟩=some (.slice p L.length c):=by
  intro W hW hz hc
  have hLn:=HLn.out
  have hownW:=own_below hown hW
  by_cases h2:2<=L.length
  ·rcases hown.2 with ⟨e,h0⟩ | ⟨blk,cap',cur,e,hB,-,-,-,-,-⟩
   ·omega
   ·injection e with e1 e2 e3
    subst e1
    have hbk:blk<w1.heap.size:=(hown.lt blk rfl).2
    refine (Zqg _ _ ltR Zq4 eg blk c L h2 (by omega) W (Zo3 hownW) (by omega) (Zng w1.heap.size blk c L.length (by omega) W hc (by omega))).mono ?_
    rintro e w' ⟨rfl,M,m1,m2,m3,m4⟩
    have ml:=m2.len
    refine ⟨rfl,M,ml.symm,m1,m2,Zn0 m3 (by have:=m4.size;omega),?_,m4.cell hc (by show w1.heap.size≠blk;omega)⟩
    exact (hW.mono hz1).trans (m4.below (by have:=hW.size;omega) (fun j hj=>by omega))
  ·refine (Znt _ _ p c L.length (by omega) W).mono ?_
   rintro e w' ⟨rfl,hb⟩
   have hs:Asc ltR L:=by
    rcases L with _ | ⟨a,_ | ⟨b,L⟩⟩
    ·exact List.Pairwise.nil
    ·exact List.pairwise_singleton _ _
    ·simp at h2
   exact ⟨rfl,L,rfl,hs,Stb.refl _,(Row.of_own hownW).below hb,(hW.trans (hb.mono (by have:=hW.size;omega))).mono hz1,(hb.cell (p:=⟨w1.heap.size,0,none⟩) hz).trans hc⟩
 have HS:=hid hS
 have HP:Hid (p=none->L.length=0):=hid fun e=>by
  subst e
  rcases hown.2 with ⟨-,h0⟩ | ⟨blk,cap',cur,e,-⟩
  ·exact h0
  ·cases e
 clear hS hown eg HC
 go_wp2_with fail
 refine (HS.out _ (by go_grown) (by simp) (by simp [go_sem])).mono ?_
 rintro e w2 ⟨rfl,M,m0,m1,m2,m3,m4,b0⟩
 have hbl:w1.heap.size<w2.heap.size:=World.block_lt_of_cell? w2 _ b0
 have HE:=hid (Z2q m1 m2)
 have hw2:RowKit.Below w.heap.size w w2:=hb1.trans m4
 have HM:=hid m3
 have HN:=hid m0
 have hMl:M.length<1048576:=by have:=HLn.out;omega
 rw [<-HN.out]
 rw [<-HN.out] at b0
 clear m0 m1 m2 m3 m4 HS HLn HN
 go_wp2
 go_loopg [4,15] M.length (fun kx s4 s15 wr=>∃(i:Nat) (N:List Rt) (p4:Option Addr) (c4:Nat),s15 = .int .i64 (i:Int)/\M.length-i<=kx/\i<=M.length/\s4 = .slice p4 N.length c4/\Hid (N++Zba (M.drop i)=Zba M)/\Hid (wr.ownsRow w2.heap.size 41 4 (.slice p4 N.length c4) N.length (rcs N))/\Below w2.heap.size w2 wr)
 case atStart=>exact ⟨0,[],none,0,rfl,by omega,by omega,rfl,hid rfl,hid (World.ownsRow_nil _ _ _ _),by go_grown⟩
 case round=>
  obtain ⟨i,N,p4,c4,rfl,h1,h2,rfl,HN,HO,hb⟩:=hrel
  by_cases hi:i<M.length
  ·obtain ⟨g,o,rfl,hg,x0,x1,x2,x3⟩:=HM.out.rt hi
   have x0:=(hb.cell (p:=⟨g,o+i*4,none⟩) hg).trans x0
   have x1:=(hb.cell (p:=⟨g,o+i*4+1,none⟩) hg).trans x1
   have x2:=(hb.cell (p:=⟨g,o+i*4+2,none⟩) hg).trans x2
   have x3:=(hb.cell (p:=⟨g,o+i*4+3,none⟩) hg).trans x3
   have d0:=(hb.cell (p:=⟨w1.heap.size,0,none⟩) hbl).trans b0
   have hg2:=Nat.lt_of_lt_of_le hg hb.size
   have hbl2:=Nat.lt_of_lt_of_le hbl hb.size
   have hz0:=hb.size
   have i1:(0:Int)<=(i:Int):=by omega
   have i2:(i:Int)<(M.length:Int):=by omega
   obtain ⟨r,hr⟩:∃r,r=M[i]:=⟨_,rfl⟩
   rw [<-hr] at x0 x1 x2 x3
   have HMr:=hid hr
   clear hr
   have HOb:=hid (HO.out.alloc (.cells #[.int .u64 (r.k.h:Int),.int .u64 (r.k.l:Int),.int .i64 r.k.n,.int .i64 r.v] 41))
   have hb5:Below w2.heap.size w2 (wr.alloc (.cells #[.int .u64 (r.k.h:Int),.int .u64 (r.k.l:Int),.int .i64 r.k.n,.int .i64 r.v] 41)):=by go_grown
   have e0:(wr.alloc (.cells #[.int .u64 (r.k.h:Int),.int .u64 (r.k.l:Int),.int .i64 r.k.n,.int .i64 r.v] 41)).cell? ⟨wr.heap.size,0,none⟩=some (.int .u64 (r.k.h:Int)):=by simp [go_sem]
   have e1:(wr.alloc (.cells #[.int .u64 (r.k.h:Int),.int .u64 (r.k.l:Int),.int .i64 r.k.n,.int .i64 r.v] 41)).cell? ⟨wr.heap.size,1,none⟩=some (.int .u64 (r.k.l:Int)):=by simp [go_sem]
   have e2:(wr.alloc (.cells #[.int .u64 (r.k.h:Int),.int .u64 (r.k.l:Int),.int .i64 r.k.n,.int .i64 r.v] 41)).cell? ⟨wr.heap.size,2,none⟩=some (.int .i64 r.k.n):=by simp [go_sem]
   have e3:(wr.alloc (.cells #[.int .u64 (r.k.h:Int),.int .u64 (r.k.l:Int),.int .i64 r.k.n,.int .i64 r.v] 41)).cell? ⟨wr.heap.size,3,none⟩=some (.int .i64 r.v):=by simp [go_sem]
   have z5:wr.heap.size<(wr.alloc (.cells #[.int .u64 (r.k.h:Int),.int .u64 (r.k.l:Int),.int .i64 r.k.n,.int .i64 r.v] 41)).heap.size:=by simp
   by_cases hn:i+1<M.length
   ·obtain ⟨g',o',hgo,-,y0,y1,y2,-⟩:=HM.out.rt hn
    injection hgo with hgo
    injection hgo with hg1 ho1
    subst hg1
    subst ho1
    have y0:=(hb5.cell (p:=⟨g,o+(i+1)*4,none⟩) hg).trans y0
    have y1:=(hb5.cell (p:=⟨g,o+(i+1)*4+1,none⟩) hg).trans y1
    have y2:=(hb5.cell (p:=⟨g,o+(i+1)*4+2,none⟩) hg).trans y2
    have hn1:((i:Int)+1 == (M.length:Int))=false:=by
     rw [beq_eq_false_iff_ne]
     omega
    have i3:(i:Int)+1<(M.length:Int):=by omega
    have hE:=Zoo M[i+1].k.h M[i+1].k.l M[i+1].k.n r.k.h r.k.l r.k.n
    have hst:=HN.out
    rw [Zlf M i hi,dif_pos hn,<-HMr.out] at hst
    obtain ⟨y,hy⟩:∃y,y=M[i+1]:=⟨_,rfl⟩
    rw [<-hy] at y0 y1 y2 hE hst
    clear hy
    by_cases hk:y.k=r.k
    ·rw [if_pos hk] at hst
     have HN2:Hid (N++Zba (M.drop (i+1))=Zba M):=hid (by simpa using hst)
     rw [decide_eq_true (show y.k.h=r.k.h/\y.k.l=r.k.l/\y.k.n=r.k.n from by rw [hk];exact ⟨rfl,rfl,rfl⟩)] at hE
     clear hst hk
     go_wp2_with fail
     have d0:=(hb5.cell (p:=⟨w1.heap.size,0,none⟩) hbl).trans b0
     have hg2:=Nat.lt_of_lt_of_le hg hb5.size
     have hbl2:=Nat.lt_of_lt_of_le hbl hb5.size
     generalize World.alloc wr _=w5 at *
     have hz5:=hb5.size
     have hw5:=hw2.trans (hb5.mono hw2.size)
     have kg:=Zaa
     refine Zab (by kernel_rfl) (by kernel_rfl) ?_
     repeat (any_goals (first|go_big_quiet_step (fail)|quiet_step (fail)))
     refine wpQuiet_nil ?_
     clear kg
     intro w7 hb7
     obtain ⟨hc7,hf7⟩:=Zaf hb7
     have hw7:Below w.heap.size w w7:=by
      refine Below.trans ?_ (hb7.mono ?_)
      ·go_grown
      ·first|omega|go_size
     have hw7:=hb5.trans (hb7.mono hb5.size)
     have HO7:=hid (own_below HOb.out hb7)
     have e0:=(hc7 _ _ z5).trans e0
     have e1:=(hc7 _ _ z5).trans e1
     have e2:=(hc7 _ _ z5).trans e2
     have e3:=(hc7 _ _ z5).trans e3
     have z5:=Nat.lt_of_lt_of_le z5 hb7.size
     clear hc7 hf7 hb7
     go_wp2
     go_roundg (M.length-(i+1))
     case measure=>omega
     case rel=>exact ⟨i+1,N,p4,c4,by go_num,by omega,by omega,rfl,HN2,HO7,hw7⟩
    ·rw [if_neg hk] at hst
     have HN2:Hid ((N++[r])++Zba (M.drop (i+1))=Zba M):=hid (by simpa using hst)
     have hne:¬(y.k.h=r.k.h/\y.k.l=r.k.l/\y.k.n=r.k.n):=fun ⟨q1,q2,q3⟩=>hk (by
      cases hy1:y.k
      cases hr1:r.k
      rw [hy1,hr1] at q1 q2 q3
      simp_all)
     rw [decide_eq_false hne] at hE
     clear hst hk hne
     go_wp2_with fail
     have d0:=(hb5.cell (p:=⟨w1.heap.size,0,none⟩) hbl).trans b0
     have hg2:=Nat.lt_of_lt_of_le hg hb5.size
     have hbl2:=Nat.lt_of_lt_of_le hbl hb5.size
     generalize World.alloc wr _=w5 at *
     have hz5:=hb5.size
     have hw5:=hw2.trans (hb5.mono hw2.size)
     have kg:=Zaa
     refine Zab (by kernel_rfl) (by kernel_rfl) ?_
     repeat (any_goals (first|go_big_quiet_step (fail)|quiet_step (fail)))
     refine wpQuiet_nil ?_
     clear kg
     intro w7 hb7
     obtain ⟨hc7,hf7⟩:=Zaf hb7
     have hw7:Below w.heap.size w w7:=by
      refine Below.trans ?_ (hb7.mono ?_)
      ·go_grown
      ·first|omega|go_size
     have hw7:=hb5.trans (hb7.mono hb5.size)
     have HO7:=hid (own_below HOb.out hb7)
     have e0:=(hc7 _ _ z5).trans e0
     have e1:=(hc7 _ _ z5).trans e1
     have e2:=(hc7 _ _ z5).trans e2
     have e3:=(hc7 _ _ z5).trans e3
     have z5:=Nat.lt_of_lt_of_le z5 hb7.size
     clear hc7 hf7 hb7
     have HO8:=hid (HO7.out.alloc (.cells #[.int .u64 (r.k.h:Int),.int .u64 (r.k.l:Int),.int .i64 r.k.n,.int .i64 r.v] 41))
     have hsrc:Hid (∀j u,(rcs [r])[j]? = some u->(w7.alloc (.cells #[.int .u64 (r.k.h:Int),.int .u64 (r.k.l:Int),.int .i64 r.k.n,.int .i64 r.v] 41)).cell? ((⟨w7.heap.size,0,none⟩:Addr).add j)=some u):=by
      rw [Zgc]
      exact hid (Zb9 (by simp [go_sem]) (by simp [go_sem]) (by simp [go_sem]) (by simp [go_sem]))
     have hNl:N.length<=M.length:=by
      have h1:=congrArg List.length HN.out
      have h2:=Zj3 M
      simp only [List.length_append] at h1
      omega
     have HNl:=hid hNl
     clear hNl
     have hw8:Below w2.heap.size w2 (w7.alloc (.cells #[.int .u64 (r.k.h:Int),.int .u64 (r.k.l:Int),.int .i64 r.k.n,.int .i64 r.v] 41)):=hw7.alloc hw7.size _
     go_wp2_with (at_builtin;go_loud (refine Zbf rfl (.tmp 36) (.tmp 38) rfl w2.heap.size _ N [r] (N++[r]) rfl rfl ⟨w7.heap.size,0,none⟩ 1 rfl HO8.out hsrc.out (by have:=HNl.out;simp;omega) hw8.size ?_))
     intro v9 w9 hown9 hg9 _
     obtain ⟨p9,c9,rfl⟩:=Zag hown9
     have hw9:Below w2.heap.size w2 w9:=hw8.grown hg9 hw8.size (fun k e=>(HO8.out.lt k e).1)
     have HO9:=hid hown9
     clear hown9 hg9 hw8
     go_wp2
     go_roundg (M.length-(i+1))
     case measure=>omega
     case rel=>exact ⟨i+1,N++[r],p9,c9,by go_num,by omega,by omega,by rw [List.length_append];rfl,HN2,by rw [List.length_append];exact HO9,hw9⟩
   ·have hn1:((i:Int)+1 == (M.length:Int))=true:=by
     rw [beq_iff_eq]
     omega
    have HN2:Hid ((N++[r])++Zba (M.drop (i+1))=Zba M):=by
     have:=HN.out
     rw [Zlf M i hi,dif_neg hn,<-HMr.out] at this
     exact hid (by simpa using this)
    go_wp2_with fail
    have d0:=(hb5.cell (p:=⟨w1.heap.size,0,none⟩) hbl).trans b0
    have hg2:=Nat.lt_of_lt_of_le hg hb5.size
    have hbl2:=Nat.lt_of_lt_of_le hbl hb5.size
    generalize World.alloc wr _=w5 at *
    have hz5:=hb5.size
    have hw5:=hw2.trans (hb5.mono hw2.size)
    have kg:=Zaa
    refine Zab (by kernel_rfl) (by kernel_rfl) ?_
    repeat (any_goals (first|go_big_quiet_step (fail)|quiet_step (fail)))
    refine wpQuiet_nil ?_
    clear kg
    intro w7 hb7
    obtain ⟨hc7,hf7⟩:=Zaf hb7
    have hw7:Below w.heap.size w w7:=by
     refine Below.trans ?_ (hb7.mono ?_)
     ·go_grown
     ·first|omega|go_size
    have hw7:=hb5.trans (hb7.mono hb5.size)
    have HO7:=hid (own_below HOb.out hb7)
    have e0:=(hc7 _ _ z5).trans e0
    have e1:=(hc7 _ _ z5).trans e1
    have e2:=(hc7 _ _ z5).trans e2
    have e3:=(hc7 _ _ z5).trans e3
    have z5:=Nat.lt_of_lt_of_le z5 hb7.size
    clear hc7 hf7 hb7
    have HO8:=hid (HO7.out.alloc (.cells #[.int .u64 (r.k.h:Int),.int .u64 (r.k.l:Int),.int .i64 r.k.n,.int .i64 r.v] 41))
    have hsrc:Hid (∀j u,(rcs [r])[j]? = some u->(w7.alloc (.cells #[.int .u64 (r.k.h:Int),.int .u64 (r.k.l:Int),.int .i64 r.k.n,.int .i64 r.v] 41)).cell? ((⟨w7.heap.size,0,none⟩:Addr).add j)=some u):=by
     rw [Zgc]
     exact hid (Zb9 (by simp [go_sem]) (by simp [go_sem]) (by simp [go_sem]) (by simp [go_sem]))
    have hNl:N.length<=M.length:=by
     have h1:=congrArg List.length HN.out
     have h2:=Zj3 M
     simp only [List.length_append] at h1
     omega
    have HNl:=hid hNl
    clear hNl
    have hw8:Below w2.heap.size w2 (w7.alloc (.cells #[.int .u64 (r.k.h:Int),.int .u64 (r.k.l:Int),.int .i64 r.k.n,.int .i64 r.v] 41)):=hw7.alloc hw7.size _
    go_wp2_with (at_builtin;go_loud (refine Zbf rfl (.tmp 36) (.tmp 38) rfl w2.heap.size _ N [r] (N++[r]) rfl rfl ⟨w7.heap.size,0,none⟩ 1 rfl HO8.out hsrc.out (by have:=HNl.out;simp;omega) hw8.size ?_))
    intro v9 w9 hown9 hg9 _
    obtain ⟨p9,c9,rfl⟩:=Zag hown9
    have hw9:Below w2.heap.size w2 w9:=hw8.grown hg9 hw8.size (fun k e=>(HO8.out.lt k e).1)
    have HO9:=hid hown9
    clear hown9 hg9 hw8
    go_wp2
    go_roundg (M.length-(i+1))
    case measure=>omega
    case rel=>exact ⟨i+1,N++[r],p9,c9,by go_num,by omega,by omega,by rw [List.length_append];rfl,HN2,by rw [List.length_append];exact HO9,hw9⟩
  ·go_wp2
   go_ret
   have:=HN.out
   rw [List.drop_eq_nil_of_le (by omega)] at this
   simp only [Zba,List.append_nil] at this
   rw [<-HE.out,<-this]
   exact ⟨p4,c4,rfl,Za4 HO.out hw2.size,hw2.trans (hb.mono hw2.size)⟩
set_option maxRecDepth 100000 in
theorem Zq9 (bk bo:Nat) (p p2:Option Addr) (c c2:Nat) (K:List Rt) (V:List Pf) (u:Ky) (i:Nat) (w:World) (hK:Row w p (rcs K)) (hV:Row w p2 (pcs V)) (hs:Sorted K) (hi:i<K.length) (h0:0<V.length) (hu:u=kyP V[0])
 (l0:bk<w.heap.size) (l1:bo<w.heap.size) (k0:w.cell? ⟨bk,0,none⟩=some (.slice p K.length c)) (o0:w.cell? ⟨bo,0,none⟩=some (.slice p2 V.length c2)) :
 Calls Tryz.prog 143 #[.int .i64 (i:Int),.pointer (some ⟨bk,0,none⟩),.pointer (some ⟨bo,0,none⟩)] w fun e w'=>e = .returned (.bool (decide (bh K u<=i)))/\Below w.heap.size w w':=by
 obtain ⟨gr,o,rfl,hgr,r0,r1,r2,-⟩:=hK.rt hi
 obtain ⟨gv,ov,rfl,hgv,v0,v1,v2⟩:=hV.at h0
 have hT:=Zrx K u hs i hi
 have HL:=Zfg K[i].k.h K[i].k.l K[i].k.n (hiW V[0].a) (loW V[0].a) V[0].n
 rw [show lessB K[i].k.h K[i].k.l K[i].k.n (hiW V[0].a) (loW V[0].a) V[0].n=Zau K[i].k u by rw [hu];rfl] at HL
 have HL:=hid HL
 have i1:(0:Int)<=(i:Int):=by omega
 have i2:(i:Int)<(K.length:Int):=by omega
 have i3:(0:Int)<(V.length:Int):=by omega
 simp only [Nat.zero_mul,Nat.add_zero] at v0 v1 v2
 generalize Zau K[i].k u=ls at *
 generalize decide (bh K u<=i)=ds at *
 subst hT
 generalize K[i].k=q at *
 generalize V[0]=pv at *
 generalize K.length=n at *
 generalize V.length=m at *
 clear hK hV hs
 go_enter Tryz.func143,Tryz.ntmps143
 go_wp2_with fail
 have kg:=Zaa
 refine Zab (by kernel_rfl) (by kernel_rfl) ?_
 repeat (any_goals (first|go_big_quiet_step ((exact HL.out.at _ _ _))|quiet_step ((exact HL.out.at _ _ _))))
 refine wpQuiet_nil ?_
 clear kg
 intro w1 hb1
 obtain ⟨hc1,hf1⟩:=Zaf hb1
 have hw1:Below w.heap.size w w1:=by
  refine Below.trans ?_ (hb1.mono ?_)
  ·go_grown
  ·first|omega|go_size
 go_wp2
 go_ret
 exact ⟨rfl,hw1⟩
def curL (P M S:List Rt) (U:List Ky) (v:Int) (i:Nat):List Rt:=P++((U.take i).map (fun q=>⟨q,v⟩)++(M.drop i++S))
theorem Z0b (P M S:List Rt) (U:List Ky) (v:Int):curL P M S U v 0=P++(M++S):=by simp [curL]
theorem Z3r (P M S:List Rt) (U:List Ky) (v:Int) (h:M.length<=U.length):curL P M S U v U.length=P++(U.map (fun q=>⟨q,v⟩)++S):=by
 unfold curL
 rw [List.take_of_length_le (Nat.le_refl _),List.drop_eq_nil_of_le h,List.nil_append]
theorem Z6s {P M S:List Rt} {U:List Ky} {v:Int} {i:Nat} (hM:M.length=U.length) (hi:i<U.length):curL P M S U v (i+1)=(curL P M S U v i).set (P.length+i) ⟨U[i],v⟩:=by
 unfold curL
 rw [List.set_append_right _ _ (by omega),List.set_append_right _ _ (by rw [List.length_map,List.length_take];omega),List.length_map,List.length_take,List.take_succ_eq_append_getElem hi,List.map_append,List.map_singleton,List.append_assoc]
 congr 2
 have hiM:i<M.length:=by omega
 rw [show P.length+i-P.length-min i U.length=0 by omega,List.drop_eq_getElem_cons hiM]
 rfl
theorem Z6u {P:List Rt} {U:List Ky} {v:Int} {i:Nat} (hi:i<U.length):curL P [] [] U v (i+1)=curL P [] [] U v i++[⟨U[i],v⟩]:=by
 unfold curL
 rw [List.take_succ_eq_append_getElem hi,List.map_append,List.map_singleton]
 simp
theorem Z6t (P M S:List Rt) (U:List Ky) (v:Int) (i:Nat) (hi:i<=U.length):(curL P M S U v i).length=P.length+i+(M.length-i)+S.length:=by
 simp [curL]
 omega
theorem Z8p {P M S:List Rt} {U:List Ky} {v:Int} {i:Nat} (hM:M.map Rt.k=U) (hi:i<U.length) (h:P.length+i<(curL P M S U v i).length):(curL P M S U v i)[P.length+i].k=U[i]:=by
 have hl:M.length=U.length:=by rw [<-hM,List.length_map]
 have e:(curL P M S U v i)[P.length+i]? = some (M[i]'(by omega)):=by
  unfold curL
  rw [List.getElem?_append_right (by omega),List.getElem?_append_right (by rw [List.length_map,List.length_take];omega),List.length_map,List.length_take,List.getElem?_append_left (by rw [List.length_drop];omega),List.getElem?_drop,show i+(P.length+i-P.length-min i U.length)=i by omega,List.getElem?_eq_getElem]
 rw [List.getElem?_eq_getElem h] at e
 injection e with e
 rw [e]
 subst hM
 simp
theorem Zob (L:List Rt) (j:Nat) (v:Int) (h:j<L.length):(rcs L).set (j*4+3) (.int .i64 v)=rcs (L.set j ⟨L[j].k,v⟩):=by
 have:=Zjt L j ⟨L[j].k,v⟩ h
 rw [<-this]
 apply List.ext_getElem?
 intro i
 simp only [List.getElem?_set,List.length_set,Zaz]
 have c0:=Zcc L j 0 h (by omega)
 have c1:=Zcc L j 1 h (by omega)
 have c2:=Zcc L j 2 h (by omega)
 unfold Zac at c0 c1 c2
 simp only [Nat.add_zero,List.getElem?_cons_zero,List.getElem?_cons_succ] at c0 c1 c2
 by_cases e3:j*4+3=i
 ·simp [e3]
 ·rw [if_neg e3,if_neg e3]
  by_cases e2:j*4+2=i
  ·subst e2
   simp [c2]
   omega
  ·rw [if_neg e2]
   by_cases e1:j*4+1=i
   ·subst e1
    simp [c1]
    omega
   ·rw [if_neg e1]
    by_cases e0:j*4=i
    ·subst e0
     simp [c0]
     omega
    ·rw [if_neg e0]
def LayR (B:Nat) (w w':World) (e:Ending) (L:List Rt):Prop:=∃p c,e = .returned (.slice p L.length c)/\w'.ownsRow B 41 4 (.slice p L.length c) L.length (rcs L)/\Below B w w'
set_option maxRecDepth 100000 in
theorem Z2p (B:Nat) (q:Option Addr) (cq:Nat) (K:List Rt) (kh kl:Nat) (kn v high:Int) (w:World) (hO:w.ownsRow B 41 4 (.slice q K.length cq) K.length (rcs K)) (hB:B<=w.heap.size)
 (g1:W64 kh) (g2:W64 kl) (hU:sprK ⟨kh,kl,kn⟩ high=[]) :
 Calls Tryz.prog 111 #[.slice q K.length cq,.agg #[.int .u64 (kh:Int),.int .u64 (kl:Int),.int .i64 kn,.int .i64 v],.int .i64 high] w fun e w'=>LayR B w w' e K:=by
 have hV:Zd7 kh kl kn high=[]:=by
  unfold sprK at hU
  exact List.map_eq_nil_iff.1 hU
 have hk:=Zta kh kl kn high g1 g2
 rw [hV] at hk
 have HK:Hid (∀W,Calls Tryz.prog 142 #[.agg #[.int .u64 (kh:Int),.int .u64 (kl:Int),.int .i64 kn],.int .i64 high] W fun e w'=>∃p c,e = .returned (.slice p 0 c)/\w'.ownsRow W.heap.size 39 3 (.slice p 0 c) 0 []/\Below W.heap.size W w'):=hid hk
 have HO:=hid hO
 clear hk hV hU hO
 go_enter Tryz.func111,Tryz.ntmps111
 go_wp2_with fail
 refine (HK.out _).mono ?_
 rintro e w1 ⟨p1,c1,rfl,ho1,hb1⟩
 have hw1:Below w.heap.size w w1:=Below.trans (by go_grown) (hb1.mono (by simp;omega))
 obtain ⟨nc,-⟩:=Zaf hb1
 have k0:=(nc w.heap.size 0 (by simp;omega)).trans (show _=some (Value.slice q K.length cq) by simp [go_sem])
 have hz:w.heap.size<w1.heap.size:=by have:=hb1.size;simp at this;omega
 clear nc ho1 hb1
 go_wp2
 go_ret
 exact ⟨q,cq,rfl,own_below HO.out (by go_grown),Below.mono (by go_grown) hB⟩
end Go.Proofs.YtgfjmgebecmbiaaGreat
