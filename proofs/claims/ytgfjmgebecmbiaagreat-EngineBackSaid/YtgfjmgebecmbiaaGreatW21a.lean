/-
  The program's level in memory, how it is kept, and what New hands back. No condition but that words are words.
-/
import Derived.Test.YtgfjmgebecmbiaaGreatSortR
import Derived.Shelf.GgSortFunc.Tiny
import Derived.Test.YtgfjmgebecmbiaaGreatStb2
import Derived.Test.YtgfjmgebecmbiaaGreatW12c
import Derived.Test.YtgfjmgebecmbiaaGreatW16
import Derived.Test.YtgfjmgebecmbiaaGreatW12l
import Derived.Test.YtgfjmgebecmbiaaGreatRT9
import Derived.Test.YtgfjmgebecmbiaaGreatRT1
import Derived.Deep.RegionHeld3
import Derived.Deep.LoopGhost
import Derived.Test.YtgfjmgebecmbiaaGreatRef18
import Derived.Test.YtgfjmgebecmbiaaGreatM22
import Derived.Test.YtgfjmgebecmbiaaGreatM19b
import Derived.Test.YtgfjmgebecmbiaaGreatFil2d
set_option linter.unusedSimpArgs false
set_option linter.unusedVariables false
namespace Go.Proofs.YtgfjmgebecmbiaaGreat
open Go.RowKit Go.Sort M
set_option maxHeartbeats 1000000 in
theorem sliceR_any (g:Nat) (lb:Array Value) (lt:Rt->Rt->Bool) (hO:SWO lt) (eg:∀args w,(callFunc g args).run Tryz.prog w = .ok (.enter g args) w) (blk c:Nat) (L:List Rt) (h2:2<=L.length) (hn:L.length<4611686018427387904) (w:World)
 (hH:HoldsK rcell 4 w blk 0 L.toArray) (hl:blk<w.heap.size) (hL:LessB g lb rcell 4 lt w blk 0 L.length) :
 Calls Tryz.prog 95 #[.iface 35 (.slice (some ⟨blk,0,none⟩) L.length c),.func (.func g) #[] lb] w fun e w'=>e = .returned (.tuple #[]) /\
  ∃M:List Rt,M.Perm L/\M.Pairwise (fun a b=>lt b a=false)/\HoldsK rcell 4 w' blk 0 M.toArray/\Touch (· = blk) w w':=by
 refine Any.sort_Slice_of_pdq (P:=Tryz.prog) (ρ:=Tryz.laysGg6_ren) Tryz.laysGg6 35 41 rtT rtE (by kernel_rfl) (by kernel_rfl) (by kernel_rfl) (by kernel_rfl) 25 (fun _=>by kernel_rfl) (some ⟨blk,0,none⟩) L.length c hn 155 (by rw [rtK _ h2];kernel_rfl) (.func g) #[] lb w _ ?_
 have hB:sliceBound Tryz.prog 41 rtE 25 (some ⟨blk,0,none⟩) L.length c = #[.slice (some ⟨blk,0,none⟩) L.length c,typeHandle Tryz.prog 41]:=by
  unfold sliceBound;rw [if_neg (swapperK_gt _ _ _ h2)]
 rw [hB]
 have hlim:Lib.bitLen L.length<4611686018427387904:=Nat.lt_of_le_of_lt (Lib.bitLen_le L.length 62 (by omega) (by omega)) (by omega)
 have hsw:=swapSwapsK_of_literal (P:=Tryz.prog) (α:=Rt) false 155 (fun args W=>run_callFunc_extern Tryz.func155 (by kernel_rfl) (by kernel_rfl) (by kernel_rfl) (e:=Extern.ReflectliteSwapper.swap false) (by kernel_rfl) args W)
  41 rtE (by kernel_rfl) rcell 4 (fun _=>rfl) (by kernel_rfl) (fun _=>by kernel_rfl) rt_one blk 0 L.length c
 have hw1:RowKit.Below w.heap.size w (sliceWorld Tryz.prog Tryz.laysGg6_ren 35 (some ⟨blk,0,none⟩) L.length c w):=by unfold sliceWorld;go_grown
 have S:=(Srt.start (n:=L.length) hH hl (by simp)).below hw1
 refine (pdq_any (enc:=rcell) (k:=4) (fun _=>rfl) hO eg hL hsw hn (L.length+1) 0 L.length (Lib.bitLen L.length) L.toArray _ (by omega) (Nat.zero_le _) (Nat.le_refl _) hlim (.inl rfl) S).mono ?_
 rintro e w' ⟨rfl,hS,hT⟩
 have h:=pdq_sorts lt hO L.toArray 0 L.length (Lib.bitLen L.length) true true (Nat.zero_le _) (by simp) (.inl rfl)
 exact ⟨rfl,_,perm_list h.1,sorted_list (by rw [h.1.1];simp) h.2,hS.holds,hS.touch⟩
theorem sliceR_none (g:Nat) (lb:Array Value) (p:Option Addr) (c n:Nat) (h1:n<=1) (w:World) :
 Calls Tryz.prog 95 #[.iface 35 (.slice p n c),.func (.func g) #[] lb] w fun e w'=>e = .returned (.tuple #[])/\RowKit.Below w.heap.size w w':=by
 have hgrow:∀w' os,w'=grow w os->RowKit.Below w.heap.size w w':=by
  rintro w' os rfl
  refine ⟨rfl,rfl,rfl,by rw [size_grow];omega,fun j hj => ?_⟩
  show (_++os)[j]? = _
  rw [Array.getElem?_append_left hj]
 rcases (show n=0\/n=1 by omega) with rfl | rfl
 ·refine (Any.sort_Slice_tiny (P:=Tryz.prog) (ρ:=Tryz.laysGg6_ren) Tryz.laysGg6 35 41 rtT rtE (by kernel_rfl) (by kernel_rfl) (by kernel_rfl) (by kernel_rfl) 25 (fun _=>by kernel_rfl) p 0 c h1 147 (by kernel_rfl) (.func g) #[] lb w).mono ?_
  rintro e w' ⟨rfl,os,h⟩
  exact ⟨rfl,hgrow w' os h⟩
 ·refine (Any.sort_Slice_tiny (P:=Tryz.prog) (ρ:=Tryz.laysGg6_ren) Tryz.laysGg6 35 41 rtT rtE (by kernel_rfl) (by kernel_rfl) (by kernel_rfl) (by kernel_rfl) 25 (fun _=>by kernel_rfl) p 1 c h1 148 (by kernel_rfl) (.func g) #[] lb w).mono ?_
  rintro e w' ⟨rfl,os,h⟩
  exact ⟨rfl,hgrow w' os h⟩
set_option maxRecDepth 100000 in
set_option maxHeartbeats 1000000 in
theorem allLess_any (bx blk c n:Nat) (hn:n<1000000000) (w0:World) (hc:w0.cell? ⟨bx,0,none⟩=some (.slice (some ⟨blk,0,none⟩) n c)) (hne:bx≠blk) :
 LessB 96 #[.pointer (some ⟨bx,0,none⟩)] rcell 4 ltR w0 blk 0 n:=by
 intro W d S i j hi hj
 have hb0:bx<w0.heap.size:=World.block_lt_of_cell? w0 _ hc
 have b0:=S.touch.cell hc hne
 have hbl:bx<W.heap.size:=Nat.lt_of_lt_of_le hb0 S.touch.size
 have hl:=S.lt2
 have hs:=S.size
 have x0:=(S.holds.cell (i:=i) (c:=0) (by omega) (by decide)).1
 have x1:=(S.holds.cell (i:=i) (c:=1) (by omega) (by decide)).1
 have x2:=(S.holds.cell (i:=i) (c:=2) (by omega) (by decide)).1
 have y0:=(S.holds.cell (i:=j) (c:=0) (by omega) (by decide)).1
 have y1:=(S.holds.cell (i:=j) (c:=1) (by omega) (by decide)).1
 have y2:=(S.holds.cell (i:=j) (c:=2) (by omega) (by decide)).1
 have HL:=less_any d[i]!.k.h d[i]!.k.l d[i]!.k.n d[j]!.k.h d[j]!.k.l d[j]!.k.n
 change Gives _ _ _ (.bool (ltR d[i]! d[j]!)) at HL
 generalize ltR d[i]! d[j]! = ls at *
 change W.cell? _=some (.int .u64 (d[i]!.k.h:Int)) at x0
 change W.cell? _=some (.int .u64 (d[i]!.k.l:Int)) at x1
 change W.cell? _=some (.int .i64 d[i]!.k.n) at x2
 change W.cell? _=some (.int .u64 (d[j]!.k.h:Int)) at y0
 change W.cell? _=some (.int .u64 (d[j]!.k.l:Int)) at y1
 change W.cell? _=some (.int .i64 d[j]!.k.n) at y2
 generalize d[i]!.k=q at *
 generalize d[j]!.k=r at *
 rw [Nat.zero_add] at x0 x1 x2 y0 y1 y2
 rw [Nat.add_zero] at x0 y0
 have HL:=Lib.hid HL
 have i1:(0:Int)<=(i:Int):=by omega
 have i2:(i:Int)<(n:Int):=by omega
 have j1:(0:Int)<=(j:Int):=by omega
 have j2:(j:Int)<(n:Int):=by omega
 clear S hc hb0
 show Calls _ _ #[.int .i64 (i:Int),.int .i64 (j:Int),.pointer (some ⟨bx,0,none⟩)] _ _
 obtain ⟨w,hw⟩:∃w,w=W:=⟨_,rfl⟩
 subst hw
 go_enter Tryz.func96,Tryz.ntmps96
 go_wp2_with fail
 have kg:=cell_grow
 refine region_whole (by kernel_rfl) (by kernel_rfl) ?_
 repeat (any_goals (first|go_big_quiet_step ((exact HL.out.at _ _ _))|quiet_step ((exact HL.out.at _ _ _))))
 refine wpQuiet_nil ?_
 clear kg
 intro w1 hb1
 obtain ⟨hc1,hf1⟩:=bcell hb1
 have hw1:Below w.heap.size w w1:=by
  refine Below.trans ?_ (hb1.mono ?_)
  ·go_grown
  ·first|omega|go_size
 go_wp2
 go_ret
 exact ⟨rfl,hw1⟩
set_option maxRecDepth 100000 in
set_option maxHeartbeats 1000000 in
theorem all12_any (t g:Nat) (v:Value) (T:Tab) (m:Int) (w:World) (H:CT w t g v T m) (h:Num T) (hf:T.st.length<1048576) (hk:(keysR (contT T)).Nodup) :
 Calls Tryz.prog 72 #[.pointer (some ⟨t,0,none⟩)] w fun e w'=>∃p c M,e = .returned (.slice p M.length c)/\Row w' p (rcs M)/\M.Perm (contT T)/\Sorted M/\RowKit.Below w.heap.size w w':=by
 have hl:=H.tb.tlt
 have HLI:=Lib.hid (list_any t g v T m w H h hf)
 have hLn:(contT T).length<1000000000:=by
  have h1:=flat_le T (fun i hi=>(H.tb.bk i hi).four) T.B.length (Nat.le_refl _)
  rw [List.take_length] at h1
  have h2:=h.hi
  unfold contT
  rw [List.length_append]
  omega
 obtain ⟨L,hL⟩:∃L,L=contT T:=⟨_,rfl⟩
 rw [<-hL] at HLI hk hLn ⊢
 clear H h hf hL
 have HK:=Lib.hid hk
 clear hk
 go_enter Tryz.func72,Tryz.ntmps72
 go_wp2_with fail
 refine HLI.out.mono ?_
 rintro e w1 ⟨p,c,rfl,hown,hb1⟩
 have eg:=enters_of Tryz.func96 (by kernel_rfl) rfl
 have hz1:=hb1.size
 have hS:∀W,RowKit.Below w1.heap.size w1 W->w1.heap.size<W.heap.size->W.cell? ⟨w1.heap.size,0,none⟩=some (.slice p L.length c) ->
  Calls Tryz.prog 95 #[.iface 35 (.slice p L.length c),.func (.func 96) #[] #[.pointer (some ⟨w1.heap.size,0,none⟩)]] W fun e w'=>e = .returned (.tuple #[])/\∃M:List Rt,M.length=L.length/\M.Perm L/\Sorted M/\Row w' p (rcs M)/\RowKit.Below w.heap.size W w'/\w'.cell? ⟨w1.heap.size,0,none⟩=some (.slice p L.length c):=by
  intro W hW hz hc
  have hownW:=own_below hown hW
  by_cases h2:2<=L.length
  ·rcases hown.2 with ⟨e,h0⟩ | ⟨blk,cap',cur,e,hB,-,-,-,-,-⟩
   ·omega
   ·injection e with e1 e2 e3
    subst e1
    have hbk:blk<w1.heap.size:=(hown.lt blk rfl).2
    refine (sliceR_any _ _ ltR ltR_swo eg blk c L h2 (by omega) W (holds_own hownW) (by omega) (allLess_any w1.heap.size blk c L.length hLn W hc (by omega))).mono ?_
    rintro e w' ⟨rfl,M,m1,m2,m3,m4⟩
    refine ⟨rfl,M,m1.length_eq,m1,sorted_strict ((keysR_perm m1).nodup_iff.2 HK.out) m2,row_holds m3 (by have:=m4.size;omega),m4.below (by omega) (fun j hj=>by omega),m4.cell hc (by show w1.heap.size≠blk;omega)⟩
  ·refine (sliceR_none _ _ p c L.length (by omega) W).mono ?_
   rintro e w' ⟨rfl,hb⟩
   have hs:Sorted L:=by
    rcases L with _ | ⟨a,_ | ⟨b,L⟩⟩
    ·exact List.Pairwise.nil
    ·exact List.pairwise_singleton _ _
    ·simp at h2
   exact ⟨rfl,L,rfl,List.Perm.refl _,hs,(Row.of_own hownW).below hb,hb.mono (by have:=hW.size;omega),(hb.cell (p:=⟨w1.heap.size,0,none⟩) hz).trans hc⟩
 have HS:=Lib.hid hS
 have HOWN:=Lib.hid hown
 clear hS hown eg
 go_wp2_with fail
 refine (HS.out _ (by go_grown) (by simp) (by simp [go_sem])).mono ?_
 rintro e w2 ⟨rfl,M,m1,m2,m3,m4,hb2,b0⟩
 have hbl:w1.heap.size<w2.heap.size:=World.block_lt_of_cell? w2 _ b0
 have HM:=Lib.hid (And.intro m1 (And.intro m2 (And.intro m3 m4)))
 have hw2:RowKit.Below w.heap.size w w2:=by
  refine RowKit.Below.trans ?_ hb2
  exact hb1.trans (by go_grown)
 clear m1 m2 m3 m4 hb2
 go_wp2
 go_ret
 obtain ⟨m1,m2,m3,m4⟩:=HM.out
 exact ⟨p,c,M,by rw [m1];rfl,m4,m2,m3,hw2⟩
theorem outS_len:∀(L:List Rt) (k:Ky),(keysR L).Nodup->(outS L k).length+(if k∈keysR L then 1 else 0)=L.length
 | [],k,_=>by simp [outS,keysR]
 | a::L,k,h=>by
  have h1:a.k∉keysR L/\(keysR L).Nodup:=by
   unfold keysR at *
   rw [List.map_cons,List.nodup_cons] at h
   exact h
  have ih:=outS_len L k h1.2
  by_cases e:a.k=k
  ·have e1:outS (a::L) k=outS L k:=by unfold outS;rw [List.filter_cons,if_neg (by simp [e])]
   have e2:k∈keysR (a::L):=by unfold keysR;simp [e]
   have e3:k∉keysR L:=by rw [<-e];exact h1.1
   rw [e1,if_pos e2,List.length_cons]
   rw [if_neg e3] at ih
   omega
  ·have e1:outS (a::L) k=a::outS L k:=by unfold outS;rw [List.filter_cons,if_pos (by simp [e])]
   have e2:k∈keysR (a::L)↔k∈keysR L:=by unfold keysR;simp [Ne.symm e]
   rw [e1,List.length_cons,List.length_cons]
   by_cases hm:k∈keysR L
   ·rw [if_pos (e2.2 hm)]
    rw [if_pos hm] at ih
    omega
   ·rw [if_neg (fun x=>hm (e2.1 x))]
    rw [if_neg hm] at ih
    omega
theorem Kept.nodup {T:Tab} {N:List Rt} (H:Kept T N):(keysR (contT T)).Nodup:=(keysR_perm H.all).nodup_iff.2 H.sort.nodup
theorem Kept.del_len {T:Tab} {N:List Rt} (H:Kept T N) (k:Ky):(if (delT T k).2=true then ((contT T).length:Int)-1 else ((contT T).length:Int))=((contT (delT T k).1).length:Int):=by
 have h:=delT_ok H.inv k
 have h1:=h.2.1.length_eq
 have h2:=outS_len (contT T) k H.nodup
 by_cases e:(delT T k).2=true
 ·rw [if_pos e]
  rw [if_pos (h.2.2.1 e)] at h2
  omega
 ·rw [if_neg e]
  rw [if_neg (fun x=>e (h.2.2.2 x))] at h2
  omega
theorem Seat.del {P:Nat->Prop} (t:Nat) (T:Tab) {N:List Rt} (k:Ky) (w:World) (H:Seat P w t T) (HK:Kept T N) (hk:k.good) (hfew:(contT T).length<262144) (hP:∀k,w.heap.size<=k->P k) :
 Calls Tryz.prog 100 #[.pointer (some ⟨t,0,none⟩),kyV k] w fun e w'=>e = .returned (.bool (delT T k).2)/\Seat P w' t (delT T k).1/\Touch P w w':=by
 obtain ⟨g,v,h,hp⟩:=H
 have hst:=st_le T
 refine (delete12_any t g v T _ k w h HK.inv.num hk (by omega) (by omega) HK.inv.sort (by omega)).mono ?_
 rintro e w' ⟨rfl,g',v',h',ht,hs⟩
 rw [HK.del_len] at h'
 refine ⟨rfl,⟨g',v',h',fun k hk' => ?_⟩,ht.mono fun k _ hk=>hp k hk⟩
 by_cases e:k<w.heap.size
 ·exact hp k (hs k hk' e)
 ·exact hP k (by omega)
theorem Seat.all {P:Nat->Prop} (t:Nat) (T:Tab) {N:List Rt} (w:World) (H:Seat P w t T) (HK:Kept T N) (hfew:(contT T).length<262144) :
 Calls Tryz.prog 72 #[.pointer (some ⟨t,0,none⟩)] w fun e w'=>∃p c,e = .returned (.slice p N.length c)/\Row w' p (rcs N)/\Below w.heap.size w w':=by
 obtain ⟨g,v,h,hp⟩:=H
 have hst:=st_le T
 refine (all12_any t g v T _ w h HK.inv.num (by omega) HK.nodup).mono ?_
 rintro e w' ⟨p,c,M,rfl,hr,m1,m2,hb⟩
 have:=HK.sorted m2 m1
 subst this
 exact ⟨p,c,rfl,hr,hb⟩
structure KeepsP (w wr:World) (t:Nat) (T:Tab) (N:List Rt) (vn:Value):Prop where
 seat:Seat (fun k=>w.heap.size<=k/\vn.ownBlock≠some k) wr t T
 own:wr.ownsRow w.heap.size 41 4 vn N.length (rcs N)
 below:Below w.heap.size w wr
theorem KeepsP.quiet {w wr wx:World} {t:Nat} {T:Tab} {N:List Rt} {vn:Value} (H:KeepsP w wr t T N vn) (hb:Below wr.heap.size wr wx):KeepsP w wx t T N vn:=⟨H.seat.below hb,own_below H.own hb,H.below.trans (hb.mono H.below.size)⟩
theorem KeepsP.turn {w wr wx:World} {t:Nat} {T T':Tab} {N:List Rt} {vn:Value} (H:KeepsP w wr t T N vn) (hs:Seat (fun k=>w.heap.size<=k/\vn.ownBlock≠some k) wx t T') (ht:Touch (fun k=>w.heap.size<=k/\vn.ownBlock≠some k) wr wx):KeepsP w wx t T' N vn:=
 ⟨hs,Touch.own H.own ht (fun j e hj=>hj.2 e),H.below.trans (ht.below H.below.size fun k hk=>hk.1)⟩
theorem KeepsP.row {w wr wx:World} {t:Nat} {T:Tab} {N M:List Rt} {vn:Value} {p:Option Addr} {c:Nat} (H:KeepsP w wr t T N vn) (ho:wx.ownsRow wr.heap.size 41 4 (.slice p M.length c) M.length (rcs M)) (hb:Below wr.heap.size wr wx):KeepsP w wx t T M (.slice p M.length c):=by
 refine ⟨(H.seat.mono (Q:=fun k=>w.heap.size<=k/\(Value.slice p M.length c).ownBlock≠some k) fun k hk hp=>⟨hp.1,fun e => ?_⟩).below hb,own_le ho H.below.size,H.below.trans (hb.mono H.below.size)⟩
 have:=(ho.lt k e).1
 omega
theorem KeepsP.new {w wr:World} {t:Nat} {T:Tab} {N:List Rt} {vn:Value} (H:KeepsP w wr t T N vn):∀k,wr.heap.size<=k->w.heap.size<=k/\vn.ownBlock≠some k:=by
 intro k hk
 exact ⟨Nat.le_trans H.below.size hk,fun e=>by have:=(H.own.lt k e).2;omega⟩
end Go.Proofs.YtgfjmgebecmbiaaGreat
namespace Go.Proofs.YtgfjmgebecmbiaaGreat
open Go Go.RowKit Go.Sort M
theorem RLevB.touched {w w':World} {K S:Nat->Prop} {t:Nat} {V:Lv} {lo hi f g u b:Nat} {v:Value} (H:RLevB w K t V lo hi f g u b v) (ht:Touch S w w') (hn:∀j,K j->¬S j):RLevB w' K t V lo hi f g u b v:=
 ⟨Nat.lt_of_lt_of_le H.lt ht.size,ht.cell H.c0 (hn _ H.kt),ht.cell H.c1 (hn _ H.kt),ht.cell H.c2 (hn _ H.kt),H.fil.touched ht (fun j h1 h2=>hn _ (H.kf j ⟨h1,h2⟩)),H.tab.touched bk_rbk ht (fun j hj=>hn _ (H.kb j hj)),H.kt,H.kf,H.kb,H.tf,H.tb,H.fb⟩
theorem RLevB.below {w w':World} {K:Nat->Prop} {t:Nat} {V:Lv} {lo hi f g u b:Nat} {v:Value} (H:RLevB w K t V lo hi f g u b v) (hb:Below w.heap.size w w'):RLevB w' K t V lo hi f g u b v:=H.touched (S:=fun _=>False) (Touch.quiet hb) (fun _ _ x=>x)
theorem RLevB.mono {w:World} {K K':Nat->Prop} {t:Nat} {V:Lv} {lo hi f g u b:Nat} {v:Value} (H:RLevB w K t V lo hi f g u b v) (h:∀j,K j->K' j):RLevB w K' t V lo hi f g u b v:=
 ⟨H.lt,H.c0,H.c1,H.c2,H.fil,H.tab,h _ H.kt,fun j hj=>h _ (H.kf j hj),fun j hj=>h _ (H.kb j hj),H.tf,H.tb,H.fb⟩
theorem RLevB.fil_step {w w':World} {K:Nat->Prop} {t:Nat} {V:Lv} {lo hi f g u b:Nat} {v:Value} {C':List Nat} (H:RLevB w K t V lo hi f g u b v) (hf:RFil w' lo hi f g V.s V.k C') (ht:Touch (In lo hi) w w') :
 RLevB w' K t { V with C:=C' } lo hi f g u b v/\Touch K w w':=
 ⟨⟨Nat.lt_of_lt_of_le H.lt ht.size,ht.cell H.c0 H.tf,ht.cell H.c1 H.tf,ht.cell H.c2 H.tf,hf,H.tab.touched bk_rbk ht (fun j hj hn=>H.fb j hj hn),H.kt,H.kf,H.kb,H.tf,H.tb,H.fb⟩,ht.mono fun k _ hk=>H.kf k hk⟩
def RoundR (w wr:World) (K:Nat->Prop) (t:Nat) (V:Lv) (N:List Rt):Prop:=LvOk V N/\∃K',RLev wr K' t V/\Touch K w wr/\∀g,K' g->K g\/In w.heap.size wr.heap.size g
theorem RoundR.below {w wr w':World} {K:Nat->Prop} {t:Nat} {V:Lv} {N:List Rt} (h:RoundR w wr K t V N) (hb:Below wr.heap.size wr w'):RoundR w w' K t V N:=by
 obtain ⟨h1,K',h2,h3,h4⟩:=h
 refine ⟨h1,K',h2.below hb,h3.trans (.quiet hb),fun g hg => ?_⟩
 rcases h4 g hg with h | h
 ·exact .inl h
 ·exact .inr ⟨h.1,Nat.lt_of_lt_of_le h.2 hb.size⟩
theorem touch_then {a b c:World} {K K1:Nat->Prop} (h:Touch K a b) (hs:∀g,K1 g->K g\/a.heap.size<=g) (k:Touch K1 b c):Touch K a c:=
 ⟨k.os.trans h.os,k.tape.trans h.tape,k.output.trans h.output,Nat.le_trans h.size k.size,fun i hi hn=>(k.block i (Nat.lt_of_lt_of_le hi h.size) (fun x=>by
  rcases hs i x with h | h
  ·exact hn h
  ·omega)).trans (h.block i hi hn)⟩
structure LevB (w:World) (K:Nat->Prop) (t:Nat) (V:Lv) (lo hi f u:Nat):Prop where
 lt:t<w.heap.size
 c0:w.cell? ⟨t,0,none⟩=some (.int .i64 V.n)
 c1:w.cell? ⟨t,1,none⟩=some (.pointer (some ⟨f,0,none⟩))
 c2:w.cell? ⟨t,2,none⟩=some (.pointer (some ⟨u,0,none⟩))
 fil:Fil w lo hi f V.s V.k V.C
 tab:Seat (fun j=>K j/\¬In lo hi j/\j≠t) w u V.T
 kt:K t
 kf:∀j,In lo hi j->K j
 tf:¬In lo hi t
 pos:1<=V.C.length
def LevP (w:World) (K:Nat->Prop) (t:Nat) (V:Lv):Prop:=∃lo hi f u,LevB w K t V lo hi f u
section
variable {w w':World} {K S:Nat->Prop} {t:Nat} {V:Lv} {lo hi f u:Nat}
theorem LevB.top (H:LevB w K t V lo hi f u):hi<=w.heap.size:=by
 obtain ⟨_,_,_,_,h⟩:=H.fil
 exact h.top
theorem LevB.touched (H:LevB w K t V lo hi f u) (ht:Touch S w w') (hn:∀j,K j->¬S j):LevB w' K t V lo hi f u:=
 ⟨Nat.lt_of_lt_of_le H.lt ht.size,ht.cell H.c0 (hn _ H.kt),ht.cell H.c1 (hn _ H.kt),ht.cell H.c2 (hn _ H.kt),H.fil.touched ht (fun j h1 h2=>hn _ (H.kf j ⟨h1,h2⟩)),H.tab.touched ht (fun j hj=>hn _ hj.1),H.kt,H.kf,H.tf,H.pos⟩
theorem LevB.below (H:LevB w K t V lo hi f u) (hb:Below w.heap.size w w'):LevB w' K t V lo hi f u:=H.touched (S:=fun _=>False) (Touch.quiet hb) (fun _ _ x=>x)
theorem LevB.old (H:LevB w K t V lo hi f u):LevB w (fun j=>K j/\j<w.heap.size) t V lo hi f u:=
 ⟨H.lt,H.c0,H.c1,H.c2,H.fil,H.tab.mono fun _ hj h=>⟨⟨h.1,hj⟩,h.2⟩,⟨H.kt,H.lt⟩,fun j hj=>⟨H.kf j hj,Nat.lt_of_lt_of_le hj.2 H.top⟩,H.tf,H.pos⟩
def SeatOf (w:World) (K:Nat->Prop) (t lo hi:Nat) (j:Nat):Prop:=(K j\/w.heap.size<=j)/\¬In lo hi j/\j≠t
theorem LevB.seat (H:LevB w K t V lo hi f u):Seat (SeatOf w K t lo hi) w u V.T:=H.tab.mono fun _ _ h=>⟨.inl h.1,h.2⟩
theorem LevB.fresh (H:LevB w K t V lo hi f u):∀j,w.heap.size<=j->SeatOf w K t lo hi j:=fun j hj=>⟨.inr hj,fun h=>by
 have:=h.2
 have:=H.top
 omega,fun h=>by
 have:=H.lt
 omega⟩
theorem LevB.tab_step {T':Tab} (H:LevB w K t V lo hi f u) (hs:Seat (SeatOf w K t lo hi) w' u T') (ht:Touch (SeatOf w K t lo hi) w w') :
 LevB w' (fun j=>K j\/In w.heap.size w'.heap.size j) t { V with T:=T' } lo hi f u/\Touch K w w':=by
 refine ⟨⟨Nat.lt_of_lt_of_le H.lt ht.size,ht.cell H.c0 (fun h=>h.2.2 rfl),ht.cell H.c1 (fun h=>h.2.2 rfl),ht.cell H.c2 (fun h=>h.2.2 rfl),H.fil.touched ht (fun j h1 h2 h=>h.2.1 ⟨h1,h2⟩),hs.mono fun j hj h=>⟨?_,h.2⟩,.inl H.kt,fun j hj => .inl (H.kf j hj),H.tf,H.pos⟩,ht.mono fun j hj h => ?_⟩
 ·rcases h.1 with h | h
  ·exact .inl h
  ·exact .inr ⟨h,hj⟩
 ·rcases h.1 with h | h
  ·exact h
  ·omega
theorem LevB.fil_step {C':List Nat} (H:LevB w K t V lo hi f u) (hf:Fil w' lo hi f V.s V.k C') (ht:Touch (In lo hi) w w') (hl:C'.length=V.C.length) :
 LevB w' K t { V with C:=C' } lo hi f u/\Touch K w w':=
 ⟨⟨Nat.lt_of_lt_of_le H.lt ht.size,ht.cell H.c0 H.tf,ht.cell H.c1 H.tf,ht.cell H.c2 H.tf,hf,H.tab.touched ht (fun j hj hn=>hj.2.1 hn),H.kt,H.kf,H.tf,by show 1<=C'.length;have:=H.pos;omega⟩,ht.mono fun k _ hk=>H.kf k hk⟩
end
theorem LevP.touched {w w':World} {K S:Nat->Prop} {t:Nat} {V:Lv} (H:LevP w K t V) (ht:Touch S w w') (hn:∀j,K j->¬S j):LevP w' K t V:=by
 obtain ⟨lo,hi,f,u,H⟩:=H
 exact ⟨lo,hi,f,u,H.touched ht hn⟩
theorem LevP.below {w w':World} {K:Nat->Prop} {t:Nat} {V:Lv} (H:LevP w K t V) (hb:Below w.heap.size w w'):LevP w' K t V:=H.touched (S:=fun _=>False) (Touch.quiet hb) (fun _ _ x=>x)
set_option maxRecDepth 100000 in
set_option maxHeartbeats 2000000 in
theorem plevel_bad (n k m b:Int) (s:Nat) (w:World) (ws:W64 s) (h:badV n k m b) :
 Calls Tryz.prog 26 #[.int .i64 n,.int .u64 (s:Int),.int .i64 k,.int .i64 m,.int .i64 b] w fun e w'=>e = .returned (.tuple #[.pointer none,.int .i64 1])/\Below w.heap.size w w':=by
 unfold badV at h
 by_cases h1:n<1
 ·go_enter Tryz.func26,Tryz.ntmps26
  go_wp2
  go_ret2
  exact ⟨rfl,by go_grown⟩
 ·by_cases h2:128<n
  ·go_enter Tryz.func26,Tryz.ntmps26
   go_wp2
   go_ret2
   exact ⟨rfl,by go_grown⟩
  ·by_cases hf:1<=k/\k<=16/\1<=m/\m<=65536
   ·have hF:=Lib.hid (fnew_any s k m ws hf.1 hf.2.1 hf.2.2.1 hf.2.2.2 w)
    have hX:=Lib.hid (pmix_at s ws)
    have hB:=Lib.hid (fun W=>new_bad (mixN s) b W (by omega))
    clear h hf
    go_enter Tryz.func26,Tryz.ntmps26
    go_wp2_with fail
    refine hF.out.mono ?_
    rintro e w1 ⟨f,rfl,-,hb1⟩
    clear hF
    go_wp2_with fail
    refine (hX.out _).mono ?_
    rintro e w2 ⟨rfl,hb2⟩
    have hw2:=hb1.trans (hb2.mono hb1.size)
    clear hX hb1 hb2
    go_wp2_with fail
    refine (hB.out _).mono ?_
    rintro e w3 ⟨rfl,hb3⟩
    have hw3:=hw2.trans (hb3.mono hw2.size)
    clear hB hb3 hw2
    go_wp2
    go_ret2
    exact ⟨rfl,hw3⟩
   ·have hF:=Lib.hid (fnew_bad s k m hf w)
    clear h hf
    go_enter Tryz.func26,Tryz.ntmps26
    go_wp2_with fail
    refine hF.out.mono ?_
    rintro e w1 ⟨rfl,hb1⟩
    clear hF
    go_wp2
    go_ret2
    exact ⟨rfl,hb1⟩
set_option maxRecDepth 100000 in
set_option maxHeartbeats 2000000 in
theorem plevel_new (n k:Int) (s m b:Nat) (w:World) (ws:W64 s) (h:¬badV n k m b) :
 Calls Tryz.prog 26 #[.int .i64 n,.int .u64 (s:Int),.int .i64 k,.int .i64 (m:Int),.int .i64 (b:Int)] w fun e w'=>
  ∃t,e = .returned (.tuple #[.pointer (some ⟨t,0,none⟩),.int .i64 0])/\LevP w' (In w.heap.size w'.heap.size) t (newV n s k m b)/\Below w.heap.size w w':=by
 unfold badV at h
 obtain ⟨h1,h2,hf,h3,h4⟩:=Classical.not_not.1 h
 have hF:=Lib.hid (fnew_any s k m ws hf.1 hf.2.1 (by omega) (by omega) w)
 have hX:=Lib.hid (pmix_at s ws)
 have hB:=Lib.hid (fun W=>Seat.new (mixN s) b W (by omega) (by omega))
 have HM:Hid (1<=m):=Lib.hid (by omega)
 have n1:¬n<1:=by omega
 have n2:¬128<n:=by omega
 clear h hf h1 h2 h3 h4
 go_enter Tryz.func26,Tryz.ntmps26
 go_wp2_with fail
 refine hF.out.mono ?_
 rintro e w1 ⟨f,rfl,hfil,hb1⟩
 have HF:=Lib.hid hfil
 clear hF hfil
 go_wp2_with fail
 refine (hX.out _).mono ?_
 rintro e w2 ⟨rfl,hb2⟩
 have hw2:=hb1.trans (hb2.mono hb1.size)
 have HF2:=Lib.hid (HF.out.below hb2)
 clear hX HF
 go_wp2_with fail
 refine (hB.out _).mono ?_
 rintro e w3 ⟨u,rfl,htb,hb3⟩
 have hw3:=hw2.trans (hb3.mono hw2.size)
 have HF3:=Lib.hid (HF2.out.below hb3)
 have HT:=Lib.hid htb
 have hz1:=hb1.size
 have hz2:=hb2.size
 have hz3:=hb3.size
 clear hB hw2 HF2 htb
 go_wp2
 go_ret2
 refine ⟨w3.heap.size,rfl,⟨w.heap.size,w1.heap.size,f,u,?_⟩,by go_grown⟩
 have hbl:Below w3.heap.size w3 (w3.alloc (.cells #[.int .i64 n,.pointer (some ⟨f,0,none⟩),.pointer (some ⟨u,0,none⟩)] 108)):=by go_grown
 have hsz:(w3.alloc (.cells #[.int .i64 n,.pointer (some ⟨f,0,none⟩),.pointer (some ⟨u,0,none⟩)] 108)).heap.size=w3.heap.size+1:=by simp
 have hfl:=HF3.out.below hbl
 rw [Int.toNat_natCast] at hfl
 refine ⟨by simp,by simp [go_sem,newV],by simp [go_sem],by simp [go_sem],hfl,?_,⟨by omega,by omega⟩,fun j hj=>⟨hj.1,by have:=hj.2;omega⟩,fun hj=>by have:=hj.2;omega,by simpa [newV] using HM.out⟩
 refine ((HT.out.mono (Q:=fun j=>w2.heap.size<=j/\j<w3.heap.size) fun j hj h=>⟨h,hj⟩).below hbl).mono fun j hj h=>⟨⟨by omega,by omega⟩,fun x => ?_,?_⟩
 ·have:=x.2
  omega
 ·omega
end Go.Proofs.YtgfjmgebecmbiaaGreat
