import Derived.Test.YtgfjmgebecmbiaaGreatW12a
import Derived.Shelf.GgSortFunc.SmallK
import Derived.Shelf.SlSortFuncK.ComposeK
import Derived.Shelf.SlSortFuncK.BreakPatternsK
import Derived.Test.YtgfjmgebecmbiaaGreatRT1
set_option linter.unusedSimpArgs false
set_option linter.unusedVariables false
set_option maxHeartbeats 4000000
namespace Go.Proofs.YtgfjmgebecmbiaaGreat
open Lib(hid)
open Go.RowKit Go.Sort M
theorem Z28 (lo hi f s:Nat) (k:Int) (C:List Nat) (h l:Nat) (n:Int) (w:World) (H:Fil w lo hi f s k C) (wh:W64 h) (wl:W64 l) :
 Calls Tryz.prog 101 #[.pointer (some ⟨f,0,none⟩),.agg #[.int .u64 h,.int .u64 l,.int .i64 n]] w fun e w'=>e = .returned (.tuple #[]) /\
  Fil w' lo hi f s k (remL C (plc s h l n k C.length))/\Touch (In lo hi) w w':=by
 have hP:∀wx,Fil wx lo hi f s k C->Calls Tryz.prog 88 #[.pointer (some ⟨f,0,none⟩),.agg #[.int .u64 h,.int .u64 l,.int .i64 n]] wx fun e w'=>∃p c,e = .returned (.slice p (plc s h l n k C.length).length c) /\
  w'.ownsRow wx.heap.size 3 1 (.slice p (plc s h l n k C.length).length c) (plc s h l n k C.length).length (ics (plc s h l n k C.length))/\Below wx.heap.size wx w':=fun wx H=>Zgg lo hi f s k C h l n wx H wh wl
 have hL16:=Zqv s h l n k C.length
 generalize plc s h l n k C.length=L at *
 have HP:=hid hP
 have HC:=hid H
 clear hP H
 go_enter Tryz.func101,Tryz.ntmps101
 go_wp2_with fail
 refine (HP.out _ (HC.out.below (by go_grown))).mono ?_
 rintro e w1 ⟨p,c,rfl,hown,hb1⟩
 have hw1:Below w.heap.size w w1:=Below.trans (by go_grown) (hb1.mono (by go_size))
 have hown2:=Za4 (B':=w.heap.size) hown (by go_size)
 have HC1:=hid (HC.out.below hw1)
 have htop:hi<=w.heap.size:=by
  obtain ⟨g1,h1,g2,h2,H⟩:=HC.out
  exact H.top
 obtain ⟨g1,h1,g2,h2,H⟩:=HC1.out
 clear hown hb1 HC1 HP
 go_wp2
 go_loopw [10] (fun i10 wr=>∃i:Nat,i<=L.length/\i10 = .int .i64 i/\FilB wr lo hi f g1 h1 g2 h2 s k (remL C (L.take i)) (onsC (remL C (L.take i)))/\wr.ownsRow w.heap.size 3 1 (.slice p L.length c) L.length (ics L)/\Touch (In lo hi) w wr) (fun i10 _=>L.length-(intOf i10).toNat)
 case atStart=>exact ⟨0,Nat.zero_le _,rfl,H,hown2,Touch.of_below hw1 (fun k h1 h2=>absurd h1 (by omega))⟩
 case round=>
  clear H hown2 hw1
  obtain ⟨i,hi2,rfl,H,hown,ht⟩:=hrel
  have hz:=ht.size
  by_cases hlt:i<L.length
  ·obtain ⟨gr,orr,rfl,hgr,d0⟩:=(IRow.of_own hown).at hlt
   have hsn:=Zxl C L i hlt
   have hlow:=(hown.lt gr rfl).1
   generalize hx:L[i]=x at *
   generalize hA:remL C (L.take i)=A at *
   have HSN:=hid hsn
   clear hx hA hsn
   have c2:=H.c2
   have hl:=H.lt
   have HH:=hid H
   have HO:=hid hown
   clear H hown
   go_wp2_with fail
   refine (Z3j _ _ _ _ x _ HH.out.cs).mono ?_
   rintro e w2 ⟨rfl,hN2,hg2⟩
   obtain ⟨H2,ht2⟩:=HH.out.turnC hN2 (Zkd _ _) hg2
   have hown2:=Touch.own HO.out ht2 (fun j e hj=>by cases e;exact absurd (show gr<hi from hj.2) (by omega))
   have ht3:=ht.trans ht2
   have c2:=H2.c2
   have c3:=H2.c3
   have hl2:=H2.lt
   obtain ⟨v,hv⟩:∃v:Nat,v=getN (Zb4 A x) x:=⟨_,rfl⟩
   have hgt:∀wx,Below w2.heap.size w2 wx->Calls Tryz.prog 131 #[.pointer (some ⟨g1,0,none⟩),.int .i64 x] wx fun e w'=>e = .returned (.int .i64 (v:Int))/\Below wx.heap.size wx w':=by
    intro wx hb
    rw [hv]
    exact Zez _ _ _ _ x _ (H2.cs.below hb)
   have HG:=hid hgt
   have hod:=Z14 A x
   rw [<-hv] at hod
   have HOD:=hid hod
   have HH2:=hid H2
   have HO2:=hid hown2
   clear H2 hown2 hN2 hg2 ht2 ht hgt hv hod
   go_wp2_with fail
   have kg:=Zaa
   refine Zaj 12 (by kernel_rfl) (by kernel_rfl) ?_
   simp only [List.take_succ_cons,List.take_zero,List.drop_succ_cons,List.drop_zero]
   repeat (any_goals (first|go_big_quiet_step ((exact Calls.regrown_of (HG.out _ (below_regrown _ _ _))))|quiet_step ((exact Calls.regrown_of (HG.out _ (below_regrown _ _ _))))))
   refine wpQuiet_nil ?_
   clear kg
   intro w3 hb3
   obtain ⟨hc3,hf3⟩:=Zaf hb3
   have HH3:=hid (HH2.out.below hb3)
   have hown3:=Touch.own HO2.out (Touch.quiet hb3 (S:=In lo hi)) (fun j e hj=>by cases e;exact absurd (show gr<hi from hj.2) (by omega))
   have HO3:=hid hown3
   have ht3b:=ht3.trans (Touch.quiet hb3)
   clear HH2 HO2 hown3 hb3
   go_wp2_with fail
   refine (Zt1 _ _ _ _ x _ _ HH3.out.bs).mono ?_
   rintro e w4 ⟨rfl,hN3,hg3⟩
   obtain ⟨H3,ht4⟩:=HH3.out.turnD hN3 (Zsg _ _ _) hg3
   have hown3:=Touch.own HO3.out ht4 (fun j e hj=>by cases e;exact absurd (show gr<hi from hj.2) (by omega))
   have ht5:=ht3b.trans ht4
   rw [show ((v:Int) != 0)=decide (v≠0) by rw [Bool.eq_iff_iff];simp,HOD.out,<-HSN.out] at H3
   clear hN3 hg3 ht3 ht4
   go_wp2
   go_roundw
   case rel=>exact ⟨i+1,by omega,by go_num,H3,hown3,ht5⟩
   case measure=>simp [intOf];omega
  ·go_wp2
   go_end0
   rw [List.take_of_length_le (by omega)] at H
   exact ⟨rfl,⟨_,_,_,_,H⟩,ht⟩
theorem Z3c (lo hi f s:Nat) (k:Int) (C:List Nat) (h l:Nat) (n:Int) (w:World) (H:Fil w lo hi f s k C) (wh:W64 h) (wl:W64 l) (hm:1<=C.length) :
 Calls Tryz.prog 67 #[.pointer (some ⟨f,0,none⟩),.agg #[.int .u64 h,.int .u64 l,.int .i64 n]] w fun e w'=>e = .returned (.bool (mayL C (plc s h l n k C.length)))/\Below w.heap.size w w':=by
 have hP:∀wx,Fil wx lo hi f s k C->Calls Tryz.prog 88 #[.pointer (some ⟨f,0,none⟩),.agg #[.int .u64 h,.int .u64 l,.int .i64 n]] wx fun e w'=>∃p c,e = .returned (.slice p (plc s h l n k C.length).length c) /\
  w'.ownsRow wx.heap.size 3 1 (.slice p (plc s h l n k C.length).length c) (plc s h l n k C.length).length (ics (plc s h l n k C.length))/\Below wx.heap.size wx w':=fun wx H=>Zgg lo hi f s k C h l n wx H wh wl
 have hL16:=Zqv s h l n k C.length
 have HLN:Hid (∀wx,Fil wx lo hi f s k C->Calls Tryz.prog 87 #[.pointer (some ⟨f,0,none⟩)] wx fun e w'=>e = .returned (.int .i64 (C.length:Int))/\Below wx.heap.size wx w'):=hid (fun wx H=>Ztm lo hi f s k C wx H)
 generalize plc s h l n k C.length=L at *
 have HP:=hid hP
 have HC:=hid H
 clear hP H
 go_enter Tryz.func67,Tryz.ntmps67
 go_wp2_with fail
 refine (HLN.out _ (HC.out.below (by go_grown))).mono ?_
 rintro e w0 ⟨rfl,hb0⟩
 have hw0:Below w.heap.size w w0:=Below.trans (by go_grown) (hb0.mono (by go_size))
 have hz0:=hw0.size
 have b0:w0.cell? ⟨w.heap.size,0,none⟩=some (.int .u64 h):=by
  rw [hb0.cell (by simp<;>omega)]
  first|assumption|(simp [go_sem];done)|(simp [go_sem, *];done)
 have b1:w0.cell? ⟨w.heap.size,1,none⟩=some (.int .u64 l):=by
  rw [hb0.cell (by simp<;>omega)]
  first|assumption|(simp [go_sem];done)|(simp [go_sem, *];done)
 have b2:w0.cell? ⟨w.heap.size,2,none⟩=some (.int .i64 n):=by
  rw [hb0.cell (by simp<;>omega)]
  first|assumption|(simp [go_sem];done)|(simp [go_sem, *];done)
 have hzb:w.heap.size<w0.heap.size:=by have:=hb0.size;simp at this;omega
 go_wp2_with fail
 refine (HP.out _ (HC.out.below (by go_grown))).mono ?_
 rintro e w1 ⟨p,c,rfl,hown,hb1⟩
 have hw1:Below w.heap.size w w1:=hw0.trans (hb1.mono hz0)
 have hown2:=Za4 (B':=w.heap.size) hown hz0
 obtain ⟨g1,h1,g2,h2,H⟩:=HC.out.below hw1
 clear hown hb1 HP hb0 hw0 hz0 HLN
 have c3:=H.c3
 have hl:=H.lt
 have hz1:=hw1.size
 have HB:=hid H.bs
 have HRW:=hid (IRow.of_own hown2)
 clear H hown2
 go_wp2
 go_loopw [14] (fun i14 wr=>∃i:Nat,i<=L.length/\i14 = .int .i64 i/\Hid (∀j (hj:j<L.length),j<i->getN C L[j]≠0)/\Below w1.heap.size w1 wr) (fun i14 _=>L.length-(intOf i14).toNat)
 case atStart=>exact ⟨0,Nat.zero_le _,rfl,hid (fun j _ h=>absurd h (by omega)),Below.refl _ _⟩
 case round=>
  obtain ⟨i,hi2,rfl,hall,hb⟩:=hrel
  have hz:=hb.size
  have hc3:=(hb.cell (p:=⟨f,3,none⟩) hl).trans c3
  by_cases hlt:i<L.length
  ·obtain ⟨gr,orr,rfl,hgr,d0⟩:=(HRW.out.below hb).at hlt
   generalize hx:L[i]=x at *
   by_cases hg:getN C x=0
   ·have hno:=Z54 hlt (by rw [hx];exact hg)
    have HNO:=hid hno
    have HGE:Hid (getB (onsC C) x=false):=hid (by rw [Ztk];simp [hg])
    clear hx hg hno
    go_wp2_with fail
    refine (Zt6 _ _ _ _ x _ (HB.out.below hb)).mono ?_
    rintro e w2 ⟨rfl,hb2⟩
    rw [HGE.out]
    go_wp2
    go_ret
    exact ⟨Zai HNO.out.symm,hw1.trans ((hb.trans (hb2.mono hz)).mono hz1)⟩
   ·have HGE:Hid (getB (onsC C) x=true):=hid (by rw [Ztk];simp [hg])
    have HN2:Hid (∀j (hj:j<L.length),j<i+1->getN C L[j]≠0):=by
     intro j hj hji
     by_cases e:j=i
     ·subst e
      rw [hx]
      exact hg
     ·exact hall.out j hj (by omega)
    clear hx hg hall
    go_wp2_with fail
    refine (Zt6 _ _ _ _ x _ (HB.out.below hb)).mono ?_
    rintro e w2 ⟨rfl,hb2⟩
    rw [HGE.out]
    have hbb:=hb.trans (hb2.mono hz)
    go_wp2
    go_roundw
    case rel=>exact ⟨i+1,by omega,by go_num,HN2,hbb⟩
    case measure=>simp [intOf];omega
  ·go_wp2
   go_ret
   exact ⟨Zai (Zs0 (fun j hj=>hall.out j hj (by omega))).symm,hw1.trans (hb.mono hz1)⟩
theorem Z3b (s:Nat) (k m:Int) (h:¬(1<=k/\k<=16/\1<=m/\m<=65536)) (w:World) :
 Calls Tryz.prog 52 #[.int .u64 s,.int .i64 k,.int .i64 m] w fun e w'=>e = .returned (.tuple #[.pointer none,.int .i64 1])/\Below w.heap.size w w':=by
 by_cases k0:k<1
 ·go_enter Tryz.func52,Tryz.ntmps52
  go_wp2
  go_ret2
  exact ⟨rfl,by go_grown⟩
 ·by_cases k1:16<k
  ·go_enter Tryz.func52,Tryz.ntmps52
   go_wp2
   go_ret2
   exact ⟨rfl,by go_grown⟩
  ·by_cases m0:m<1
   ·go_enter Tryz.func52,Tryz.ntmps52
    go_wp2
    go_ret2
    exact ⟨rfl,by go_grown⟩
   ·have m1:65536<m:=by omega
    clear h
    go_enter Tryz.func52,Tryz.ntmps52
    go_wp2
    go_ret2
    exact ⟨rfl,by go_grown⟩
theorem Ztl (s:Nat) (k m:Int) (ws:W64 s) (k0:1<=k) (k1:k<=16) (m0:1<=m) (m1:m<=65536) (w:World) :
 Calls Tryz.prog 52 #[.int .u64 s,.int .i64 k,.int .i64 m] w fun e w'=>∃f,e = .returned (.tuple #[.pointer (some ⟨f,0,none⟩),.int .i64 0])/\Fil w' w.heap.size w'.heap.size f s k (List.replicate m.toNat 0)/\Below w.heap.size w w':=by
 have hm:min m.toNat 65536=m.toNat:=by omega
 have HM:=hid hm
 clear hm
 go_enter Tryz.func52,Tryz.ntmps52
 go_wp2_with fail
 refine (Z5z m (by omega) (by omega) _).mono ?_
 rintro e w1 ⟨v,rfl,⟨g1,h1,rfl,N1⟩,hb1⟩
 have hw1:Below w.heap.size w w1:=Below.trans (by go_grown) (hb1.mono (by go_size))
 have hz1:=hw1.size
 have N1':=N1.le (B':=w.heap.size) (by go_size)
 rw [HM.out] at N1'
 clear N1 hb1
 go_wp2_with fail
 refine (Z31 m (by omega) (by omega) _).mono ?_
 rintro e w2 ⟨v,rfl,⟨g2,h2,rfl,N2⟩,hb2⟩
 have hw2:Below w.heap.size w w2:=hw1.trans (hb2.mono hz1)
 have hz2:=hb2.size
 rw [HM.out] at N2
 have HN1:=hid N1'
 have HN2:=hid N2
 have HB2:=hid hb2
 clear N1' N2 hb2
 go_wp2
 go_ret2
 have a1:=HN1.out.lt
 have a2:=HN1.out.low2
 have b1:=HN2.out.low
 have b2:=HN2.out.lt
 have b3:=HN2.out.low2
 refine ⟨w2.heap.size,rfl,⟨g1,h1,g2,h2,?_⟩,by go_grown⟩
 refine ⟨by simp [go_sem],by simp [go_sem],by simp [go_sem],by simp [go_sem],(HN1.out.below HB2.out).kept (World.grownBy_alloc _ _ none) (by simp) (by simp),?_,by simp [onsC],by simp,⟨by omega,by simp⟩,⟨by simp;omega,by simp;omega⟩,⟨by simp;omega,by simp;omega⟩,⟨by omega,by omega,by omega⟩,⟨by omega,by omega,by omega⟩,ws⟩
 rw [Zx9]
 exact (HN2.out.le hz1).kept (World.grownBy_alloc _ _ none) (by simp) (by simp)
end Go.Proofs.YtgfjmgebecmbiaaGreat
namespace Go.Proofs
open Go.Shelf
def Tryz.laysGg6_ren:Go.Shelf.Ren:=⟨fun | 6=>95 | 10=>121 | 11=>122 | 12=>123 | 13=>124 | 14=>125 | 24=>156 | 25=>157 | 26=>158 | 27=>159 | 28=>160 | 29=>161 | 30=>162 | 31=>163 | 32=>164 | 33=>165 | 34=>178 | 35=>179 | 36=>180 | 37=>181 | 38=>182 | 39=>188 | n=>n,fun | 20=>20 | 26=>157 | 35=>176 | 0=>0 | 37=>178 | 3=>3 | 41=>109 | 44=>183 | 49=>198 | 51=>24 | 4=>4 | 54=>201 | 53=>200 | 58=>73 | 5=>5 | 9=>9 | 60=>214 | 64=>218 | 66=>224 | 67=>148 | 17=>17 | 32=>173 | 33=>174 | 82=>242 | 12=>12 | 75=>235 | 76=>236 | 77=>237 | 78=>238 | 79=>239 | 80=>240 | n=>n,fun | n=>n⟩
theorem Tryz.laysGg6:Go.Proofs.LaysGg.n6 Tryz.prog Tryz.laysGg6_ren:={
 mixed:=by kernel_rfl
 f6:=Tryz.func95.trans (congrArg some (by kernel_rfl))
 f10:=Tryz.func121.trans (congrArg some (by kernel_rfl))
 f11:=Tryz.func122.trans (congrArg some (by kernel_rfl))
 f12:=Tryz.func123.trans (congrArg some (by kernel_rfl))
 f13:=Tryz.func124.trans (congrArg some (by kernel_rfl))
 f14:=Tryz.func125.trans (congrArg some (by kernel_rfl))
 f24:=Tryz.func156.trans (congrArg some (by kernel_rfl))
 f25:=Tryz.func157.trans (congrArg some (by kernel_rfl))
 f26:=Tryz.func158.trans (congrArg some (by kernel_rfl))
 f27:=Tryz.func159.trans (congrArg some (by kernel_rfl))
 f28:=Tryz.func160.trans (congrArg some (by kernel_rfl))
 f29:=Tryz.func161.trans (congrArg some (by kernel_rfl))
 f30:=Tryz.func162.trans (congrArg some (by kernel_rfl))
 f31:=Tryz.func163.trans (congrArg some (by kernel_rfl))
 f32:=Tryz.func164.trans (congrArg some (by kernel_rfl))
 f33:=Tryz.func165.trans (congrArg some (by kernel_rfl))
 f34:=Tryz.func178.trans (congrArg some (by kernel_rfl))
 f35:=Tryz.func179.trans (congrArg some (by kernel_rfl))
 f36:=Tryz.func180.trans (congrArg some (by kernel_rfl))
 f37:=Tryz.func181.trans (congrArg some (by kernel_rfl))
 f38:=Tryz.func182.trans (congrArg some (by kernel_rfl))
 f39:=Tryz.func188.trans (congrArg some (by kernel_rfl))
 t0:=Tryz.underlying0
 a0:=Tryz.isAgg0
 z0:=Tryz.sizeOf0
 v0:=Tryz.zeroValue0
 i0:=by kernel_rfl
 t3:=Tryz.underlying3
 a3:=Tryz.isAgg3
 z3:=Tryz.sizeOf3
 v3:=Tryz.zeroValue3
 i3:=by kernel_rfl
 t4:=Tryz.underlying4
 a4:=Tryz.isAgg4
 z4:=Tryz.sizeOf4
 v4:=Tryz.zeroValue4
 i4:=by kernel_rfl
 t5:=Tryz.underlying5
 a5:=Tryz.isAgg5
 z5:=Tryz.sizeOf5
 v5:=Tryz.zeroValue5
 i5:=by kernel_rfl
 t9:=Tryz.underlying9
 a9:=Tryz.isAgg9
 z9:=Tryz.sizeOf9
 v9:=Tryz.zeroValue9
 i9:=by kernel_rfl
 t12:=Tryz.underlying12
 a12:=Tryz.isAgg12
 z12:=Tryz.sizeOf12
 v12:=Tryz.zeroValue12
 i12:=by kernel_rfl
 t17:=Tryz.underlying17
 a17:=Tryz.isAgg17
 z17:=Tryz.sizeOf17
 v17:=Tryz.zeroValue17
 i17:=by kernel_rfl
 t20:=Tryz.underlying20
 a20:=Tryz.isAgg20
 z20:=Tryz.sizeOf20
 v20:=Tryz.zeroValue20
 i20:=by kernel_rfl
 t26:=Tryz.underlying157
 a26:=Tryz.isAgg157
 z26:=Tryz.sizeOf157
 v26:=Tryz.zeroValue157
 i26:=by kernel_rfl
 t32:=Tryz.underlying173
 a32:=Tryz.isAgg173
 z32:=Tryz.sizeOf173
 v32:=Tryz.zeroValue173
 i32:=by kernel_rfl
 t33:=Tryz.underlying174
 a33:=Tryz.isAgg174
 z33:=Tryz.sizeOf174
 v33:=Tryz.zeroValue174
 i33:=by kernel_rfl
 t35:=Tryz.underlying176
 a35:=Tryz.isAgg176
 z35:=Tryz.sizeOf176
 v35:=Tryz.zeroValue176
 i35:=by kernel_rfl
 t37:=Tryz.underlying178
 a37:=Tryz.isAgg178
 z37:=Tryz.sizeOf178
 v37:=Tryz.zeroValue178
 i37:=by kernel_rfl
 t41:=Tryz.underlying109
 a41:=Tryz.isAgg109
 z41:=Tryz.sizeOf109
 v41:=Tryz.zeroValue109
 i41:=by kernel_rfl
 t44:=Tryz.underlying183
 a44:=Tryz.isAgg183
 z44:=Tryz.sizeOf183
 v44:=Tryz.zeroValue183
 i44:=by kernel_rfl
 t49:=Tryz.underlying198
 a49:=Tryz.isAgg198
 z49:=Tryz.sizeOf198
 v49:=Tryz.zeroValue198
 i49:=by kernel_rfl
 t51:=Tryz.underlying24
 a51:=Tryz.isAgg24
 z51:=Tryz.sizeOf24
 v51:=Tryz.zeroValue24
 i51:=by kernel_rfl
 t53:=Tryz.underlying200
 a53:=Tryz.isAgg200
 z53:=Tryz.sizeOf200
 v53:=Tryz.zeroValue200
 i53:=by kernel_rfl
 t54:=Tryz.underlying201
 a54:=Tryz.isAgg201
 z54:=Tryz.sizeOf201
 v54:=Tryz.zeroValue201
 i54:=by kernel_rfl
 t58:=Tryz.underlying73
 a58:=Tryz.isAgg73
 z58:=Tryz.sizeOf73
 v58:=Tryz.zeroValue73
 i58:=by kernel_rfl
 t60:=Tryz.underlying214
 a60:=Tryz.isAgg214
 z60:=Tryz.sizeOf214
 v60:=Tryz.zeroValue214
 i60:=by kernel_rfl
 t64:=Tryz.underlying218
 a64:=Tryz.isAgg218
 z64:=Tryz.sizeOf218
 v64:=Tryz.zeroValue218
 i64:=by kernel_rfl
 t66:=Tryz.underlying224
 a66:=Tryz.isAgg224
 z66:=Tryz.sizeOf224
 v66:=Tryz.zeroValue224
 i66:=by kernel_rfl
 t67:=Tryz.underlying148
 a67:=Tryz.isAgg148
 z67:=Tryz.sizeOf148
 v67:=Tryz.zeroValue148
 i67:=by kernel_rfl
 t75:=Tryz.underlying235
 a75:=Tryz.isAgg235
 z75:=Tryz.sizeOf235
 v75:=Tryz.zeroValue235
 i75:=by kernel_rfl
 t76:=Tryz.underlying236
 a76:=Tryz.isAgg236
 z76:=Tryz.sizeOf236
 v76:=Tryz.zeroValue236
 i76:=by kernel_rfl
 t77:=Tryz.underlying237
 a77:=Tryz.isAgg237
 z77:=Tryz.sizeOf237
 v77:=Tryz.zeroValue237
 i77:=by kernel_rfl
 t78:=Tryz.underlying238
 a78:=Tryz.isAgg238
 z78:=Tryz.sizeOf238
 v78:=Tryz.zeroValue238
 i78:=by kernel_rfl
 t79:=Tryz.underlying239
 a79:=Tryz.isAgg239
 z79:=Tryz.sizeOf239
 v79:=Tryz.zeroValue239
 i79:=by kernel_rfl
 t80:=Tryz.underlying240
 a80:=Tryz.isAgg240
 z80:=Tryz.sizeOf240
 v80:=Tryz.zeroValue240
 i80:=by kernel_rfl
 t82:=Tryz.underlying242
 a82:=Tryz.isAgg242
 z82:=Tryz.sizeOf242
 v82:=Tryz.zeroValue242
 i82:=by kernel_rfl }
end Go.Proofs
namespace Go.Proofs.YtgfjmgebecmbiaaGreat
open Lib(hid)
open Go.RowKit Go.Sort M
theorem Zpd (T:Tab) (j:Nat) (h:j<T.B.length):(T.B.take (j+1)).flatMap allC=(T.B.take j).flatMap allC++allC (T.bk j):=by
 rw [List.take_succ_eq_append_getElem h,List.flatMap_append,Zrw T j h]
 simp
theorem Zrn (T:Tab) (h4:∀i,i<T.B.length->(T.bk i).length=4):∀j,j<=T.B.length->((T.B.take j).flatMap allC).length<=j*4
 | 0,_=>by simp
 | j+1,h=>by
  have ih:=Zrn T h4 j (by omega)
  have:=Znb (T.bk j)
  rw [h4 j (by omega)] at this
  rw [Zpd T j (by omega),List.length_append]
  omega
set_option maxRecDepth 100000 in
theorem Zs5 (t g:Nat) (v:Value) (T:Tab) (m:Int) (w:World) (H:CT w t g v T m) (h:Num T) (hf:T.st.length<1048576) :
 Calls Tryz.prog 94 #[.pointer (some ⟨t,0,none⟩)] w fun e w'=>Zcf w w' e (Zae T):=by
 have hl:=H.tb.tlt
 have c1:=H.tb.c1
 have h4:∀i,i<T.B.length->(T.bk i).length=4:=fun i hi=>(H.tb.bk i hi).four
 have hFL:=hid (Zrn T h4)
 have hhi:=h.hi
 have HA:=hid (fun x (hx:x<T.B.length) w (H:CT w t g v T m)=>Z0r g (x*20) (T.bk x) w (H.tb.bk x hx))
 have HH:=hid H
 clear H h h4
 go_enter Tryz.func94,Tryz.ntmps94
 go_wp2
 go_loopw [3,4,10] (fun s3 s4 i wr=>∃(j:Nat) (L:List Rt),j<=T.B.length/\i = .int .i64 (j:Int)/\Hid (L=(T.B.take j).flatMap allC)/\L.length<=262144/\Hid (wr.ownsRow w.heap.size 41 4 s3 L.length (rcs L))/\Below w.heap.size w wr) (fun _ _ i _=>T.B.length-(intOf i).toNat)
 case atStart=>exact ⟨0,[],by omega,rfl,rfl,by simp,World.ownsRow_nil _ _ _ _,by go_grown⟩
 case round=>
  obtain ⟨j,L,hj,rfl,hL,hLl,hown,hb⟩:=hrel
  by_cases hlt:j<T.B.length
  ·have HH1:=hid (HH.out.below hb)
   have c1:=HH1.out.tb.c1
   have hl1:=HH1.out.tb.tlt
   have i1:(0:Int)<=(j:Int):=by omega
   have i2:(j:Int)<(T.B.length:Int):=by omega
   have hz:=hb.size
   have hfl:=hFL.out (j+1) (by omega)
   have hsn:=Zpd T j hlt
   rw [hsn,List.length_append,<-hL.out] at hfl
   have HSN:=hid hsn
   have HAL:=hid hfl
   have HA1:=hid (HA.out j hlt wr HH1.out)
   clear hsn hfl
   go_wp2_with fail
   refine HA1.out.mono ?_
   rintro e w2 ⟨p,c,rfl,hown2,hb2⟩
   have hownL:=hid (own_below hown.out hb2)
   have hown2:=hid hown2
   have hw2:=hb.trans (hb2.mono hb.size)
   have hz2:=hw2.size
   have hAl:=HAL.out
   obtain ⟨N,hN⟩:∃N,N=L++allC (T.bk j):=⟨_,rfl⟩
   have hl3:N.length<=262144:=by rw [hN,List.length_append];omega
   have HN:=hid hN
   clear hb2 hown HA1 hN
   go_wp2_with (at_builtin;go_loud (refine Zcg rfl (.tmp 13) (.tmp 20) rfl w.heap.size wr.heap.size _ _ L (allC (T.bk j)) N HN.out rfl rfl hownL.out hown2.out (by omega) (by omega) ?_))
   intro v3 w3 hown3 hg3 hat
   have hw3:Below w.heap.size w w3:=hw2.grown hg3 hz2 (fun k hk=>(hownL.out.lt k hk).1)
   have hO3:=hid hown3
   clear hown3 hg3 hat
   go_wp2
   go_roundw
   case rel=>exact ⟨j+1,N,by omega,by go_num,by show _=_;rw [HSN.out,HN.out,hL.out],hl3,hO3,hw3⟩
   case measure=>simp [intOf];omega
  ·have hjn:j=T.B.length:=by omega
   have HH1:=hid (HH.out.below hb)
   have c2:=HH1.out.tb.c2
   have hl1:=HH1.out.tb.tlt
   have hz:=hb.size
   have hE:Zae T=L++T.st:=by
    unfold Zae
    rw [hL.out,hjn,List.take_length]
   have HE:=hid hE
   clear hE
   go_wp2_with (at_builtin;go_loud (refine Zcg rfl (.tmp 23) (.tmp 27) rfl w.heap.size 0 _ _ L T.st (Zae T) HE.out rfl rfl hown.out HH1.out.tb.own (by omega) (by omega) ?_))
   intro v3 w3 hown3 hg3 hat
   have hw3:Below w.heap.size w w3:=hb.grown hg3 hz (fun k hk=>(hown.out.lt k hk).1)
   obtain ⟨p3,c3,rfl⟩:=Zag hown3
   have hO3:=hid hown3
   clear hown3 hg3 hat
   go_wp2
   go_ret
   exact ⟨p3,c3,rfl,hO3.out,hw3⟩
set_option maxRecDepth 100000 in
theorem Zjj (t g:Nat) (v:Value) (T:Tab) (m:Int) (k:Ky) (w:World) (H:CT w t g v T m) (hs:Sorted T.st) (hf:T.st.length<1048576) :
 Calls Tryz.prog 128 #[.pointer (some ⟨t,0,none⟩),kyV k] w fun e w'=>e = .returned (.bool (Zaw T.st k).isSome)/\Zar w w' t g v { T with st:=outS T.st k } m:=by
 cases h:Zaw T.st k with
 | none=>
  rw [Zok h]
  have HS:=hid (fun w H=>Zb1 t g v T m k w H hs hf)
  rw [Zgr h] at HS
  have HH:=hid H
  have hl:=H.tb.tlt
  have hge:(-1:Int)<0:=by omega
  clear H hs h
  unfold kyV at *
  go_enter Tryz.func128,Tryz.ntmps128
  go_wp2_with fail
  refine (HS.out _ (HH.out.below (by go_grown))).mono ?_
  rintro e w1 ⟨rfl,hb1⟩
  have hw1:Below w.heap.size w w1:=Below.trans (by go_grown) (hb1.mono (by go_size))
  have HH1:=hid (HH.out.below hw1)
  clear hb1
  go_wp2
  go_ret
  exact ⟨rfl,Zar.quiet HH.out hw1⟩
 | some i=>
  obtain ⟨-,hi,hik⟩:=(Zcz T.st k hs).1 i h
  rw [Zd5 T.st k i hs h,List.eraseIdx_eq_take_drop_succ]
  have HS:=hid (fun w H=>Zb1 t g v T m k w H hs hf)
  rw [Ziz h] at HS
  have HH:=hid H
  have hl:=H.tb.tlt
  obtain ⟨gr,c,cur,hv,-,hgr,hg,h1,h2,h3,h4⟩:=Zbk H.tb.own (by omega)
  obtain ⟨q,hq⟩:∃q,T.st.length=q+1:=⟨T.st.length-1,by omega⟩
  have htgr:t≠gr:=by
   have:=H.tb.tv
   rw [hv] at this
   intro e
   exact this (by simp [Value.ownBlock,e])
  have hob:v.ownBlock=some gr:=by rw [hv];rfl
  have hge:¬(i:Int)<0:=by omega
  have hwr:IntKind.i64.wrap ((i:Int)+1)=(i:Int)+1:=by rw [IntKind.wrap_i64];omega
  rw [hq] at h1 h4 hv hi hf
  have HD:=hid (fun w1 hg=>Zpi gr c q i cur T.st w1 hq hg h1 h2 h3 h4 hi (by omega))
  have HG:=hid hg
  have HV:=hid hv
  have HOB:=hid hob
  have HLEN:=hid (show (T.st.take i++T.st.drop (i+1)).length=q by rw [List.length_append,List.length_take,List.length_drop];omega)
  clear H hs h hik hg h1 h2 h3 h4 hv hob hq hf hi
  generalize T.st.take i++T.st.drop (i+1)=L at *
  unfold kyV at *
  go_enter Tryz.func128,Tryz.ntmps128
  go_wp2_with fail
  refine (HS.out _ (HH.out.below (by go_grown))).mono ?_
  rintro e w1 ⟨rfl,hb1⟩
  have hw1:Below w.heap.size w w1:=Below.trans (by go_grown) (hb1.mono (by go_size))
  have HH1:=hid (HH.out.below hw1)
  clear hb1
  have c2:=HH1.out.tb.c2
  rw [HV.out] at c2
  have f2:=HH1.out.tb.f 2
  have hl1:=HH1.out.tb.tlt
  go_wp2_with fail
  refine (HD.out w1 ((hw1.block gr hgr).trans HG.out)).mono ?_
  rintro e w2 ⟨rfl,hown,hgb⟩
  have hN:=HH1.out.newStash (st':=L) (v' := .slice (some ⟨gr,0,none⟩) q c) (by rw [HOB.out];exact hgb) (by rw [HLEN.out];exact hown) (.inl HOB.out.symm)
  have hbl:=hgb.block t hl1 (by intro e;injection e with e;exact htgr e)
  have c2:=(World.cell?_of_block (a:=⟨t,2,none⟩) hbl).trans c2
  have f2:=(World.frozen?_of_block (a:=⟨t,2,none⟩) hbl).trans f2
  have hl2:=Nat.lt_of_lt_of_le hl1 hgb.size
  have HF:=hid hN
  clear hN hbl hgb hown
  go_wp2
  go_ret
  exact ⟨rfl,Zar.trans (Touch.quiet hw1) (fun _ h _=>h) ⟨_,_,HF.out⟩⟩
set_option maxRecDepth 100000 in
theorem Zc8 (t g:Nat) (v:Value) (T:Tab) (m:Int) (r:Rt) (w:World) (H:CT w t g v T m) (h:Num T) (hk:r.k.good) (hs:Sorted T.st) (hf:T.st.length<1048576) :
 Calls Tryz.prog 132 #[.pointer (some ⟨t,0,none⟩),kyV r.k,.int .i64 r.v] w fun e w'=>e = .returned (.bool (Zc9 T r).isSome)/\CT w' t g v ((Zc9 T r).getD T) m/\Touch (Blk t g v) w w':=by
 have HT:=hid (fun w H=>Zca t g v T m r.k w H h hk)
 have HS:=hid (fun w H=>Zb1 t g v T m r.k w H hs hf)
 have HG:=hid (fun x (hx:x<T.B.length) w (H:CT w t g v T m)=>Ze1 g (x*20) (T.bk x) r.k w (H.tb.bk x hx))
 have HP:=hid (fun x (hx:x<T.B.length) w (H:CT w t g v T m)=>Zby g (x*20) (T.bk x) r.k r.v w (H.tb.bk x hx))
 have HH:=hid H
 have hx1:=h.x1_lt r.k
 have hx2:=h.x2_lt r.k
 have hl:=H.tb.tlt
 have HR:Hid (Zc9 T r=if (getC (T.bk (T.x1 r.k)) r.k).isSome then some (T.set (T.x1 r.k) ((putC (T.bk (T.x1 r.k)) r.k r.v).getD (T.bk (T.x1 r.k)))) else if (getC (T.bk (T.x2 r.k)) r.k).isSome then some (T.set (T.x2 r.k) ((putC (T.bk (T.x2 r.k)) r.k r.v).getD (T.bk (T.x2 r.k)))) else if (Zaw T.st r.k).isSome then some { T with st:=Zao T.st r } else none):=rfl
 generalize hX1:T.x1 r.k=x1 at *
 generalize hX2:T.x2 r.k=x2 at *
 clear hX1 hX2 H h
 unfold kyV at *
 go_enter Tryz.func132,Tryz.ntmps132
 go_wp2_with fail
 refine (HT.out _ (HH.out.below (by go_grown))).mono ?_
 rintro e w1 ⟨rfl,hb1⟩
 have hw1:Below w.heap.size w w1:=Below.trans (by go_grown) (hb1.mono (by go_size))
 have d0:w1.cell? ⟨w.heap.size,0,none⟩=some (.int .u64 (r.k.h:Int)):=by
  rw [hb1.cell (by simp<;>omega)]
  first|assumption|(simp [go_sem];done)|(simp [go_sem, *];done)
 have d1:w1.cell? ⟨w.heap.size,1,none⟩=some (.int .u64 (r.k.l:Int)):=by
  rw [hb1.cell (by simp<;>omega)]
  first|assumption|(simp [go_sem];done)|(simp [go_sem, *];done)
 have d2:w1.cell? ⟨w.heap.size,2,none⟩=some (.int .i64 r.k.n):=by
  rw [hb1.cell (by simp<;>omega)]
  first|assumption|(simp [go_sem];done)|(simp [go_sem, *];done)
 have hz1:w.heap.size<w1.heap.size:=by
  have hs:=hb1.size
  try simp only [World.size_alloc,World.size_setCell] at hs
  omega
 clear hb1
 go_wp2
 obtain ⟨L0,hL0⟩:∃x,x=w1.heap.size:=⟨_,rfl⟩
 rw [<-hL0]
 have hz1':w.heap.size<L0:=by omega
 go_loopw [10,11,12,24] (fun s10 s11 s12 i wr=>∃(j:Nat),j<=2/\i = .int .i64 (j:Int)/\(1<=j->(getC (T.bk x1) r.k).isSome=false)/\(2<=j->(getC (T.bk x2) r.k).isSome=false)/\wr.cell? ⟨w.heap.size,0,none⟩=some (.int .u64 (r.k.h:Int))/\wr.cell? ⟨w.heap.size,1,none⟩=some (.int .u64 (r.k.l:Int))/\wr.cell? ⟨w.heap.size,2,none⟩=some (.int .i64 r.k.n) /\
  wr.cell? ⟨L0,0,none⟩=some (.int .i64 (x1:Int))/\wr.cell? ⟨L0,1,none⟩=some (.int .i64 (x2:Int))/\L0<wr.heap.size/\Below w.heap.size w wr) (fun _ _ _ i _=>2-(intOf i).toNat)
 case atStart=>
  exact ⟨0,by omega,rfl,fun h=>absurd h (by omega),fun h=>absurd h (by omega),(World.cell?_alloc_lt w1 _ ⟨w.heap.size,0,none⟩ hz1).trans d0,(World.cell?_alloc_lt w1 _ ⟨w.heap.size,1,none⟩ hz1).trans d1,(World.cell?_alloc_lt w1 _ ⟨w.heap.size,2,none⟩ hz1).trans d2,by rw [hL0];simp [go_sem],by rw [hL0];simp [go_sem],by rw [hL0];simp,by go_grown⟩
 case round=>
  clear d0 d1 d2 hz1 hL0 hw1
  obtain ⟨j,hj,rfl,hn1,hn2,d0,d1,d2,e0,e1,hz,hb⟩:=hrel
  have HN1:=hid hn1
  have HN2:=hid hn2
  clear hn1 hn2
  by_cases hlt:j<2
  ·obtain ⟨x,hx,he⟩:∃x,x<T.B.length/\((j=0/\x=x1)\/(j=1/\x=x2)):=by
    rcases (show j=0\/j=1 by omega) with e | e
    ·exact ⟨x1,hx1,.inl ⟨e,rfl⟩⟩
    ·exact ⟨x2,hx2,.inr ⟨e,rfl⟩⟩
   have ej:wr.cell? ⟨L0,j,none⟩=some (.int .i64 (x:Int)):=by
    rcases he with ⟨rfl,rfl⟩ | ⟨rfl,rfl⟩
    ·exact e0
    ·exact e1
   have HE:=hid he
   have HH1:=hid (HH.out.below hb)
   have c1:=HH1.out.tb.c1
   have hlr:=HH1.out.tb.tlt
   have i1:(0:Int)<=(x:Int):=by omega
   have i2:(x:Int)<(T.B.length:Int):=by omega
   have hz0:=hb.size
   have hzw:w.heap.size<wr.heap.size:=by omega
   have HG1:=hid (HG.out x hx)
   clear he
   cases hgx:(getC (T.bk x) r.k).isSome with
   | true=>
    rw [hgx] at HG1
    have HGX:=hid hgx
    clear hgx
    go_wp2_with fail
    have kg:=Zaa
    refine Zab (by kernel_rfl) (by kernel_rfl) ?_
    repeat (any_goals (first|go_big_quiet_step ((exact Calls.regrown_of (HG1.out _ (HH1.out.below (below_regrown _ _ _)))))|quiet_step ((exact Calls.regrown_of (HG1.out _ (HH1.out.below (below_regrown _ _ _)))))))
    refine wpQuiet_nil ?_
    clear kg
    intro w2 hb2
    obtain ⟨hc2,hf2⟩:=Zaf hb2
    have HH2:=hid (HH1.out.below hb2)
    have c1:=(hc2 _ _ hlr).trans c1
    have d0:=(hc2 _ _ (by omega)).trans d0
    have d1:=(hc2 _ _ (by omega)).trans d1
    have d2:=(hc2 _ _ (by omega)).trans d2
    have hlr2:=Nat.lt_of_lt_of_le hlr hb2.size
    have hw2:=hb.trans (hb2.mono hb.size)
    have hz2:=hw2.size
    have hz3:w.heap.size<w2.heap.size:=by have:=hb2.size;omega
    clear hc2 hf2 hb2 e0 e1 ej HH1 hlr
    go_wp2_with fail
    have kg:=Zaa
    refine Zaj 8 (by kernel_rfl) (by kernel_rfl) ?_
    simp only [List.take_succ_cons,List.take_zero,List.drop_succ_cons,List.drop_zero]
    repeat (any_goals (first|go_big_quiet_step (fail)|quiet_step (fail)))
    refine wpQuiet_nil ?_
    clear kg
    intro w3 hb3
    obtain ⟨hc3,hf3⟩:=Zaf hb3
    have HH3:=hid (HH2.out.below hb3)
    have hw3:=hw2.trans (hb3.mono hw2.size)
    clear hc3 hf3 hb3
    go_wp2_with fail
    refine (HP.out x hx _ HH3.out).mono ?_
    rintro e w4 ⟨rfl,hB4,hT4⟩
    obtain ⟨hC4,ht4⟩:=HH3.out.turn hx hT4 hB4
    have hE:Zc9 T r=some (T.set x ((putC (T.bk x) r.k r.v).getD (T.bk x))):=by
     rw [HR.out]
     rcases HE.out with ⟨-,rfl⟩ | ⟨hj1,rfl⟩
     ·rw [if_pos HGX.out]
     ·rw [if_neg (by rw [HN1.out (by omega)];decide),if_pos HGX.out]
    rw [Zu1 HGX.out]
    have HF:=hid (And.intro hC4 ((Touch.quiet hw3 (S:=Blk t g v)).trans ht4))
    have HEE:=hid hE
    clear hC4 ht4 hB4 hT4 hE
    go_wp2
    go_ret
    rw [HEE.out]
    exact ⟨rfl,HF.out.1,HF.out.2⟩
   | false=>
    rw [hgx] at HG1
    have HGX:=hid hgx
    clear hgx
    go_wp2_with fail
    have kg:=Zaa
    refine Zab (by kernel_rfl) (by kernel_rfl) ?_
    repeat (any_goals (first|go_big_quiet_step ((exact Calls.regrown_of (HG1.out _ (HH1.out.below (below_regrown _ _ _)))))|quiet_step ((exact Calls.regrown_of (HG1.out _ (HH1.out.below (below_regrown _ _ _)))))))
    refine wpQuiet_nil ?_
    clear kg
    intro w2 hb2
    obtain ⟨hc2,hf2⟩:=Zaf hb2
    have d0:=(hc2 _ _ (by omega)).trans d0
    have d1:=(hc2 _ _ (by omega)).trans d1
    have d2:=(hc2 _ _ (by omega)).trans d2
    have e0:=(hc2 _ _ (by omega)).trans e0
    have e1:=(hc2 _ _ (by omega)).trans e1
    have hw2:=hb.trans (hb2.mono hb.size)
    have hz2:=Nat.lt_of_lt_of_le hz hb2.size
    clear hc2 hf2 hb2 HH1 hlr
    go_wp2
    go_roundw
    case rel=>
     refine ⟨j+1,by omega,by go_num,fun _ => ?_,fun h2 => ?_,d0,d1,d2,e0,e1,hz2,hw2⟩
     ·rcases HE.out with ⟨-,rfl⟩ | ⟨hj1,rfl⟩
      ·exact HGX.out
      ·exact HN1.out (by omega)
     ·rcases HE.out with ⟨hj0,-⟩ | ⟨-,rfl⟩
      ·omega
      ·exact HGX.out
    case measure=>simp [intOf];omega
  ·have hj2:j=2:=by omega
   have hE:Zc9 T r=if (Zaw T.st r.k).isSome then some { T with st:=Zao T.st r } else none:=by
    rw [HR.out,if_neg (by rw [HN1.out (by omega)];decide),if_neg (by rw [HN2.out (by omega)];decide)]
   have HH1:=hid (HH.out.below hb)
   have HS1:=hid (HS.out wr HH1.out)
   cases hfs:Zaw T.st r.k with
   | none=>
    rw [hfs] at hE
    have HEE:=hid hE
    rw [Zgr hfs] at HS1
    clear hE hfs
    go_wp2_with fail
    refine HS1.out.mono ?_
    rintro e w2 ⟨rfl,hb2⟩
    have hw2:=hb.trans (hb2.mono hb.size)
    clear hb2
    go_wp2
    go_ret
    rw [HEE.out]
    exact ⟨rfl,HH.out.below hw2,Touch.quiet hw2⟩
   | some i=>
    obtain ⟨-,hi,hik⟩:=(Zcz T.st r.k hs).1 i hfs
    have hip:=Zex T.st r i hs hfs
    have hhop:=Zxq T.st i hi r.v
    rw [hik] at hhop
    rw [hfs] at hE
    have HEE:=hid hE
    rw [Ziz hfs] at HS1
    have HIP:=hid hip
    have HHOP:=hid hhop
    clear hE hfs hip hhop
    go_wp2_with fail
    refine HS1.out.mono ?_
    rintro e w2 ⟨rfl,hb2⟩
    have hw2:=hb.trans (hb2.mono hb.size)
    have HH2:=hid (HH.out.below hw2)
    have hown:=HH2.out.tb.own
    obtain ⟨gs,cap,cur,hv,-,hgl,-⟩:=Zbk hown (by omega)
    subst hv
    have c2:=HH2.out.tb.c2
    have hl2:=HH2.out.tb.tlt
    obtain ⟨gr,o,e,hgr,r0,r1,r2,r3⟩:=(Row.of_own hown).rt hi
    injection e with e
    injection e with e1' e2'
    subst e1' e2'
    rw [Nat.zero_add] at r3
    have hfz:=hown.frozenAt (i*4+3)
    have i1:(0:Int)<=(i:Int):=by omega
    have i2:(i:Int)<(T.st.length:Int):=by omega
    have HO:=hid hown
    clear hb2 r0 r1 r2 hown
    go_wp2
    go_ret
    have hst:=HO.out.stored (i*4+3) (.int .i64 r.v)
    rw [HHOP.out,<-HIP.out] at hst
    have hlen:(Zao T.st r).length=T.st.length:=by rw [HIP.out];simp
    have hC:=HH2.out.inStash (st':=Zao T.st r) hst.2 (by rw [hlen];exact hst.1)
    rw [HEE.out]
    exact ⟨rfl,hC.1,(Touch.quiet hw2 (S:=Blk t g _)).trans hC.2⟩
end Go.Proofs.YtgfjmgebecmbiaaGreat
