import Derived.Test.YtgfjmgebecmbiaaGreatM22d
import Derived.Test.YtgfjmgebecmbiaaGreatW22c
import Derived.Test.YtgfjmgebecmbiaaGreatW22e
set_option linter.unusedSimpArgs false
set_option linter.unusedVariables false
set_option maxHeartbeats 8000000
namespace Go.Proofs.YtgfjmgebecmbiaaGreat
open Lib(hid)
section
open M
def Zgd (a:Int) (L:List Int) (i:Nat):Int:=if i=0 then a else L.getD (i-1) 0
theorem Zhz (a:Int) (L:List Int) (i:Nat) (h:i<L.length):Zgd a L (i+1)=L[i]:=by
 unfold Zgd
 rw [if_neg (by omega),Nat.add_sub_cancel,List.getD_eq_getElem?_getD,List.getElem?_eq_getElem h]
 rfl
theorem Zk5 (a b:Int) (L:List Int) (i:Nat) (h:i<=L.length):Zgd a (b::L) (i+1)=Zgd b L i:=by
 rw [Zhz _ _ _ (by simp;omega)]
 cases i with
 | zero=>rfl
 | succ i=>
  rw [Zhz _ _ _ (by omega)]
  simp
theorem Z5i {st wd:Int}:∀(L:List Int) (a:Int),rgB st wd a L=true->∀(i:Nat) (h:i<L.length),a<=Zgd a L i/\Zgd a L i<L[i]/\L[i]-Zgd a L i<=st/\L[i]<=wd
 | b::L,a,h,0,_=>by
  simp only [rgB,Bool.and_eq_true,decide_eq_true_eq] at h
  have:=Z5h L b h.2
  exact ⟨Int.le_refl _,h.1.1,h.1.2,this⟩
 | b::L,a,h,i+1,hi=>by
  simp only [rgB,Bool.and_eq_true,decide_eq_true_eq] at h
  have hi2:i<L.length:=by simpa using hi
  have:=Z5i L b h.2 i hi2
  rw [Zk5 _ _ _ _ (by omega)]
  simp only [List.getElem_cons_succ]
  exact ⟨by omega,this.2⟩
theorem Z4k {st wd:Int}:∀(L:List Int) (a:Int),rgB st wd a L=true->(L.length:Int)<=wd-a
 | [],a,h=>by
  have:a=wd:=of_decide_eq_true h
  simp
  omega
 | b::L,a,h=>by
  simp only [rgB,Bool.and_eq_true,decide_eq_true_eq] at h
  have:=Z4k L b h.2
  rw [List.length_cons]
  omega
theorem Zji (C:List Int):∀(L:List Int) (a:Int) (i:Nat) (h:i<L.length),(Zbn C a L)[i]? = some (sumE C (Zgd a L i) L[i])
 | b::L,a,0,_=>rfl
 | b::L,a,i+1,h=>by
  have hi:i<L.length:=by simpa using h
  unfold Zbn
  rw [List.getElem?_cons_succ,Zji C L b i hi,Zk5 _ _ _ _ (by omega)]
  rfl
theorem Znd (C:List Int) (L:List Int) (a:Int) (i:Nat) (h:i<L.length):((Zbn C a L).map fl).take (i+1)=((Zbn C a L).map fl).take i++[fl (sumE C (Zgd a L i) L[i])]:=by
 rw [List.take_add_one,List.getElem?_map,Zji C L a i h]
 rfl
def cutM (S:List Int) (i:Nat):List Int:=(S.take i).map (fun n=>min n 65536)++S.drop i
theorem Z3p (S:List Int) (i:Nat):(cutM S i).length=S.length:=by
 unfold cutM
 rw [List.length_append,List.length_map,List.length_take,List.length_drop]
 omega
theorem Z6r (S:List Int) (i:Nat) (h:i<S.length):(cutM S i)[i]? = some S[i]:=by
 unfold cutM
 rw [List.getElem?_append_right (by rw [List.length_map,List.length_take];omega),List.length_map,List.length_take,Nat.min_eq_left (by omega),Nat.sub_self,List.getElem?_drop,Nat.add_zero,List.getElem?_eq_getElem h]
theorem Z3o (S:List Int) (i:Nat) (h:i<S.length):(cutM S i).set i (min S[i] 65536)=cutM S (i+1):=by
 unfold cutM
 rw [List.set_append_right _ _ (by rw [List.length_map,List.length_take];omega),List.length_map,List.length_take,Nat.min_eq_left (by omega),Nat.sub_self,List.drop_eq_getElem_cons h,List.set_cons_zero,List.take_add_one,List.getElem?_eq_getElem h,List.map_append,List.append_assoc]
 rfl
theorem Z3q (S:List Int):cutM S S.length=S.map fun n=>min n 65536:=by
 unfold cutM
 rw [List.take_of_length_le (Nat.le_refl _),List.drop_length,List.append_nil]
theorem Z3y {x:Int} (h:1<=x):((capB x:Nat):Int)=min x 65536:=by
 unfold capB
 omega
theorem Z32 (c:Cf) (levels C:List Int) (h:1<=c.le):(shL c.bt c.le ((Zbn C c.di levels).map fl)).map (fun n=>min n 65536)=toI (Zee c levels C):=by
 unfold Zee toI
 rw [List.map_map]
 refine List.map_congr_left fun x hx => ?_
 unfold shL at hx
 obtain ⟨j,-,rfl⟩:=List.mem_map.1 hx
 have:=Zga (wtF ((Zbn C c.di levels).map fl)) c.le.toNat (c.bt-c.le*((Zbn C c.di levels).map fl).length).toNat ((Zbn C c.di levels).map fl).length j
 exact (Z3y (by unfold shF;omega)).symm
end
section
open Go Go.RowKit Go.Sort M
set_option maxRecDepth 100000 in
theorem Zl2 (low st wd:Int) (p q:Option Addr) (k l:Nat) (L C:List Int) (w:World) (hL:IRow w p L) (hC:IRow w q C) (h0:0<=low) (hst:st<=20) (hwd:wd<=128) (hrg:rgB st wd low L=true) (hcl:C.length<=l) (hc1:C.length<=1000000) :
 Calls Tryz.prog 51 #[.int .i64 low,.slice p L.length k,.slice q C.length l] w fun e w'=>∃v,e = .returned v/\w'.ownsRow w.heap.size 132 1 v L.length (fcs ((Zbn C low L).map fl))/\Below w.heap.size w w':=by
 have hlen:=Z4k L low hrg
 obtain ⟨i0,hi0,iz0,iz1,iz2⟩:=info_parts Z9c
 have HL:=hid hL
 have HC:=hid hC
 have HRG:=hid (Z5i L low hrg)
 have hown0:Hid (w.ownsRow w.heap.size 132 1 (.slice none 0 0) 0 (fcs (((Zbn C low L).map fl).take 0))):=hid (World.ownsRow_nil _ _ _ _)
 clear hL hC hrg
 go_enter Tryz.func51,Tryz.ntmps51
 go_wp2
 go_loopg [0,7,14] L.length (fun kx s0 s7 s14 wr=>∃(i:Nat) (pv:Option Addr) (cv:Nat),s14 = .int .i64 (i:Int)/\s0 = .int .i64 (Zgd low L i)/\s7 = .slice pv i cv/\L.length-i<=kx/\i<=L.length/\Hid (wr.ownsRow w.heap.size 132 1 (.slice pv i cv) i (fcs (((Zbn C low L).map fl).take i)))/\Below w.heap.size w wr)
 case atStart=>exact ⟨0,none,0,rfl,rfl,rfl,by omega,by omega,hown0,by go_grown⟩
 case round=>
  clear hown0
  obtain ⟨i,pv,cv,rfl,rfl,rfl,h1,h2,HO,hb⟩:=hrel
  by_cases hi:i<L.length
  ·obtain ⟨g,o,rfl,hg,x0⟩:=(HL.out.below hb).at hi
   have hrg:=HRG.out i hi
   obtain ⟨r,hre⟩:∃r,r=sumE C (Zgd low L i) L[i]:=⟨_,rfl⟩
   have hr:=Znd C L low i hi
   have hcst:=Zv7 C (Zgd low L i) L[i] (by omega) hrg.2.1 (by omega) (by omega)
   rw [<-hre] at hr hcst
   have hpv:=Zhz low L i hi
   obtain ⟨bn,hbn⟩:=Int.eq_ofNat_of_zero_le (show 0<=L[i] by omega)
   rw [hbn] at x0 hrg hcst hpv
   rw [Int.toNat_natCast] at hcst
   have HPV:=hid hpv
   have i1:(0:Int)<=(i:Int):=by omega
   have i2:(i:Int)<(L.length:Int):=by omega
   clear hbn hre hpv
   have hlen:(C.take (bn+1)).length=((min (C.length:Int) ((bn:Int)+1)).toNat):=by rw [List.length_take];omega
   have hco:=fun W (hW:Below w.heap.size w W) y (hy:IRow W y [(bn:Int)])=>Z3s q y l 1 (C.take (bn+1)) [(bn:Int)] (Zgd low L i) W ((HC.out.below hW).take (bn+1)) hy (Nat.le_refl _) (by rw [hlen];omega) (by simp)
   rw [hcst,hlen] at hco
   have HCO:Hid (∀W,Below w.heap.size w W->∀y,IRow W y [(bn:Int)]->Calls Tryz.prog 76 #[.slice q (((min (C.length:Int) ((bn:Int)+1)).toNat)) l,.slice y 1 1,.int .i64 (Zgd low L i)] W fun e w'=>e = .returned (.tuple #[.int .i64 (r:Int),.bool true])/\Below W.heap.size W w'):=hid hco
   have HR:=hid hr
   clear hcst hlen hco
   generalize Zgd low L i=pr at *
   go_wp2_with fail
   refine (HCO.out _ (hb.alloc hb.size _) _ (Z2t _ _ _)).mono ?_
   rintro e w1 ⟨rfl,hb1⟩
   have hw1:Below wr.heap.size wr w1:=((Below.refl _ _).alloc (Nat.le_refl _) _).trans (hb1.mono (by simp))
   have hb:=hb.trans (hw1.mono hb.size)
   have hz1:=hb.size
   have HO1:=hid (own_below HO.out hw1)
   clear HCO HO hb1 hw1
   go_wp2_with (at_builtin;go_loud (refine wpList_append_own_at _ rfl (.tmp 32) (.tmp 35) 99 rfl w.heap.size 132 i0 _ 1 8 Tryz.underlying99 hi0 iz0 iz1 iz2 rfl (by decide) _ _ _ rfl (HO1.out.alloc _) ⟨w1.heap.size,0,none⟩ 1 1 [.float .f64 (floatOfInt .f64 (r:Int))] rfl rfl (Zq2 (by simp [go_sem])) (by simp [Value.oneCell']) (by unfold maxLen;omega) (by omega) (by simp;omega) ?_))
   intro v2 w2 hown2 hg2 _ _
   obtain ⟨p2,c2,rfl⟩:=Zag hown2
   rw [Zks] at hown2
   have hb2:Below w.heap.size w w2:=(hb.alloc hb.size _).grown hg2 (by simp;omega) (fun j hj=>by have:=(HO1.out.lt j hj).1;omega)
   have HO2:Hid (w2.ownsRow w.heap.size 132 1 (.slice p2 (i+1) c2) (i+1) (fcs (((Zbn C low L).map fl).take (i+1)))):=by
    rw [HR.out,Zv1,Z6g]
    exact hid hown2
   clear hown2 hg2 HO1 hb
   go_wp2
   go_roundg (L.length-(i+1))
   case measure=>omega
   case rel=>exact ⟨i+1,p2,c2,by go_num,by rw [HPV.out],rfl,by omega,by omega,HO2,hb2⟩
  ·obtain rfl:i=L.length:=by omega
   have HE:Hid (wr.ownsRow w.heap.size 132 1 (.slice pv L.length cv) L.length (fcs ((Zbn C low L).map fl))):=by
    have:=HO.out
    rw [List.take_of_length_le (by rw [List.length_map,Zc3];omega)] at this
    exact hid this
   clear HO
   go_wp2
   go_ret
   exact ⟨_,rfl,HE.out,hb⟩
def szD (B:Nat) (X:List Nat) (S:List Int) (n:Nat):Nat->Value->World->Prop
 | 8,v,W=>∃p c,v = .slice p n c/\W.ownsRow B 132 1 (.slice p n c) n (fcs X)
 | 9,v,W | 10,v,W=>∃p c e,v = .tuple #[.slice p n c,.int .i64 e]/\W.ownsRow B 3 1 (.slice p n c) n (ics S)
 | 11,v,W | 13,v,W=>∃p c,v = .slice p n c/\W.ownsRow B 3 1 (.slice p n c) n (ics S)
 | _,_,_=>True
theorem Zuh (B:Nat) (X:List Nat) (S:List Int) (n:Nat):∀i v W W',Below W.heap.size W W'->szD B X S n i v W->szD B X S n i v W':=by
 intro i v W W' hb h
 unfold szD at h ⊢
 split at h
 ·obtain ⟨p,c,h1,h2⟩:=h
  exact ⟨p,c,h1,own_below h2 hb⟩
 ·obtain ⟨p,c,e,h1,h2⟩:=h
  exact ⟨p,c,e,h1,own_below h2 hb⟩
 ·obtain ⟨p,c,e,h1,h2⟩:=h
  exact ⟨p,c,e,h1,own_below h2 hb⟩
 ·obtain ⟨p,c,h1,h2⟩:=h
  exact ⟨p,c,h1,own_below h2 hb⟩
 ·obtain ⟨p,c,h1,h2⟩:=h
  exact ⟨p,c,h1,own_below h2 hb⟩
 ·trivial
theorem Znw (bt le:Int) (p:Option Addr) (c:Nat) (X:List Nat) (w:World) (hX:Row w p (fcs X)) (h:X.length=0\/shOk bt le X.length) :
 Calls Tryz.prog 50 #[.int .i64 bt,.int .i64 le,.slice p X.length c] w fun e w'=>∃q d x,e = .returned (.tuple #[.slice q X.length d,.int .i64 x]) /\
  w'.ownsRow w.heap.size 3 1 (.slice q X.length d) X.length (ics (shL bt le X))/\Below w.heap.size w w':=by
 rcases h with h | h
 ·refine (Zup bt le p c X.length w (by omega) (fun h2=>by have:=h2.1;omega)).mono ?_
  rintro e w' ⟨rfl,hb⟩
  obtain rfl:X=[]:=List.length_eq_zero_iff.1 h
  exact ⟨none,0,1,rfl,World.ownsRow_nil _ _ _ _,hb⟩
 ·refine (Zuq bt le p c X w hX h).mono ?_
  rintro e w' ⟨q,d,rfl,h1,h2⟩
  exact ⟨q,d,0,rfl,h1,h2⟩
set_option maxRecDepth 100000 in
theorem Zql (cf:Cf) (p q:Option Addr) (k l:Nat) (L C:List Int) (w:World) (hL:IRow w p L) (hC:IRow w q C) (hok:okCf cf=true) (hri:Zc7 cf.wd cf.di cf.lv cf.st L=true) (hcl:C.length<=l) (hc1:C.length<=1000000) :
 Calls Tryz.prog 25 #[cfgA cf,.slice p L.length k,.slice q C.length l] w fun e w'=>∃p2 c2,e = .returned (.slice p2 L.length c2)/\w'.ownsRow w.heap.size 3 1 (.slice p2 L.length c2) L.length (ics (toI (Zee cf L C)))/\Below w.heap.size w w':=by
 have hok2:=hok
 unfold okCf at hok2
 obtain ⟨⟨q1,q2⟩,⟨q3,q4,q5⟩,⟨q6,q7⟩,⟨q8,q9⟩,-,⟨l1,l2⟩,⟨t1,t2⟩,-⟩:=of_decide_eq_true hok2
 have hri2:=hri
 unfold Zc7 at hri2
 simp only [Bool.and_eq_true,decide_eq_true_eq] at hri2
 have hbits:=Z32 cf L C l1
 have hwe:=fun W (h1:Below w.heap.size w W)=>Zl2 cf.di cf.st cf.wd p q k l L C W (hL.below h1) (hC.below h1) q3 (by omega) q2 hri2.2 hcl hc1
 obtain ⟨X,hX⟩:∃X,X=(Zbn C cf.di L).map fl:=⟨_,rfl⟩
 have hXl:X.length=L.length:=by rw [hX,List.length_map,Zc3]
 rw [<-hX] at hbits hwe
 have hle:cf.le*(L.length:Int)<=cf.bt:=Int.le_trans (Int.mul_le_mul_of_nonneg_left (show (L.length:Int)<=max cf.lv 1 by have:=hri2.1.2;omega) (by omega)) t1
 have hlv:(L.length:Int)<=128:=by have:=hri2.1.2;omega
 have hsh:X.length=0\/shOk cf.bt cf.le X.length:=by
  rw [hXl]
  by_cases h:L.length=0
  ·exact .inl h
  ·exact .inr ⟨by omega,by omega,l1,l2,hle,t2⟩
 have hsa:=fun W pw cw (h:Row W pw (fcs X))=>Znw cf.bt cf.le pw cw X W h hsh
 obtain ⟨S,hS⟩:∃S,S=shL cf.bt cf.le X:=⟨_,rfl⟩
 have hSl:S.length=L.length:=by rw [hS,Zxf,hXl]
 rw [<-hS] at hbits hsa
 rw [hXl] at hsa
 obtain ⟨wd,di,lv,st,hs,bt,le,bk,rt,hp⟩:=cf
 unfold cfgA
 simp only at *
 rw [<-hbits]
 have HWE:=hid hwe
 have HSA:=hid hsa
 have HSL:=hid hSl
 clear hwe hsa hsh hX hXl hS hbits hle hri hri2 hok hok2 hL hC q1 q2 q3 q4 q5 q6 q7 q8 q9 l1 l2 t1 t2
 obtain ⟨W0,hW0⟩:∃W:World,W=w.alloc (.cells #[.int .i64 wd,.int .i64 di,.int .i64 lv,.int .i64 st,.int .i64 hs,.int .i64 bt,.int .i64 le,.int .i64 bk,.int .i64 rt,.int .i64 hp] 23):=⟨_,rfl⟩
 have hw:Below w.heap.size w W0:=by rw [hW0];go_grown
 have hz:w.heap.size<W0.heap.size:=by rw [hW0];simp
 have k1:W0.cell? ⟨w.heap.size,1,none⟩=some (.int .i64 di):=by rw [hW0];simp [go_sem]
 have k5:W0.cell? ⟨w.heap.size,5,none⟩=some (.int .i64 bt):=by rw [hW0];simp [go_sem]
 have k6:W0.cell? ⟨w.heap.size,6,none⟩=some (.int .i64 le):=by rw [hW0];simp [go_sem]
 have HW:=hid hw
 clear hw
 go_enter Tryz.func25,Tryz.ntmps25
 go_upto_region 1 with fail
 rw [<-hW0]
 clear hW0
 have kg:=Zaa
 refine wp_region_noPanic ?_
 generalize hNQ:NoPanic _=NQ
 refine Zcj [0,2,4,6,7] [1,3,5] [(8,20,[]),(9,21,[(8,20)]),(10,11,[(9,21)]),(11,22,[(10,11)]),(12,23,[(10,11)]),(13,7,[(11,22)]),(14,8,[(12,23)])] [] (szD W0.heap.size X S L.length) (Zuh _ _ _ _) (by kernel_rfl) (by rw [<-hNQ];exact fun _ _ _ h=>h) (by kernel_rfl) (by kernel_rfl) (by kernel_rfl) ?_
 simp only [Zah,List.filterMap_cons,List.filterMap_nil,List.getElem?_toArray,List.getElem?_cons_succ,List.getElem?_cons_zero]
 repeat (any_goals (quiet_step (fail)))
 refine wpQuiet_nil ?_
 clear kg
 refine ⟨by rfl,⟨?_,?_,?_,?_,?_,?_,?_,trivial⟩,?_⟩
 ·intro W hW K hK o ho
  injection ho with ho
  subst ho
  go_simp
  go_at_call 51
  refine (HWE.out W (HW.out.trans (hW.mono HW.out.size))).mono ?_
  rintro e w3 ⟨v3,rfl,ho3,hb3⟩
  obtain ⟨p3,c3,rfl⟩:=Zag ho3
  exact hK _ _ hb3 ⟨p3,c3,rfl,Za4 ho3 hW.size⟩
 ·intro W hW v8 h8 K
  obtain ⟨p8,c8,rfl,ho8⟩:=h8
  go_simp
  intro hK o ho
  injection ho with ho
  subst ho
  go_simp
  go_at_call 50
  refine (HSA.out W p8 c8 (Row.of_own ho8)).mono ?_
  rintro e w3 ⟨p3,c3,x3,rfl,ho3,hb3⟩
  exact hK _ _ hb3 ⟨p3,c3,x3,rfl,Za4 ho3 hW.size⟩
 ·intro W hW v9 h9 K
  obtain ⟨p9,c9,x9,rfl,ho9⟩:=h9
  go_simp
  intro hK o ho
  injection ho with ho
  subst ho
  go_simp
  exact hK _ _ (Below.refl _ _) ⟨p9,c9,x9,rfl,ho9⟩
 ·intro W hW v9 h9 K
  obtain ⟨p9,c9,x9,rfl,ho9⟩:=h9
  go_simp
  intro hK o ho
  injection ho with ho
  subst ho
  go_simp
  exact hK _ _ (Below.refl _ _) ⟨p9,c9,rfl,ho9⟩
 ·intro W hW v9 h9 K
  obtain ⟨p9,c9,x9,rfl,ho9⟩:=h9
  go_simp
  intro hK o ho
  injection ho with ho
  subst ho
  go_simp
  exact hK _ _ (Below.refl _ _) trivial
 ·intro W hW v9 h9 K
  obtain ⟨p9,c9,rfl,ho9⟩:=h9
  go_simp
  intro hK o ho
  injection ho with ho
  subst ho
  go_simp
  exact hK _ _ (Below.refl _ _) ⟨p9,c9,rfl,ho9⟩
 ·intro W hW v9 h9 K
  clear h9
  go_simp
  intro hK o ho
  injection ho with ho
  subst ho
  go_simp
  exact hK _ _ (Below.refl _ _) trivial
 ·intro W hW v8 h8 v9 h9 v10 h10 v11 h11 v12 h12 v13 h13 v14 h14
  obtain ⟨p8,c8,rfl,-⟩:=h8
  obtain ⟨p9,c9,x9,rfl,-⟩:=h9
  obtain ⟨p10,c10,x10,rfl,-⟩:=h10
  obtain ⟨p11,c11,rfl,-⟩:=h11
  obtain ⟨p13,c13,rfl,ho⟩:=h13
  have hw1:=HW.out.trans (hW.mono HW.out.size)
  have hown:Hid (W.ownsRow w.heap.size 3 1 (.slice p13 L.length c13) L.length (ics (cutM S 0))):=hid (Za4 ho HW.out.size)
  clear h12 h14 hW ho
  show wpList _ _ _ _ _ _
  simp only [Zah,List.filterMap_nil]
  subst hNQ
  go_wp2_with fail
  refine NoPanic.normal ?_
  go_wp2
  go_loopg [26] L.length (fun kx s26 wr=>∃i:Nat,s26 = .int .i64 (i:Int)/\L.length-i<=kx/\i<=L.length/\Hid (wr.ownsRow w.heap.size 3 1 (.slice p13 L.length c13) L.length (ics (cutM S i)))/\Below w.heap.size w wr)
  case atStart=>exact ⟨0,rfl,by omega,by omega,hown,by first|exact hw1|go_grown⟩
  case round=>
   clear hown hw1
   obtain ⟨i,rfl,h1,h2,HO,hb⟩:=hrel
   by_cases hi:i<L.length
   ·obtain ⟨g,cap,cur,hv,-,hgl,-,-,-,-,-⟩:=Zbk HO.out (by omega)
    injection hv with hv1 hv2 hv3
    subst hv1 hv3
    have hi2:i<(cutM S i).length:=by rw [Z3p,HSL.out];exact hi
    obtain ⟨gx,ox,eg,-,x0⟩:=(IRow.of_own HO.out).at hi2
    injection eg with eg
    injection eg with eg eo
    subst eg eo
    have hiS:i<S.length:=by rw [HSL.out];exact hi
    have hx:(cutM S i)[i]=S[i]:=by have:=Z6r S i hiS;rw [List.getElem?_eq_getElem hi2] at this;exact Option.some.inj this
    have hset:=Z3o S i hiS
    rw [hx] at x0
    simp only [Nat.zero_add] at x0
    have fx:=HO.out.frozenAt i
    have hst:=HO.out.stored i (.int .i64 (min S[i] 65536))
    rw [Zh6,hset] at hst
    have HST:=hid hst
    generalize S[i]=x at *
    have i1:(0:Int)<=(i:Int):=by omega
    have i2:(i:Int)<(L.length:Int):=by omega
    clear hst hset hx hi2 hiS hv2
    go_wp2
    go_roundg (L.length-(i+1))
    case measure=>omega
    case rel=>exact ⟨i+1,by go_num,by omega,by omega,hid HST.out.1,hb.grown HST.out.2 hb.size (fun k e=>by injection e with e;have:=(HO.out.lt g rfl).1;omega)⟩
   ·obtain rfl:i=L.length:=by omega
    have HE:Hid (wr.ownsRow w.heap.size 3 1 (.slice p13 L.length c13) L.length (ics (S.map fun n=>min n 65536))):=by
     have:=HO.out
     rw [<-HSL.out,Z3q,HSL.out] at this
     exact hid this
    clear HO
    go_wp2
    go_ret
    exact ⟨_,_,rfl,HE.out,hb⟩
theorem Z2z:(Tryz.prog.info? 72).map (fun i=>(i.zero,i.size,i.bytes))=some (some (.agg #[.pointer none,.int .i64 0]),2,16):=by kernel_rfl
theorem Z5b (q n:Nat):tcs [(q,n)]=[.pointer (some ⟨q,0,none⟩),.int .i64 (n:Int)]:=rfl
section
variable {w1 w3:World} {K:Nat->Prop} {t:Nat} {E:Eg} {col:Nat->Nat} {v:Value} {d:Nat} {L0:List Rt} {X:List (Nat×Nat)} {p:Option Addr} {c:Nat}
theorem EngB.push {B q:Nat} {V:Lv} {p3:Option Addr} {c3:Nat} (H:EngB w1 K t E col v d L0 X p c) (hK:∀g,K g->g<B) (hB:B<=w1.heap.size) (hV:LevP w1 (fun j=>B<=j) q V)
 (hT:Touch (fun j=>(Value.slice p E.L.length c).ownBlock=some j) w1 w3) (ho:w3.ownsRow B 72 2 (.slice p3 (E.L.length+1) c3) (E.L.length+1) (tcs (X++[(q,V.C.length)]))\/w3.ownsRow 0 72 2 (.slice p3 (E.L.length+1) c3) (E.L.length+1) (tcs (X++[(q,V.C.length)])))
 (hat:(Value.slice p3 (E.L.length+1) c3).ownBlock=(Value.slice p E.L.length c).ownBlock\/∃k,(Value.slice p3 (E.L.length+1) c3).ownBlock=some k/\w1.heap.size<=k) :
 ∃col',EngB (w3.setCell ⟨t,4,none⟩ (.slice p3 (E.L.length+1) c3)) (fun j=>K j\/B<=j) t { E with L:=E.L++[V] } col' v d L0 (X++[(q,V.C.length)]) p3 c3/\Touch (fun j=>j=t\/(Value.slice p E.L.length c).ownBlock=some j) w1 (w3.setCell ⟨t,4,none⟩ (.slice p3 (E.L.length+1) c3)):=by
 have ho:w3.ownsRow 0 72 2 (.slice p3 (E.L.length+1) c3) (E.L.length+1) (tcs (X++[(q,V.C.length)])):=ho.elim (fun h=>Za4 h (Nat.zero_le _)) id
 obtain ⟨w4,hw4⟩:∃W,W=w3.setCell ⟨t,4,none⟩ (.slice p3 (E.L.length+1) c3):=⟨_,rfl⟩
 have hown:∀j,(Value.slice p E.L.length c).ownBlock=some j->col j=2/\K j:=fun j hj=>by
  cases p with
  | none=>simp [Value.ownBlock] at hj
  | some a=>
   have:=(H.kp a rfl).1
   have e:a.block=j:=by
    obtain ⟨g,o,pa⟩:=a
    simp only [Value.ownBlock] at hj
    injection hj
   rw [<-e]
   exact this
 have htv:¬(Value.slice p E.L.length c).ownBlock=some t:=fun e=>by
  have:=(hown t e).1
  have:=H.kt.1
  omega
 have hs2:w4.heap.size=w3.heap.size:=by rw [hw4];exact World.size_setCell _ _ _
 have hT2:Touch (fun j=>j=t) w3 w4:=by
  rw [hw4]
  exact ⟨rfl,rfl,rfl,by rw [World.size_setCell];exact Nat.le_refl _,fun k _ hn=>Below.heap_setCell w3 ⟨t,4,none⟩ _ k (by simpa using hn)⟩
 have hT3:Touch (fun j=>j=t\/(Value.slice p E.L.length c).ownBlock=some j) w1 w4:=(hT.mono fun _ _ h => .inr h).trans (hT2.mono fun _ _ h => .inl h)
 have hb:=hT.block t H.lt htv
 have hc:∀j,w3.cell? ⟨t,j,none⟩=w1.cell? ⟨t,j,none⟩:=fun j=>World.cell?_of_block (a:=⟨t,j,none⟩) hb
 have ne:∀j,j≠4->w4.cell? ⟨t,j,none⟩=w1.cell? ⟨t,j,none⟩:=fun j hj=>by
  rw [hw4,World.cell?_setCell_other]
  ·exact hc j
  ·intro e
   injection e with _ e2
   exact hj e2.symm
 have hsz:=hT.size
 have hlt4:(Value.slice p3 (E.L.length+1) c3).ownBlock≠some t:=by
  rcases hat with e | ⟨k,e,hk⟩
  ·rw [e];exact htv
  ·rw [e]
   intro e2
   injection e2 with e2
   have:=H.lt
   omega
 have ho4:=Touch.own ho hT2 (fun j hj e=>hlt4 (by rw [hj,e]))
 have hS:∀j,(j=t\/(Value.slice p E.L.length c).ownBlock=some j)->(col j=0\/col j=2)/\K j:=fun j hj=>by
  rcases hj with rfl | hj
  ·exact ⟨.inl H.kt.1,H.kt.2⟩
  ·exact ⟨.inr (hown j hj).1,(hown j hj).2⟩
 refine ⟨fun j=>if j<B then col j else if j<w1.heap.size then E.L.length+4 else 2,?_,by rw [<-hw4];exact hT3⟩
 rw [<-hw4]
 have hcB:∀j,K j->(if j<B then col j else if j<w1.heap.size then E.L.length+4 else 2)=col j:=fun j hj=>if_pos (hK j hj)
 have hp3:∀a,p3=some a->(Value.slice p3 (E.L.length+1) c3).ownBlock=some a.block:=fun a ha=>by
  subst ha
  rfl
 refine ⟨Nat.lt_of_lt_of_le H.lt hT3.size,(ne 0 (by decide)).trans H.c0,(ne 1 (by decide)).trans H.c1,(ne 2 (by decide)).trans H.c2,(ne 3 (by decide)).trans H.c3,?_,fun j => ?_,Touch.own H.own hT3 (fun j hj x=>by have:=(hS j x).1;have:=(H.kv j hj).1;omega),
  Row.of_own ho4,?_,fun k hk hk2 => ?_,?_,fun k hk hk2 => ?_,?_,⟨(hcB t H.kt.2).trans H.kt.1,.inl H.kt.2⟩,fun j hj=>⟨(hcB j (H.kv j hj).2).trans (H.kv j hj).1,.inl (H.kv j hj).2⟩,fun a ha => ?_⟩
 ·rw [List.length_append,hw4]
  exact World.cell?_setCell_same _ _ _ ((hc 4).trans H.c4)
 ·rw [hw4,World.frozen?_setCell]
  exact (World.frozen?_of_block (a:=⟨t,j,none⟩) hb).trans (H.f j)
 ·rw [List.length_append,List.length_append,H.xl]
  rfl
 ·by_cases h:k<X.length
  ·have h2:k<E.L.length:=by rw [<-H.xl];exact h
   rw [List.getElem_append_left h,List.getElem_append_left h2]
   exact H.xc k h h2
  ·have e1:k=X.length:=by rw [List.length_append] at hk;simp at hk;omega
   subst e1
   rw [List.getElem_append_right (Nat.le_refl _),List.getElem_append_right (by rw [H.xl];exact Nat.le_refl _)]
   simp
 ·rw [List.length_append]
  exact Zbl ho
 ·by_cases h:k<X.length
  ·have h2:k<E.L.length:=by rw [<-H.xl];exact h
   rw [List.getElem_append_left h]
   simp only [List.getElem_append_left h2]
   exact ((H.lev k h h2).touched hT3 (fun j hj x=>by have:=(hS j x).1;have:=hj.1;omega)).mono fun j hj=>⟨(hcB j hj.2).trans hj.1,.inl hj.2⟩
  ·have e1:k=X.length:=by rw [List.length_append] at hk;simp at hk;omega
   subst e1
   have hl:=H.xl
   have hg1:(X++[(q,V.C.length)])[X.length]=(q,V.C.length):=by rw [List.getElem_append_right (Nat.le_refl _)];simp
   have hg2:(E.L++[V])[X.length]=V:=by rw [List.getElem_append_right (by omega)];simp
   rw [hg1]
   simp only [hg2]
   refine (hV.old.touched hT3 (fun j hj x=>by have:=hK j (hS j x).2;have:=hj.1;omega)).mono fun j hj=>⟨?_,.inr hj.1⟩
   rw [if_neg (by have:=hj.1;omega),if_pos hj.2,hl]
 ·exact (H.dir.touched hT3 (fun j hj x=>by have:=(hS j x).1;have:=hj.1;omega)).mono fun j hj=>⟨(hcB j hj.2).trans hj.1,.inl hj.2⟩
 ·have h1:=hp3 a ha
  have h2:=(ho4.lt a.block h1).2
  rcases hat with e | ⟨k,e,hk⟩
  ·rw [e] at h1
   have h3:=hown _ h1
   exact ⟨⟨(hcB _ h3.2).trans h3.1,.inl h3.2⟩,h2⟩
  ·rw [e] at h1
   injection h1 with h1
   subst h1
   exact ⟨⟨by rw [if_neg (by omega),if_neg (by omega)],.inr (by omega)⟩,h2⟩
end
set_option maxRecDepth 100000 in
theorem Zyf (c:Cf) (s:Nat) (L C:List Int) (p q:Option Addr) (k l:Nat) (w:World) (ws:W64 s) (hL:IRow w p L) (hlen:L.length<=1000) (hlw:∀x∈L,x<=9223372036854775807) (hbad:okE c L=false) :
 Calls Tryz.prog 8 #[cfgA c,.int .u64 (s:Int),.slice p L.length k,.slice q C.length l] w fun e w'=>e = .returned (.tuple #[.pointer none,.int .i64 1])/\Below w.heap.size w w':=by
 have hr:=Zgb c
 have hf:=fun W (h:Below w.heap.size w W)=>Zpe c p k L W (hL.below h) (by omega) hlw
 unfold okE at hbad
 obtain ⟨wd,di,lv,st,hs,bt,le,bk,rt,hp⟩:=c
 unfold cfgA at hr hf ⊢
 simp only at hf hbad ⊢
 generalize okCf ⟨wd,di,lv,st,hs,bt,le,bk,rt,hp⟩=b1 at hr hbad
 generalize Zc7 wd di lv st L=b2 at hf hbad
 obtain ⟨W0,hW0⟩:∃W:World,W=w.alloc (.cells #[.int .i64 wd,.int .i64 di,.int .i64 lv,.int .i64 st,.int .i64 hs,.int .i64 bt,.int .i64 le,.int .i64 bk,.int .i64 rt,.int .i64 hp] 23):=⟨_,rfl⟩
 have hw:Below w.heap.size w W0:=by rw [hW0];go_grown
 have hz:w.heap.size<W0.heap.size:=by rw [hW0];simp
 have k0:W0.cell? ⟨w.heap.size,0,none⟩=some (.int .i64 wd):=by rw [hW0];simp [go_sem]
 have k1:W0.cell? ⟨w.heap.size,1,none⟩=some (.int .i64 di):=by rw [hW0];simp [go_sem]
 have k2:W0.cell? ⟨w.heap.size,2,none⟩=some (.int .i64 lv):=by rw [hW0];simp [go_sem]
 have k3:W0.cell? ⟨w.heap.size,3,none⟩=some (.int .i64 st):=by rw [hW0];simp [go_sem]
 have k4:W0.cell? ⟨w.heap.size,4,none⟩=some (.int .i64 hs):=by rw [hW0];simp [go_sem]
 have k5:W0.cell? ⟨w.heap.size,5,none⟩=some (.int .i64 bt):=by rw [hW0];simp [go_sem]
 have k6:W0.cell? ⟨w.heap.size,6,none⟩=some (.int .i64 le):=by rw [hW0];simp [go_sem]
 have k7:W0.cell? ⟨w.heap.size,7,none⟩=some (.int .i64 bk):=by rw [hW0];simp [go_sem]
 have k8:W0.cell? ⟨w.heap.size,8,none⟩=some (.int .i64 rt):=by rw [hW0];simp [go_sem]
 have k9:W0.cell? ⟨w.heap.size,9,none⟩=some (.int .i64 hp):=by rw [hW0];simp [go_sem]
 have HR:=hid hr
 have HF:=hid hf
 clear hr hf hL hlw
 go_enter Tryz.func8,Tryz.ntmps8
 go_upto_region 1 with fail
 rw [<-hW0]
 clear hW0
 go_wp2_with fail
 refine (HR.out _).mono ?_
 rintro e w1 ⟨rfl,hb1⟩
 obtain ⟨hc1,hf1⟩:=Zaf hb1
 have k0:=(hc1 _ _ hz).trans k0
 have k1:=(hc1 _ _ hz).trans k1
 have k2:=(hc1 _ _ hz).trans k2
 have k3:=(hc1 _ _ hz).trans k3
 have k4:=(hc1 _ _ hz).trans k4
 have k5:=(hc1 _ _ hz).trans k5
 have k6:=(hc1 _ _ hz).trans k6
 have k7:=(hc1 _ _ hz).trans k7
 have k8:=(hc1 _ _ hz).trans k8
 have k9:=(hc1 _ _ hz).trans k9
 have hw:=hw.trans (hb1.mono hw.size)
 have hz:=Nat.lt_of_lt_of_le hz hb1.size
 clear hc1 hf1 hb1
 cases b1 with
 | false=>
  go_wp2
  go_ret2
  exact ⟨rfl,hw⟩
 | true=>
  have hb2:b2=false:=by simpa using hbad
  subst hb2
  go_wp2_with fail
  refine (HF.out _ hw).mono ?_
  rintro e w2 ⟨rfl,hb2⟩
  have hw2:=hw.trans (hb2.mono hw.size)
  go_wp2
  go_ret2
  exact ⟨rfl,hw2⟩
end
end Go.Proofs.YtgfjmgebecmbiaaGreat
