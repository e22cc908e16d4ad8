import Derived.Test.YtgfjmgebecmbiaaGreatW19a
set_option linter.unusedSimpArgs false
set_option linter.unusedVariables false
set_option maxHeartbeats 4000000
namespace Go.Proofs.YtgfjmgebecmbiaaGreat
open Lib(hid)
open Go Go.RowKit Go.Sort M
theorem Zl5 (D:List Rt) (i:Nat) (v:Rt) (h:i<D.length):(D.set i v).take (i+1)=D.take i++[v]:=by
 rw [List.take_succ_eq_append_getElem (by rw [List.length_set];exact h),List.getElem_set_self,List.take_set]
 congr 1
 rw [List.set_eq_of_length_le (by rw [List.length_take];omega)]
theorem Zzx {D L:List Rt} {j:Nat} (h:D.drop j=L.drop j):D.drop (j+1)=L.drop (j+1):=by
 have:=congrArg (List.drop 1) h
 simpa [List.drop_drop] using this
theorem drop_at {D L:List Rt} {j:Nat} (h:D.drop j=L.drop j) (h1:j<D.length) (h2:j<L.length):D[j]=L[j]:=by
 rw [List.drop_eq_getElem_cons h1,List.drop_eq_getElem_cons h2] at h
 injection h
set_option maxRecDepth 100000 in
theorem Zrr (g:Nat) (lb:Array Value) (P:Rt->Bool) (B:Nat) (w0:World) (eg:∀args w,(callFunc g args).run Tryz.prog w = .ok (.enter g args) w) (hP:Z81 g lb P B w0) (p:Option Addr) (c:Nat) (L:List Rt) (w:World)
 (hO:w.ownsRow B 41 4 (.slice p L.length c) L.length (rcs L)) (hg:∀x∈L,x.k.good) (hb0:Below B w0 w) (hB:B<=w.heap.size) (hl:L.length<=1000000) :
 Calls Tryz.prog 137 #[.slice p L.length c,.func (.func g) #[] lb] w fun e w'=>
  ∃p' c',e = .returned (.slice p' (L.filter fun r => !P r).length c')/\w'.ownsRow B 41 4 (.slice p' (L.filter fun r => !P r).length c') (L.filter fun r => !P r).length (rcs (L.filter fun r => !P r))/\Below B w w':=by
 have hix:=Zzb g lb P B w0 eg hP p c L w (Row.of_own hO) hg hb0 hB hl
 obtain ⟨M,hM⟩:∃M,M=L.filter fun r => !P r:=⟨_,rfl⟩
 rw [<-hM] at hix ⊢
 have HIX:=hid hix
 have HO:=hid hO
 have HP:=hid hP
 have HG:=hid hg
 have HM:=hid hM
 clear hix hO hP hg hM
 go_enter Tryz.func137,Tryz.ntmps137
 go_wp2_with fail
 refine HIX.out.mono ?_
 rintro e w1 ⟨hb1,h1⟩
 have hw1:Below B w w1:=hb1.mono hB
 have HO1:=hid (own_below HO.out hb1)
 have hB1:=hw1.size
 have hB1':B<=w1.heap.size:=by have:=hb1.size;omega
 clear HIX HO hb1
 rcases h1 with ⟨i0,hi0,rfl,hfi⟩ | ⟨rfl,hLM⟩
 ·obtain ⟨gb,c5,cur5,eq4,hB5,hg5,-,hc5,hc6,-,-⟩:=Zbk HO1.out (by omega)
  injection eq4 with eq4 _ eq6
  subst eq4 eq6
  have HFI:=hid hfi
  have hne:((i0:Int) == -1)=false:=by rw [beq_eq_false_iff_ne];omega
  obtain ⟨n,hn⟩:∃n,n=L.length:=⟨_,rfl⟩
  have HN:=hid hn
  rw [<-hn] at HO1 hi0 hl hc5 ⊢
  clear hfi hn
  go_wp2
  go_loopg [5,6] n (fun kx s5 s6 wr=>∃(i j:Nat) (D:List Rt),s5 = .int .i64 (i:Int)/\s6 = .int .i64 (j:Int)/\n-j<=kx/\j<=n/\i<j/\Hid (D.length=n)/\Hid ((L.take j).filter (fun r => !P r)=D.take i)/\Hid (D.drop j=L.drop j) /\
   Hid (wr.ownsRow B 41 4 (.slice (some ⟨gb,0,none⟩) n c) n (rcs D))/\Below B w1 wr)
  case atStart=>exact ⟨i0,i0+1,L,rfl,by go_num,by omega,by omega,by omega,hid HN.out.symm,HFI,hid rfl,HO1,Below.refl _ _⟩
  case round=>
   clear HO1 HFI
   obtain ⟨i,j,D,rfl,rfl,k1,k2,k3,HDL,HDT,HDR,HO,hb⟩:=hrel
   have hz:=hb.size
   by_cases hj:j<n
   ·have hjD:j<D.length:=by rw [HDL.out];exact hj
    have hiD:i<D.length:=by omega
    have hjL:j<L.length:=by rw [<-HN.out];exact hj
    obtain ⟨g',o',eq5,hgl,x0,x1,x2,x3⟩:=(Row.of_own HO.out).rt hjD
    injection eq5 with eq5
    injection eq5 with eg' eo'
    subst eg' eo'
    obtain ⟨g',o',eq5,-,z0,z1,z2,z3⟩:=(Row.of_own HO.out).rt hiD
    injection eq5 with eq5
    injection eq5 with eg' eo'
    subst eg' eo'
    simp only [Nat.zero_add] at x0 x1 x2 x3 z0 z1 z2 z3
    have hDj:=drop_at HDR.out hjD hjL
    rw [hDj] at x0 x1 x2 x3
    have hsn:L.take (j+1)=L.take j++[L[j]]:=List.take_succ_eq_append_getElem hjL
    have hfl:(L.take (j+1)).filter (fun r => !P r)=D.take i++(if P L[j]=true then [] else [L[j]]):=by
     rw [hsn,List.filter_append,HDT.out]
     congr 1
     cases h:P L[j]<;>simp [h]
    have hdn:=Zzx HDR.out
    have hgood:=HG.out _ (List.getElem_mem hjL)
    have hk:=fun (W:World) (h:Below B w1 W)=>HP.out W L[j] hgood ((hb0.trans hw1).trans h)
    have i1:(0:Int)<=(j:Int):=by omega
    have i2:(j:Int)<(n:Int):=by omega
    have i3:(0:Int)<=(i:Int):=by omega
    have i4:(i:Int)<(n:Int):=by omega
    generalize D[i]=q at *
    generalize L[j]=r at *
    have hts:=Zl5 D i r hiD
    have hds:(D.set i r).drop (j+1)=L.drop (j+1):=by rw [List.drop_set_of_lt (by omega)];exact hdn
    have hrs:=Zjt D i r hiD
    obtain ⟨⟨kh,kl,kn⟩,v⟩:=r
    unfold rtA at hk
    simp only at hk x0 x1 x2 x3
    have HK:=hid hk
    have HOa:=hid (HO.out.alloc (.cells #[.int .u64 (kh:Int),.int .u64 (kl:Int),.int .i64 kn,.int .i64 v] 41))
    have hba:Below B w1 (wr.alloc (.cells #[.int .u64 (kh:Int),.int .u64 (kl:Int),.int .i64 kn,.int .i64 v] 41)):=hb.alloc (by omega) _
    clear hk hDj hsn
    cases hv:P ⟨⟨kh,kl,kn⟩,v⟩ with
    | true=>
     rw [hv,if_pos rfl,List.append_nil] at hfl
     rw [hv] at HK
     have HFL:=hid hfl
     have HDN:=hid hdn
     clear hfl hdn hts hds hrs
     go_wp2_with (go_at_fn g;refine (HK.out _ hba).mono ?_;rintro e w3 ⟨rfl,hb3⟩)
     have hw3:=hba.trans (hb3.mono (by simp;omega))
     have HO3:=hid (own_below HOa.out hb3)
     clear HK hb3 hba HOa HO hb
     go_wp2
     go_roundg (n-(j+1))
     case measure=>omega
     case rel=>exact ⟨i,j+1,D,rfl,by go_num,by omega,by omega,by omega,HDL,HFL,HDN,HO3,hw3⟩
    | false=>
     rw [hv,if_neg (by simp),<-hts] at hfl
     rw [hv] at HK
     have HFL:=hid hfl
     have HDS:=hid hds
     have HRS:=hid hrs
     clear hfl hdn hts hds hrs
     go_wp2_with fail
     go_at_fn g
     refine (HK.out _ hba).mono ?_
     rintro e w3 ⟨rfl,hb3⟩
     have hw3:=hba.trans (hb3.mono (by simp;omega))
     have HO3:=own_below HOa.out hb3
     obtain ⟨hc3,-⟩:=Zaf hb3
     have y0:=(hc3 wr.heap.size 0 (by simp)).trans (show _=some (Value.int .u64 (kh:Int)) by simp [go_sem])
     have y1:=(hc3 wr.heap.size 1 (by simp)).trans (show _=some (Value.int .u64 (kl:Int)) by simp [go_sem])
     have y2:=(hc3 wr.heap.size 2 (by simp)).trans (show _=some (Value.int .i64 kn) by simp [go_sem])
     have y3:=(hc3 wr.heap.size 3 (by simp)).trans (show _=some (Value.int .i64 v) by simp [go_sem])
     have z0:=(hc3 gb (i*4) (by simp;omega)).trans ((show (wr.alloc _).cell? _=wr.cell? _ from (Below.refl wr.heap.size wr).alloc (Nat.le_refl _) _ |>.cell (p:=⟨gb,i*4,none⟩) hgl).trans z0)
     have z1:=(hc3 gb (i*4+1) (by simp;omega)).trans ((show (wr.alloc _).cell? _=wr.cell? _ from (Below.refl wr.heap.size wr).alloc (Nat.le_refl _) _ |>.cell (p:=⟨gb,i*4+1,none⟩) hgl).trans z1)
     have z2:=(hc3 gb (i*4+2) (by simp;omega)).trans ((show (wr.alloc _).cell? _=wr.cell? _ from (Below.refl wr.heap.size wr).alloc (Nat.le_refl _) _ |>.cell (p:=⟨gb,i*4+2,none⟩) hgl).trans z2)
     have z3:=(hc3 gb (i*4+3) (by simp;omega)).trans ((show (wr.alloc _).cell? _=wr.cell? _ from (Below.refl wr.heap.size wr).alloc (Nat.le_refl _) _ |>.cell (p:=⟨gb,i*4+3,none⟩) hgl).trans z3)
     have f0:=HO3.frozenAt (i*4)
     have f1:=HO3.frozenAt (i*4+1)
     have f2:=HO3.frozenAt (i*4+2)
     have f3:=HO3.frozenAt (i*4+3)
     have s0:=HO3.stored (i*4) (.int .u64 (kh:Int))
     have s1:=s0.1.stored (i*4+1) (.int .u64 (kl:Int))
     have s2:=s1.1.stored (i*4+2) (.int .i64 kn)
     have s3:=s2.1.stored (i*4+3) (.int .i64 v)
     have h4:=s3.1
     rw [HRS.out] at h4
     have hb4:Below B w1 ((((w3.setCell ⟨gb,i*4,none⟩ (.int .u64 (kh:Int))).setCell ⟨gb,i*4+1,none⟩ (.int .u64 (kl:Int))).setCell ⟨gb,i*4+2,none⟩ (.int .i64 kn)).setCell ⟨gb,i*4+3,none⟩ (.int .i64 v)):=
      (((hw3.setCell hB5 _).setCell hB5 _).setCell hB5 _).setCell hB5 _
     have H4:=hid h4
     have hgl3:gb<w3.heap.size:=by have:=hb3.size;simp at this;omega
     have hnl3:wr.heap.size<w3.heap.size:=by have:=hb3.size;simp at this;omega
     have hgne:gb≠wr.heap.size:=by omega
     clear HK hb3 hba HOa HO hb hc3 s0 s1 s2 s3 h4 HO3 x0 x1 x2 x3
     go_wp2
     go_roundg (n-(j+1))
     case measure=>omega
     case rel=>exact ⟨i+1,j+1,D.set i ⟨⟨kh,kl,kn⟩,v⟩,by go_num,by go_num,by omega,by omega,by omega,hid (by rw [List.length_set];exact HDL.out),HFL,HDS,H4,hb4⟩
   ·obtain ⟨gb',c7,cur,eq4,-,hgl,hgc,hnc,hcm,hcs,htk⟩:=Zbk HO.out (by omega)
    injection eq4 with eq4 _ eq6
    injection eq4 with eq4
    injection eq4 with eq4
    subst eq4 eq6
    have hMD:M=D.take i:=by
     rw [HM.out,<-HDT.out,List.take_of_length_le (by rw [<-HN.out];omega)]
    have hMl:M.length=i:=by rw [hMD,List.length_take,HDL.out];omega
    obtain ⟨m,hm⟩:∃m,n-i=m+1:=⟨n-i-1,by omega⟩
    obtain ⟨zs,hzs,hzl,hz1⟩:=Zwh (m+1)
    have hfit:i*4+zs.length<=cur.size:=by rw [hzl,hcs];omega
    have hcl:∀ty,(Builtin.clear_ #[35] ty #[.slice (some ⟨gb,i*4,none⟩) (n-i) (c-i)]).run Tryz.prog wr = .ok (.tuple #[]) (wr.setRow gb (splice cur.toList (i*4) zs).toArray):=fun ty=>by
     rw [hm]
     exact Zko wr _ _ ty _ zs m Tryz.underlying35 Zp4 hzs hz1 gb (i*4) _ _ _ hgc hfit
    have hw5:=setRow_heap wr gb cur (splice cur.toList (i*4) zs).toArray 41 (0,0) hgc
    have hgw5:=Zcu wr gb (splice cur.toList (i*4) zs).toArray
    have hown:(wr.setRow gb (splice cur.toList (i*4) zs).toArray).ownsRow B 41 4 (.slice (some ⟨gb,0,none⟩) i c) i (rcs M):=by
     refine Zcl hB5 hw5 (by omega) hcm ?_ ?_
     ·rw [List.size_toArray,length_splice _ _ _ (by rw [Array.length_toList];exact hfit),Array.length_toList,hcs]
     ·rw [List.toList_toArray,Zf9 _ _ _ _ (Nat.le_refl _) (by rw [Array.length_toList];omega),hMD,<-Zi2,<-htk,List.take_take,Nat.min_eq_left (by omega)]
    have hb5:Below B w1 (wr.setRow gb (splice cur.toList (i*4) zs).toArray):=hb.grown hgw5 (by omega) (fun k e=>by injection e with e;omega)
    have HF:=hid (And.intro hown (hw1.trans hb5))
    have HML:=hid hMl
    have j1:(0:Int)<=(i:Int):=by omega
    have j2:(i:Int)<=(n:Int):=by omega
    have j3:(i:Int)<=(c:Int):=by omega
    have j4:(n:Int)<=(c:Int):=by omega
    have j5:i<c:=by omega
    clear hown hb5 hw5 hgw5 hMD hMl hzs hzl hz1 hm HO HDT HDR HDL hgc htk
    go_wp2
    go_ret
    rw [HML.out]
    exact ⟨some ⟨gb,0,none⟩,c,rfl,HF.out.1,HF.out.2⟩
 ·have HL:=hid hLM
  clear hLM
  go_wp2
  go_ret
  rw [HL.out]
  exact ⟨p,c,rfl,HO1.out,hw1⟩
set_option maxRecDepth 100000 in
theorem Zkv (g:Nat) (lb:Array Value) (eg:∀args w,(callFunc g args).run Tryz.prog w = .ok (.enter g args) w) (v:Bool) (r:Rt) (b:Nat) (w:World) (hb:b<w.heap.size) (hc:w.cell? ⟨b,0,none⟩=some (.func (.func g) #[] lb))
 (hF:∀W,Below w.heap.size w W->Calls Tryz.prog g (#[kyA r.k]++lb) W fun e w'=>e = .returned (.bool v)/\Below W.heap.size W w') :
 Calls Tryz.prog 138 #[rtA r,.pointer (some ⟨b,0,none⟩)] w fun e w'=>e = .returned (.bool (!v))/\Below w.heap.size w w':=by
 obtain ⟨⟨kh,kl,kn⟩,x⟩:=r
 unfold kyA at hF
 unfold rtA
 simp only at hF ⊢
 have HF:=hid hF
 clear hF
 go_enter Tryz.func138,Tryz.ntmps138
 go_wp2_with fail
 go_at_fn g
 refine (HF.out _ (by go_grown)).mono ?_
 rintro e w1 ⟨rfl,hb1⟩
 have hw1:Below w.heap.size w w1:=Below.trans (by go_grown) (hb1.mono (by simp))
 clear hb1 HF
 cases v
 ·go_wp2
  go_ret
  exact ⟨rfl,hw1⟩
 ·go_wp2
  go_ret
  exact ⟨rfl,hw1⟩
set_option maxRecDepth 100000 in
theorem Zlq (g:Nat) (lb:Array Value) (eg:∀args w,(callFunc g args).run Tryz.prog w = .ok (.enter g args) w) (P:Ky->Bool) (p:Option Addr) (c:Nat) (L:List Rt) (w:World) (hR:Row w p (rcs L)) (hp:p=none->c=0) (hg:∀x∈L,x.k.good) (hl:L.length<=1000000)
 (hF:∀W (k:Ky),k.good->Below w.heap.size w W->Calls Tryz.prog g (#[kyA k]++lb) W fun e w'=>e = .returned (.bool (P k))/\Below W.heap.size W w') :
 Calls Tryz.prog 104 #[.slice p L.length c,.func (.func g) #[] lb] w fun e w'=>Zcf w w' e (L.filter fun r=>P r.k):=by
 have hcl:=fun W (h:Row W p (rcs L))=>Zkh p c L W h hp (by omega)
 have eg2:=enters_of Tryz.func138 (by kernel_rfl) rfl
 have hdel:∀(w1:World),Below (w.heap.size+1) (w.alloc (.cells #[.func (.func g) #[] lb] 44)) w1->∀(q:Option Addr) (d:Nat),w1.ownsRow (w.heap.size+1) 41 4 (.slice q L.length d) L.length (rcs L) ->
  Calls Tryz.prog 137 #[.slice q L.length d,.func (.func 138) #[] #[.pointer (some ⟨w.heap.size,0,none⟩)]] w1 fun e w'=>
  ∃p' c',e = .returned (.slice p' (L.filter fun r=>P r.k).length c')/\w'.ownsRow (w.heap.size+1) 41 4 (.slice p' (L.filter fun r=>P r.k).length c') (L.filter fun r=>P r.k).length (rcs (L.filter fun r=>P r.k))/\Below (w.heap.size+1) w1 w':=by
  intro w1 hb1 q d hO
  have h:=Zrr 138 #[.pointer (some ⟨w.heap.size,0,none⟩)] (fun r => !P r.k) (w.heap.size+1) w1 eg2 ?_ q d L w1 hO hg (Below.refl _ _) (by have:=hb1.size;simpa using this) hl
  ·simpa only [Bool.not_not] using h
  ·intro W r hr hb
   have hbw:Below (w.heap.size+1) (w.alloc (.cells #[.func (.func g) #[] lb] 44)) W:=hb1.trans hb
   have hz:w.heap.size<W.heap.size:=by have:=hbw.size;simp at this;omega
   refine Zkv g lb eg (P r.k) r w.heap.size W hz ?_ ?_
   ·exact (hbw.cell (p:=⟨w.heap.size,0,none⟩) (by simp)).trans (by simp [go_sem])
   ·intro W' hW'
    refine hF W' r.k hr (Below.trans (b:=w.alloc (.cells #[.func (.func g) #[] lb] 44)) (by go_grown) ((hbw.mono (by omega)).trans (hW'.mono (by omega))))
 have HCL:=hid hcl
 have HDEL:=hid hdel
 have HR:=hid hR
 obtain ⟨M,hM⟩:∃M,M=L.filter fun r=>P r.k:=⟨_,rfl⟩
 rw [<-hM] at HDEL ⊢
 clear hcl hdel hR hF hM hg eg2
 go_enter Tryz.func104,Tryz.ntmps104
 go_wp2_with fail
 refine (HCL.out _ (HR.out.below (by go_grown))).mono ?_
 rintro e w1 ⟨q,d,rfl,hO,hb1⟩
 have hz1:=hb1.size
 simp only [World.size_alloc] at hz1 hO hb1
 have HO:=hid hO
 clear hO HCL
 go_wp2_with fail
 refine (HDEL.out _ hb1 _ _ HO.out).mono ?_
 rintro e w2 ⟨q2,d2,rfl,hO2,hb2⟩
 have hw2:Below w.heap.size w w2:=Below.trans (by go_grown) ((hb1.mono (by omega)).trans (hb2.mono (by omega)))
 have HO2:=hid (Za4 hO2 (show w.heap.size<=w.heap.size+1 by omega))
 clear hO2 hb1 hb2 HO HDEL HR
 go_wp2
 go_ret
 exact ⟨q2,d2,rfl,HO2.out,hw2⟩
set_option maxRecDepth 100000 in
theorem Zop (p k:Ky) (gp:p.good) (gk:k.good) (b:Nat) (w:World) (hb:b<w.heap.size) (c0:w.cell? ⟨b,0,none⟩=some (.int .u64 (p.h:Int))) (c1:w.cell? ⟨b,1,none⟩=some (.int .u64 (p.l:Int))) (c2:w.cell? ⟨b,2,none⟩=some (.int .i64 p.n)) :
 Calls Tryz.prog 105 #[kyA k,.pointer (some ⟨b,0,none⟩)] w fun e w'=>e = .returned (.bool (Zg5 p k))/\Below w.heap.size w w':=by
 have HC:=hid (Zv8 p.h p.l k.h k.l gp.1 gp.2 gk.1 gk.2)
 unfold Zg5 kyA
 have hM:∀(ts:Array TypeId) (t:TypeId) (w:World),(Builtin.min_ ts t #[.int .i64 p.n,.int .i64 k.n]).run Tryz.prog w = .ok (.int .i64 (min p.n k.n)) w:=by
  intro ts t w
  have e:(if k.n<p.n then k.n else p.n)=min p.n k.n:=by split<;>omega
  rw [<-e]
  simp [Builtin.min_,Builtin.min2]
 obtain ⟨m,hm⟩:∃m,m=min p.n k.n:=⟨_,rfl⟩
 obtain ⟨cm,hcm⟩:∃cm,cm=Zbr p.h p.l k.h k.l:=⟨_,rfl⟩
 rw [<-hm] at hM ⊢
 rw [<-hcm] at HC ⊢
 obtain ⟨kh,kl,kn⟩:=k
 obtain ⟨ph,pl,pn⟩:=p
 simp only at *
 clear hm hcm gp gk
 go_enter Tryz.func105,Tryz.ntmps105
 go_wp2_with fail
 have kg:=Zaa
 refine Zab (by kernel_rfl) (by kernel_rfl) ?_
 repeat (any_goals (first|go_big_quiet_step ((exact HC.out.at _ _ _))|quiet_step ((exact HC.out.at _ _ _))))
 refine wpQuiet_nil ?_
 clear kg
 intro w1 hb1
 obtain ⟨hc1,hf1⟩:=Zaf hb1
 have hw1:Below w.heap.size w w1:=by
  refine Below.trans ?_ (hb1.mono ?_)
  ·go_grown
  ·first|omega|go_size
 go_wp2
 go_ret
 exact ⟨rfl,hw1⟩
set_option maxRecDepth 100000 in
theorem Zjh (p k:Ky) (b:Nat) (w:World) (hb:b<w.heap.size) (c0:w.cell? ⟨b,0,none⟩=some (.int .u64 (p.h:Int))) (c1:w.cell? ⟨b,1,none⟩=some (.int .u64 (p.l:Int))) (c2:w.cell? ⟨b,2,none⟩=some (.int .i64 p.n)) :
 Calls Tryz.prog 107 #[kyA k,.pointer (some ⟨b,0,none⟩)] w fun e w'=>e = .returned (.bool (decide (k≠p)))/\Below w.heap.size w w':=by
 obtain ⟨kh,kl,kn⟩:=k
 obtain ⟨ph,pl,pn⟩:=p
 have hE:=Zoo kh kl kn ph pl pn
 rw [show (!decide (kh=ph/\kl=pl/\kn=pn))=decide ((⟨kh,kl,kn⟩:Ky)≠⟨ph,pl,pn⟩) by
  rw [<-decide_not,decide_eq_decide,ne_eq,Ky.mk.injEq]] at hE
 generalize decide ((⟨kh,kl,kn⟩:Ky)≠⟨ph,pl,pn⟩)=r at *
 unfold kyA
 simp only at *
 go_enter Tryz.func107,Tryz.ntmps107
 go_wp2
 go_ret
 exact ⟨rfl,by go_grown⟩
set_option maxRecDepth 100000 in
theorem Z2a (p:Option Addr) (c:Nat) (L:List Rt) (k:Ky) (w:World) (hR:Row w p (rcs L)) (hp:p=none->c=0) (hg:∀x∈L,x.k.good) (gk:k.good) (hl:L.length<=1000000) :
 Calls Tryz.prog 81 #[.slice p L.length c,kyA k] w fun e w'=>Zcf w w' e (Zcr k L):=by
 obtain ⟨kh,kl,kn⟩:=k
 have eg:=enters_of Tryz.func105 (by kernel_rfl) rfl
 have hch:∀W,Below w.heap.size w W->w.heap.size<W.heap.size->W.cell? ⟨w.heap.size,0,none⟩=some (.int .u64 (kh:Int))->W.cell? ⟨w.heap.size,1,none⟩=some (.int .u64 (kl:Int))->W.cell? ⟨w.heap.size,2,none⟩=some (.int .i64 kn) ->
  Calls Tryz.prog 104 #[.slice p L.length c,.func (.func 105) #[] #[.pointer (some ⟨w.heap.size,0,none⟩)]] W fun e w'=>Zcf W w' e (Zcr ⟨kh,kl,kn⟩ L):=by
  intro W hW hz c0 c1 c2
  refine Zlq 105 _ eg (Zg5 ⟨kh,kl,kn⟩) p c L W (hR.below hW) hp hg hl ?_
  intro W' k' gk' hW'
  exact Zop ⟨kh,kl,kn⟩ k' gk gk' w.heap.size W' (by have:=hW'.size;omega) ((hW'.cell (p:=⟨w.heap.size,0,none⟩) hz).trans c0) ((hW'.cell (p:=⟨w.heap.size,1,none⟩) hz).trans c1) ((hW'.cell (p:=⟨w.heap.size,2,none⟩) hz).trans c2)
 have HCH:=hid hch
 clear hch eg hR hg
 unfold kyA
 simp only
 go_enter Tryz.func81,Tryz.ntmps81
 go_wp2_with fail
 refine (HCH.out _ (by go_grown) (by simp) (by simp [go_sem]) (by simp [go_sem]) (by simp [go_sem])).mono ?_
 rintro e w1 ⟨q,d,rfl,hO,hb1⟩
 have HF:=hid (And.intro (Za4 hO (show w.heap.size<=_ by simp)) (Below.trans (show Below w.heap.size w (w.alloc _) by go_grown) (hb1.mono (by simp))))
 clear hO hb1 HCH
 go_wp2
 go_ret
 exact ⟨q,d,rfl,HF.out.1,HF.out.2⟩
set_option maxRecDepth 100000 in
theorem Zp9 (p:Option Addr) (c:Nat) (L:List Rt) (k:Ky) (w:World) (hR:Row w p (rcs L)) (hp:p=none->c=0) (hg:∀x∈L,x.k.good) (hl:L.length<=1000000) :
 Calls Tryz.prog 82 #[.slice p L.length c,kyA k] w fun e w'=>Zcf w w' e (outS L k):=by
 obtain ⟨kh,kl,kn⟩:=k
 have eg:=enters_of Tryz.func107 (by kernel_rfl) rfl
 have hch:∀W,Below w.heap.size w W->w.heap.size<W.heap.size->W.cell? ⟨w.heap.size,0,none⟩=some (.int .u64 (kh:Int))->W.cell? ⟨w.heap.size,1,none⟩=some (.int .u64 (kl:Int))->W.cell? ⟨w.heap.size,2,none⟩=some (.int .i64 kn) ->
  Calls Tryz.prog 104 #[.slice p L.length c,.func (.func 107) #[] #[.pointer (some ⟨w.heap.size,0,none⟩)]] W fun e w'=>Zcf W w' e (outS L ⟨kh,kl,kn⟩):=by
  intro W hW hz c0 c1 c2
  refine Zlq 107 _ eg (fun q=>decide (q≠⟨kh,kl,kn⟩)) p c L W (hR.below hW) hp hg hl ?_
  intro W' k' gk' hW'
  exact Zjh ⟨kh,kl,kn⟩ k' w.heap.size W' (by have:=hW'.size;omega) ((hW'.cell (p:=⟨w.heap.size,0,none⟩) hz).trans c0) ((hW'.cell (p:=⟨w.heap.size,1,none⟩) hz).trans c1) ((hW'.cell (p:=⟨w.heap.size,2,none⟩) hz).trans c2)
 have HCH:=hid hch
 clear hch eg hR hg
 unfold kyA
 simp only
 go_enter Tryz.func82,Tryz.ntmps82
 go_wp2_with fail
 refine (HCH.out _ (by go_grown) (by simp) (by simp [go_sem]) (by simp [go_sem]) (by simp [go_sem])).mono ?_
 rintro e w1 ⟨q,d,rfl,hO,hb1⟩
 have HF:=hid (And.intro (Za4 hO (show w.heap.size<=_ by simp)) (Below.trans (show Below w.heap.size w (w.alloc _) by go_grown) (hb1.mono (by simp))))
 clear hO hb1 HCH
 go_wp2
 go_ret
 exact ⟨q,d,rfl,HF.out.1,HF.out.2⟩
theorem Zgx (N:List Rt) (low high:Int) (hg:∀r∈N,r.k.good):(setS N low high).length<=256*N.length:=by
 unfold setS
 split
 ·have e1:=Zzs N low (Zbd N low high)
  have e2:=Zew N low high hg N.length (Nat.le_refl _)
  rw [List.take_length] at e2
  unfold fS at e1
  omega
 ·simp
def Z44:Prop:=∀(p:Option Addr) (c:Nat) (L:List Rt) (k:Ky) (hop low high:Int) (W:World),Row W p (rcs L)->(∀x∈L,x.k.good)->k.good->(p=none->c=0)->L.length<=c->L.length<=300 ->
 Calls Tryz.prog 58 #[.slice p L.length c,kyA k,.int .i64 hop,.int .i64 low,.int .i64 high] W fun e w'=>Z43 143 W w' e (ofS (setS (Zap L) low high) (setS (lvlM (Zap L) k hop) low high))
theorem Zcq {w:World} {B n m d k:Nat} {e:TypeId} {q:Option Addr} {xs:List Value} (h:w.ownsRow B e k (.slice q n d) m xs) (hq:q=none):d=0:=by
 subst hq
 rcases h.2 with ⟨e1,_⟩ | ⟨g,cap,cur,e1,_⟩
 ·injection e1
 ·injection e1 with e1
  cases e1
set_option maxRecDepth 100000 in
theorem Z2n:Z44:=by
 intro p c L k hop low high w hR hg gk hp hc hl
 have hsrt:=(Za9 L).1
 have hgs:∀x∈Zap L,x.k.good:=fun x hx=>hg x (Zc5 hx)
 by_cases hout:k.n<=low\/high<k.n
 ·rw [Z75 hsrt hgs gk hop hout]
  obtain ⟨kh,kl,kn⟩:=k
  unfold kyA
  simp only at hout ⊢
  clear hR hg hgs hsrt
  by_cases h1:kn<=low
  ·go_enter Tryz.func58,Tryz.ntmps58
   go_wp2
   go_ret
   exact ⟨none,0,rfl,World.ownsRow_nil _ _ _ _,by go_grown⟩
  ·have h2:high<kn:=by omega
   have h3:¬kn<=low:=h1
   go_enter Tryz.func58,Tryz.ntmps58
   go_wp2
   go_ret
   exact ⟨none,0,rfl,World.ownsRow_nil _ _ _ _,by go_grown⟩
 ·have h1:low<k.n:=by omega
  have h2:k.n<=high:=by omega
  have hlh:low<high:=by omega
  rw [<-Z5t hsrt hgs gk hop hlh,<-Zw9 k L,<-Z1k k hop (Zcr k L)]
  have hN:=fun W (h:Below w.heap.size w W)=>Z2a p c L k W (hR.below h) hp hg gk (by omega)
  obtain ⟨F,hF⟩:∃F,F=Zcr k L:=⟨_,rfl⟩
  have hFl:F.length<=300:=by rw [hF];exact Nat.le_trans (List.length_filter_le _ _) hl
  have hFg:∀x∈F,x.k.good:=fun x hx=>hg x (Zor (by rw [<-hF];exact hx))
  rw [<-hF] at hN ⊢
  have hW:=fun (q:Option Addr) d W (h:Row W q (rcs F)) (hq:q=none->d=0)=>Zp9 q d F k W h hq hFg (by omega)
  obtain ⟨T,hT⟩:∃T,T=if 0<=hop then outS F k++[⟨k,hop⟩] else outS F k:=⟨_,rfl⟩
  have hol:(outS F k).length<=F.length:=List.length_filter_le _ _
  have hTl:T.length<=301:=by
   rw [hT]
   split
   ·rw [List.length_append,List.length_singleton];omega
   ·omega
  have hTg:∀x∈T,x.k.good:=fun x hx=>by
   rw [hT] at hx
   split at hx
   ·rcases List.mem_append.1 hx with h | h
    ·exact hFg x (Zay.1 h).1
    ·rw [List.mem_singleton.1 h];exact gk
   ·exact hFg x (Zay.1 hx).1
  rw [<-hT]
  have hS1:=fun (q:Option Addr) d W (h:Row W q (rcs F)) (hq:q=none->d=0) (hd:F.length<=d)=>Zxg q d F low high W h hFg hq hd (by omega)
  have hS2:=fun (q:Option Addr) d W (h:Row W q (rcs T)) (hq:q=none->d=0) (hd:T.length<=d)=>Zxg q d T low high W h hTg hq hd (by omega)
  have s1:=Zgx (Zap F) low high (fun x hx=>hFg x (Zc5 hx))
  have s2:=Zgx (Zap T) low high (fun x hx=>hTg x (Zc5 hx))
  have l1:=Zdi F
  have l2:=Zdi T
  have hTU:=fun (p q:Option Addr) c d W (h1:Row W p (rcs (setS (Zap F) low high))) (h2:Row W q (rcs (setS (Zap T) low high))) (h3:(setS (Zap F) low high).length<=c) (h4:(setS (Zap T) low high).length<=d)=>Zwt p q c d _ _ W h1 h2 (Zc1 _ _ _) (Zc1 _ _ _) h3 h4 (by omega) (by omega)
  obtain ⟨X,hX⟩:∃X,X=setS (Zap F) low high:=⟨_,rfl⟩
  obtain ⟨Y,hY⟩:∃Y,Y=setS (Zap T) low high:=⟨_,rfl⟩
  rw [<-hX] at hS1 hTU
  rw [<-hY] at hS2 hTU
  rw [<-hX,<-hY]
  obtain ⟨R,hR2⟩:∃R,R=ofS X Y:=⟨_,rfl⟩
  rw [<-hR2] at hTU ⊢
  obtain ⟨O,hO⟩:∃O,O=outS F k:=⟨_,rfl⟩
  rw [<-hO] at hW hT hol
  have HN:=hid hN
  have HW:=hid hW
  have HS1:=hid hS1
  have HS2:=hid hS2
  have HTU:=hid hTU
  have HT:=hid hT
  clear hN hW hS1 hS2 hTU hT s1 s2 l1 l2 hX hY hR2 hO hF hFg hTg hR hg hgs hsrt hout
  obtain ⟨kh,kl,kn⟩:=k
  unfold kyA at *
  simp only at *
  have n1:¬kn<=low:=by omega
  have n2:¬high<kn:=by omega
  go_enter Tryz.func58,Tryz.ntmps58
  go_wp2_with fail
  have hbx:Below w.heap.size w (w.alloc (.cells #[.int .u64 (kh:Int),.int .u64 (kl:Int),.int .i64 kn] 39)):=by go_grown
  refine (HN.out _ hbx).mono ?_
  rintro e w1 ⟨p1,c1,rfl,ho1,hb1⟩
  obtain ⟨hc1,-⟩:=Zaf hb1
  have b0:=(hc1 w.heap.size 0 (by simp)).trans (show _=some (Value.int .u64 (kh:Int)) by simp [go_sem])
  have b1:=(hc1 w.heap.size 1 (by simp)).trans (show _=some (Value.int .u64 (kl:Int)) by simp [go_sem])
  have b2:=(hc1 w.heap.size 2 (by simp)).trans (show _=some (Value.int .i64 kn) by simp [go_sem])
  have hw1:Below w.heap.size w w1:=hbx.trans (hb1.mono (by simp))
  have hz1:w.heap.size<w1.heap.size:=by have:=hb1.size;simp at this;omega
  have HO1:=hid ho1
  have hz1':=hw1.size
  clear ho1 hb1 hc1 HN
  go_wp2_with fail
  refine (HW.out _ _ _ (Row.of_own HO1.out) (Zcq HO1.out)).mono ?_
  rintro e w2 ⟨p2,c2,rfl,ho2,hb2⟩
  have b0:=(hb2.cell (p:=⟨w.heap.size,0,none⟩) hz1).trans b0
  have b1:=(hb2.cell (p:=⟨w.heap.size,1,none⟩) hz1).trans b1
  have b2:=(hb2.cell (p:=⟨w.heap.size,2,none⟩) hz1).trans b2
  have hw2:=hw1.trans (hb2.mono hz1')
  have hz2:=Nat.lt_of_lt_of_le hz1 hb2.size
  have hz2':=hb2.size
  have HO2:=hid ho2
  have HF1:=hid (own_below HO1.out hb2)
  clear ho2 HW
  by_cases hh:0<=hop
  ·have hTe:T=O++[⟨⟨kh,kl,kn⟩,hop⟩]:=by rw [HT.out,if_pos hh]
   have HTE:=hid hTe
   have hOb:=HO2.out.alloc (.cells #[.int .u64 (kh:Int),.int .u64 (kl:Int),.int .i64 kn,.int .i64 hop] 41)
   have HOb:=hid hOb
   have hsrc:Hid (∀j u,(rcs [⟨⟨kh,kl,kn⟩,hop⟩])[j]? = some u->(w2.alloc (.cells #[.int .u64 (kh:Int),.int .u64 (kl:Int),.int .i64 kn,.int .i64 hop] 41)).cell? ((⟨w2.heap.size,0,none⟩:Addr).add j)=some u):=by
    rw [Zgc]
    exact hid (Zb9 (by simp [go_sem]) (by simp [go_sem]) (by simp [go_sem]) (by simp [go_sem]))
   clear hTe hOb HO2
   go_wp2_with (at_builtin;go_loud (refine Zbf rfl (.tmp 31) (.tmp 35) rfl w1.heap.size _ O [⟨⟨kh,kl,kn⟩,hop⟩] T HTE.out rfl ⟨w2.heap.size,0,none⟩ 1 rfl HOb.out hsrc.out (by simp;omega) (by simp;omega) ?_))
   intro v4 w4 hown4 hg4 _
   obtain ⟨p4,c4,rfl⟩:=Zag hown4
   have hb4:Below w1.heap.size w2 w4:=((Below.refl w1.heap.size w2).alloc (by omega) _).grown hg4 (by simp;omega) (fun k e=>(HOb.out.lt k e).1)
   have hw4:=hw2.trans (hb4.mono hz1')
   have HOT:=hid hown4
   have HOF:=hid (own_below HO1.out (hb2.trans hb4))
   clear hown4 hg4 HOb hsrc b0 b1 b2 HF1 hb4 HO1 hb2
   go_wp2_with fail
   refine (HS1.out _ _ _ (Row.of_own HOF.out) (Zcq HOF.out) (Zbl HOF.out)).mono ?_
   rintro e w5 ⟨p5,c5,rfl,ho5,hb5⟩
   have hw5:=(hw4).trans (hb5.mono (hw4).size)
   have HO5:=hid ho5
   have HT5:=hid (own_below HOT.out hb5)
   clear ho5
   go_wp2_with fail
   refine (HS2.out _ _ _ (Row.of_own HT5.out) (Zcq HT5.out) (Zbl HT5.out)).mono ?_
   rintro e w6 ⟨p6,c6,rfl,ho6,hb6⟩
   have hw6:=hw5.trans (hb6.mono hw5.size)
   have HO6:=hid ho6
   have HO5:=hid (own_below HO5.out hb6)
   clear ho6
   go_wp2_with fail
   refine (HTU.out _ _ _ _ _ (Row.of_own HO5.out) (Row.of_own HO6.out) (Zbl HO5.out) (Zbl HO6.out)).mono ?_
   rintro e w7 ⟨p7,c7,rfl,ho7,hb7⟩
   have HF:=hid (And.intro (Za4 ho7 hw6.size) (hw6.trans (hb7.mono hw6.size)))
   clear ho7 hb7 hb5 hb6 HO5 HO6 HT5 hw5 hw6
   go_wp2
   go_ret
   exact ⟨p7,c7,rfl,HF.out.1,HF.out.2⟩
  ·have hTe:T=O:=by rw [HT.out,if_neg hh]
   subst hTe
   have HOT:=HO2
   have HOF:=HF1
   clear b0 b1 b2 HO1 hb2
   go_wp2_with fail
   refine (HS1.out _ _ _ (Row.of_own HOF.out) (Zcq HOF.out) (Zbl HOF.out)).mono ?_
   rintro e w5 ⟨p5,c5,rfl,ho5,hb5⟩
   have hw5:=(hw2).trans (hb5.mono (hw2).size)
   have HO5:=hid ho5
   have HT5:=hid (own_below HOT.out hb5)
   clear ho5
   go_wp2_with fail
   refine (HS2.out _ _ _ (Row.of_own HT5.out) (Zcq HT5.out) (Zbl HT5.out)).mono ?_
   rintro e w6 ⟨p6,c6,rfl,ho6,hb6⟩
   have hw6:=hw5.trans (hb6.mono hw5.size)
   have HO6:=hid ho6
   have HO5:=hid (own_below HO5.out hb6)
   clear ho6
   go_wp2_with fail
   refine (HTU.out _ _ _ _ _ (Row.of_own HO5.out) (Row.of_own HO6.out) (Zbl HO5.out) (Zbl HO6.out)).mono ?_
   rintro e w7 ⟨p7,c7,rfl,ho7,hb7⟩
   have HF:=hid (And.intro (Za4 ho7 hw6.size) (hw6.trans (hb7.mono hw6.size)))
   clear ho7 hb7 hb5 hb6 HO5 HO6 HT5 hw5 hw6
   go_wp2
   go_ret
   exact ⟨p7,c7,rfl,HF.out.1,HF.out.2⟩
end Go.Proofs.YtgfjmgebecmbiaaGreat
