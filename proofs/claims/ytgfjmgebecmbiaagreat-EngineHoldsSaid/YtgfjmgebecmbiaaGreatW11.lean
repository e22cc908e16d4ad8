import Derived.Test.YtgfjmgebecmbiaaGreatW10b
import Derived.Deep.MidRow
set_option linter.unusedSimpArgs false
set_option linter.unusedVariables false
set_option maxHeartbeats 2000000
namespace Go.Proofs.YtgfjmgebecmbiaaGreat
open Lib(hid)
open Go.RowKit Go.Sort M
def shF (w:Nat->Nat) (least left n j:Nat):Int:=(Zfa w least left n j:Nat)
theorem Z87 (u left:Nat) (hu:u<=1073741824) (hl:left<=1073741824):wrap64 ((u:Int)*(left:Int))=(u:Int)*(left:Int):=by
 have h:u*left<=1152921504606846976:=Nat.mul_le_mul hu hl
 rw [<-Int.natCast_mul]
 exact IntWalk.wrap64_in _ (by omega)
theorem Z88 (u left a q:Nat) (hu:u<=1073741824) (hl:left<=1073741824) (hq:q=u*left/a):wrap64 (Int.tdiv ((u:Int)*(left:Int)) (a:Int))=(q:Int):=by
 have h:u*left<=1152921504606846976:=Nat.mul_le_mul hu hl
 have h2:u*left/a<=u*left:=Nat.div_le_self _ _
 rw [<-Int.natCast_mul,show Int.tdiv ((u*left:Nat):Int) (a:Int)=((u*left/a:Nat):Int) from rfl,<-hq]
 exact IntWalk.wrap64_in _ (by omega)
theorem Zv5 (g h c d B n least left:Nat) (wt:Nat->Nat) (w:World) (hgh:g≠h) (hn:n<=200) (hwt:∀j,wt j<=1073741824) (hl:least<=65536) (hle:left<=1073741824) (h0:0<sumF wt n)
 (ho:w.ownsRow B 3 1 (.slice (some ⟨g,0,none⟩) n c) n (ics ((List.range n).map fun _=>(least:Int))))
 (hw:w.ownsRow B 2 1 (.slice (some ⟨h,0,none⟩) n d) n (ics ((List.range n).map fun j=>((wt j:Nat):Int)))) :
 Calls Tryz.prog 75 #[.slice (some ⟨g,0,none⟩) n c,.int .i64 left,.slice (some ⟨h,0,none⟩) n d,.int .i64 (sumF wt n:Nat)] w fun e w'=>e = .returned (.tuple #[]) /\
  w'.ownsRow B 3 1 (.slice (some ⟨g,0,none⟩) n c) n (ics ((List.range n).map (shF wt least left n)))/\Below B w w':=by
 have hps:=Zi6 wt left n h0
 have hple:=fun j hj=>Z5p wt left n j hj h0
 have hsh:∀j,shF wt least left n j=((least+cutP wt left (sumF wt n) j+deal wt (left-sumF (cutP wt left (sumF wt n)) n) j:Nat):Int):=fun j=>by
  unfold shF Zfa Zx4
  rw [if_neg (by omega)]
 have hpd:∀j,cutP wt left (sumF wt n) j=wt j*left/sumF wt n:=fun _=>rfl
 obtain ⟨F,hF⟩:∃F,F=shF wt least left n:=⟨_,rfl⟩
 rw [<-hF] at hsh ⊢
 generalize sumF wt n=a at *
 generalize hP:cutP wt left a=P at *
 have ha0:((a:Int) == 0)=false:=by simp;omega
 have HPS:=hid hps
 have HPL:=hid hple
 have HSH:=hid hsh
 have HPD:=hid hpd
 have HWT:=hid hwt
 rw [<-Zes (fun j=>((least+P j:Nat):Int))] at ho
 have hBg:=(ho.lt g rfl).1
 clear hps hple hsh hpd hwt hP hF
 go_enter Tryz.func75,Tryz.ntmps75
 go_wp2_with fail
 go_loopw [8,17] (fun s8 s17 wr=>∃k:Nat,k<=n/\s17 = .int .i64 k/\s8 = .int .i64 (left-sumF P k:Nat) /\
  wr.ownsRow B 3 1 (.slice (some ⟨g,0,none⟩) n c) n (ics (mixL (fun j=>((least+P j:Nat):Int)) (fun _=>(least:Int)) k n)) /\
  wr.ownsRow B 2 1 (.slice (some ⟨h,0,none⟩) n d) n (ics ((List.range n).map fun j=>((wt j:Nat):Int)))/\Below B w wr) (fun _ s17 _=>n-(intOf s17).toNat)
 case atStart=>exact ⟨0,Nat.zero_le _,rfl,rfl,ho,hw,Below.refl _ _⟩
 case round=>
  clear ho hw
  obtain ⟨k,hk,rfl,rfl,ho,hw,hb⟩:=hrel
  have hz:=hb.size
  by_cases hlt:k<n
  ·have hu:=HWT.out k
   have hsum:sumF P (k+1)=sumF P k+P k:=rfl
   have hps1:=HPS.out (k+1) (by omega)
   have hpl:=HPL.out k hlt
   have hpd:=HPD.out k
   have hset:=Zg6 (fun j=>((least+P j:Nat):Int)) (fun _=>(least:Int)) k n
   have hwc:=Zem (fun j=>((wt j:Nat):Int)) n k hlt
   have hoc:=Zsy (fun j=>((least+P j:Nat):Int)) (fun _=>(least:Int)) k n k hlt
   rw [if_neg (by omega)] at hoc
   rw [hsum] at hps1
   generalize sumF P k=S at hsum hps1 ⊢
   generalize P k=q at hsum hps1 hpl hpd hset
   generalize wt k=u at hu hpd hwc
   have Q0:=hid (Z87 u left hu hle)
   have Q1:=hid (Z88 u left a q hu hle hpd)
   clear hpd
   have hsub:S+q<=left:=by omega
   have HSET:=hid hset
   have HS:=hid hsum
   obtain ⟨c1,e1⟩:∃v,v=((left-S:Nat):Int):=⟨_,rfl⟩
   have c1b:(q:Int)<=c1:=by omega
   have c1c:c1<=1073741824:=by omega
   have HE1:=hid e1
   rw [<-e1]
   have hgl:=ho.lt g rfl
   have hhl:=hw.lt h rfl
   have hgz:=hgl.2
   have hhz:=hhl.2
   have d0:wr.cell? ⟨g,k,none⟩=some (.int .i64 (least:Nat)):=(ho.cellAt k (by omega)).trans hoc
   have d1:wr.cell? ⟨h,k,none⟩=some (.int .i64 (u:Nat)):=(hw.cellAt k (by omega)).trans hwc
   have f0:=ho.frozenAt k
   clear hset hps1 e1 hoc hwc hgl hhl
   go_wp2_with (first|rw [Q0.out]|rw [Q1.out]|fail)
   go_roundw
   case rel=>
    have hst:=ho.stored k (.int .i64 (least+q:Nat))
    refine ⟨k+1,by omega,by go_num,?_,?_,?_,?_⟩
    ·rw [HS.out]
     have:=HE1.out
     refine congrArg _ ?_
     omega
    ·have:=hst.1
     rw [Zh6,HSET.out] at this
     exact this
    ·exact hw.kept hst.2 (.inr (by simp [Value.ownBlock];omega))
    ·go_grown
   case measure=>simp [intOf];omega
  ·have hkn:k=n:=by omega
   have hos:left-sumF P k<=left:=Nat.sub_le _ _
   have hov0:left-sumF P k=ov wt (left-sumF P n) 0:=by rw [hkn];rfl
   have e1:mixL (fun j=>((least+P j:Nat):Int)) (fun _=>(least:Int)) k n=mixL F (fun j=>((least+P j:Nat):Int)) 0 n:=by rw [hkn,Zet,Zes]
   rw [e1] at ho
   have HO0:=hid hov0
   have hovle:∀j,ov wt (left-sumF P n) j<=left:=fun j=>Nat.le_trans (Z70 _ _ _) (Nat.sub_le _ _)
   have hF2:∀j,F j=((least+P j+deal wt (left-sumF P n) j:Nat):Int):=HSH.out
   clear e1 hkn hov0
   generalize left-sumF P n=o0 at HO0 hovle hF2
   have HF2:=hid hF2
   have HOV:=hid hovle
   clear hF2 hovle
   go_wp2_with fail
   go_loopw [8,40] (fun s8 s40 wr=>∃i:Nat,i<=n/\s40 = .int .i64 i/\s8 = .int .i64 (ov wt o0 i:Nat) /\
    wr.ownsRow B 3 1 (.slice (some ⟨g,0,none⟩) n c) n (ics (mixL F (fun j=>((least+P j:Nat):Int)) i n)) /\
    wr.ownsRow B 2 1 (.slice (some ⟨h,0,none⟩) n d) n (ics ((List.range n).map fun j=>((wt j:Nat):Int)))/\Below B w wr) (fun _ s40 _=>n-(intOf s40).toNat)
   case atStart=>exact ⟨0,Nat.zero_le _,rfl,by rw [<-HO0.out],ho,hw,hb⟩
   case round=>
    clear ho hw hb hz
    obtain ⟨i,hi,rfl,rfl,ho,hw,hb⟩:=hrel
    have hz:=hb.size
    by_cases hlt:i<n
    ·have hu:=HWT.out i
     have hpl:=HPL.out i hlt
     have hoc:=Zsy F (fun j=>((least+P j:Nat):Int)) i n i hlt
     have hwc:=Zem (fun j=>((wt j:Nat):Int)) n i hlt
     have hset:=Zg6 F (fun j=>((least+P j:Nat):Int)) i n
     have hfi:=HF2.out i
     have hvl:=HOV.out i
     have hdl:deal wt o0 i=if 0<ov wt o0 i/\0<wt i then 1 else 0:=rfl
     have hvs:ov wt o0 (i+1)=if 0<ov wt o0 i/\0<wt i then ov wt o0 i-1 else ov wt o0 i:=rfl
     rw [if_neg (by omega)] at hoc
     have hstay:deal wt o0 i=0->mixL F (fun j=>((least+P j:Nat):Int)) i n=mixL F (fun j=>((least+P j:Nat):Int)) (i+1) n:=fun h=>Zyl (by rw [hfi,h];rfl)
     rw [hfi] at hset
     generalize ov wt o0 i=v at hvs hdl hvl ⊢
     generalize deal wt o0 i=dd at hdl hset hstay
     generalize P i=q at hpl hset hoc
     generalize wt i=u at hu hwc hdl hvs
     have hgz:=(ho.lt g rfl).2
     have hhz:=(hw.lt h rfl).2
     have d0:wr.cell? ⟨g,i,none⟩=some (.int .i64 (least+q:Nat)):=(ho.cellAt i (by omega)).trans hoc
     have d1:wr.cell? ⟨h,i,none⟩=some (.int .i64 (u:Nat)):=(hw.cellAt i (by omega)).trans hwc
     have f0:=ho.frozenAt i
     obtain ⟨y,hy⟩:∃y,y=least+q:=⟨_,rfl⟩
     rw [<-hy] at hset d0
     have hyb:y<=1073807360:=by omega
     clear hoc hwc hfi hy hpl
     by_cases hv:0<v
     ·by_cases hu0:0<u
      ·rw [if_pos ⟨hv,hu0⟩] at hdl hvs
       have HV:=hid hvs
       rw [hdl] at hset
       have HSET:=hid hset
       clear hset hdl hvs
       go_wp2_with fail
       go_roundw
       case rel=>
        have hst:=ho.stored i (.int .i64 (y+1:Nat))
        refine ⟨i+1,by omega,by go_num,?_,?_,?_,?_⟩
        ·rw [HV.out]
         refine congrArg _ ?_
         omega
        ·have:=hst.1
         rw [Zh6,HSET.out] at this
         exact this
        ·exact hw.kept hst.2 (.inr (by simp [Value.ownBlock];omega))
        ·go_grown
       case measure=>simp [intOf];omega
      ·rw [if_neg (fun x=>hu0 x.2)] at hdl hvs
       have HV:=hid hvs
       have HST:=hid (hstay hdl)
       clear hset hstay hdl hvs
       go_wp2_with fail
       go_roundw
       case rel=>exact ⟨i+1,by omega,by go_num,by rw [HV.out],by rw [<-HST.out];exact ho,hw,hb⟩
       case measure=>simp [intOf];omega
     ·rw [if_neg (fun x=>hv x.1)] at hdl hvs
      have HV:=hid hvs
      have HST:=hid (hstay hdl)
      clear hset hstay hdl hvs
      go_wp2_with fail
      go_roundw
      case rel=>exact ⟨i+1,by omega,by go_num,by rw [HV.out],by rw [<-HST.out];exact ho,hw,hb⟩
      case measure=>simp [intOf];omega
    ·have hin:i=n:=by omega
     go_wp2
     go_end0
     rw [hin,Zet] at ho
     exact ⟨rfl,ho,hb⟩
def shOk (total least:Int) (n:Nat):Prop:=1<=n/\n<=200/\1<=least/\least<=65536/\least*n<=total/\total<=1073741824
def shL (total least:Int) (X:List Nat):List Int:=(List.range X.length).map (shF (wtF X) least.toNat (total-least*X.length).toNat X.length)
theorem Zxf (total least:Int) (X:List Nat):(shL total least X).length=X.length:=by simp [shL]
theorem Zur {total least:Int} {n:Nat} (h:shOk total least n):∃l r:Nat,least=l/\total=((n*l+r:Nat):Int)/\1<=l/\l<=65536/\r<=1073741824/\n*l+r<=1073741824/\n*l<=1073741824/\(total-least*n).toNat=r:=by
 obtain ⟨-,-,h1,h2,h3,h4⟩:=h
 obtain ⟨l,rfl⟩:=Int.eq_ofNat_of_zero_le (show 0<=least by omega)
 have e:(l:Int)*(n:Int)=((n*l:Nat):Int):=by rw [Int.natCast_mul,Int.mul_comm]
 rw [e] at h3
 obtain ⟨m,hm⟩:∃m,m=n*l:=⟨_,rfl⟩
 rw [<-hm] at h3
 refine ⟨l,(total-m).toNat,rfl,?_,by omega,by omega,by omega,?_,?_,?_⟩
 ·rw [<-hm];omega
 ·rw [<-hm];omega
 ·rw [<-hm];omega
 ·rw [e,<-hm]
theorem Zqm (w:Nat->Nat) (least left n:Nat) (h:sumF w n=0) (hn:1<=n) :
 ((List.range n).map fun _=>(least:Int)).set 0 ((least+left:Nat):Int)=(List.range n).map (shF w least left n):=by
 rw [<-Zes (shF w least left n)]
 have h0:shF w least left n 0=((least+left:Nat):Int):=by
  unfold shF Zfa
  rw [if_pos h,if_pos rfl]
 rw [<-h0,Zg6,<-Zet (shF w least left n) (fun _=>(least:Int))]
 refine Zvj fun j hj => ?_
 rw [if_pos hj]
 by_cases e:j<0+1
 ·rw [if_pos e]
 ·rw [if_neg e]
  unfold shF Zfa
  rw [if_pos h,if_neg (by omega)]
theorem Zup (total least:Int) (p:Option Addr) (c:Nat) (n:Nat) (w:World) (hn:n<=1000000000) (h:¬shOk total least n) :
 Calls Tryz.prog 50 #[.int .i64 total,.int .i64 least,.slice p n c] w fun e w'=>e = .returned (.tuple #[.slice none 0 0,.int .i64 1])/\Below w.heap.size w w':=by
 unfold shOk at h
 by_cases n0:n<1
 ·clear h
  go_enter Tryz.func50,Tryz.ntmps50
  go_wp2_with fail
  go_ret2
  exact ⟨rfl,by go_grown⟩
 ·by_cases n1:200<n
  ·clear h
   go_enter Tryz.func50,Tryz.ntmps50
   go_wp2_with fail
   go_ret2
   exact ⟨rfl,by go_grown⟩
  ·by_cases l0:least<1
   ·clear h
    go_enter Tryz.func50,Tryz.ntmps50
    go_wp2_with fail
    go_ret2
    exact ⟨rfl,by go_grown⟩
   ·by_cases l1:65536<least
    ·clear h
     go_enter Tryz.func50,Tryz.ntmps50
     go_wp2_with fail
     go_ret2
     exact ⟨rfl,by go_grown⟩
    ·obtain ⟨l,rfl⟩:=Int.eq_ofNat_of_zero_le (show 0<=least by omega)
     have hm:l*n<=65536*200:=Nat.mul_le_mul (by omega) (by omega)
     have e:(l:Int)*(n:Int)=((l*n:Nat):Int):=by rw [Int.natCast_mul]
     rw [e] at h
     have q0:wrap64 ((l:Int)*(n:Int))=((l*n:Nat):Int):=by
      rw [e]
      exact IntWalk.wrap64_in _ (by omega)
     generalize l*n=m at *
     clear e
     have Q0:=hid q0
     clear q0
     by_cases t0:total<(m:Int)
     ·clear h
      go_enter Tryz.func50,Tryz.ntmps50
      go_wp2_with (first|rw [Q0.out]|fail)
      go_ret2
      exact ⟨rfl,by go_grown⟩
     ·have t1:1073741824<total:=by omega
      clear h
      go_enter Tryz.func50,Tryz.ntmps50
      go_wp2_with (first|rw [Q0.out]|fail)
      go_ret2
      exact ⟨rfl,by go_grown⟩
theorem Zuq (total least:Int) (p:Option Addr) (c:Nat) (X:List Nat) (w:World) (hX:Row w p (fcs X)) (h:shOk total least X.length) :
 Calls Tryz.prog 50 #[.int .i64 total,.int .i64 least,.slice p X.length c] w fun e w'=>∃q d,e = .returned (.tuple #[.slice q X.length d,.int .i64 0]) /\
  w'.ownsRow w.heap.size 3 1 (.slice q X.length d) X.length (ics (shL total least X))/\Below w.heap.size w w':=by
 unfold shL
 have n1:=h.1
 have n2:=h.2.1
 obtain ⟨l,r,rfl,rfl,l1,l2,r1,t1,m1,e⟩:=Zur h
 rw [e,Int.toNat_natCast]
 clear h e
 have hwa:=fun wx hb=>Zne p c X wx (hX.below (w':=wx) hb) n1 n2
 have hwt:=Zwj X
 have hal:=Zqm (wtF X) l r X.length
 generalize wtF X=wt at *
 generalize hn:X.length=n at *
 clear hX
 have hmk:=Zcm (P:=Tryz.prog) (t:=25) Tryz.underlying25 Z20 n (by omega) (by unfold maxLen;omega)
 have hdv:=fun g h c d B wx hgh h0 ho hw=>Zv5 g h c d B n l r wt wx hgh n2 hwt l2 r1 h0 ho hw
 obtain ⟨m,hm⟩:∃m,m=n*l:=⟨_,rfl⟩
 rw [<-hm] at t1 m1 ⊢
 obtain ⟨T,hT⟩:∃T:Int,T=((m+r:Nat):Int):=⟨_,rfl⟩
 rw [<-hT]
 have hT1:T<=1073741824:=by omega
 have hT2:(m:Int)<=T:=by omega
 have hr:(r:Int)=T-m:=by omega
 have hr2:T-(m:Int)<=1073741824:=by omega
 simp only [hr] at hdv
 have HR:=hid hr
 have q0:wrap64 ((l:Int)*(n:Int))=(m:Int):=by
  rw [hm,show (l:Int)*(n:Int)=((n*l:Nat):Int) by rw [Int.natCast_mul,Int.mul_comm]]
  exact IntWalk.wrap64_in _ (by omega)
 have Q0:=hid q0
 have HWA:=hid hwa
 have HDV:=hid hdv
 have HAL:=hid hal
 have HWT:=hid hwt
 clear q0 hwa hdv hal hwt hm hn hT hr
 go_enter Tryz.func50,Tryz.ntmps50
 go_wp2_with (first|rw [Q0.out]|fail)
 refine (HWA.out _ (by go_grown)).mono ?_
 rintro e w1 ⟨h1,d1,rfl,hw,hb1⟩
 have hw1:Below w.heap.size w w1:=hb1
 have hz1:=hw1.size
 have hlo:=(hw.lt h1 rfl)
 have hh1:=hlo.1
 have hh2:=hlo.2
 have hown0:(w1.alloc (.cells (madeCells #[.int .i64 0] n) 3)).ownsRow w.heap.size 3 1 (.slice (some ⟨w1.heap.size,0,none⟩) n n) n (ics (mixL (fun _=>(l:Int)) (fun _=>0) 0 n)):=by
  rw [Zes,<-Zot]
  exact World.ownsRow_lit _ _ n (by omega) (by unfold maxLen;omega) (by simp [madeCells])
 have hwa2:(w1.alloc (.cells (madeCells #[.int .i64 0] n) 3)).ownsRow w.heap.size 2 1 (.slice (some ⟨h1,0,none⟩) n d1) n (ics ((List.range n).map fun j=>((wt j:Nat):Int))):=hw.alloc _
 clear hb1 hw hlo HWA
 obtain ⟨a,ha⟩:∃a,a=sumF wt n:=⟨_,rfl⟩
 rw [<-ha] at HDV HAL ⊢
 clear ha
 go_wp2_with (first|rw [Q0.out]|fail)
 go_loopw [55] (fun s55 wr=>∃k:Nat,k<=n/\s55 = .int .i64 k /\
  wr.ownsRow w.heap.size 3 1 (.slice (some ⟨w1.heap.size,0,none⟩) n n) n (ics (mixL (fun _=>(l:Int)) (fun _=>0) k n)) /\
  wr.ownsRow w.heap.size 2 1 (.slice (some ⟨h1,0,none⟩) n d1) n (ics ((List.range n).map fun j=>((wt j:Nat):Int)))/\Below w.heap.size w wr) (fun s55 _=>n-(intOf s55).toNat)
 case atStart=>exact ⟨0,Nat.zero_le _,rfl,hown0,hwa2,by go_grown⟩
 case round=>
  clear hown0 hwa2 hw1 hmk
  obtain ⟨k,hk,rfl,ho,hw,hb⟩:=hrel
  have hz:=hb.size
  have hgz:=(ho.lt w1.heap.size rfl).2
  by_cases hlt:k<n
  ·have hset:=Zg6 (fun _=>(l:Int)) (fun _=>0) k n
   obtain ⟨v0,d0⟩:∃v,wr.cell? ⟨w1.heap.size,k,none⟩=some v:=⟨_,(ho.cellAt k (by omega)).trans (List.getElem?_eq_getElem (by rw [Zmu,Zg7];exact hlt))⟩
   have f0:=ho.frozenAt k
   have HSET:=hid hset
   clear hset
   go_wp2_with fail
   go_roundw
   case rel=>
    have hst:=ho.stored k (.int .i64 (l:Nat))
    refine ⟨k+1,by omega,by go_num,?_,?_,by go_grown⟩
    ·have:=hst.1
     rw [Zh6,HSET.out] at this
     exact this
    ·exact hw.kept hst.2 (.inr (by simp [Value.ownBlock];omega))
   case measure=>simp [intOf];omega
  ·have hkn:k=n:=by omega
   have e1:mixL (fun _=>(l:Int)) (fun _=>0) k n=(List.range n).map fun _=>(l:Int):=by rw [hkn,Zet]
   rw [e1] at ho
   have hoc:=Zem (fun _=>(l:Int)) n 0 (by omega)
   have d0:wr.cell? ⟨w1.heap.size,0,none⟩=some (.int .i64 (l:Nat)):=(ho.cellAt 0 (by omega)).trans hoc
   have f0:=ho.frozenAt 0
   clear e1 hkn hoc
   by_cases ha:a=0
   ·have HA2:=hid (HAL.out ha n1)
    subst ha
    clear HAL HDV
    go_wp2_with fail
    go_ret2
    have hst:=ho.stored 0 (.int .i64 ((l:Int)+(T-m)))
    refine ⟨some ⟨w1.heap.size,0,none⟩,n,rfl,?_,by go_grown⟩
    have:=hst.1
    rw [Zh6,<-HR.out,show (l:Int)+(r:Int)=((l+r:Nat):Int) from rfl,HA2.out] at this
    rw [<-HR.out]
    exact this
   ·have ha2:((a:Int) == 0)=false:=by simp;omega
    go_wp2_with fail
    refine (HDV.out w1.heap.size h1 n d1 w.heap.size _ (by omega) (by omega) ho hw).mono ?_
    rintro e w2 ⟨rfl,ho2,hb2⟩
    have hw2:=hb.trans hb2
    go_wp2
    go_ret2
    exact ⟨some ⟨w1.heap.size,0,none⟩,n,rfl,ho2,hw2⟩
def kyV (k:Ky):Value := .agg #[.int .u64 (k.h:Int),.int .u64 (k.l:Int),.int .i64 k.n]
def x5 (x:Pl):List Value:=[.int .u64 (xh x:Int),.int .u64 (xl x:Int),.int .i64 (xn x),.int .i64 (xv x),.bool x.isSome]
structure Bkt (w:World) (g o:Nat) (C:List Pl):Prop where
 four:C.length=4
 lt:g<w.heap.size
 cell:∀(i:Nat) (hi:i<C.length) (j:Nat) (u:Value),(x5 C[i])[j]? = some u->w.cell? ⟨g,o+i*5+j,none⟩=some u
 free:∀j,j<20->w.frozen? ⟨g,o+j,none⟩=false
structure Turn (w w':World) (g o n:Nat):Prop where
 grown:w.grownBy w' (some g)
 cell:∀x,x<o\/o+n<=x->w'.cell? ⟨g,x,none⟩=w.cell? ⟨g,x,none⟩
 frozen:∀x,w'.frozen? ⟨g,x,none⟩=w.frozen? ⟨g,x,none⟩
theorem Turn.of_below {w w':World} {g o n:Nat} (hg:g<w.heap.size) (hb:Below w.heap.size w w'):Turn w w' g o n:=
 ⟨⟨hb.os,hb.tape,hb.output,hb.size,fun k hk _=>hb.block k hk⟩,fun x _=>hb.cell (p:=⟨g,x,none⟩) hg,fun x=>hb.frozen (p:=⟨g,x,none⟩) hg⟩
theorem Turn.trans {a b c:World} {g o n:Nat} (h:Turn a b g o n) (k:Turn b c g o n):Turn a c g o n:=
 ⟨h.grown.trans k.grown,fun x hx=>(k.cell x hx).trans (h.cell x hx),fun x=>(k.frozen x).trans (h.frozen x)⟩
theorem Bkt.below {w w':World} {g o:Nat} {C:List Pl} (H:Bkt w g o C) (hb:Below w.heap.size w w'):Bkt w' g o C:=
 ⟨H.four,Nat.lt_of_lt_of_le H.lt hb.size,fun i hi j u hu=>(hb.cell (p:=⟨g,o+i*5+j,none⟩) H.lt).trans (H.cell i hi j u hu),fun j hj=>(hb.frozen (p:=⟨g,o+j,none⟩) H.lt).trans (H.free j hj)⟩
theorem Bkt.kept {w w':World} {g o g' o' n:Nat} {C:List Pl} (H:Bkt w g o C) (h:Turn w w' g' o' n) (hne:g≠g'\/o+20<=o'\/o'+n<=o):Bkt w' g o C:=by
 have hc:∀x,x<20->w'.cell? ⟨g,o+x,none⟩=w.cell? ⟨g,o+x,none⟩/\w'.frozen? ⟨g,o+x,none⟩=w.frozen? ⟨g,o+x,none⟩:=by
  intro x hx
  by_cases e:g=g'
  ·subst e
   exact ⟨h.cell _ (by omega),h.frozen _⟩
  ·have hb:=h.grown.block g H.lt (by simpa using e)
   exact ⟨World.cell?_of_block hb,by unfold World.frozen?;rw [hb]⟩
 have h4:=H.four
 refine ⟨H.four,Nat.lt_of_lt_of_le H.lt h.grown.size,fun i hi j u hu => ?_,fun j hj=>(hc j hj).2.trans (H.free j hj)⟩
 have hj:j<5:=(List.getElem?_eq_some_iff.1 hu).1
 rw [Nat.add_assoc,(hc (i*5+j) (by omega)).1,<-Nat.add_assoc]
 exact H.cell i hi j u hu
theorem Bkt.at {w:World} {g o:Nat} {C:List Pl} (H:Bkt w g o C) (i:Nat) (hi:i<C.length) :
 w.cell? ⟨g,o+i*5,none⟩=some (.int .u64 (xh C[i]:Int))/\w.cell? ⟨g,o+i*5+1,none⟩=some (.int .u64 (xl C[i]:Int))/\w.cell? ⟨g,o+i*5+2,none⟩=some (.int .i64 (xn C[i]))/\w.cell? ⟨g,o+i*5+3,none⟩=some (.int .i64 (xv C[i]))/\w.cell? ⟨g,o+i*5+4,none⟩=some (.bool C[i].isSome):=
 ⟨H.cell i hi 0 _ rfl,H.cell i hi 1 _ rfl,H.cell i hi 2 _ rfl,H.cell i hi 3 _ rfl,H.cell i hi 4 _ rfl⟩
theorem Ze8 (w:World) (g o n x:Nat) (u:Value) (h1:o<=x) (h2:x<o+n):Turn w (w.setCell ⟨g,x,none⟩ u) g o n:=by
 refine ⟨⟨rfl,rfl,rfl,by rw [World.size_setCell];exact Nat.le_refl _,fun k hk hn=>Below.heap_setCell w ⟨g,x,none⟩ u k (by simpa using hn)⟩,fun y hy => ?_,fun y => ?_⟩
 ·rw [World.cell?_setCell_other]
  intro e
  injection e with e1 e2
  omega
 ·rw [World.frozen?_setCell]
theorem Turn.mono {w w':World} {g o n o' n':Nat} (h:Turn w w' g o n) (h1:o'<=o) (h2:o+n<=o'+n'):Turn w w' g o' n':=⟨h.grown,fun x hx=>h.cell x (by omega),h.frozen⟩
def put5 (w:World) (g p:Nat) (x:Pl):World:=
 ((((w.setCell ⟨g,p,none⟩ (.int .u64 (xh x:Int))).setCell ⟨g,p+1,none⟩ (.int .u64 (xl x:Int))).setCell ⟨g,p+2,none⟩ (.int .i64 (xn x))).setCell ⟨g,p+3,none⟩ (.int .i64 (xv x))).setCell ⟨g,p+4,none⟩ (.bool x.isSome)
theorem Znj (w:World) (g p:Nat) (x:Pl):Turn w (put5 w g p x) g p 5:=
 ((((Ze8 w g p 5 p _ (by omega) (by omega)).trans (Ze8 _ g p 5 (p+1) _ (by omega) (by omega))).trans (Ze8 _ g p 5 (p+2) _ (by omega) (by omega))).trans (Ze8 _ g p 5 (p+3) _ (by omega) (by omega))).trans
   (Ze8 _ g p 5 (p+4) _ (by omega) (by omega))
theorem Zxx {w:World} {g p:Nat} (x:Pl) (hc:∀j,j<5->(w.cell? ⟨g,p+j,none⟩).isSome=true) (j:Nat) (u:Value) (hu:(x5 x)[j]? = some u):(put5 w g p x).cell? ⟨g,p+j,none⟩=some u:=by
 have h0:=hc 0 (by omega)
 have h1:=hc 1 (by omega)
 have h2:=hc 2 (by omega)
 have h3:=hc 3 (by omega)
 have h4:=hc 4 (by omega)
 rw [Nat.add_zero] at h0
 have hj:j<5:=(List.getElem?_eq_some_iff.1 hu).1
 unfold put5
 rcases (show j=0\/j=1\/j=2\/j=3\/j=4 by omega) with rfl | rfl | rfl | rfl | rfl<;>(simp only [x5,List.getElem?_cons_zero,List.getElem?_cons_succ,Option.some.injEq] at hu;subst hu;simp [go_sem,h0,h1,h2,h3,h4])
theorem Bkt.put {w:World} {g o:Nat} {C:List Pl} (H:Bkt w g o C) (i:Nat) (hi:i<C.length) (x:Pl):Bkt (put5 w g (o+i*5) x) g o (C.set i x)/\Turn w (put5 w g (o+i*5) x) g o 20:=by
 have h4:=H.four
 have ht:=Znj w g (o+i*5) x
 refine ⟨⟨by simpa using h4,Nat.lt_of_lt_of_le H.lt ht.grown.size,fun k hk j u hu => ?_,fun j hj=>(ht.frozen _).trans (H.free j hj)⟩,ht.mono (by omega) (by omega)⟩
 rw [List.length_set] at hk
 have hj:j<5:=(List.getElem?_eq_some_iff.1 hu).1
 by_cases e:i=k
 ·subst e
  rw [List.getElem_set_self] at hu
  exact Zxx x (fun j hj=>by rw [H.cell i hi j _ (List.getElem?_eq_getElem (by simpa [x5] using hj))];rfl) j u hu
 ·rw [List.getElem_set_ne e] at hu
  rw [ht.cell _ (by omega)]
  exact H.cell k hk j u hu
theorem Bkt.drew {w:World} {g o:Nat} {C:List Pl} (H:Bkt w g o C):Bkt w.drew g o C:=H.below (by go_grown)
theorem Turn.drew {w w':World} {g o n:Nat} (h:Turn w w' g o n) (hl:g<w.heap.size):Turn w w'.drew g o n:=h.trans (Turn.of_below (Nat.lt_of_lt_of_le hl h.grown.size) (by go_grown))
theorem Bkt.put_drew {w w1:World} {g o:Nat} {C:List Pl} (H:Bkt w g o C) (hb:Below w.heap.size w w1) (i:Nat) (hi:i<C.length) (x:Pl) :
 Bkt (put5 w1 g (o+i*5) x).drew g o (C.set i x)/\Turn w (put5 w1 g (o+i*5) x).drew g o 20:=by
 have hP:=(H.below hb).put i hi x
 exact ⟨hP.1.drew,((Turn.of_below H.lt hb).trans hP.2).drew H.lt⟩
theorem Turn.fresh {w w1:World} {g o n:Nat} (h:Turn w w1 g o n) (hl:g<w.heap.size) (b x:Nat) (u:Value) (hb:w.heap.size<=b):Turn w (w1.setCell ⟨b,x,none⟩ u) g o n:=by
 refine ⟨⟨h.grown.os,h.grown.tape,h.grown.output,by rw [World.size_setCell];exact h.grown.size,fun k hk hn=>(Below.heap_setCell w1 ⟨b,x,none⟩ u k (by simp;omega)).trans (h.grown.block k hk hn)⟩,fun y hy => ?_,fun y => ?_⟩
 ·rw [World.cell?_setCell_other]
  ·exact h.cell y hy
  ·intro e
   injection e with e1 e2
   omega
 ·rw [World.frozen?_setCell]
  exact h.frozen y
theorem Bkt.fresh {w1:World} {g o:Nat} {C:List Pl} (H:Bkt w1 g o C) (b x:Nat) (u:Value) (hb:g≠b):Bkt (w1.setCell ⟨b,x,none⟩ u) g o C:=H.kept (Ze8 w1 b x 1 x u (Nat.le_refl _) (by omega)) (.inl hb)
theorem Turn.far {w w':World} {g o n b:Nat} (h:Turn w w' g o n) (hb:b<w.heap.size) (hne:b≠g) (x:Nat):w'.cell? ⟨b,x,none⟩=w.cell? ⟨b,x,none⟩/\w'.frozen? ⟨b,x,none⟩=w.frozen? ⟨b,x,none⟩:=by
 have hB:=h.grown.block b hb (by simpa using hne)
 exact ⟨World.cell?_of_block hB,by unfold World.frozen?;rw [hB]⟩
def bcs (C:List Pl):List Value:=C.flatMap x5
theorem Z42:∀(C:List Pl) (i:Nat) (hi:i<C.length) (j:Nat),j<5->(bcs C)[i*5+j]? = (x5 C[i])[j]?
 | x::C,0,_,j,hj=>by
  show (x5 x++bcs C)[0*5+j]? = _
  rw [List.getElem?_append_left (by simp [x5];omega)]
  simp
 | x::C,i+1,hi,j,hj=>by
  show (x5 x++bcs C)[(i+1)*5+j]? = _
  rw [List.getElem?_append_right (by simp [x5];omega),show (i+1)*5+j-(x5 x).length=i*5+j by simp [x5];omega,Z42 C i (by simpa using hi) j hj]
  simp
theorem Zm9 (C:List Pl):(bcs C).length=C.length*5:=by
 unfold bcs
 induction C with
 | nil=>rfl
 | cons x C ih=>rw [List.flatMap_cons,List.length_append,ih];simp [x5];omega
theorem Bkt.range {w:World} {g o:Nat} {C:List Pl} (H:Bkt w g o C):w.rangeAt g o (bcs C):=by
 intro j v hv
 have hl:(bcs C).length=20:=by rw [Zm9,H.four]
 have hj:j<20:=by
  have:=(List.getElem?_eq_some_iff.1 hv).1
  omega
 have h5:j/5<C.length:=by rw [H.four];omega
 have e:=Z42 C (j/5) h5 (j%5) (by omega)
 rw [show j/5*5+j%5=j by omega] at e
 have:=H.cell (j/5) h5 (j%5) v (e▸hv)
 rwa [show o+j/5*5+j%5=o+j by omega] at this
theorem Zc2 {ops:Array Oper} {rest:List Oper} {op:Oper} {a:Act} {w:World} {Q:Exit->Act->World->Prop} (x:Operand) (g o:Nat) (L:List Value) (hgd:op.guard=none) (ho:op.op = .load 152 x)
 (hx:a.eval x = .pointer (some ⟨g,o,none⟩)) (hc:w.rangeAt g o L) (hl:L.length=20) (h:wpList Tryz.prog ops Q rest (a.put op.dst (.agg L.toArray)) w):wpList Tryz.prog ops Q (op::rest) a w:=
 wpList_load_mid hgd 152 x ho g o hx L _ hc Tryz.underlying152 rfl (by rw [hl];kernel_rfl) h
theorem Za2 {ops:Array Oper} {rest:List Oper} {op:Oper} {a:Act} {w:World} {Q:Exit->Act->World->Prop} (x y:Operand) (X:Array Value) (i:Int) (v:Value) (hgd:op.guard=none) (ho:op.op = .index 152 x y)
 (hx:a.eval x = .agg X) (hy:a.eval y = .int .i64 i) (hr:∀w,(Instr.index 152 (.agg X) (.int .i64 i)).run Tryz.prog w = .ok v w) (h:wpList Tryz.prog ops Q rest (a.put op.dst v) w):wpList Tryz.prog ops Q (op::rest) a w:=
 wpList_plain hgd fun _ hK=>by
  unfold Oper.wp execOp
  simp only [ho,hx,hy,Sem.run_bind,hr,Result.andThen_ok,Sem.run_pure]
  exact hK _ _ h
set_option maxRecDepth 100000 in
theorem Zj7 {C:List Pl} (h4:C.length=4) (i:Nat) (hi:i<C.length) (w:World) :
 (Instr.index 152 (.agg (bcs C).toArray) (.int .i64 (i:Int))).run Tryz.prog w = .ok (.agg #[.int .u64 (xh C[i]:Int),.int .u64 (xl C[i]:Int),.int .i64 (xn C[i]),.int .i64 (xv C[i]),.bool C[i].isSome]) w:=by
 obtain ⟨a,b,c,d,rfl⟩:∃a b c d,C=[a,b,c,d]:=by
  match C,h4 with
  | [a,b,c,d],_=>exact ⟨a,b,c,d,rfl⟩
 simp only [List.length_cons,List.length_nil] at hi
 rcases (show i=0\/i=1\/i=2\/i=3 by omega) with rfl | rfl | rfl | rfl<;>rfl
theorem eqlK (a b:Nat) (n:Int) (c d:Nat) (m:Int) (w:World):(binOp .eql 39 (.agg #[.int .u64 a,.int .u64 b,.int .i64 n]) (.agg #[.int .u64 c,.int .u64 d,.int .i64 m])).run Tryz.prog w =
 .ok (.bool (decide (a=c/\b=d/\n=m))) w:=by
 have e1:decide (a=c/\b=d/\n=m)=(decide ((a:Int)=c)&&(decide ((b:Int)=d)&&decide (n=m))):=by
  rw [<-Bool.decide_and,<-Bool.decide_and,decide_eq_decide];omega
 rw [e1]
 by_cases h1:(a:Int)=c<;>by_cases h2:(b:Int)=d<;>by_cases h3:n=m<;>simp [go_sem,h1,h2,h3]
theorem Zmz (g o:Nat) (C:List Pl) (k:Ky) (w:World) (H:Bkt w g o C) :
 Calls Tryz.prog 118 #[.pointer (some ⟨g,o,none⟩),kyV k] w fun e w'=>e = .returned (.int .i64 (idxI (hasK k) C))/\Below w.heap.size w w':=by
 have hld:=(H.below (w':=w.alloc (.cells #[.int .u64 (k.h:Int),.int .u64 (k.l:Int),.int .i64 k.n] 39)) (by go_grown)).range
 have hll:(bcs C).length=20:=by rw [Zm9,H.four]
 have HI:=hid (fun i hi=>Zj7 H.four i hi)
 have h4:=H.four
 have hg:=H.lt
 generalize bcs C=X at hld hll HI
 clear H
 unfold kyV
 go_enter Tryz.func118,Tryz.ntmps118
 go_wp2_with (refine Zc2 _ g o X rfl rfl rfl hld hll ?_)
 clear hld hll
 go_loopw [5,6,13] (fun s5 s6 i wr=>∃(j:Nat),j<=4/\i = .int .i64 (j:Int)/\(∀x (hx:x<C.length),x<j->hasK k C[x]=false)/\wr.cell? ⟨w.heap.size,0,none⟩=some (.int .u64 (k.h:Int))/\wr.cell? ⟨w.heap.size,1,none⟩=some (.int .u64 (k.l:Int))/\wr.cell? ⟨w.heap.size,2,none⟩=some (.int .i64 k.n)/\w.heap.size<wr.heap.size/\Below w.heap.size w wr) (fun _ _ i _=>4-(intOf i).toNat)
 case atStart=>exact ⟨0,by omega,rfl,fun x _ h=>absurd h (by omega),by simp [go_sem],by simp [go_sem],by simp [go_sem],by simp,by go_grown⟩
 case round=>
  obtain ⟨j,hj,rfl,hno,k0,k1,k2,hz,hb⟩:=hrel
  by_cases hlt:j<4
  ·have hi:=HI.out j (by omega)
   have hK:=hid (Z6c k (C[j]'(by omega)))
   have hno':=hid hno
   clear hno
   generalize hx:(C[j]'(by omega))=x at hi hK
   have HX:=hid hx
   clear hx
   have hE:=eqlK (xh x) (xl x) (xn x) k.h k.l k.n
   by_cases hs:x.isSome=true
   ·rw [hs] at hi
    by_cases he:xh x=k.h/\xl x=k.l/\xn x=k.n
    ·rw [decide_eq_true he] at hE
     have hm:Hid (hasK k x=true):=by show hasK k x=true;rw [hK.out,hs,decide_eq_true he];rfl
     clear hs hK he
     go_wp2_with (refine Za2 _ _ _ _ _ rfl rfl rfl rfl hi ?_)
     go_ret
     refine ⟨Zbb (Ztd (by omega) (by rw [HX.out];exact hm.out) hno'.out).symm,by go_grown⟩
    ·rw [decide_eq_false he] at hE
     have hm:Hid (hasK k x=false):=by show hasK k x=false;rw [hK.out,hs,decide_eq_false he];rfl
     clear hs hK he
     go_wp2_with (refine Za2 _ _ _ _ _ rfl rfl rfl rfl hi ?_)
     go_roundw
     case rel=>
      refine ⟨j+1,by omega,by go_num,fun y hy hlt2 => ?_,(World.cell?_alloc_lt wr _ ⟨w.heap.size,0,none⟩ hz).trans k0,(World.cell?_alloc_lt wr _ ⟨w.heap.size,1,none⟩ hz).trans k1,(World.cell?_alloc_lt wr _ ⟨w.heap.size,2,none⟩ hz).trans k2,by simp;omega,by go_grown⟩
      by_cases e:y=j
      ·subst e;rw [HX.out];exact hm.out
      ·exact hno'.out y hy (by omega)
     case measure=>simp [intOf];omega
   ·rw [Bool.not_eq_true] at hs
    rw [hs] at hi
    have hm:Hid (hasK k x=false):=by show hasK k x=false;rw [hK.out,hs];rfl
    clear hs hK hE
    go_wp2_with (refine Za2 _ _ _ _ _ rfl rfl rfl rfl hi ?_)
    go_roundw
    case rel=>
     refine ⟨j+1,by omega,by go_num,fun y hy hlt2 => ?_,(World.cell?_alloc_lt wr _ ⟨w.heap.size,0,none⟩ hz).trans k0,(World.cell?_alloc_lt wr _ ⟨w.heap.size,1,none⟩ hz).trans k1,(World.cell?_alloc_lt wr _ ⟨w.heap.size,2,none⟩ hz).trans k2,by simp;omega,by go_grown⟩
     by_cases e:y=j
     ·subst e;rw [HX.out];exact hm.out
     ·exact hno'.out y hy (by omega)
    case measure=>simp [intOf];omega
  ·go_wp2
   go_ret
   exact ⟨Zbb (Zo2 (fun x hx=>hno x hx (by omega))).symm,hb⟩
theorem Zzu (g o:Nat) (C:List Pl) (w:World) (H:Bkt w g o C) :
 Calls Tryz.prog 170 #[.pointer (some ⟨g,o,none⟩)] w fun e w'=>e = .returned (.int .i64 (idxI Option.isNone C))/\Below w.heap.size w w':=by
 have hld:=H.range
 have hll:(bcs C).length=20:=by rw [Zm9,H.four]
 have HI:=hid (fun i hi=>Zj7 H.four i hi)
 have h4:=H.four
 have hg:=H.lt
 generalize bcs C=X at hld hll HI
 clear H
 go_enter Tryz.func170,Tryz.ntmps170
 go_wp2_with (refine Zc2 _ g o X rfl rfl rfl hld hll ?_)
 clear hld hll
 go_loopw [3,4,11] (fun s3 s4 i wr=>∃(j:Nat),j<=4/\i = .int .i64 (j:Int)/\(∀x (hx:x<C.length),x<j->Option.isNone C[x]=false)/\w.heap.size<=wr.heap.size/\Below w.heap.size w wr) (fun _ _ i _=>4-(intOf i).toNat)
 case atStart=>exact ⟨0,by omega,rfl,fun x _ h=>absurd h (by omega),Nat.le_refl _,by go_grown⟩
 case round=>
  obtain ⟨j,hj,rfl,hno,hz,hb⟩:=hrel
  by_cases hlt:j<4
  ·have hi:=HI.out j (by omega)
   have hno':=hid hno
   clear hno
   generalize hx:(C[j]'(by omega))=x at hi
   have HX:=hid hx
   clear hx
   by_cases hs:x.isSome=true
   ·rw [hs] at hi
    have hm:Hid (Option.isNone x=false):=by show Option.isNone x=false;cases x<;>simp_all
    clear hs
    go_wp2_with (refine Za2 _ _ _ _ _ rfl rfl rfl rfl hi ?_)
    go_roundw
    case rel=>
     refine ⟨j+1,by omega,by go_num,fun y hy hlt2 => ?_,by simp;omega,by go_grown⟩
     by_cases e:y=j
     ·subst e;rw [HX.out];exact hm.out
     ·exact hno'.out y hy (by omega)
    case measure=>simp [intOf];omega
   ·rw [Bool.not_eq_true] at hs
    rw [hs] at hi
    have hm:Hid (Option.isNone x=true):=by show Option.isNone x=true;cases x<;>simp_all
    clear hs
    go_wp2_with (refine Za2 _ _ _ _ _ rfl rfl rfl rfl hi ?_)
    go_ret
    refine ⟨Zbb (Ztd (by omega) (by rw [HX.out];exact hm.out) hno'.out).symm,by go_grown⟩
  ·go_wp2
   go_ret
   exact ⟨Zbb (Zo2 (fun x hx=>hno x hx (by omega))).symm,hb⟩
end Go.Proofs.YtgfjmgebecmbiaaGreat
