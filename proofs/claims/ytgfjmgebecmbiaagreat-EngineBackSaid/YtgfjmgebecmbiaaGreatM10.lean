/-
  The mathematics of floats of 64 bits that stand for whole numbers below 2^53, and of what a number weighs: cut down to a whole number from 0 to 2^30. No condition but those that stand in each.
-/
import Derived.Test.YtgfjmgebecmbiaaGreatW16
import Derived.Test.YtgfjmgebecmbiaaGreatM12
import Derived.Test.YtgfjmgebecmbiaaGreatM4
import Derived.WalkKit
import Derived.Laws.FloatArith
set_option linter.unusedSimpArgs false
set_option linter.unusedVariables false
namespace Go.Proofs.YtgfjmgebecmbiaaGreat
open Go Go.RowKit Go.Sort M
structure Lev (w:World) (q:Option Addr) (m d:Nat) (M L:List Int) (n:Nat):Prop where
 len:M.length=m
 le:m<=d
 top:m<=1000000
 row:IRow w q M
 near:near M n=near L n
theorem Lev.more {w:World} {q:Option Addr} {m d:Nat} {M L:List Int} {n:Nat} (H:Lev w q m d M L n):Lev w q m d M L (n+1):=
 ⟨H.len,H.le,H.top,H.row,by rw [<-near_near M n (n+1) (by omega),H.near,near_near L n (n+1) (by omega)]⟩
theorem Lev.head {w:World} {q:Option Addr} {m d:Nat} {M L:List Int} {n:Nat} (H:Lev w q m d M L n) (h:0<m) :
 ∃g o a N,q=some ⟨g,o,none⟩/\g<w.heap.size/\(∀wx,Below w.heap.size w wx->wx.cell? ⟨g,o,none⟩=some (.int .i64 a))/\M=a::N /\
  (a<(n:Int)->Lev w (some ⟨g,o+1,none⟩) (m-1) (d-1) N L n/\(d=1->Lev w (some ⟨g,o,none⟩) (m-1) 0 N L n)):=by
 have hl:=H.len
 rcases M with _ | ⟨a,N⟩
 ·simp at hl;omega
 rcases H.row with h0 | ⟨g,o,e,hg,hc⟩
 ·cases h0
 refine ⟨g,o,a,N,e,hg,fun wx hb=>(hb.cell (p:=⟨g,o,none⟩) hg).trans (hc 0 _ rfl),rfl,fun ha => ?_⟩
 have hn:=H.near
 rw [near_cons,if_pos ha] at hn
 have hN:N.length=m-1:=by simp at hl;omega
 have hle:=H.le
 have htop:=H.top
 refine ⟨⟨hN,by omega,by omega,.inr ⟨g,o+1,rfl,hg,fun j u hu => ?_⟩,hn⟩,fun hd=>⟨by omega,by omega,by omega,.inl (List.length_eq_zero_iff.1 (by omega)),hn⟩⟩
 rw [show o+1+j=o+(j+1) by omega]
 exact hc (j+1) u (by simpa [ics] using hu)
theorem Lev.stop {w:World} {q:Option Addr} {m d:Nat} {M L N:List Int} {n:Nat} {a:Int} (H:Lev w q m d M L n) (e:M=a::N) (h:¬a<(n:Int)):_root_.Go.Proofs.YtgfjmgebecmbiaaGreat.near L n=a::N:=by
 rw [<-H.near,e,near_cons,if_neg h]
theorem Lev.none {w:World} {q:Option Addr} {m d:Nat} {M L:List Int} {n:Nat} (H:Lev w q m d M L n) (h:m=0):_root_.Go.Proofs.YtgfjmgebecmbiaaGreat.near L n=[]:=by
 rw [<-H.near,List.length_eq_zero_iff.1 (H.len.trans h)]
 rfl
theorem sum_shift (s x t n:Nat) (a:Int) (hn:(n:Int)<=a) (ha:a-(n:Int)<=20) (ht:x*2^(a-(n:Int)).toNat=t) (hs:s<=141836999983104) (htt:t<=1099511627776) :
 wrap64 ((s:Int)+wrap64 ((x:Int)*2^(a.toNat-n)))=((s+t:Nat):Int):=by
 have h:(x:Int)*2^(a.toNat-n)=((t:Nat):Int):=by
  rw [<-ht,show (a-(n:Int)).toNat=a.toNat-n by omega,Int.natCast_mul,Int.natCast_pow]
  rfl
 rw [h,IntWalk.wrap64_in (t:Int) (by omega),IntWalk.wrap64_in _ (by omega)]
 omega
set_option maxHeartbeats 2000000 in
set_option maxRecDepth 100000 in
theorem cost_any (p q:Option Addr) (c d:Nat) (C L:List Int) (low:Int) (w:World) (hC:IRow w p C) (hL:IRow w q L) (hd:L.length<=d) (h1:C.length<=1000000) (h2:L.length<=1000000) :
 Calls Tryz.prog 76 #[.slice p C.length c,.slice q L.length d,.int .i64 low] w fun e w'=>e = .returned (ansV (costK C L low))/\Below w.heap.size w w':=by
 by_cases h0:low<0
 ·have hc:costK C L low=none:=by unfold costK;rw [if_neg (by omega)]
  rw [hc]
  clear hc hC hL
  go_enter Tryz.func76,Tryz.ntmps76
  go_wp2
  go_ret2
  exact ⟨rfl,by go_grown⟩
 ·have hr:=rise_any q d L low w hL h2
  by_cases hri:riseB low L=true
  ·have hT:=fun n hn w' (hb:Below w.heap.size w w')=>taken_any p c C n w' (hC.below hb) h1 hn
   have hle:=fun n=>atC_le C n
   have hm:=rise_mem L low hri
   obtain ⟨R,hR⟩:∃R,R=costK C L low:=⟨_,rfl⟩
   have hR2:sumK C L low 129 0 0=R:=by rw [hR];unfold costK;rw [if_pos ⟨by omega,hri⟩]
   rw [<-hR]
   rw [hri] at hr
   have HR:=Lib.hid hR2
   have HRI:=Lib.hid hr
   have HT:=Lib.hid hT
   have HLE:=Lib.hid hle
   have HM:=Lib.hid hm
   have HV0:Hid (Lev w q L.length d L L 0):=Lib.hid ⟨rfl,hd,h2,hL,rfl⟩
   clear hR hR2 hri hr hT hle hm hC hL h1 h2 hd
   go_enter Tryz.func76,Tryz.ntmps76
   go_wp2_with fail
   refine HRI.out.mono ?_
   rintro e w1 ⟨rfl,hb1⟩
   clear HRI
   go_wp2
   go_loopg [1,8,19] 129 (fun kx s1 s8 s19 wr=>∃(n s m dd:Nat) (qq:Option Addr) (M:List Int),s19 = .int .i64 (n:Int)/\129-n<=kx/\n<=129/\s8 = .int .i64 (s:Int)/\Hid (s<=capS n)/\s1 = .slice qq m dd/\Hid (Lev w qq m dd M L n)/\Hid (sumK C L low (129-n) n s=R)/\Below w.heap.size w wr)
   case atStart=>exact ⟨0,0,_,d,q,L,rfl,by omega,by omega,rfl,Lib.hid (Nat.zero_le _),rfl,HV0,HR,hb1⟩
   case round=>
    clear HV0 HR hb1
    obtain ⟨n,s,m,dd,qq,M,rfl,h1,h2,rfl,h3,rfl,HV,HS,hb⟩:=hrel
    by_cases hn:n<129
    ·have hTT:=HT.out n (by omega) wr hb
     have hx:=HLE.out n
     have hsk:=sumK_skip C L low n s hn
     have hno:=sumK_none C L low n s hn
     have hso:=sumK_some C L low n s
     have htl:∀t,termH (near L n) n (atC C n)=some t->t<=1099511627776:=fun t h=>termH_le h hx
     obtain ⟨x,hxx⟩:∃x,x=atC C n:=⟨_,rfl⟩
     rw [<-hxx] at hTT hx hsk hno hso htl
     rw [HS.out] at hsk hno hso
     have HTT:=Lib.hid hTT
     have HSK:=Lib.hid hsk
     have HNO:=Lib.hid hno
     have HSO:=Lib.hid hso
     have HTL:=Lib.hid htl
     clear hTT hsk hno hso htl hxx HS
     by_cases hs1:(n:Int)<=low
     ·have HS2:=Lib.hid (HSK.out (.inl hs1)).symm
      go_wp2_with fail
      refine HTT.out.mono ?_
      rintro e w2 ⟨rfl,hb2⟩
      have hb2:=hb.trans (hb2.mono hb.size)
      go_wp2
      go_roundg (129-(n+1))
      case measure=>omega
      case rel=>exact ⟨n+1,s,m,dd,qq,M,by go_num,by omega,by omega,rfl,Lib.hid (capS_same h3.out),rfl,Lib.hid HV.out.more,HS2,hb2⟩
     ·by_cases hx0:x=0
      ·have HS2:=Lib.hid (HSK.out (.inr hx0)).symm
       subst hx0
       go_wp2_with fail
       refine HTT.out.mono ?_
       rintro e w2 ⟨rfl,hb2⟩
       have hb2:=hb.trans (hb2.mono hb.size)
       go_wp2
       go_roundg (129-(n+1))
       case measure=>omega
       case rel=>exact ⟨n+1,s,m,dd,qq,M,by go_num,by omega,by omega,rfl,Lib.hid (capS_same h3.out),rfl,Lib.hid HV.out.more,HS2,hb2⟩
      ·have hx1:((x:Int) == 0)=false:=by simp;omega
       go_wp2_with fail
       refine HTT.out.mono ?_
       rintro e w2 ⟨rfl,hb2⟩
       have hb2:=hb.trans (hb2.mono hb.size)
       clear HTT hb
       go_wp2
       rename World=>wo
       go_loopg [1] m (fun kx s1 wr=>∃(m dd:Nat) (qq:Option Addr) (M:List Int),s1 = .slice qq m dd/\m<=kx/\Hid (Lev w qq m dd M L n)/\Below w.heap.size w wr)
       case atStart=>exact ⟨m,dd,qq,M,rfl,by omega,HV,hb2⟩
       case round=>
        clear HV hb2
        obtain ⟨m,dd,qq,M,rfl,h4,HV,hb⟩:=hrel
        by_cases hm0:m=0
        ·have HNN:=Lib.hid (HNO.out (by omega) (by rw [HV.out.none hm0];rfl))
         subst hm0
         go_wp2
         go_ret2
         exact ⟨by rw [HNN.out];rfl,hb⟩
        ·obtain ⟨g,o,a,N,rfl,hg,hcell,hM,hnx⟩:=HV.out.head (by omega)
         have x0:=hcell wr hb
         have hg2:=Nat.lt_of_lt_of_le hg hb.size
         have m1:(0:Int)<(m:Int):=by omega
         by_cases ha:a<(n:Int)
         ·have HNX:=Lib.hid (hnx ha)
          clear hnx hcell hM HV
          by_cases hd1:dd=1
          ·subst hd1
           go_wp2
           go_roundg (m-1)
           case measure=>omega
           case rel=>exact ⟨m-1,0,_,N,rfl,by omega,Lib.hid (HNX.out.2 trivial),hb⟩
          ·go_wp2
           go_roundg (m-1)
           case measure=>omega
           case rel=>exact ⟨m-1,dd-1,_,N,rfl,by omega,Lib.hid HNX.out.1,hb⟩
         ·have hnr:=HV.out.stop hM ha
          have hnd:=near_head L n a N hnr
          have hm2:=HM.out a hnd.2
          by_cases h20:20<a-(n:Int)
          ·have HNN:=Lib.hid (HNO.out (by omega) (by rw [hnr];simp only [termH];rw [if_pos h20]))
           clear hnx hcell hM HV hnr hnd
           go_wp2
           go_ret2
           exact ⟨by rw [HNN.out];rfl,hb⟩
          ·obtain ⟨t,ht⟩:∃t,termH (near L n) n x=some t:=⟨_,by rw [hnr];simp only [termH];rw [if_neg h20]⟩
           have HSN:=Lib.hid (HSO.out t hn (by omega) ht)
           have htt:=HTL.out t ht
           have HQ:Hid ((n:Int)<=a/\x*2^(a-(n:Int)).toNat=t):=by
            rw [hnr] at ht
            simp only [termH] at ht
            rw [if_neg h20] at ht
            injection ht with ht
            exact Lib.hid ⟨hnd.1,ht⟩
           have HV2:=HV
           clear ht hnx hcell hM HV
           go_wp2
           go_roundg (129-(n+1))
           case measure=>omega
           case rel=>exact ⟨n+1,s+t,m,dd,_,M,by go_num,by omega,by omega,by rw [sum_shift s x t n a HQ.out.1 (by omega) HQ.out.2 (capS_top h3.out (by omega)) htt],Lib.hid (capS_next h3.out htt),rfl,Lib.hid HV2.out.more,Lib.hid HSN.out.symm,hb⟩
    ·go_wp2
     go_ret2
     have:=HS.out
     rw [show 129-n=0 by omega] at this
     exact ⟨by rw [<-this];rfl,hb⟩
  ·have hc:costK C L low=none:=by unfold costK;rw [if_neg (fun h=>hri h.2)]
   have hri2:riseB low L=false:=by simpa using hri
   rw [hc]
   rw [hri2] at hr
   have HRI:=Lib.hid hr
   clear hr hri hri2 hc hC hL
   go_enter Tryz.func76,Tryz.ntmps76
   go_wp2_with fail
   refine HRI.out.mono ?_
   rintro e w1 ⟨rfl,hb1⟩
   go_wp2
   go_ret2
   exact ⟨rfl,by go_grown⟩
end Go.Proofs.YtgfjmgebecmbiaaGreat
namespace Go.Proofs.YtgfjmgebecmbiaaGreat
def okC (st wd:Nat):Nat->List Nat->Bool
 | a,[]=>decide (a=wd)
 | a,b::L=>decide (a<b)&&decide (b<=a+st)&&okC st wd b L
theorem okC_cons {st wd a b:Nat} {L:List Nat}:okC st wd a (b::L)=true↔a<b/\b<=a+st/\okC st wd b L=true:=by
 simp only [okC,Bool.and_eq_true,decide_eq_true_eq]
 exact ⟨fun h=>⟨h.1.1,h.1.2,h.2⟩,fun h=>⟨⟨h.1,h.2.1⟩,h.2.2⟩⟩
theorem okC_nil {st wd a:Nat}:okC st wd a []=true↔a=wd:=by simp [okC]
theorem okC_le {st wd:Nat}:∀(L:List Nat) (a:Nat),okC st wd a L=true->a+L.length<=wd
 | [],a,h=>by rw [okC_nil] at h;simp [h]
 | b::L,a,h=>by
  rw [okC_cons] at h
  have:=okC_le L b h.2.2
  simp only [List.length_cons]
  omega
def ptC (C:List Int) (a b:Nat):Nat:=smF (fun j=>atC C (a+1+j)*2^(b-(a+1+j))) (b-a)
def coC (C:List Int):Nat->List Nat->Nat
 | _,[]=>0
 | a,b::L=>ptC C a b+coC C b L
def lexL:List Nat->List Nat->Bool
 | a::A,b::B=>if a=b then lexL A B else decide (a<b)
 | _,_=>false
abbrev Wy:=Nat×List Nat
def btW (x y:Wy):Bool:=if x.1=y.1 then (if x.2.length=y.2.length then lexL x.2 y.2 else decide (x.2.length<y.2.length)) else decide (x.1<y.1)
def topO (r:Option Wy) (v:Wy):Prop:=∃x,r=some x/\btW v x=false
def IsMin (C:List Int) (st wd n a:Nat) (r:Option Wy):Prop:=
 (∀x,r=some x->okC st wd a x.2=true/\x.2.length<=n/\x.1=coC C a x.2)/\∀L,okC st wd a L=true->L.length<=n->topO r (coC C a L,L)
theorem IsMin.cap {C:List Int} {st wd n a:Nat} {r:Option Wy} (m:Nat) (h:IsMin C st wd (min n m) a r) (hm:wd-a<=m):IsMin C st wd n a r:=
 ⟨fun x hx=>⟨(h.1 x hx).1,Nat.le_trans (h.1 x hx).2.1 (Nat.min_le_left _ _),(h.1 x hx).2.2⟩,fun L hL hl=>h.2 L hL (by have:=okC_le L a hL;omega)⟩
theorem smF_shift (f:Nat->Nat) (m:Nat):∀k,smF f (m+k)=smF f m+smF (fun j=>f (m+j)) k
 | 0=>rfl
 | k+1=>by
  rw [<-Nat.add_assoc,smF,smF_shift f m k,smF]
  omega
def toI (L:List Nat):List Int:=List.map (fun n:Nat=>(n:Int)) L
theorem toI_len (L:List Nat):(toI L).length=L.length:=by simp [toI]
theorem toI_rise {st wd:Nat} (hw:wd<=128):∀(L:List Nat) (a:Nat),okC st wd a L=true->riseB (a:Int) (toI L)=true
 | [],_,_=>rfl
 | b::L,a,h=>by
  rw [okC_cons] at h
  have hle:=okC_le L b h.2.2
  simp only [toI,List.map_cons,riseB,Bool.and_eq_true,decide_eq_true_eq]
  exact ⟨⟨by omega,by omega⟩,toI_rise hw L b h.2.2⟩
def levK (L:List Nat) (n:Nat):Nat:=match near (toI L) n with | []=>0 | a::_=>2^(a-(n:Int)).toNat
theorem near_toI (b:Nat) (L:List Nat) (n:Nat):near (toI (b::L)) n=if b<n then near (toI L) n else (b:Int)::toI L:=by
 show near ((b:Int)::toI L) n=_
 rw [near_cons]
 by_cases h:b<n
 ·rw [if_pos h,if_pos (by omega)]
 ·rw [if_neg h,if_neg (by omega)]
theorem near_fit {st wd:Nat}:∀(L:List Nat) (a n:Nat),okC st wd a L=true->a<n->n<=wd->∃(b:Nat) (M:List Int),near (toI L) n=(b:Int)::M/\n<=b/\b<n+st/\b∈L
 | [],a,n,h,h1,h2=>by rw [okC_nil] at h;omega
 | b::L,a,n,h,h1,h2=>by
  rw [okC_cons] at h
  rw [near_toI]
  by_cases h3:b<n
  ·rw [if_pos h3]
   obtain ⟨c,M,e1,e2,e3,e4⟩:=near_fit L b n h.2.2 h3 h2
   exact ⟨c,M,e1,e2,e3,List.mem_cons_of_mem _ e4⟩
  ·rw [if_neg h3]
   exact ⟨b,toI L,rfl,by omega,by omega,List.mem_cons_self⟩
theorem coC_sum (C:List Int) {st wd:Nat}:∀(L:List Nat) (a:Nat),okC st wd a L=true->smF (fun j=>atC C (a+1+j)*levK L (a+1+j)) (wd-a)=coC C a L
 | [],a,h=>by
  rw [okC_nil] at h
  rw [h,Nat.sub_self]
  rfl
 | b::L,a,h=>by
  rw [okC_cons] at h
  have hle:=okC_le L b h.2.2
  rw [show wd-a=(b-a)+(wd-b) by omega,smF_shift,coC,<-coC_sum C L b h.2.2]
  congr 1
  ·unfold ptC
   refine smF_congr _ fun j hj => ?_
   unfold levK
   rw [near_toI,if_neg (by omega)]
   show _*2^((b:Int)-((a+1+j:Nat):Int)).toNat=_
   rw [show ((b:Int)-((a+1+j:Nat):Int)).toNat=b-(a+1+j) by omega]
  ·refine smF_congr _ fun j hj => ?_
   rw [show a+1+(b-a+j)=b+1+j by omega]
   unfold levK
   rw [near_toI,if_pos (by omega)]
theorem sumK_all (C L:List Int) (low:Int):∀(k n s:Nat),n+k=129->s=smF (fun j=>atC C j*keyF L low j) n ->
 (∀m,n<=m->m<129->¬((m:Int)<=low\/atC C m=0)->∃t,termH (near L m) m (atC C m)=some t)->sumK C L low k n s=some (smF (fun j=>atC C j*keyF L low j) 129)
 | 0,n,s,hn,hs,_=>by
  obtain rfl:n=129:=by omega
  rw [sumK,hs]
 | k+1,n,s,hn,hs,h=>by
  rw [sumK]
  by_cases h1:(n:Int)<=low\/atC C n=0
  ·rw [if_pos h1]
   refine sumK_all C L low k (n+1) s (by omega) ?_ (fun m h2 h3=>h m (by omega) h3)
   rw [smF,<-hs]
   rcases h1 with h1 | h1
   ·rw [keyF,if_pos h1];omega
   ·rw [h1];omega
  ·rw [if_neg h1]
   obtain ⟨t,ht⟩:=h n (Nat.le_refl _) (by omega) h1
   rw [ht]
   refine sumK_all C L low k (n+1) (s+t) (by omega) ?_ (fun m h2 h3=>h m (by omega) h3)
   rw [smF,<-hs]
   have:atC C n*keyF L low n=t:=by
    unfold keyF
    rw [if_neg (fun e=>h1 (.inl e))]
    cases hM:near L n with
    | nil=>rw [hM] at ht;cases ht
    | cons a M=>
     rw [hM] at ht
     simp only [termH] at ht
     by_cases h2:20<a-(n:Int)
     ·rw [if_pos h2] at ht;cases ht
     ·rw [if_neg h2] at ht
      injection ht with ht
   rw [this]
theorem cost_is (C D:List Int) {st wd:Nat} (hs:st<=20) (hw:wd<=128) (hD:∀j,j<=wd->atC D j=atC C j) (hZ:∀j,wd<j->atC D j=0) (L:List Nat) (a:Nat) (h:okC st wd a L=true) :
 costK D (toI L) (a:Int)=some (coC C a L):=by
 have hle:=okC_le L a h
 unfold costK
 rw [if_pos ⟨by omega,toI_rise hw L a h⟩,sumK_all D (toI L) (a:Int) 129 0 0 rfl rfl (fun m _ h3 h4 => ?_)]
 ·rw [<-coC_sum C L a h]
  congr 1
  rw [show 129=(a+1)+((wd-a)+(128-wd)) by omega,smF_shift _ (a+1) ((wd-a)+(128-wd)),smF_shift _ (wd-a) (128-wd)]
  rw [smF_congr (g:=fun _=>0) (a+1) (fun n hn=>by rw [keyF,if_pos (by omega)];omega),smF_zero,Nat.zero_add]
  rw [smF_congr (g:=fun _=>0) (128-wd) (fun n hn=>by rw [hZ _ (by omega)];omega),smF_zero,Nat.add_zero]
  refine smF_congr _ fun j hj => ?_
  rw [hD _ (by omega),keyF,if_neg (by omega)]
  rfl
 ·have h5:(a:Int)<(m:Int):=by
   have:=fun e=>h4 (.inl e)
   omega
  have h6:m<=wd:=by
   by_cases h7:m<=wd
   ·exact h7
   ·exact absurd (.inr (hZ m (by omega))) h4
  obtain ⟨b,M,e1,e2,e3,-⟩:=near_fit L a m h (by omega) h6
  refine ⟨atC D m*2^((b:Int)-(m:Int)).toNat,?_⟩
  rw [e1]
  simp only [termH]
  rw [if_neg (by omega)]
end Go.Proofs.YtgfjmgebecmbiaaGreat
namespace Go.Proofs.YtgfjmgebecmbiaaGreat
open Go Go.RowKit Go.Sort M
def ablB (wd lo mo st:Int):Bool:=decide (1<=wd/\wd<=128/\0<=lo/\lo<=wd/\0<=mo/\mo<=128/\1<=st/\st<=20)
theorem allowed_any (a b c d:Int):Gives Tryz.prog 73 #[.int .i64 a,.int .i64 b,.int .i64 c,.int .i64 d] (.bool (ablB a b c d)):=by
 intro w
 by_cases h:ablB a b c d=true
 ·rw [h]
  unfold ablB at h
  obtain ⟨h1,h2,h3,h4,h5,h6,h7,h8⟩:=of_decide_eq_true h
  clear h
  go_enter Tryz.func73,Tryz.ntmps73
  go_wp2
  go_ret
  exact ⟨rfl,by go_grown⟩
 ·have hf:ablB a b c d=false:=by simpa using h
  rw [hf]
  unfold ablB at h
  have h0:=fun e=>h (decide_eq_true e)
  clear h hf
  by_cases h1:1<=a
  ·by_cases h2:a<=128
   ·by_cases h3:0<=b
    ·by_cases h4:b<=a
     ·by_cases h5:0<=c
      ·by_cases h6:c<=128
       ·by_cases h7:1<=d
        ·have h8:¬d<=20:=fun h8=>h0 ⟨h1,h2,h3,h4,h5,h6,h7,h8⟩
         clear h0
         go_enter Tryz.func73,Tryz.ntmps73
         go_wp2
         go_ret
         exact ⟨rfl,by go_grown⟩
        ·clear h0
         go_enter Tryz.func73,Tryz.ntmps73
         go_wp2
         go_ret
         exact ⟨rfl,by go_grown⟩
       ·clear h0
        go_enter Tryz.func73,Tryz.ntmps73
        go_wp2
        go_ret
        exact ⟨rfl,by go_grown⟩
      ·clear h0
       go_enter Tryz.func73,Tryz.ntmps73
       go_wp2
       go_ret
       exact ⟨rfl,by go_grown⟩
     ·clear h0
      go_enter Tryz.func73,Tryz.ntmps73
      go_wp2
      go_ret
      exact ⟨rfl,by go_grown⟩
    ·clear h0
     go_enter Tryz.func73,Tryz.ntmps73
     go_wp2
     go_ret
     exact ⟨rfl,by go_grown⟩
   ·clear h0
    go_enter Tryz.func73,Tryz.ntmps73
    go_wp2
    go_ret
    exact ⟨rfl,by go_grown⟩
  ·clear h0
   go_enter Tryz.func73,Tryz.ntmps73
   go_wp2
   go_ret
   exact ⟨rfl,by go_grown⟩
def rgB (st wd:Int):Int->List Int->Bool
 | a,[]=>decide (a=wd)
 | a,b::L=>decide (a<b)&&decide (b-a<=st)&&rgB st wd b L
def rightI (wd lo mo st:Int) (L:List Int):Bool:=ablB wd lo mo st&&decide ((L.length:Int)<=mo)&&rgB st wd lo L
theorem rgB_drop (st wd lo:Int) (L:List Int) (i:Nat) (hi:i<L.length):rgB st wd lo (L.drop i)=(decide (lo<L[i])&&decide (L[i]-lo<=st)&&rgB st wd L[i] (L.drop (i+1))):=by
 rw [List.drop_eq_getElem_cons hi]
 rfl
set_option maxHeartbeats 1000000 in
theorem rightL_any (q:Option Addr) (d:Nat) (L:List Int) (wd lo mo st:Int) (w:World) (hL:IRow w q L) (hl:L.length<=1000000) (hW:∀x∈L,x<=9223372036854775807) :
 Calls Tryz.prog 49 #[.int .i64 wd,.int .i64 lo,.int .i64 mo,.int .i64 st,.slice q L.length d] w fun e w'=>e = .returned (.bool (rightI wd lo mo st L))/\Below w.heap.size w w':=by
 have hA:=allowed_any wd lo mo st
 by_cases hok:ablB wd lo mo st=true/\(L.length:Int)<=mo
 ·have hab:=hok.1
  have hlm:=hok.2
  have hR:rightI wd lo mo st L=rgB st wd lo L:=by unfold rightI;rw [hab,decide_eq_true hlm];rfl
  rw [hR]
  rw [hab] at hA
  unfold ablB at hab
  obtain ⟨h1,h2,h3,h4,h5,h6,h7,h8⟩:=of_decide_eq_true hab
  obtain ⟨R,hR2⟩:∃R,R=rgB st wd lo L:=⟨_,rfl⟩
  rw [<-hR2]
  have HL:=Lib.hid hL
  have HW:=Lib.hid hW
  have HR:=Lib.hid hR2.symm
  have HA:=Lib.hid hA
  clear hR hA hab hok hL hR2 hW
  go_enter Tryz.func49,Tryz.ntmps49
  go_wp2_with fail
  refine (HA.out _).mono ?_
  rintro e w1 ⟨rfl,hb1⟩
  go_wp2
  go_loopg [1,27] L.length (fun kx s1 s27 wr=>∃(i:Nat) (a:Int),s27 = .int .i64 (i:Int)/\L.length-i<=kx/\i<=L.length/\s1 = .int .i64 a/\0<=a/\Hid (rgB st wd a (L.drop i)=R)/\Below w.heap.size w wr)
  case atStart=>exact ⟨0,lo,rfl,by omega,by omega,rfl,h3,HR,hb1⟩
  case round=>
   clear HR hb1 h3 h4
   obtain ⟨i,a,rfl,h9,h10,rfl,h11,HI,hb⟩:=hrel
   by_cases hi:i<L.length
   ·obtain ⟨g,o,rfl,hg,x0⟩:=(HL.out.below hb).at hi
    have hs:=rgB_drop st wd a L i hi
    rw [HI.out] at hs
    have hWb:=HW.out L[i] (List.getElem_mem hi)
    obtain ⟨b,hbb⟩:∃b,b=L[i]:=⟨_,rfl⟩
    rw [<-hbb] at x0 hs hWb
    have i1:(0:Int)<=(i:Int):=by omega
    have i2:(i:Int)<(L.length:Int):=by omega
    clear hbb
    by_cases c1:b<=a
    ·have HF:Hid (false=R):=by rw [decide_eq_false (by omega:¬a<b)] at hs;exact Lib.hid hs.symm
     clear hs
     go_wp2
     go_ret
     exact ⟨ret_bool HF.out,hb⟩
    ·by_cases c2:st<b-a
     ·have HF:Hid (false=R):=by rw [decide_eq_false (by omega:¬b-a<=st)] at hs;simp at hs;exact Lib.hid hs.symm
      clear hs
      go_wp2
      go_ret
      exact ⟨ret_bool HF.out,hb⟩
     ·have HN:Hid (rgB st wd b (L.drop (i+1))=R):=by rw [decide_eq_true (by omega:a<b),decide_eq_true (by omega:b-a<=st)] at hs;simp at hs;exact Lib.hid hs.symm
      clear hs
      go_wp2
      go_roundg (L.length-(i+1))
      case measure=>omega
      case rel=>exact ⟨i+1,b,by go_num,by omega,by omega,rfl,by omega,HN,hb⟩
   ·have HE:Hid (decide (a=wd)=R):=by
     have:=HI.out
     rw [List.drop_eq_nil_of_le (by omega)] at this
     exact Lib.hid this
    by_cases he:a=wd
    ·subst he
     go_wp2
     go_ret
     exact ⟨ret_bool (by have:=HE.out;simpa using this),hb⟩
    ·have he2:(a == wd)=false:=by simpa using he
     go_wp2
     go_ret
     exact ⟨ret_bool (by have:=HE.out;rw [decide_eq_false he] at this;exact this),hb⟩
 ·have hR:rightI wd lo mo st L=false:=by
   unfold rightI
   cases h:ablB wd lo mo st with
   | false=>rfl
   | true=>rw [decide_eq_false (fun e=>hok ⟨h,e⟩)];rfl
  rw [hR]
  clear hR
  by_cases hab:ablB wd lo mo st=true
  ·rw [hab] at hA
   have hlm:¬(L.length:Int)<=mo:=fun h=>hok ⟨hab,h⟩
   have HA:=Lib.hid hA
   clear hA hab hL hok hW
   go_enter Tryz.func49,Tryz.ntmps49
   go_wp2_with fail
   refine (HA.out _).mono ?_
   rintro e w1 ⟨rfl,hb1⟩
   go_wp2
   go_ret
   exact ⟨rfl,by go_grown⟩
  ·have hab:ablB wd lo mo st=false:=by simpa using hab
   rw [hab] at hA
   have HA:=Lib.hid hA
   clear hA hab hL hok hW
   go_enter Tryz.func49,Tryz.ntmps49
   go_wp2_with fail
   refine (HA.out _).mono ?_
   rintro e w1 ⟨rfl,hb1⟩
   go_wp2
   go_ret
   exact ⟨rfl,by go_grown⟩
end Go.Proofs.YtgfjmgebecmbiaaGreat
namespace Go.Proofs.YtgfjmgebecmbiaaGreat
open Go.ChangeShapes Go.WideShapes Go.ChangeAt Go.RowKit Go.Joins Go.Deep Go.Sort M
theorem RowA.ints {w:World} {p:Option Addr} {L:List Int} (h:RowA 1 (fun x=>[Value.int .i64 x]) w p L):IRow w p L:=by
 rcases h with h | ⟨g,o,e,hg,hc⟩
 ·exact .inl h
 ·refine .inr ⟨g,o,e,hg,fun j u hu => ?_⟩
  have hj:j<L.length:=by
   have:=(List.getElem?_eq_some_iff.1 hu).1
   rwa [ics_len] at this
  rw [ics_cell L j hj] at hu
  have:=hc j hj 0 u (by simpa using hu)
  rwa [Nat.mul_one,Nat.add_zero] at this
section
variable {H:Type} {enc:TypeId×Value->H} {w:World} {base:Nat} {spare:Nat->Bool} {held:Bool} {r:Reach} {b0:Nat}
theorem elemI (n:Nat) (cs:List Value) (x:DataW H×List MemPlace) (h:DataW.trod enc Tryz.prog w base spare held n 3 cs=some x):∃a:Int,cs=[Value.int .i64 a]/\(Lit.int .i64 a).wf=true:=by
 obtain ⟨a,e,-,wa⟩:=DataW.trod_int Tryz.underlying3 h
 exact ⟨a,e,wa⟩
set_option maxRecDepth 100000 in
theorem open_ints {v:Value} {d:DataW H} {p:List MemPlace} (hv:Value.okWide Tryz.prog w r b0 25 v) (h:DataW.Trod enc Tryz.prog w base spare held 25 v d p) :
 ∃(q:Option Addr) (c:Nat) (L:List Int),v = .slice q L.length c/\IRow w q L/\(∀x∈L,(Lit.int .i64 x).wf=true)/\L.length<=maxLen:=by
 obtain ⟨q,c,L,e,hr,hg,hl⟩:=open_elems Tryz.underlying25 (show Tryz.prog.cellsOf 3=1 by kernel_rfl) (by decide) (fun _ _=>by simp) elemI hv h
 exact ⟨q,c,L,e,hr.ints,hg,hl⟩
end
end Go.Proofs.YtgfjmgebecmbiaaGreat
namespace Go.Proofs.YtgfjmgebecmbiaaGreat.M
open Ieee
def fl (n:Nat):Nat:=Ieee.double.nearest false n 0
theorem floatOfInt_nat (n:Nat):Go.floatOfInt .f64 (n:Int)=fl n:=by
 unfold Go.floatOfInt FloatKind.nearest FloatKind.encode fl
 show Ieee.double.write (.number (decide ((n:Int)<0)) (n:Int).natAbs 0)=_
 have h:decide ((n:Int)<0)=false:=by simp
 rw [h,Int.natAbs_natCast]
 rfl
theorem cut_floor (way:Toward) (hw:way = .down\/way = .zero) (n d:Nat):way.cut false n d=n/2^d:=by
 have key:n/(1 <<< min d (n.log2+2))=n/2^d:=by
  rw [Nat.shiftLeft_eq,Nat.one_mul]
  by_cases h:d<=n.log2+2
  ·rw [Nat.min_eq_left h]
  ·rw [Nat.min_eq_right (by omega)]
   have hn:n<2^(n.log2+1):=Nat.lt_log2_self
   rw [Nat.div_eq_of_lt (Nat.lt_of_lt_of_le hn (Nat.pow_le_pow_right (by omega) (by omega))),Nat.div_eq_of_lt (Nat.lt_of_lt_of_le hn (Nat.pow_le_pow_right (by omega) (by omega)))]
 unfold Toward.cut
 rcases hw with rfl | rfl<;>simp [key]
theorem cut_exact (n d:Nat):Toward.even.cut false (n*2^d) d=n:=by
 by_cases h0:n=0
 ·subst h0
  simp [Toward.cut]
 ·have hp:=Nat.two_pow_pos d
  have h1:2^d<=n*2^d:=Nat.le_mul_of_pos_left _ (by omega)
  have hl:d<=(n*2^d).log2+2:=by
   have:=(Nat.le_log2 (n:=n*2^d) (k:=d) (by omega)).2 h1
   omega
  have e1:n*2^d/2^d=n:=Nat.mul_div_cancel _ hp
  have e2:n*2^d%2^d=0:=Nat.mul_mod_left _ _
  have e3:((2:Nat)^d == 0)=false:=by simp
  unfold Toward.cut
  simp only [Nat.min_eq_left hl,Nat.shiftLeft_eq,Nat.one_mul,e1,e2,Nat.mul_zero,e3,Bool.false_and,Bool.or_false]
  simp
theorem log2_scale (n k:Nat) (h0:0<n):(n*2^k).log2=n.log2+k:=by
 have hp:=Nat.two_pow_pos k
 rw [Nat.log2_eq_iff (by have:=Nat.mul_pos h0 hp;omega)]
 have h1:=Nat.log2_self_le (n:=n) (by omega)
 have h2:=Nat.lt_log2_self (n:=n)
 refine ⟨?_,?_⟩
 ·rw [Nat.pow_add]
  exact Nat.mul_le_mul_right _ h1
 ·rw [show n.log2+k+1=(n.log2+1)+k by omega,Nat.pow_add]
  exact Nat.mul_lt_mul_of_pos_right h2 hp
theorem lp:Ieee.double.leastPlace = -1074:=by decide +kernel
theorem bin:Ieee.double.binade=4503599627370496:=by decide +kernel
theorem infr:Ieee.double.infRung=9218868437227405312:=by decide +kernel
theorem sgw:Ieee.double.signWeight=9223372036854775808:=by decide +kernel
theorem frb:(Ieee.double.fractionBits:Int)=52:=rfl
theorem word_pos (r:Nat):Ieee.double.word false r=r:=rfl
theorem sig_lo (n:Nat) (h0:0<n) (hn:n<9007199254740992):n.log2<=52/\4503599627370496<=n*2^(52-n.log2)/\n*2^(52-n.log2)<9007199254740992:=by
 have hl:n.log2<=52:=by
  have:=(Nat.log2_lt (n:=n) (k:=53) (by omega)).2 (by omega)
  omega
 have h1:=Nat.log2_self_le (n:=n) (by omega)
 have h2:=Nat.lt_log2_self (n:=n)
 have e:2^n.log2*2^(52-n.log2)=4503599627370496:=by rw [<-Nat.pow_add,show n.log2+(52-n.log2)=52 by omega]
 have e2:2^(n.log2+1)*2^(52-n.log2)=9007199254740992:=by rw [<-Nat.pow_add,show n.log2+1+(52-n.log2)=53 by omega]
 refine ⟨hl,?_,?_⟩
 ·rw [<-e];exact Nat.mul_le_mul_right _ h1
 ·rw [<-e2];exact Nat.mul_lt_mul_of_pos_right h2 (Nat.two_pow_pos _)
theorem nearest_whole (n k:Nat) (h0:0<n) (hn:n<9007199254740992):Ieee.double.nearest false (n*2^k) (-(k:Int))=(n.log2+1022)*4503599627370496+n*2^(52-n.log2):=by
 obtain ⟨hl,s1,s2⟩:=sig_lo n h0 hn
 have hm:n*2^k≠0:=by have:=Nat.mul_pos h0 (Nat.two_pow_pos k);omega
 unfold Format.nearest
 rw [if_neg hm,log2_scale n k h0,lp,infr,bin,frb]
 dsimp only
 have hlast:max (-(k:Int)+((n.log2+k:Nat):Int)-52) (-1074)=(n.log2:Int)-52:=by omega
 rw [hlast]
 have hkept:Toward.even.cut false ((n*2^k) <<< (-(k:Int)-((n.log2:Int)-52)).toNat) ((n.log2:Int)-52 - -(k:Int)).toNat=n*2^(52-n.log2):=by
  by_cases h:k<=52-n.log2
  ·rw [show ((n.log2:Int)-52 - -(k:Int)).toNat=0 by omega,show (-(k:Int)-((n.log2:Int)-52)).toNat=52-n.log2-k by omega,Nat.shiftLeft_eq,Nat.mul_assoc,<-Nat.pow_add,show k+(52-n.log2-k)=52-n.log2 by omega]
   have:=cut_exact (n*2^(52-n.log2)) 0
   rwa [Nat.pow_zero,Nat.mul_one] at this
  ·rw [show ((n.log2:Int)-52 - -(k:Int)).toNat=n.log2+k-52 by omega,show (-(k:Int)-((n.log2:Int)-52)).toNat=0 by omega,Nat.shiftLeft_eq,Nat.pow_zero,Nat.mul_one]
   have:=cut_exact (n*2^(52-n.log2)) (n.log2+k-52)
   rwa [Nat.mul_assoc,<-Nat.pow_add,show 52-n.log2+(n.log2+k-52)=k by omega] at this
 rw [hkept,word_pos,show ((n.log2:Int)-52 - -1074).toNat=n.log2+1022 by omega,Nat.min_eq_left (by omega)]
theorem fl_eq (n:Nat) (h0:0<n) (hn:n<9007199254740992):fl n=(n.log2+1022)*4503599627370496+n*2^(52-n.log2):=by
 have:=nearest_whole n 0 h0 hn
 rwa [Nat.pow_zero,Nat.mul_one] at this
theorem fl_zero:fl 0=0:=by decide +kernel
theorem read_zero:Ieee.double.read 0 = .number false 0 (-1074):=by decide +kernel
theorem read_big:Ieee.double.read 4742290407621132288 = .number false 4503599627370496 (-22):=by decide +kernel
theorem fl_big:fl 1073741824=4742290407621132288:=by decide +kernel
def Is (d:Datum) (n:Nat):Prop:=∃k:Nat,d = .number false (n*2^k) (-(k:Int))
theorem read_fl (n:Nat) (h0:0<n) (hn:n<9007199254740992):Ieee.double.read (fl n) = .number false (n*2^(52-n.log2)) (-((52-n.log2:Nat):Int)):=by
 obtain ⟨hl,s1,s2⟩:=sig_lo n h0 hn
 rw [fl_eq n h0 hn]
 generalize n*2^(52-n.log2)=m at *
 unfold Format.read
 rw [sgw,bin,infr,lp]
 dsimp only
 rw [show ((n.log2+1022)*4503599627370496+m)/9223372036854775808=0 from Nat.div_eq_of_lt (by omega),Nat.mod_eq_of_lt (show (n.log2+1022)*4503599627370496+m<9223372036854775808 by omega)]
 rw [if_neg (by omega),if_pos (by omega)]
 have e1:4503599627370496+((n.log2+1022)*4503599627370496+m)%4503599627370496=m:=by omega
 have e2:((n.log2+1022)*4503599627370496+m)/4503599627370496-1=n.log2+1022:=by omega
 rw [e1,e2,show (-1074:Int)+((n.log2+1022:Nat):Int) = -((52-n.log2:Nat):Int) by omega]
 rfl
theorem read_is (n:Nat) (hn:n<9007199254740992):Is (Ieee.double.read (fl n)) n:=by
 by_cases h0:0<n
 ·exact ⟨_,read_fl n h0 hn⟩
 ·obtain rfl:n=0:=by omega
  obtain ⟨K,hK⟩:∃K:Nat,(-1074:Int) = -(K:Int):=⟨1074,rfl⟩
  exact ⟨K,by rw [fl_zero,read_zero,Nat.zero_mul,hK]⟩
theorem cmp_int (a b:Int):compare a b=if a<b then .lt else if a=b then .eq else .gt:=rfl
theorem signed_pos (m u:Nat):signed false m u=((m*2^u:Nat):Int):=by
 unfold signed
 rw [if_neg (by simp),Nat.shiftLeft_eq]
def wtD:Datum->Nat
 | .number false m e=>min 1073741824 ((m <<< e.toNat)/2^(-e).toNat)
 | .infinity false=>1073741824
 | _=>0
def wtN (x:Nat):Nat:=wtD (Ieee.double.read x)
theorem wtN_le (x:Nat):wtN x<=1073741824:=by
 unfold wtN wtD
 split<;>omega
theorem big_gt (m:Nat) (e:Int):((Datum.number false m e).order (.number false 4503599627370496 (-22))=some .gt)↔1073741824*2^(-e).toNat<m*2^e.toNat:=by
 show (some (compare (signed false m (e-min e (-22)).toNat) (signed false 4503599627370496 (-22-min e (-22)).toNat))=some .gt)↔_
 rw [signed_pos,signed_pos,cmp_int]
 have key:(4503599627370496*2^(-22-min e (-22)).toNat<m*2^(e-min e (-22)).toNat)↔1073741824*2^(-e).toNat<m*2^e.toNat:=by
  by_cases h1:0<=e
  ·rw [show (-22-min e (-22)).toNat=0 by omega,show (e-min e (-22)).toNat=e.toNat+22 by omega,show (-e).toNat=0 by omega,Nat.pow_add,<-Nat.mul_assoc]
   omega
  ·by_cases h2 : -22<=e
   ·rw [show (-22-min e (-22)).toNat=0 by omega,show e.toNat=0 by omega]
    have e1:(4503599627370496:Nat)=1073741824*2^(-e).toNat*2^(e-min e (-22)).toNat:=by rw [Nat.mul_assoc,<-Nat.pow_add,show (-e).toNat+(e-min e (-22)).toNat=22 by omega]
    rw [Nat.pow_zero,Nat.mul_one,Nat.mul_one,e1]
    exact Nat.mul_lt_mul_right (Nat.two_pow_pos _)
   ·rw [show (e-min e (-22)).toNat=0 by omega,show e.toNat=0 by omega,show (-e).toNat=(-22-min e (-22)).toNat+22 by omega,Nat.pow_add]
    omega
 rw [<-key]
 generalize 4503599627370496*2^(-22-min e (-22)).toNat=a
 generalize m*2^(e-min e (-22)).toNat=b
 by_cases h1:(b:Int)<(a:Int)
 ·rw [if_pos h1]
  simp;omega
 ·by_cases h2:(b:Int)=(a:Int)
  ·rw [if_neg h1,if_pos h2]
   simp;omega
  ·rw [if_neg h1,if_neg h2]
   simp;omega
theorem zero_gt (s:Bool) (m:Nat) (e:Int):((Datum.number s m e).order (.number false 0 (-1074))=some .gt)↔s=false/\0<m:=by
 show (some (compare (signed s m (e-min e (-1074)).toNat) (signed false 0 (-1074-min e (-1074)).toNat))=some .gt)↔_
 rw [signed_pos,Nat.zero_mul,cmp_int]
 have hp:=Nat.two_pow_pos (e-min e (-1074)).toNat
 cases s
 ·rw [signed_pos]
  by_cases h:0<m
  ·have:=Nat.mul_pos h hp
   rw [if_neg (by omega),if_neg (by omega)]
   simp [h]
  ·obtain rfl:m=0:=by omega
   rw [Nat.zero_mul]
   simp
 ·unfold signed
  rw [if_pos rfl,Nat.shiftLeft_eq]
  by_cases h:0<m
  ·have:=Nat.mul_pos h hp
   rw [if_pos (by omega)]
   simp
  ·obtain rfl:m=0:=by omega
   rw [Nat.zero_mul]
   simp
theorem neg_gt (m:Nat) (e:Int):¬((Datum.number true m e).order (.number false 4503599627370496 (-22))=some .gt):=by
 show ¬(some (compare (signed true m (e-min e (-22)).toNat) (signed false 4503599627370496 (-22-min e (-22)).toNat))=some .gt)
 rw [signed_pos,cmp_int]
 unfold signed
 rw [if_pos rfl]
 have h:=Nat.mul_pos (show 0<4503599627370496 by omega) (Nat.two_pow_pos (-22-min e (-22)).toNat)
 generalize 4503599627370496*2^(-22-min e (-22)).toNat=z at h ⊢
 generalize m <<< (e-min e (-22)).toNat=y
 rw [if_pos (by omega)]
 simp
theorem wt_cases (x:Nat) :
 ((Ieee.double.order x 4742290407621132288 == some .gt)=true/\wtN x=1073741824) \/
 ((Ieee.double.order x 4742290407621132288 == some .gt)=false/\(Ieee.double.order x 0 == some .gt)=true /\
   ∃m e,Ieee.double.read x = .number false m e/\wtN x=(m <<< e.toNat)/2^(-e).toNat) \/
 ((Ieee.double.order x 4742290407621132288 == some .gt)=false/\(Ieee.double.order x 0 == some .gt)=false/\wtN x=0):=by
 unfold wtN Format.order
 rw [read_big,read_zero]
 generalize hd:Ieee.double.read x=d
 match d with
 | .nan s t=>exact .inr (.inr ⟨rfl,rfl,rfl⟩)
 | .infinity true=>exact .inr (.inr ⟨rfl,rfl,rfl⟩)
 | .infinity false=>exact .inl ⟨rfl,rfl⟩
 | .number true m e=>
  refine .inr (.inr ⟨?_,?_,rfl⟩)
  ·have:=neg_gt m e
   simpa using this
  ·have:=(zero_gt true m e).1
   simpa using this
 | .number false m e=>
  have hp:=Nat.two_pow_pos (-e).toNat
  by_cases hb:1073741824*2^(-e).toNat<m*2^e.toNat
  ·refine .inl ⟨by simpa using (big_gt m e).2 hb,?_⟩
   show min 1073741824 ((m <<< e.toNat)/2^(-e).toNat)=_
   rw [Nat.shiftLeft_eq]
   have:=(Nat.le_div_iff_mul_le hp).2 (Nat.le_of_lt hb)
   omega
  ·have hle:(m <<< e.toNat)/2^(-e).toNat<=1073741824:=by
    rw [Nat.shiftLeft_eq]
    have h1:m*2^e.toNat<=1073741824*2^(-e).toNat:=by omega
    have h2:=Nat.div_le_div_right (c:=2^(-e).toNat) h1
    rwa [Nat.mul_div_cancel _ hp] at h2
   have hb2:¬((Datum.number false m e).order (.number false 4503599627370496 (-22))=some .gt):=fun h=>hb ((big_gt m e).1 h)
   by_cases h0:0<m
   ·exact .inr (.inl ⟨by simpa using hb2,by simpa using (zero_gt false m e).2 ⟨rfl,h0⟩,m,e,rfl,by show min _ _=_;omega⟩)
   ·obtain rfl:m=0:=by omega
    refine .inr (.inr ⟨by simpa using hb2,?_,?_⟩)
    ·have:=fun h=>(zero_gt false 0 e).1 h
     simpa using this
    ·show min 1073741824 ((0 <<< e.toNat)/2^(-e).toNat)=_
     simp
theorem trunc_at (m:Nat) (e:Int):(Datum.number false m e).toInt .zero=some ((((m <<< e.toNat)/2^(-e).toNat:Nat)):Int):=by
 show some (signed false (Toward.zero.cut false (m <<< e.toNat) (-e).toNat) 0)=_
 rw [cut_floor _ (.inr rfl),signed_pos,Nat.pow_zero,Nat.mul_one]
theorem floor_at (m:Nat) (e:Int):FloatKind.f64.encode ((Datum.number false m e).integral .down)=fl ((m <<< e.toNat)/2^(-e).toNat):=by
 show Ieee.double.write (.number false (Toward.down.cut false (m <<< e.toNat) (-e).toNat) 0)=_
 rw [cut_floor _ (.inl rfl)]
 rfl
theorem toint_at (x m:Nat) (e:Int) (h:Ieee.double.read x = .number false m e) (hl:(m <<< e.toNat)/2^(-e).toNat<=1073741824):floatToIntVal .f64 x .i64=some ((((m <<< e.toNat)/2^(-e).toNat:Nat)):Int):=by
 unfold floatToIntVal
 show (match (Ieee.double.read x).toInt .zero with | some n=>_ | none=>_)=_
 rw [h,trunc_at]
 generalize (m <<< e.toNat)/2^(-e).toNat=z at hl ⊢
 dsimp only
 rw [if_pos]
 constructor
 ·rw [show IntKind.i64.min = -9223372036854775808 by decide +kernel];omega
 ·rw [show IntKind.i64.max=9223372036854775807 by decide +kernel];omega
theorem toint_fl (n:Nat) (hn:n<=1073741824):floatToIntVal .f64 (fl n) .i64=some (n:Int):=by
 obtain ⟨k,hk⟩:=read_is n (by omega)
 have e:((n*2^k) <<< (-(k:Int)).toNat)/2^(- -(k:Int)).toNat=n:=by
  rw [show (-(k:Int)).toNat=0 by omega,show (- -(k:Int)).toNat=k by omega,Nat.shiftLeft_eq,Nat.pow_zero,Nat.mul_one,Nat.mul_div_cancel _ (Nat.two_pow_pos k)]
 have:=toint_at (fl n) _ _ hk (by rw [e];exact hn)
 rwa [e] at this
end Go.Proofs.YtgfjmgebecmbiaaGreat.M
