import Derived.Test.YtgfjmgebecmbiaaGreatW16
set_option linter.unusedSimpArgs false
set_option linter.unusedVariables false
set_option maxHeartbeats 2000000
namespace Go.Proofs.YtgfjmgebecmbiaaGreat
open Lib(hid)
section
open Go Go.RowKit Go.Sort M
structure Lev (w:World) (q:Option Addr) (m d:Nat) (M L:List Int) (n:Nat):Prop where
 len:M.length=m
 le:m<=d
 top:m<=1000000
 row:IRow w q M
 near:near M n=near L n
theorem Lev.more {w:World} {q:Option Addr} {m d:Nat} {M L:List Int} {n:Nat} (H:Lev w q m d M L n):Lev w q m d M L (n+1):=
 ⟨H.len,H.le,H.top,H.row,by rw [<-Zjw M n (n+1) (by omega),H.near,Zjw L n (n+1) (by omega)]⟩
theorem Lev.head {w:World} {q:Option Addr} {m d:Nat} {M L:List Int} {n:Nat} (H:Lev w q m d M L n) (h:0<m) :
 ∃g o a N,q=some ⟨g,o,none⟩/\g<w.heap.size/\(∀wx,Below w.heap.size w wx->wx.cell? ⟨g,o,none⟩=some (.int .i64 a))/\M=a::N /\
  (a<(n:Int)->Lev w (some ⟨g,o+1,none⟩) (m-1) (d-1) N L n/\(d=1->Lev w (some ⟨g,o,none⟩) (m-1) 0 N L n)):=by
 have hl:=H.len
 rcases M with _ | ⟨a,N⟩
 ·simp at hl;omega
 rcases H.row with h0 | ⟨g,o,e,hg,hc⟩
 ·cases h0
 refine ⟨g,o,a,N,e,hg,fun wx hb=>(hb.cell (p:=⟨g,o,none⟩) hg).trans (hc 0 _ rfl),rfl,fun ha => ?_⟩
 have hn:=H.near
 rw [Zdu,if_pos ha] at hn
 have hN:N.length=m-1:=by simp at hl;omega
 have hle:=H.le
 have htop:=H.top
 refine ⟨⟨hN,by omega,by omega,.inr ⟨g,o+1,rfl,hg,fun j u hu => ?_⟩,hn⟩,fun hd=>⟨by omega,by omega,by omega,.inl (List.length_eq_zero_iff.1 (by omega)),hn⟩⟩
 rw [show o+1+j=o+(j+1) by omega]
 exact hc (j+1) u (by simpa [ics] using hu)
theorem Lev.stop {w:World} {q:Option Addr} {m d:Nat} {M L N:List Int} {n:Nat} {a:Int} (H:Lev w q m d M L n) (e:M=a::N) (h:¬a<(n:Int)):_root_.Go.Proofs.YtgfjmgebecmbiaaGreat.near L n=a::N:=by
 rw [<-H.near,e,Zdu,if_neg h]
theorem Lev.none {w:World} {q:Option Addr} {m d:Nat} {M L:List Int} {n:Nat} (H:Lev w q m d M L n) (h:m=0):_root_.Go.Proofs.YtgfjmgebecmbiaaGreat.near L n=[]:=by
 rw [<-H.near,List.length_eq_zero_iff.1 (H.len.trans h)]
 rfl
theorem Zw0 (s x t n:Nat) (a:Int) (hn:(n:Int)<=a) (ha:a-(n:Int)<=20) (ht:x*2^(a-(n:Int)).toNat=t) (hs:s<=141836999983104) (htt:t<=1099511627776) :
 wrap64 ((s:Int)+wrap64 ((x:Int)*2^(a.toNat-n)))=((s+t:Nat):Int):=by
 have h:(x:Int)*2^(a.toNat-n)=((t:Nat):Int):=by
  rw [<-ht,show (a-(n:Int)).toNat=a.toNat-n by omega,Int.natCast_mul,Int.natCast_pow]
  rfl
 rw [h,IntWalk.wrap64_in (t:Int) (by omega),IntWalk.wrap64_in _ (by omega)]
 omega
set_option maxRecDepth 100000 in
theorem Z3s (p q:Option Addr) (c d:Nat) (C L:List Int) (low:Int) (w:World) (hC:IRow w p C) (hL:IRow w q L) (hd:L.length<=d) (h1:C.length<=1000000) (h2:L.length<=1000000) :
 Calls Tryz.prog 76 #[.slice p C.length c,.slice q L.length d,.int .i64 low] w fun e w'=>e = .returned (ansV (Zkf C L low))/\Below w.heap.size w w':=by
 by_cases h0:low<0
 ·have hc:Zkf C L low=none:=by unfold Zkf;rw [if_neg (by omega)]
  rw [hc]
  clear hc hC hL
  go_enter Tryz.func76,Tryz.ntmps76
  go_wp2
  go_ret2
  exact ⟨rfl,by go_grown⟩
 ·have hr:=Z1o q d L low w hL h2
  by_cases hri:Zg0 low L=true
  ·have hT:=fun n hn w' (hb:Below w.heap.size w w')=>Zww p c C n w' (hC.below hb) h1 hn
   have hle:=fun n=>Z8w C n
   have hm:=Zsh L low hri
   obtain ⟨R,hR⟩:∃R,R=Zkf C L low:=⟨_,rfl⟩
   have hR2:sumK C L low 129 0 0=R:=by rw [hR];unfold Zkf;rw [if_pos ⟨by omega,hri⟩]
   rw [<-hR]
   rw [hri] at hr
   have HR:=hid hR2
   have HRI:=hid hr
   have HT:=hid hT
   have HLE:=hid hle
   have HM:=hid hm
   have HV0:Hid (Lev w q L.length d L L 0):=hid ⟨rfl,hd,h2,hL,rfl⟩
   clear hR hR2 hri hr hT hle hm hC hL h1 h2 hd
   go_enter Tryz.func76,Tryz.ntmps76
   go_wp2_with fail
   refine HRI.out.mono ?_
   rintro e w1 ⟨rfl,hb1⟩
   clear HRI
   go_wp2
   go_loopg [1,8,19] 129 (fun kx s1 s8 s19 wr=>∃(n s m dd:Nat) (qq:Option Addr) (M:List Int),s19 = .int .i64 (n:Int)/\129-n<=kx/\n<=129/\s8 = .int .i64 (s:Int)/\Hid (s<=capS n)/\s1 = .slice qq m dd/\Hid (Lev w qq m dd M L n)/\Hid (sumK C L low (129-n) n s=R)/\Below w.heap.size w wr)
   case atStart=>exact ⟨0,0,_,d,q,L,rfl,by omega,by omega,rfl,hid (Nat.zero_le _),rfl,HV0,HR,hb1⟩
   case round=>
    clear HV0 HR hb1
    obtain ⟨n,s,m,dd,qq,M,rfl,h1,h2,rfl,h3,rfl,HV,HS,hb⟩:=hrel
    by_cases hn:n<129
    ·have hTT:=HT.out n (by omega) wr hb
     have hx:=HLE.out n
     have hsk:=Zw2 C L low n s hn
     have hno:=Zw3 C L low n s hn
     have hso:=Zw1 C L low n s
     have htl:∀t,Zhs (near L n) n (atC C n)=some t->t<=1099511627776:=fun t h=>Z1c h hx
     obtain ⟨x,hxx⟩:∃x,x=atC C n:=⟨_,rfl⟩
     rw [<-hxx] at hTT hx hsk hno hso htl
     rw [HS.out] at hsk hno hso
     have HTT:=hid hTT
     have HSK:=hid hsk
     have HNO:=hid hno
     have HSO:=hid hso
     have HTL:=hid htl
     clear hTT hsk hno hso htl hxx HS
     by_cases hs1:(n:Int)<=low
     ·have HS2:=hid (HSK.out (.inl hs1)).symm
      go_wp2_with fail
      refine HTT.out.mono ?_
      rintro e w2 ⟨rfl,hb2⟩
      have hb2:=hb.trans (hb2.mono hb.size)
      go_wp2
      go_roundg (129-(n+1))
      case measure=>omega
      case rel=>exact ⟨n+1,s,m,dd,qq,M,by go_num,by omega,by omega,rfl,hid (Zpt h3.out),rfl,hid HV.out.more,HS2,hb2⟩
     ·by_cases hx0:x=0
      ·have HS2:=hid (HSK.out (.inr hx0)).symm
       subst hx0
       go_wp2_with fail
       refine HTT.out.mono ?_
       rintro e w2 ⟨rfl,hb2⟩
       have hb2:=hb.trans (hb2.mono hb.size)
       go_wp2
       go_roundg (129-(n+1))
       case measure=>omega
       case rel=>exact ⟨n+1,s,m,dd,qq,M,by go_num,by omega,by omega,rfl,hid (Zpt h3.out),rfl,hid HV.out.more,HS2,hb2⟩
      ·have hx1:((x:Int) == 0)=false:=by simp;omega
       go_wp2_with fail
       refine HTT.out.mono ?_
       rintro e w2 ⟨rfl,hb2⟩
       have hb2:=hb.trans (hb2.mono hb.size)
       clear HTT hb
       go_wp2
       rename World=>wo
       go_loopg [1] m (fun kx s1 wr=>∃(m dd:Nat) (qq:Option Addr) (M:List Int),s1 = .slice qq m dd/\m<=kx/\Hid (Lev w qq m dd M L n)/\Below w.heap.size w wr)
       case atStart=>exact ⟨m,dd,qq,M,rfl,by omega,HV,hb2⟩
       case round=>
        clear HV hb2
        obtain ⟨m,dd,qq,M,rfl,h4,HV,hb⟩:=hrel
        by_cases hm0:m=0
        ·have HNN:=hid (HNO.out (by omega) (by rw [HV.out.none hm0];rfl))
         subst hm0
         go_wp2
         go_ret2
         exact ⟨by rw [HNN.out];rfl,hb⟩
        ·obtain ⟨g,o,a,N,rfl,hg,hcell,hM,hnx⟩:=HV.out.head (by omega)
         have x0:=hcell wr hb
         have hg2:=Nat.lt_of_lt_of_le hg hb.size
         have m1:(0:Int)<(m:Int):=by omega
         by_cases ha:a<(n:Int)
         ·have HNX:=hid (hnx ha)
          clear hnx hcell hM HV
          by_cases hd1:dd=1
          ·subst hd1
           go_wp2
           go_roundg (m-1)
           case measure=>omega
           case rel=>exact ⟨m-1,0,_,N,rfl,by omega,hid (HNX.out.2 trivial),hb⟩
          ·go_wp2
           go_roundg (m-1)
           case measure=>omega
           case rel=>exact ⟨m-1,dd-1,_,N,rfl,by omega,hid HNX.out.1,hb⟩
         ·have hnr:=HV.out.stop hM ha
          have hnd:=Zoq L n a N hnr
          have hm2:=HM.out a hnd.2
          by_cases h20:20<a-(n:Int)
          ·have HNN:=hid (HNO.out (by omega) (by rw [hnr];simp only [Zhs];rw [if_pos h20]))
           clear hnx hcell hM HV hnr hnd
           go_wp2
           go_ret2
           exact ⟨by rw [HNN.out];rfl,hb⟩
          ·obtain ⟨t,ht⟩:∃t,Zhs (near L n) n x=some t:=⟨_,by rw [hnr];simp only [Zhs];rw [if_neg h20]⟩
           have HSN:=hid (HSO.out t hn (by omega) ht)
           have htt:=HTL.out t ht
           have HQ:Hid ((n:Int)<=a/\x*2^(a-(n:Int)).toNat=t):=by
            rw [hnr] at ht
            simp only [Zhs] at ht
            rw [if_neg h20] at ht
            injection ht with ht
            exact hid ⟨hnd.1,ht⟩
           have HV2:=HV
           clear ht hnx hcell hM HV
           go_wp2
           go_roundg (129-(n+1))
           case measure=>omega
           case rel=>exact ⟨n+1,s+t,m,dd,_,M,by go_num,by omega,by omega,by rw [Zw0 s x t n a HQ.out.1 (by omega) HQ.out.2 (Z3x h3.out (by omega)) htt],hid (Z0k h3.out htt),rfl,hid HV2.out.more,hid HSN.out.symm,hb⟩
    ·go_wp2
     go_ret2
     have:=HS.out
     rw [show 129-n=0 by omega] at this
     exact ⟨by rw [<-this];rfl,hb⟩
  ·have hc:Zkf C L low=none:=by unfold Zkf;rw [if_neg (fun h=>hri h.2)]
   have hri2:Zg0 low L=false:=by simpa using hri
   rw [hc]
   rw [hri2] at hr
   have HRI:=hid hr
   clear hr hri hri2 hc hC hL
   go_enter Tryz.func76,Tryz.ntmps76
   go_wp2_with fail
   refine HRI.out.mono ?_
   rintro e w1 ⟨rfl,hb1⟩
   go_wp2
   go_ret2
   exact ⟨rfl,by go_grown⟩
end
section
def okC (st wd:Nat):Nat->List Nat->Bool
 | a,[]=>decide (a=wd)
 | a,b::L=>decide (a<b)&&decide (b<=a+st)&&okC st wd b L
theorem Zg2 {st wd a b:Nat} {L:List Nat}:okC st wd a (b::L)=true↔a<b/\b<=a+st/\okC st wd b L=true:=by
 simp only [okC,Bool.and_eq_true,decide_eq_true_eq]
 exact ⟨fun h=>⟨h.1.1,h.1.2,h.2⟩,fun h=>⟨⟨h.1,h.2.1⟩,h.2.2⟩⟩
theorem Zmj {st wd a:Nat}:okC st wd a []=true↔a=wd:=by simp [okC]
theorem Zom {st wd:Nat}:∀(L:List Nat) (a:Nat),okC st wd a L=true->a+L.length<=wd
 | [],a,h=>by rw [Zmj] at h;simp [h]
 | b::L,a,h=>by
  rw [Zg2] at h
  have:=Zom L b h.2.2
  simp only [List.length_cons]
  omega
def ptC (C:List Int) (a b:Nat):Nat:=smF (fun j=>atC C (a+1+j)*2^(b-(a+1+j))) (b-a)
def coC (C:List Int):Nat->List Nat->Nat
 | _,[]=>0
 | a,b::L=>ptC C a b+coC C b L
def lexL:List Nat->List Nat->Bool
 | a::A,b::B=>if a=b then lexL A B else decide (a<b)
 | _,_=>false
abbrev Wy:=Nat×List Nat
def btW (x y:Wy):Bool:=if x.1=y.1 then (if x.2.length=y.2.length then lexL x.2 y.2 else decide (x.2.length<y.2.length)) else decide (x.1<y.1)
def topO (r:Option Wy) (v:Wy):Prop:=∃x,r=some x/\btW v x=false
def Z7a (C:List Int) (st wd n a:Nat) (r:Option Wy):Prop:=
 (∀x,r=some x->okC st wd a x.2=true/\x.2.length<=n/\x.1=coC C a x.2)/\∀L,okC st wd a L=true->L.length<=n->topO r (coC C a L,L)
theorem Z7a.cap {C:List Int} {st wd n a:Nat} {r:Option Wy} (m:Nat) (h:Z7a C st wd (min n m) a r) (hm:wd-a<=m):Z7a C st wd n a r:=
 ⟨fun x hx=>⟨(h.1 x hx).1,Nat.le_trans (h.1 x hx).2.1 (Nat.min_le_left _ _),(h.1 x hx).2.2⟩,fun L hL hl=>h.2 L hL (by have:=Zom L a hL;omega)⟩
theorem Zgw (f:Nat->Nat) (m:Nat):∀k,smF f (m+k)=smF f m+smF (fun j=>f (m+j)) k
 | 0=>rfl
 | k+1=>by
  rw [<-Nat.add_assoc,smF,Zgw f m k,smF]
  omega
def toI (L:List Nat):List Int:=List.map (fun n:Nat=>(n:Int)) L
theorem Zwu (L:List Nat):(toI L).length=L.length:=by simp [toI]
theorem Zsa {st wd:Nat} (hw:wd<=128):∀(L:List Nat) (a:Nat),okC st wd a L=true->Zg0 (a:Int) (toI L)=true
 | [],_,_=>rfl
 | b::L,a,h=>by
  rw [Zg2] at h
  have hle:=Zom L b h.2.2
  simp only [toI,List.map_cons,Zg0,Bool.and_eq_true,decide_eq_true_eq]
  exact ⟨⟨by omega,by omega⟩,Zsa hw L b h.2.2⟩
def levK (L:List Nat) (n:Nat):Nat:=match near (toI L) n with | []=>0 | a::_=>2^(a-(n:Int)).toNat
theorem Zmm (b:Nat) (L:List Nat) (n:Nat):near (toI (b::L)) n=if b<n then near (toI L) n else (b:Int)::toI L:=by
 show near ((b:Int)::toI L) n=_
 rw [Zdu]
 by_cases h:b<n
 ·rw [if_pos h,if_pos (by omega)]
 ·rw [if_neg h,if_neg (by omega)]
theorem Zsv {st wd:Nat}:∀(L:List Nat) (a n:Nat),okC st wd a L=true->a<n->n<=wd->∃(b:Nat) (M:List Int),near (toI L) n=(b:Int)::M/\n<=b/\b<n+st/\b∈L
 | [],a,n,h,h1,h2=>by rw [Zmj] at h;omega
 | b::L,a,n,h,h1,h2=>by
  rw [Zg2] at h
  rw [Zmm]
  by_cases h3:b<n
  ·rw [if_pos h3]
   obtain ⟨c,M,e1,e2,e3,e4⟩:=Zsv L b n h.2.2 h3 h2
   exact ⟨c,M,e1,e2,e3,List.mem_cons_of_mem _ e4⟩
  ·rw [if_neg h3]
   exact ⟨b,toI L,rfl,by omega,by omega,List.mem_cons_self⟩
theorem Z0h (C:List Int) {st wd:Nat}:∀(L:List Nat) (a:Nat),okC st wd a L=true->smF (fun j=>atC C (a+1+j)*levK L (a+1+j)) (wd-a)=coC C a L
 | [],a,h=>by
  rw [Zmj] at h
  rw [h,Nat.sub_self]
  rfl
 | b::L,a,h=>by
  rw [Zg2] at h
  have hle:=Zom L b h.2.2
  rw [show wd-a=(b-a)+(wd-b) by omega,Zgw,coC,<-Z0h C L b h.2.2]
  congr 1
  ·unfold ptC
   refine Zc6 _ fun j hj => ?_
   unfold levK
   rw [Zmm,if_neg (by omega)]
   show _*2^((b:Int)-((a+1+j:Nat):Int)).toNat=_
   rw [show ((b:Int)-((a+1+j:Nat):Int)).toNat=b-(a+1+j) by omega]
  ·refine Zc6 _ fun j hj => ?_
   rw [show a+1+(b-a+j)=b+1+j by omega]
   unfold levK
   rw [Zmm,if_pos (by omega)]
theorem Zl7 (C L:List Int) (low:Int):∀(k n s:Nat),n+k=129->s=smF (fun j=>atC C j*keyF L low j) n ->
 (∀m,n<=m->m<129->¬((m:Int)<=low\/atC C m=0)->∃t,Zhs (near L m) m (atC C m)=some t)->sumK C L low k n s=some (smF (fun j=>atC C j*keyF L low j) 129)
 | 0,n,s,hn,hs,_=>by
  obtain rfl:n=129:=by omega
  rw [sumK,hs]
 | k+1,n,s,hn,hs,h=>by
  rw [sumK]
  by_cases h1:(n:Int)<=low\/atC C n=0
  ·rw [if_pos h1]
   refine Zl7 C L low k (n+1) s (by omega) ?_ (fun m h2 h3=>h m (by omega) h3)
   rw [smF,<-hs]
   rcases h1 with h1 | h1
   ·rw [keyF,if_pos h1];omega
   ·rw [h1];omega
  ·rw [if_neg h1]
   obtain ⟨t,ht⟩:=h n (Nat.le_refl _) (by omega) h1
   rw [ht]
   refine Zl7 C L low k (n+1) (s+t) (by omega) ?_ (fun m h2 h3=>h m (by omega) h3)
   rw [smF,<-hs]
   have:atC C n*keyF L low n=t:=by
    unfold keyF
    rw [if_neg (fun e=>h1 (.inl e))]
    cases hM:near L n with
    | nil=>rw [hM] at ht;cases ht
    | cons a M=>
     rw [hM] at ht
     simp only [Zhs] at ht
     by_cases h2:20<a-(n:Int)
     ·rw [if_pos h2] at ht;cases ht
     ·rw [if_neg h2] at ht
      injection ht with ht
   rw [this]
theorem Z6v (C D:List Int) {st wd:Nat} (hs:st<=20) (hw:wd<=128) (hD:∀j,j<=wd->atC D j=atC C j) (hZ:∀j,wd<j->atC D j=0) (L:List Nat) (a:Nat) (h:okC st wd a L=true) :
 Zkf D (toI L) (a:Int)=some (coC C a L):=by
 have hle:=Zom L a h
 unfold Zkf
 rw [if_pos ⟨by omega,Zsa hw L a h⟩,Zl7 D (toI L) (a:Int) 129 0 0 rfl rfl (fun m _ h3 h4 => ?_)]
 ·rw [<-Z0h C L a h]
  congr 1
  rw [show 129=(a+1)+((wd-a)+(128-wd)) by omega,Zgw _ (a+1) ((wd-a)+(128-wd)),Zgw _ (wd-a) (128-wd)]
  rw [Zc6 (g:=fun _=>0) (a+1) (fun n hn=>by rw [keyF,if_pos (by omega)];omega),Zma,Nat.zero_add]
  rw [Zc6 (g:=fun _=>0) (128-wd) (fun n hn=>by rw [hZ _ (by omega)];omega),Zma,Nat.add_zero]
  refine Zc6 _ fun j hj => ?_
  rw [hD _ (by omega),keyF,if_neg (by omega)]
  rfl
 ·have h5:(a:Int)<(m:Int):=by
   have:=fun e=>h4 (.inl e)
   omega
  have h6:m<=wd:=by
   by_cases h7:m<=wd
   ·exact h7
   ·exact absurd (.inr (hZ m (by omega))) h4
  obtain ⟨b,M,e1,e2,e3,-⟩:=Zsv L a m h (by omega) h6
  refine ⟨atC D m*2^((b:Int)-(m:Int)).toNat,?_⟩
  rw [e1]
  simp only [Zhs]
  rw [if_neg (by omega)]
end
section
open Go Go.RowKit Go.Sort M
def ablB (wd lo mo st:Int):Bool:=decide (1<=wd/\wd<=128/\0<=lo/\lo<=wd/\0<=mo/\mo<=128/\1<=st/\st<=20)
theorem Zrz (a b c d:Int):Zak Tryz.prog 73 #[.int .i64 a,.int .i64 b,.int .i64 c,.int .i64 d] (.bool (ablB a b c d)):=by
 intro w
 by_cases h:ablB a b c d=true
 ·rw [h]
  unfold ablB at h
  obtain ⟨h1,h2,h3,h4,h5,h6,h7,h8⟩:=of_decide_eq_true h
  clear h
  go_enter Tryz.func73,Tryz.ntmps73
  go_wp2
  go_ret
  exact ⟨rfl,by go_grown⟩
 ·have hf:ablB a b c d=false:=by simpa using h
  rw [hf]
  unfold ablB at h
  have h0:=fun e=>h (decide_eq_true e)
  clear h hf
  by_cases h1:1<=a
  ·by_cases h2:a<=128
   ·by_cases h3:0<=b
    ·by_cases h4:b<=a
     ·by_cases h5:0<=c
      ·by_cases h6:c<=128
       ·by_cases h7:1<=d
        ·have h8:¬d<=20:=fun h8=>h0 ⟨h1,h2,h3,h4,h5,h6,h7,h8⟩
         clear h0
         go_enter Tryz.func73,Tryz.ntmps73
         go_wp2
         go_ret
         exact ⟨rfl,by go_grown⟩
        ·clear h0
         go_enter Tryz.func73,Tryz.ntmps73
         go_wp2
         go_ret
         exact ⟨rfl,by go_grown⟩
       ·clear h0
        go_enter Tryz.func73,Tryz.ntmps73
        go_wp2
        go_ret
        exact ⟨rfl,by go_grown⟩
      ·clear h0
       go_enter Tryz.func73,Tryz.ntmps73
       go_wp2
       go_ret
       exact ⟨rfl,by go_grown⟩
     ·clear h0
      go_enter Tryz.func73,Tryz.ntmps73
      go_wp2
      go_ret
      exact ⟨rfl,by go_grown⟩
    ·clear h0
     go_enter Tryz.func73,Tryz.ntmps73
     go_wp2
     go_ret
     exact ⟨rfl,by go_grown⟩
   ·clear h0
    go_enter Tryz.func73,Tryz.ntmps73
    go_wp2
    go_ret
    exact ⟨rfl,by go_grown⟩
  ·clear h0
   go_enter Tryz.func73,Tryz.ntmps73
   go_wp2
   go_ret
   exact ⟨rfl,by go_grown⟩
def rgB (st wd:Int):Int->List Int->Bool
 | a,[]=>decide (a=wd)
 | a,b::L=>decide (a<b)&&decide (b-a<=st)&&rgB st wd b L
def Zc7 (wd lo mo st:Int) (L:List Int):Bool:=ablB wd lo mo st&&decide ((L.length:Int)<=mo)&&rgB st wd lo L
theorem Z1q (st wd lo:Int) (L:List Int) (i:Nat) (hi:i<L.length):rgB st wd lo (L.drop i)=(decide (lo<L[i])&&decide (L[i]-lo<=st)&&rgB st wd L[i] (L.drop (i+1))):=by
 rw [List.drop_eq_getElem_cons hi]
 rfl
theorem Zux (q:Option Addr) (d:Nat) (L:List Int) (wd lo mo st:Int) (w:World) (hL:IRow w q L) (hl:L.length<=1000000) (hW:∀x∈L,x<=9223372036854775807) :
 Calls Tryz.prog 49 #[.int .i64 wd,.int .i64 lo,.int .i64 mo,.int .i64 st,.slice q L.length d] w fun e w'=>e = .returned (.bool (Zc7 wd lo mo st L))/\Below w.heap.size w w':=by
 have hA:=Zrz wd lo mo st
 by_cases hok:ablB wd lo mo st=true/\(L.length:Int)<=mo
 ·have hab:=hok.1
  have hlm:=hok.2
  have hR:Zc7 wd lo mo st L=rgB st wd lo L:=by unfold Zc7;rw [hab,decide_eq_true hlm];rfl
  rw [hR]
  rw [hab] at hA
  unfold ablB at hab
  obtain ⟨h1,h2,h3,h4,h5,h6,h7,h8⟩:=of_decide_eq_true hab
  obtain ⟨R,hR2⟩:∃R,R=rgB st wd lo L:=⟨_,rfl⟩
  rw [<-hR2]
  have HL:=hid hL
  have HW:=hid hW
  have HR:=hid hR2.symm
  have HA:=hid hA
  clear hR hA hab hok hL hR2 hW
  go_enter Tryz.func49,Tryz.ntmps49
  go_wp2_with fail
  refine (HA.out _).mono ?_
  rintro e w1 ⟨rfl,hb1⟩
  go_wp2
  go_loopg [1,27] L.length (fun kx s1 s27 wr=>∃(i:Nat) (a:Int),s27 = .int .i64 (i:Int)/\L.length-i<=kx/\i<=L.length/\s1 = .int .i64 a/\0<=a/\Hid (rgB st wd a (L.drop i)=R)/\Below w.heap.size w wr)
  case atStart=>exact ⟨0,lo,rfl,by omega,by omega,rfl,h3,HR,hb1⟩
  case round=>
   clear HR hb1 h3 h4
   obtain ⟨i,a,rfl,h9,h10,rfl,h11,HI,hb⟩:=hrel
   by_cases hi:i<L.length
   ·obtain ⟨g,o,rfl,hg,x0⟩:=(HL.out.below hb).at hi
    have hs:=Z1q st wd a L i hi
    rw [HI.out] at hs
    have hWb:=HW.out L[i] (List.getElem_mem hi)
    obtain ⟨b,hbb⟩:∃b,b=L[i]:=⟨_,rfl⟩
    rw [<-hbb] at x0 hs hWb
    have i1:(0:Int)<=(i:Int):=by omega
    have i2:(i:Int)<(L.length:Int):=by omega
    clear hbb
    by_cases c1:b<=a
    ·have HF:Hid (false=R):=by rw [decide_eq_false (by omega:¬a<b)] at hs;exact hid hs.symm
     clear hs
     go_wp2
     go_ret
     exact ⟨Zai HF.out,hb⟩
    ·by_cases c2:st<b-a
     ·have HF:Hid (false=R):=by rw [decide_eq_false (by omega:¬b-a<=st)] at hs;simp at hs;exact hid hs.symm
      clear hs
      go_wp2
      go_ret
      exact ⟨Zai HF.out,hb⟩
     ·have HN:Hid (rgB st wd b (L.drop (i+1))=R):=by rw [decide_eq_true (by omega:a<b),decide_eq_true (by omega:b-a<=st)] at hs;simp at hs;exact hid hs.symm
      clear hs
      go_wp2
      go_roundg (L.length-(i+1))
      case measure=>omega
      case rel=>exact ⟨i+1,b,by go_num,by omega,by omega,rfl,by omega,HN,hb⟩
   ·have HE:Hid (decide (a=wd)=R):=by
     have:=HI.out
     rw [List.drop_eq_nil_of_le (by omega)] at this
     exact hid this
    by_cases he:a=wd
    ·subst he
     go_wp2
     go_ret
     exact ⟨Zai (by have:=HE.out;simpa using this),hb⟩
    ·have he2:(a == wd)=false:=by simpa using he
     go_wp2
     go_ret
     exact ⟨Zai (by have:=HE.out;rw [decide_eq_false he] at this;exact this),hb⟩
 ·have hR:Zc7 wd lo mo st L=false:=by
   unfold Zc7
   cases h:ablB wd lo mo st with
   | false=>rfl
   | true=>rw [decide_eq_false (fun e=>hok ⟨h,e⟩)];rfl
  rw [hR]
  clear hR
  by_cases hab:ablB wd lo mo st=true
  ·rw [hab] at hA
   have hlm:¬(L.length:Int)<=mo:=fun h=>hok ⟨hab,h⟩
   have HA:=hid hA
   clear hA hab hL hok hW
   go_enter Tryz.func49,Tryz.ntmps49
   go_wp2_with fail
   refine (HA.out _).mono ?_
   rintro e w1 ⟨rfl,hb1⟩
   go_wp2
   go_ret
   exact ⟨rfl,by go_grown⟩
  ·have hab:ablB wd lo mo st=false:=by simpa using hab
   rw [hab] at hA
   have HA:=hid hA
   clear hA hab hL hok hW
   go_enter Tryz.func49,Tryz.ntmps49
   go_wp2_with fail
   refine (HA.out _).mono ?_
   rintro e w1 ⟨rfl,hb1⟩
   go_wp2
   go_ret
   exact ⟨rfl,by go_grown⟩
end
section
open Go.ChangeShapes Go.WideShapes Go.ChangeAt Go.RowKit Go.Joins Go.Deep Go.Sort M
theorem RowA.ints {w:World} {p:Option Addr} {L:List Int} (h:RowA 1 (fun x=>[Value.int .i64 x]) w p L):IRow w p L:=by
 rcases h with h | ⟨g,o,e,hg,hc⟩
 ·exact .inl h
 ·refine .inr ⟨g,o,e,hg,fun j u hu => ?_⟩
  have hj:j<L.length:=by
   have:=(List.getElem?_eq_some_iff.1 hu).1
   rwa [Zmu] at this
  rw [Zte L j hj] at hu
  have:=hc j hj 0 u (by simpa using hu)
  rwa [Nat.mul_one,Nat.add_zero] at this
section
variable {H:Type} {enc:TypeId×Value->H} {w:World} {base:Nat} {spare:Nat->Bool} {held:Bool} {r:Reach} {b0:Nat}
theorem Z9f (n:Nat) (cs:List Value) (x:DataW H×List MemPlace) (h:DataW.trod enc Tryz.prog w base spare held n 3 cs=some x):∃a:Int,cs=[Value.int .i64 a]/\(Lit.int .i64 a).wf=true:=by
 obtain ⟨a,e,-,wa⟩:=DataW.trod_int Tryz.underlying3 h
 exact ⟨a,e,wa⟩
set_option maxRecDepth 100000 in
theorem open_ints {v:Value} {d:DataW H} {p:List MemPlace} (hv:Value.okWide Tryz.prog w r b0 25 v) (h:DataW.Trod enc Tryz.prog w base spare held 25 v d p) :
 ∃(q:Option Addr) (c:Nat) (L:List Int),v = .slice q L.length c/\IRow w q L/\(∀x∈L,(Lit.int .i64 x).wf=true)/\L.length<=maxLen:=by
 obtain ⟨q,c,L,e,hr,hg,hl⟩:=Zjg Tryz.underlying25 (show Tryz.prog.cellsOf 3=1 by kernel_rfl) (by decide) (fun _ _=>by simp) Z9f hv h
 exact ⟨q,c,L,e,hr.ints,hg,hl⟩
end
end
end Go.Proofs.YtgfjmgebecmbiaaGreat
