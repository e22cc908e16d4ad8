import Derived.Test.YtgfjmgebecmbiaaGreatW12m
import Derived.Test.YtgfjmgebecmbiaaGreatW12l
import Derived.Test.YtgfjmgebecmbiaaGreatRT3
import Derived.Test.YtgfjmgebecmbiaaGreatRL14
import Derived.Test.YtgfjmgebecmbiaaGreatL22b
set_option linter.unusedSimpArgs false
set_option linter.unusedVariables false
set_option maxHeartbeats 4000000
namespace Go.Proofs.YtgfjmgebecmbiaaGreat
open Lib(hid)
section
open Go.RowKit Go.Sort M
theorem Zsp:∀(L:List Rt) (k:Ky),(Zad L).Nodup->(outS L k).length+(if k∈Zad L then 1 else 0)=L.length
 | [],k,_=>by simp [outS,Zad]
 | a::L,k,h=>by
  have h1:a.k∉Zad L/\(Zad L).Nodup:=by
   unfold Zad at *
   rw [List.map_cons,List.nodup_cons] at h
   exact h
  have ih:=Zsp L k h1.2
  by_cases e:a.k=k
  ·have e1:outS (a::L) k=outS L k:=by unfold outS;rw [List.filter_cons,if_neg (by simp [e])]
   have e2:k∈Zad (a::L):=by unfold Zad;simp [e]
   have e3:k∉Zad L:=by rw [<-e];exact h1.1
   rw [e1,if_pos e2,List.length_cons]
   rw [if_neg e3] at ih
   omega
  ·have e1:outS (a::L) k=a::outS L k:=by unfold outS;rw [List.filter_cons,if_pos (by simp [e])]
   have e2:k∈Zad (a::L)↔k∈Zad L:=by unfold Zad;simp [Ne.symm e]
   rw [e1,List.length_cons,List.length_cons]
   by_cases hm:k∈Zad L
   ·rw [if_pos (e2.2 hm)]
    rw [if_pos hm] at ih
    omega
   ·rw [if_neg (fun x=>hm (e2.1 x))]
    rw [if_neg hm] at ih
    omega
theorem Kept.nodup {T:Tab} {N:List Rt} (H:Kept T N):(Zad (Zae T)).Nodup:=(Za6 H.all).nodup_iff.2 H.sort.nodup
theorem Kept.del_len {T:Tab} {N:List Rt} (H:Kept T N) (k:Ky):(if (delT T k).2=true then ((Zae T).length:Int)-1 else ((Zae T).length:Int))=((Zae (delT T k).1).length:Int):=by
 have h:=Zrs H.inv k
 have h1:=h.2.1.length_eq
 have h2:=Zsp (Zae T) k H.nodup
 by_cases e:(delT T k).2=true
 ·rw [if_pos e]
  rw [if_pos (h.2.2.1 e)] at h2
  omega
 ·rw [if_neg e]
  rw [if_neg (fun x=>e (h.2.2.2 x))] at h2
  omega
theorem Seat.del {P:Nat->Prop} (t:Nat) (T:Tab) {N:List Rt} (k:Ky) (w:World) (H:Seat P w t T) (HK:Kept T N) (hk:k.good) (hfew:(Zae T).length<262144) (hP:∀k,w.heap.size<=k->P k) :
 Calls Tryz.prog 100 #[.pointer (some ⟨t,0,none⟩),kyV k] w fun e w'=>e = .returned (.bool (delT T k).2)/\Seat P w' t (delT T k).1/\Touch P w w':=by
 obtain ⟨g,v,h,hp⟩:=H
 have hst:=Zw7 T
 refine (Zpj t g v T _ k w h HK.inv.num hk (by omega) (by omega) HK.inv.sort (by omega)).mono ?_
 rintro e w' ⟨rfl,g',v',h',ht,hs⟩
 rw [HK.del_len] at h'
 refine ⟨rfl,⟨g',v',h',fun k hk' => ?_⟩,ht.mono fun k _ hk=>hp k hk⟩
 by_cases e:k<w.heap.size
 ·exact hp k (hs k hk' e)
 ·exact hP k (by omega)
theorem Seat.all {P:Nat->Prop} (t:Nat) (T:Tab) {N:List Rt} (w:World) (H:Seat P w t T) (HK:Kept T N) (hfew:(Zae T).length<262144) :
 Calls Tryz.prog 72 #[.pointer (some ⟨t,0,none⟩)] w fun e w'=>∃p c,e = .returned (.slice p N.length c)/\Row w' p (rcs N)/\Below w.heap.size w w':=by
 obtain ⟨g,v,h,hp⟩:=H
 have hst:=Zw7 T
 refine (Z0q t g v T _ w h HK.inv.num (by omega) HK.nodup).mono ?_
 rintro e w' ⟨p,c,M,rfl,hr,m1,m2,hb⟩
 have:=HK.sorted m2 m1
 subst this
 exact ⟨p,c,rfl,hr,hb⟩
structure Ze6 (w wr:World) (t:Nat) (T:Tab) (N:List Rt) (vn:Value):Prop where
 seat:Seat (fun k=>w.heap.size<=k/\vn.ownBlock≠some k) wr t T
 own:wr.ownsRow w.heap.size 41 4 vn N.length (rcs N)
 below:Below w.heap.size w wr
theorem Ze6.quiet {w wr wx:World} {t:Nat} {T:Tab} {N:List Rt} {vn:Value} (H:Ze6 w wr t T N vn) (hb:Below wr.heap.size wr wx):Ze6 w wx t T N vn:=⟨H.seat.below hb,own_below H.own hb,H.below.trans (hb.mono H.below.size)⟩
theorem Ze6.turn {w wr wx:World} {t:Nat} {T T':Tab} {N:List Rt} {vn:Value} (H:Ze6 w wr t T N vn) (hs:Seat (fun k=>w.heap.size<=k/\vn.ownBlock≠some k) wx t T') (ht:Touch (fun k=>w.heap.size<=k/\vn.ownBlock≠some k) wr wx):Ze6 w wx t T' N vn:=
 ⟨hs,Touch.own H.own ht (fun j e hj=>hj.2 e),H.below.trans (ht.below H.below.size fun k hk=>hk.1)⟩
theorem Ze6.row {w wr wx:World} {t:Nat} {T:Tab} {N M:List Rt} {vn:Value} {p:Option Addr} {c:Nat} (H:Ze6 w wr t T N vn) (ho:wx.ownsRow wr.heap.size 41 4 (.slice p M.length c) M.length (rcs M)) (hb:Below wr.heap.size wr wx):Ze6 w wx t T M (.slice p M.length c):=by
 refine ⟨(H.seat.mono (Q:=fun k=>w.heap.size<=k/\(Value.slice p M.length c).ownBlock≠some k) fun k hk hp=>⟨hp.1,fun e => ?_⟩).below hb,Za4 ho H.below.size,H.below.trans (hb.mono H.below.size)⟩
 have:=(ho.lt k e).1
 omega
theorem Ze6.new {w wr:World} {t:Nat} {T:Tab} {N:List Rt} {vn:Value} (H:Ze6 w wr t T N vn):∀k,wr.heap.size<=k->w.heap.size<=k/\vn.ownBlock≠some k:=by
 intro k hk
 exact ⟨Nat.le_trans H.below.size hk,fun e=>by have:=(H.own.lt k e).2;omega⟩
end
section
open Go Go.RowKit Go.Sort M
theorem Zif.touched {w w':World} {K S:Nat->Prop} {t:Nat} {V:Lv} {lo hi f g u b:Nat} {v:Value} (H:Zif w K t V lo hi f g u b v) (ht:Touch S w w') (hn:∀j,K j->¬S j):Zif w' K t V lo hi f g u b v:=
 ⟨Nat.lt_of_lt_of_le H.lt ht.size,ht.cell H.c0 (hn _ H.kt),ht.cell H.c1 (hn _ H.kt),ht.cell H.c2 (hn _ H.kt),H.fil.touched ht (fun j h1 h2=>hn _ (H.kf j ⟨h1,h2⟩)),H.tab.touched Zt3 ht (fun j hj=>hn _ (H.kb j hj)),H.kt,H.kf,H.kb,H.tf,H.tb,H.fb⟩
theorem Zif.below {w w':World} {K:Nat->Prop} {t:Nat} {V:Lv} {lo hi f g u b:Nat} {v:Value} (H:Zif w K t V lo hi f g u b v) (hb:Below w.heap.size w w'):Zif w' K t V lo hi f g u b v:=H.touched (S:=fun _=>False) (Touch.quiet hb) (fun _ _ x=>x)
theorem Zif.mono {w:World} {K K':Nat->Prop} {t:Nat} {V:Lv} {lo hi f g u b:Nat} {v:Value} (H:Zif w K t V lo hi f g u b v) (h:∀j,K j->K' j):Zif w K' t V lo hi f g u b v:=
 ⟨H.lt,H.c0,H.c1,H.c2,H.fil,H.tab,h _ H.kt,fun j hj=>h _ (H.kf j hj),fun j hj=>h _ (H.kb j hj),H.tf,H.tb,H.fb⟩
theorem Zif.fil_step {w w':World} {K:Nat->Prop} {t:Nat} {V:Lv} {lo hi f g u b:Nat} {v:Value} {C':List Nat} (H:Zif w K t V lo hi f g u b v) (hf:RFil w' lo hi f g V.s V.k C') (ht:Touch (In lo hi) w w') :
 Zif w' K t { V with C:=C' } lo hi f g u b v/\Touch K w w':=
 ⟨⟨Nat.lt_of_lt_of_le H.lt ht.size,ht.cell H.c0 H.tf,ht.cell H.c1 H.tf,ht.cell H.c2 H.tf,hf,H.tab.touched Zt3 ht (fun j hj hn=>H.fb j hj hn),H.kt,H.kf,H.kb,H.tf,H.tb,H.fb⟩,ht.mono fun k _ hk=>H.kf k hk⟩
def Z0u (w wr:World) (K:Nat->Prop) (t:Nat) (V:Lv) (N:List Rt):Prop:=LvOk V N/\∃K',RLev wr K' t V/\Touch K w wr/\∀g,K' g->K g\/In w.heap.size wr.heap.size g
theorem Z0u.below {w wr w':World} {K:Nat->Prop} {t:Nat} {V:Lv} {N:List Rt} (h:Z0u w wr K t V N) (hb:Below wr.heap.size wr w'):Z0u w w' K t V N:=by
 obtain ⟨h1,K',h2,h3,h4⟩:=h
 refine ⟨h1,K',h2.below hb,h3.trans (.quiet hb),fun g hg => ?_⟩
 rcases h4 g hg with h | h
 ·exact .inl h
 ·exact .inr ⟨h.1,Nat.lt_of_lt_of_le h.2 hb.size⟩
theorem Zas {a b c:World} {K K1:Nat->Prop} (h:Touch K a b) (hs:∀g,K1 g->K g\/a.heap.size<=g) (k:Touch K1 b c):Touch K a c:=
 ⟨k.os.trans h.os,k.tape.trans h.tape,k.output.trans h.output,Nat.le_trans h.size k.size,fun i hi hn=>(k.block i (Nat.lt_of_lt_of_le hi h.size) (fun x=>by
  rcases hs i x with h | h
  ·exact hn h
  ·omega)).trans (h.block i hi hn)⟩
structure LevB (w:World) (K:Nat->Prop) (t:Nat) (V:Lv) (lo hi f u:Nat):Prop where
 lt:t<w.heap.size
 c0:w.cell? ⟨t,0,none⟩=some (.int .i64 V.n)
 c1:w.cell? ⟨t,1,none⟩=some (.pointer (some ⟨f,0,none⟩))
 c2:w.cell? ⟨t,2,none⟩=some (.pointer (some ⟨u,0,none⟩))
 fil:Fil w lo hi f V.s V.k V.C
 tab:Seat (fun j=>K j/\¬In lo hi j/\j≠t) w u V.T
 kt:K t
 kf:∀j,In lo hi j->K j
 tf:¬In lo hi t
 pos:1<=V.C.length
def LevP (w:World) (K:Nat->Prop) (t:Nat) (V:Lv):Prop:=∃lo hi f u,LevB w K t V lo hi f u
section
variable {w w':World} {K S:Nat->Prop} {t:Nat} {V:Lv} {lo hi f u:Nat}
theorem LevB.top (H:LevB w K t V lo hi f u):hi<=w.heap.size:=by
 obtain ⟨_,_,_,_,h⟩:=H.fil
 exact h.top
theorem LevB.touched (H:LevB w K t V lo hi f u) (ht:Touch S w w') (hn:∀j,K j->¬S j):LevB w' K t V lo hi f u:=
 ⟨Nat.lt_of_lt_of_le H.lt ht.size,ht.cell H.c0 (hn _ H.kt),ht.cell H.c1 (hn _ H.kt),ht.cell H.c2 (hn _ H.kt),H.fil.touched ht (fun j h1 h2=>hn _ (H.kf j ⟨h1,h2⟩)),H.tab.touched ht (fun j hj=>hn _ hj.1),H.kt,H.kf,H.tf,H.pos⟩
theorem LevB.below (H:LevB w K t V lo hi f u) (hb:Below w.heap.size w w'):LevB w' K t V lo hi f u:=H.touched (S:=fun _=>False) (Touch.quiet hb) (fun _ _ x=>x)
theorem LevB.old (H:LevB w K t V lo hi f u):LevB w (fun j=>K j/\j<w.heap.size) t V lo hi f u:=
 ⟨H.lt,H.c0,H.c1,H.c2,H.fil,H.tab.mono fun _ hj h=>⟨⟨h.1,hj⟩,h.2⟩,⟨H.kt,H.lt⟩,fun j hj=>⟨H.kf j hj,Nat.lt_of_lt_of_le hj.2 H.top⟩,H.tf,H.pos⟩
def Zub (w:World) (K:Nat->Prop) (t lo hi:Nat) (j:Nat):Prop:=(K j\/w.heap.size<=j)/\¬In lo hi j/\j≠t
theorem LevB.seat (H:LevB w K t V lo hi f u):Seat (Zub w K t lo hi) w u V.T:=H.tab.mono fun _ _ h=>⟨.inl h.1,h.2⟩
theorem LevB.fresh (H:LevB w K t V lo hi f u):∀j,w.heap.size<=j->Zub w K t lo hi j:=fun j hj=>⟨.inr hj,fun h=>by
 have:=h.2
 have:=H.top
 omega,fun h=>by
 have:=H.lt
 omega⟩
theorem LevB.tab_step {T':Tab} (H:LevB w K t V lo hi f u) (hs:Seat (Zub w K t lo hi) w' u T') (ht:Touch (Zub w K t lo hi) w w') :
 LevB w' (fun j=>K j\/In w.heap.size w'.heap.size j) t { V with T:=T' } lo hi f u/\Touch K w w':=by
 refine ⟨⟨Nat.lt_of_lt_of_le H.lt ht.size,ht.cell H.c0 (fun h=>h.2.2 rfl),ht.cell H.c1 (fun h=>h.2.2 rfl),ht.cell H.c2 (fun h=>h.2.2 rfl),H.fil.touched ht (fun j h1 h2 h=>h.2.1 ⟨h1,h2⟩),hs.mono fun j hj h=>⟨?_,h.2⟩,.inl H.kt,fun j hj => .inl (H.kf j hj),H.tf,H.pos⟩,ht.mono fun j hj h => ?_⟩
 ·rcases h.1 with h | h
  ·exact .inl h
  ·exact .inr ⟨h,hj⟩
 ·rcases h.1 with h | h
  ·exact h
  ·omega
theorem LevB.fil_step {C':List Nat} (H:LevB w K t V lo hi f u) (hf:Fil w' lo hi f V.s V.k C') (ht:Touch (In lo hi) w w') (hl:C'.length=V.C.length) :
 LevB w' K t { V with C:=C' } lo hi f u/\Touch K w w':=
 ⟨⟨Nat.lt_of_lt_of_le H.lt ht.size,ht.cell H.c0 H.tf,ht.cell H.c1 H.tf,ht.cell H.c2 H.tf,hf,H.tab.touched ht (fun j hj hn=>hj.2.1 hn),H.kt,H.kf,H.tf,by show 1<=C'.length;have:=H.pos;omega⟩,ht.mono fun k _ hk=>H.kf k hk⟩
end
theorem LevP.touched {w w':World} {K S:Nat->Prop} {t:Nat} {V:Lv} (H:LevP w K t V) (ht:Touch S w w') (hn:∀j,K j->¬S j):LevP w' K t V:=by
 obtain ⟨lo,hi,f,u,H⟩:=H
 exact ⟨lo,hi,f,u,H.touched ht hn⟩
theorem LevP.below {w w':World} {K:Nat->Prop} {t:Nat} {V:Lv} (H:LevP w K t V) (hb:Below w.heap.size w w'):LevP w' K t V:=H.touched (S:=fun _=>False) (Touch.quiet hb) (fun _ _ x=>x)
set_option maxRecDepth 100000 in
theorem Zu4 (n k m b:Int) (s:Nat) (w:World) (ws:W64 s) (h:badV n k m b) :
 Calls Tryz.prog 26 #[.int .i64 n,.int .u64 (s:Int),.int .i64 k,.int .i64 m,.int .i64 b] w fun e w'=>e = .returned (.tuple #[.pointer none,.int .i64 1])/\Below w.heap.size w w':=by
 unfold badV at h
 by_cases h1:n<1
 ·go_enter Tryz.func26,Tryz.ntmps26
  go_wp2
  go_ret2
  exact ⟨rfl,by go_grown⟩
 ·by_cases h2:128<n
  ·go_enter Tryz.func26,Tryz.ntmps26
   go_wp2
   go_ret2
   exact ⟨rfl,by go_grown⟩
  ·by_cases hf:1<=k/\k<=16/\1<=m/\m<=65536
   ·have hF:=hid (Ztl s k m ws hf.1 hf.2.1 hf.2.2.1 hf.2.2.2 w)
    have hX:=hid (Zmf s ws)
    have hB:=hid (fun W=>Z5y (mixN s) b W (by omega))
    clear h hf
    go_enter Tryz.func26,Tryz.ntmps26
    go_wp2_with fail
    refine hF.out.mono ?_
    rintro e w1 ⟨f,rfl,-,hb1⟩
    clear hF
    go_wp2_with fail
    refine (hX.out _).mono ?_
    rintro e w2 ⟨rfl,hb2⟩
    have hw2:=hb1.trans (hb2.mono hb1.size)
    clear hX hb1 hb2
    go_wp2_with fail
    refine (hB.out _).mono ?_
    rintro e w3 ⟨rfl,hb3⟩
    have hw3:=hw2.trans (hb3.mono hw2.size)
    clear hB hb3 hw2
    go_wp2
    go_ret2
    exact ⟨rfl,hw3⟩
   ·have hF:=hid (Z3b s k m hf w)
    clear h hf
    go_enter Tryz.func26,Tryz.ntmps26
    go_wp2_with fail
    refine hF.out.mono ?_
    rintro e w1 ⟨rfl,hb1⟩
    clear hF
    go_wp2
    go_ret2
    exact ⟨rfl,hb1⟩
set_option maxRecDepth 100000 in
theorem Zu3 (n k:Int) (s m b:Nat) (w:World) (ws:W64 s) (h:¬badV n k m b) :
 Calls Tryz.prog 26 #[.int .i64 n,.int .u64 (s:Int),.int .i64 k,.int .i64 (m:Int),.int .i64 (b:Int)] w fun e w'=>
  ∃t,e = .returned (.tuple #[.pointer (some ⟨t,0,none⟩),.int .i64 0])/\LevP w' (In w.heap.size w'.heap.size) t (newV n s k m b)/\Below w.heap.size w w':=by
 unfold badV at h
 obtain ⟨h1,h2,hf,h3,h4⟩:=Classical.not_not.1 h
 have hF:=hid (Ztl s k m ws hf.1 hf.2.1 (by omega) (by omega) w)
 have hX:=hid (Zmf s ws)
 have hB:=hid (fun W=>Seat.new (mixN s) b W (by omega) (by omega))
 have HM:Hid (1<=m):=hid (by omega)
 have n1:¬n<1:=by omega
 have n2:¬128<n:=by omega
 clear h hf h1 h2 h3 h4
 go_enter Tryz.func26,Tryz.ntmps26
 go_wp2_with fail
 refine hF.out.mono ?_
 rintro e w1 ⟨f,rfl,hfil,hb1⟩
 have HF:=hid hfil
 clear hF hfil
 go_wp2_with fail
 refine (hX.out _).mono ?_
 rintro e w2 ⟨rfl,hb2⟩
 have hw2:=hb1.trans (hb2.mono hb1.size)
 have HF2:=hid (HF.out.below hb2)
 clear hX HF
 go_wp2_with fail
 refine (hB.out _).mono ?_
 rintro e w3 ⟨u,rfl,htb,hb3⟩
 have hw3:=hw2.trans (hb3.mono hw2.size)
 have HF3:=hid (HF2.out.below hb3)
 have HT:=hid htb
 have hz1:=hb1.size
 have hz2:=hb2.size
 have hz3:=hb3.size
 clear hB hw2 HF2 htb
 go_wp2
 go_ret2
 refine ⟨w3.heap.size,rfl,⟨w.heap.size,w1.heap.size,f,u,?_⟩,by go_grown⟩
 have hbl:Below w3.heap.size w3 (w3.alloc (.cells #[.int .i64 n,.pointer (some ⟨f,0,none⟩),.pointer (some ⟨u,0,none⟩)] 108)):=by go_grown
 have hsz:(w3.alloc (.cells #[.int .i64 n,.pointer (some ⟨f,0,none⟩),.pointer (some ⟨u,0,none⟩)] 108)).heap.size=w3.heap.size+1:=by simp
 have hfl:=HF3.out.below hbl
 rw [Int.toNat_natCast] at hfl
 refine ⟨by simp,by simp [go_sem,newV],by simp [go_sem],by simp [go_sem],hfl,?_,⟨by omega,by omega⟩,fun j hj=>⟨hj.1,by have:=hj.2;omega⟩,fun hj=>by have:=hj.2;omega,by simpa [newV] using HM.out⟩
 refine ((HT.out.mono (Q:=fun j=>w2.heap.size<=j/\j<w3.heap.size) fun j hj h=>⟨h,hj⟩).below hbl).mono fun j hj h=>⟨⟨by omega,by omega⟩,fun x => ?_,?_⟩
 ·have:=x.2
  omega
 ·omega
def ptD (hv:Int) (hs:Bool) (n:Nat) (i:Nat) (v:Value) (_:World):Prop:=
 match i with
 | 5=>∃p c,v = .tuple #[.int .i64 hv,.bool hs,.slice p n c]
 | 6=>∃p c,v = .tuple #[.int .i64 hv,.bool hs,.slice p n c]
 | 7=>v = .int .i64 hv
 | 8=>v = .bool hs
 | 10=>v = .int .i64 hv
 | 11=>v = .bool hs
 | _=>True
def Zdq (w w':World) (K:Nat->Prop) (t:Nat) (V':Lv):Prop:=∃K',LevP w' K' t V'/\Touch K w w'/\∀g,K' g->K g\/In w.heap.size w'.heap.size g
theorem Zdq.end0 {w w':World} {K K0 K':Nat->Prop} {t:Nat} {V':Lv} (h0:∀g,K0 g->K g) (h:LevP w' K' t V') (hT:Touch K0 w w') (hk:∀g,K' g->K0 g\/In w.heap.size w'.heap.size g):Zdq w w' K t V':=
 ⟨K',h,hT.mono fun g _ hg=>h0 g hg,fun g hg=>(hk g hg).imp (h0 g) id⟩
theorem Zz6 {T:Tab} {k:Ky} (h:(delT T k).2=false):(delT T k).1=T:=by
 unfold delT at h ⊢
 split at h
 ·cases h
 ·rename_i h1
  split at h
  ·cases h
  ·rename_i h2
   show ({ T with st:=outS T.st k }:Tab)=T
   have hno:k∉Zad T.st:=fun hk=>by
    rw [<-Zsd] at hk
    simp only [decide_eq_false_iff_not] at h
    exact h hk
   rw [Zi7 hno]
set_option maxRecDepth 100000 in
theorem Zxz (w:World) (K:Nat->Prop) (t:Nat) (V:Lv) (N:List Rt) (kh kl:Nat) (kn o v:Int) (H:LevP w K t V) (HV:LvOk V N) (hg:(⟨kh,kl,kn⟩:Ky).good) (hn:kn=V.n) (hv:0<=v) (hl:N.length<=100000) :
 Calls Tryz.prog 80 #[.pointer (some ⟨t,0,none⟩),.agg #[.int .u64 (kh:Int),.int .u64 (kl:Int),.int .i64 kn],.int .i64 v] w fun e w'=>e = .returned (.tuple #[])/\Zdq w w' K t (V.turn ⟨⟨kh,kl,kn⟩,o,v⟩):=by
 obtain ⟨lo,hi,f,u,H⟩:=H
 have hB:=H.old
 obtain ⟨K0,hK0⟩:∃K0:Nat->Prop,K0=fun j=>K j/\j<w.heap.size:=⟨_,rfl⟩
 rw [<-hK0] at hB
 have HK0:Hid (∀g,K0 g->K g):=hid fun g hg=>by rw [hK0] at hg;exact hg.1
 have hng:¬K0 w.heap.size:=fun h=>by rw [hK0] at h;have:=h.2;omega
 have HB:=hid hB
 clear hK0 hB
 have hcl:=HV.kept.len
 have hget:=fun (Q:Nat->Prop) W (h:Seat Q W u V.T)=>Seat.get u V.T ⟨kh,kl,kn⟩ W h HV.kept.inv hg (by omega)
 have hput:=fun (Q:Nat->Prop) W (h:Seat Q W u V.T) hP=>Seat.put u V.T ⟨⟨kh,kl,kn⟩,v⟩ W h HV.kept.inv hg (by omega) hP
 unfold kyV at hget hput
 simp only at hget hput
 have hadd:=fun W C (h:Fil W lo hi f V.s V.k C)=>Z3i lo hi f V.s V.k C kh kl kn W h hg.1 hg.2
 have hte1:V.has ⟨kh,kl,kn⟩=true->V.turn ⟨⟨kh,kl,kn⟩,o,v⟩={ V with T:=putF 16 V.T ⟨⟨kh,kl,kn⟩,v⟩ }:=fun h=>by
  unfold Lv.turn
  rw [if_pos (show (⟨⟨kh,kl,kn⟩,o,v⟩:Ch).k.n=V.n from hn),if_pos (show 0<=(⟨⟨kh,kl,kn⟩,o,v⟩:Ch).n from hv)]
  rw [show V.has (⟨⟨kh,kl,kn⟩,o,v⟩:Ch).k=true from h,if_pos rfl]
 have hte2:V.has ⟨kh,kl,kn⟩=false->V.turn ⟨⟨kh,kl,kn⟩,o,v⟩={ V with C:=addL V.C (plc V.s kh kl kn V.k V.C.length),T:=putF 16 V.T ⟨⟨kh,kl,kn⟩,v⟩ }:=fun h=>by
  unfold Lv.turn
  rw [if_pos (show (⟨⟨kh,kl,kn⟩,o,v⟩:Ch).k.n=V.n from hn),if_pos (show 0<=(⟨⟨kh,kl,kn⟩,o,v⟩:Ch).n from hv)]
  rw [show V.has (⟨⟨kh,kl,kn⟩,o,v⟩:Ch).k=false from h,if_neg (by simp)]
  rfl
 have hhas:V.has ⟨kh,kl,kn⟩=(getT V.T ⟨kh,kl,kn⟩).isSome:=rfl
 obtain ⟨hs,hhs⟩:∃hs,hs=V.has ⟨kh,kl,kn⟩:=⟨_,rfl⟩
 simp only [<-hhas] at hget
 rw [<-hhs] at hte1 hte2
 simp only [<-hhs] at hget
 generalize (getT V.T ⟨kh,kl,kn⟩).getD 0=hv0 at *
 generalize (Zjs V.T ⟨kh,kl,kn⟩).length=rl at *
 have HGET:=hid hget
 have HPUT:=hid hput
 have HADD:=hid hadd
 have HT1:=hid hte1
 have HT2:=hid hte2
 clear H HV hg hn hv hl hcl hget hput hadd hte1 hte2 hhas hhs
 go_enter Tryz.func80,Tryz.ntmps80
 go_wp2_with fail
 obtain ⟨W1,hW1⟩:∃W,W=w.alloc (.cells #[.int .u64 (kh:Int),.int .u64 (kl:Int),.int .i64 kn] 39):=⟨_,rfl⟩
 try rw [<-hW1]
 have hw:Below w.heap.size w W1:=by rw [hW1];go_grown
 have e0:W1.cell? ⟨w.heap.size,0,none⟩=some (.int .u64 (kh:Int)):=by rw [hW1];simp [go_sem]
 have e1:W1.cell? ⟨w.heap.size,1,none⟩=some (.int .u64 (kl:Int)):=by rw [hW1];simp [go_sem]
 have e2:W1.cell? ⟨w.heap.size,2,none⟩=some (.int .i64 kn):=by rw [hW1];simp [go_sem]
 have hbl:w.heap.size<W1.heap.size:=by rw [hW1];simp
 have HB:=hid (HB.out.below hw)
 clear hW1
 have d1:=HB.out.c1
 have d2:=HB.out.c2
 have dl:=HB.out.lt
 have kg:=Zaa
 refine wp_region_noPanic ?_
 generalize hNQ:NoPanic _=NQ
 refine Zcj [0,1,2] [3,4] [(5,15,[]),(6,9,[(5,15)]),(7,16,[(6,9)]),(8,17,[(6,9)]),(9,18,[(6,9)]),(10,6,[(7,16)]),(11,7,[(8,17)]),(12,8,[(9,18)])] [] (ptD hv0 hs rl) (fun i v W W' _ h=>h) (by kernel_rfl) (by rw [<-hNQ];exact fun _ _ _ h=>h) (by kernel_rfl) (by kernel_rfl) (by kernel_rfl) ?_
 simp only [Zah,List.filterMap_cons,List.filterMap_nil,List.getElem?_toArray,List.getElem?_cons_succ,List.getElem?_cons_zero]
 repeat (any_goals (quiet_step (fail)))
 refine wpQuiet_nil ?_
 clear kg
 refine ⟨by rfl,⟨?_,?_,?_,?_,?_,?_,?_,?_,trivial⟩,?_⟩
 ·intro W4 hW4 K9 hK9 o9 ho
  injection ho with ho
  subst ho
  go_simp
  go_at_call 68
  have htb4:=(HB.out.below hW4).tab
  refine (HGET.out _ _ htb4).mono ?_
  rintro e w5 ⟨p5,c5,rfl,-,hb5⟩
  exact hK9 _ _ hb5 ⟨p5,c5,rfl⟩
 ·intro W4 hW4 v5 h5 K9
  obtain ⟨p6,c6,rfl⟩:=h5
  go_simp
  intro hK9 o9 ho
  injection ho with ho
  subst ho
  go_simp
  exact hK9 _ _ (Below.refl _ _) ⟨p6,c6,rfl⟩
 ·intro W4 hW4 v5 h5 K9
  obtain ⟨p6,c6,rfl⟩:=h5
  go_simp
  intro hK9 o9 ho
  injection ho with ho
  subst ho
  go_simp
  exact hK9 _ _ (Below.refl _ _) rfl
 ·intro W4 hW4 v5 h5 K9
  obtain ⟨p6,c6,rfl⟩:=h5
  go_simp
  intro hK9 o9 ho
  injection ho with ho
  subst ho
  go_simp
  exact hK9 _ _ (Below.refl _ _) rfl
 ·intro W4 hW4 v5 h5 K9
  obtain ⟨p6,c6,rfl⟩:=h5
  go_simp
  intro hK9 o9 ho
  injection ho with ho
  subst ho
  go_simp
  exact hK9 _ _ (Below.refl _ _) trivial
 ·intro W4 hW4 v7 h7 K9
  obtain rfl:v7=_:=h7
  go_simp
  intro hK9 o9 ho
  injection ho with ho
  subst ho
  go_simp
  exact hK9 _ _ (Below.refl _ _) rfl
 ·intro W4 hW4 v8 h8 K9
  obtain rfl:v8=_:=h8
  go_simp
  intro hK9 o9 ho
  injection ho with ho
  subst ho
  go_simp
  exact hK9 _ _ (Below.refl _ _) rfl
 ·intro W4 hW4 v9 h9 K9
  clear h9
  go_simp
  intro hK9 o9 ho
  injection ho with ho
  subst ho
  go_simp
  exact hK9 _ _ (Below.refl _ _) trivial
 ·intro w4 hb4 v5 h5 v6 h6 v7 h7 v8 h8 v9 h9 v10 h10 v11 h11 v12 h12
  obtain ⟨p5,c5,rfl⟩:=h5
  obtain ⟨p6,c6,rfl⟩:=h6
  obtain rfl:v7=_:=h7
  obtain rfl:v8=_:=h8
  obtain rfl:v10=_:=h10
  obtain rfl:v11=_:=h11
  show wpList _ _ _ _ _ _
  simp only [Zah,List.filterMap_nil]
  subst hNQ
  obtain ⟨hc4,-⟩:=Zaf hb4
  have HB:=hid (HB.out.below hb4)
  have e0:=(hc4 _ _ hbl).trans e0
  have e1:=(hc4 _ _ hbl).trans e1
  have e2:=(hc4 _ _ hbl).trans e2
  have hbl:=Nat.lt_of_lt_of_le hbl (hb4).size
  have hw:=hw.trans ((hb4).mono hw.size)
  clear d1 d2 dl
  have d1:=HB.out.c1
  have d2:=HB.out.c2
  have dl:=HB.out.lt
  clear h9 h12 HGET hb4 hc4
  go_wp2_with fail
  refine NoPanic.normal ?_
  go_wp2_with fail
  have kg:=Zaa
  refine Zaj 6 (by kernel_rfl) (by kernel_rfl) ?_
  simp only [List.take_succ_cons,List.take_zero,List.drop_succ_cons,List.drop_zero]
  repeat (any_goals (first|go_big_quiet_step (fail)|quiet_step (fail)))
  refine wpQuiet_nil ?_
  clear kg
  intro w6 hb6
  obtain ⟨hc6,hf6⟩:=Zaf hb6
  have HB:=hid (HB.out.below hb6)
  have e0:=(hc6 _ _ hbl).trans e0
  have e1:=(hc6 _ _ hbl).trans e1
  have e2:=(hc6 _ _ hbl).trans e2
  have hbl:=Nat.lt_of_lt_of_le hbl (hb6).size
  have hw:=hw.trans ((hb6).mono hw.size)
  clear d1 d2 dl
  have d1:=HB.out.c1
  have d2:=HB.out.c2
  have dl:=HB.out.lt
  clear hb6 hc6 hf6
  go_wp2_with fail
  refine (HPUT.out _ _ HB.out.seat HB.out.fresh).mono ?_
  rintro e w7 ⟨rfl,hst,hT7⟩
  obtain ⟨hB7,hK7⟩:=HB.out.tab_step hst hT7
  have hz7:=hT7.size
  have e0:=hK7.cell e0 hng
  have e1:=hK7.cell e1 hng
  have e2:=hK7.cell e2 hng
  have hbl:=Nat.lt_of_lt_of_le hbl hz7
  have HTT:=hid (Touch.trans (.quiet hw) hK7)
  have HB:=hid hB7
  have hsz:=hw.size
  clear d1 d2 dl hst hT7 hB7 hK7 hw
  have d1:=HB.out.c1
  have d2:=HB.out.c2
  have dl:=HB.out.lt
  cases hs with
  | true=>
   have hte:=HT1.out rfl
   go_wp2
   go_end0
   refine ⟨rfl,?_⟩
   rw [hte]
   refine Zdq.end0 HK0.out ⟨lo,hi,f,u,HB.out⟩ HTT.out fun g hg => ?_
   rcases hg with h | h
   ·exact .inl h
   ·exact .inr ⟨by have:=h.1;omega,h.2⟩
  | false=>
   have hte:=HT2.out rfl
   go_wp2_with fail
   have kg:=Zaa
   refine Zaj 5 (by kernel_rfl) (by kernel_rfl) ?_
   simp only [List.take_succ_cons,List.take_zero,List.drop_succ_cons,List.drop_zero]
   repeat (any_goals (first|go_big_quiet_step (fail)|quiet_step (fail)))
   refine wpQuiet_nil ?_
   clear kg
   intro w8 hb8
   obtain ⟨hc8,hf8⟩:=Zaf hb8
   have hz8:=hb8.size
   have HB:=hid (HB.out.below hb8)
   have HTT:=hid (HTT.out.trans (.quiet hb8))
   clear hb8 hc8 hf8 d1 d2 dl
   go_wp2_with fail
   refine (HADD.out _ _ HB.out.fil).mono ?_
   rintro e w9 ⟨rfl,hf9,hT9⟩
   obtain ⟨hB9,hT9'⟩:=HB.out.fil_step hf9 hT9 (Zjd _ _)
   have hz9:=hT9.size
   go_wp2
   go_end0
   refine ⟨rfl,?_⟩
   rw [hte]
   refine Zdq.end0 HK0.out ⟨lo,hi,f,u,hB9⟩ (Zas HTT.out (fun g hg => ?_) hT9') fun g hg => ?_
   ·rcases hg with h | h
    ·exact .inl h
    ·exact .inr (by have:=h.1;omega)
   ·rcases hg with h | h
    ·exact .inl h
    ·exact .inr ⟨by have:=h.1;omega,by have:=h.2;omega⟩
set_option maxRecDepth 100000 in
theorem Zn5 (w:World) (K:Nat->Prop) (t:Nat) (V:Lv) (N:List Rt) (kh kl:Nat) (kn o v:Int) (H:LevP w K t V) (HV:LvOk V N) (hg:(⟨kh,kl,kn⟩:Ky).good) (hn:kn=V.n) (hv:¬0<=v) (hl:N.length<=100000) :
 Calls Tryz.prog 79 #[.pointer (some ⟨t,0,none⟩),.agg #[.int .u64 (kh:Int),.int .u64 (kl:Int),.int .i64 kn]] w fun e w'=>e = .returned (.tuple #[])/\Zdq w w' K t (V.turn ⟨⟨kh,kl,kn⟩,o,v⟩):=by
 obtain ⟨lo,hi,f,u,H⟩:=H
 have hB:=H.old
 obtain ⟨K0,hK0⟩:∃K0:Nat->Prop,K0=fun j=>K j/\j<w.heap.size:=⟨_,rfl⟩
 rw [<-hK0] at hB
 have HK0:Hid (∀g,K0 g->K g):=hid fun g hg=>by rw [hK0] at hg;exact hg.1
 have hng:¬K0 w.heap.size:=fun h=>by rw [hK0] at h;have:=h.2;omega
 have HB:=hid hB
 clear hK0 hB
 have hcl:=HV.kept.len
 have hdel:=fun (Q:Nat->Prop) W (h:Seat Q W u V.T) hP=>Seat.del u V.T ⟨kh,kl,kn⟩ W h HV.kept hg (by omega) hP
 unfold kyV at hdel
 simp only at hdel
 have hrem:=fun W C (h:Fil W lo hi f V.s V.k C)=>Z28 lo hi f V.s V.k C kh kl kn W h hg.1 hg.2
 have hds:(delT V.T ⟨kh,kl,kn⟩).2=V.has ⟨kh,kl,kn⟩:=by
  rw [Bool.eq_iff_iff,HV.kept.del_tells,HV.has]
 have hte1:V.has ⟨kh,kl,kn⟩=true->V.turn ⟨⟨kh,kl,kn⟩,o,v⟩={ V with C:=remL V.C (plc V.s kh kl kn V.k V.C.length),T:=(delT V.T ⟨kh,kl,kn⟩).1 }:=fun h=>by
  unfold Lv.turn
  rw [if_pos (show (⟨⟨kh,kl,kn⟩,o,v⟩:Ch).k.n=V.n from hn),if_neg (show ¬0<=(⟨⟨kh,kl,kn⟩,o,v⟩:Ch).n from hv)]
  rw [show V.has (⟨⟨kh,kl,kn⟩,o,v⟩:Ch).k=true from h,if_pos rfl]
  rfl
 have hte2:V.has ⟨kh,kl,kn⟩=false->V.turn ⟨⟨kh,kl,kn⟩,o,v⟩=V:=fun h=>by
  unfold Lv.turn
  rw [if_pos (show (⟨⟨kh,kl,kn⟩,o,v⟩:Ch).k.n=V.n from hn),if_neg (show ¬0<=(⟨⟨kh,kl,kn⟩,o,v⟩:Ch).n from hv)]
  rw [show V.has (⟨⟨kh,kl,kn⟩,o,v⟩:Ch).k=false from h,if_neg (by simp)]
 have hsame:V.has ⟨kh,kl,kn⟩=false->(delT V.T ⟨kh,kl,kn⟩).1=V.T:=fun h=>Zz6 (by rw [hds];exact h)
 obtain ⟨hs,hhs⟩:∃hs,hs=V.has ⟨kh,kl,kn⟩:=⟨_,rfl⟩
 rw [<-hhs] at hte1 hte2 hsame hds
 rw [hds] at hdel
 have HDEL:=hid hdel
 have HREM:=hid hrem
 have HT1:=hid hte1
 have HT2:=hid hte2
 have HSM:=hid hsame
 clear H HV hg hn hv hl hcl hdel hrem hte1 hte2 hds hsame hhs
 go_enter Tryz.func79,Tryz.ntmps79
 go_wp2_with fail
 obtain ⟨W1,hW1⟩:∃W,W=w.alloc (.cells #[.int .u64 (kh:Int),.int .u64 (kl:Int),.int .i64 kn] 39):=⟨_,rfl⟩
 try rw [<-hW1]
 have hw:Below w.heap.size w W1:=by rw [hW1];go_grown
 have e0:W1.cell? ⟨w.heap.size,0,none⟩=some (.int .u64 (kh:Int)):=by rw [hW1];simp [go_sem]
 have e1:W1.cell? ⟨w.heap.size,1,none⟩=some (.int .u64 (kl:Int)):=by rw [hW1];simp [go_sem]
 have e2:W1.cell? ⟨w.heap.size,2,none⟩=some (.int .i64 kn):=by rw [hW1];simp [go_sem]
 have hbl:w.heap.size<W1.heap.size:=by rw [hW1];simp
 have HB:=hid (HB.out.below hw)
 clear hW1
 have d1:=HB.out.c1
 have d2:=HB.out.c2
 have dl:=HB.out.lt
 have kg:=Zaa
 refine Zaj 5 (by kernel_rfl) (by kernel_rfl) ?_
 simp only [List.take_succ_cons,List.take_zero,List.drop_succ_cons,List.drop_zero]
 repeat (any_goals (first|go_big_quiet_step (fail)|quiet_step (fail)))
 refine wpQuiet_nil ?_
 clear kg
 intro w6 hb6
 obtain ⟨hc6,hf6⟩:=Zaf hb6
 have HB:=hid (HB.out.below hb6)
 have e0:=(hc6 _ _ hbl).trans e0
 have e1:=(hc6 _ _ hbl).trans e1
 have e2:=(hc6 _ _ hbl).trans e2
 have hbl:=Nat.lt_of_lt_of_le hbl (hb6).size
 have hw:=hw.trans ((hb6).mono hw.size)
 clear d1 d2 dl
 have d1:=HB.out.c1
 have d2:=HB.out.c2
 have dl:=HB.out.lt
 clear hb6 hc6 hf6
 go_wp2_with fail
 refine (HDEL.out _ _ HB.out.seat HB.out.fresh).mono ?_
 rintro e w7 ⟨rfl,hst,hT7⟩
 obtain ⟨hB7,hK7⟩:=HB.out.tab_step hst hT7
 have hz7:=hT7.size
 have e0:=hK7.cell e0 hng
 have e1:=hK7.cell e1 hng
 have e2:=hK7.cell e2 hng
 have hbl:=Nat.lt_of_lt_of_le hbl hz7
 have HTT:=hid (Touch.trans (.quiet hw) hK7)
 have HB:=hid hB7
 have hsz:=hw.size
 clear d1 d2 dl hst hT7 hB7 hK7 hw
 have d1:=HB.out.c1
 have d2:=HB.out.c2
 have dl:=HB.out.lt
 cases hs with
 | false=>
  have hte:=HT2.out rfl
  have hsm:=HSM.out rfl
  have hB:=HB.out
  rw [hsm] at hB
  have HB:=hid hB
  clear hB hsm
  go_wp2
  go_end0
  refine ⟨rfl,?_⟩
  rw [hte]
  refine Zdq.end0 HK0.out ⟨lo,hi,f,u,HB.out⟩ HTT.out fun g hg => ?_
  rcases hg with h | h
  ·exact .inl h
  ·exact .inr ⟨by have:=h.1;omega,h.2⟩
 | true=>
  have hte:=HT1.out rfl
  go_wp2_with fail
  have kg:=Zaa
  refine Zaj 5 (by kernel_rfl) (by kernel_rfl) ?_
  simp only [List.take_succ_cons,List.take_zero,List.drop_succ_cons,List.drop_zero]
  repeat (any_goals (first|go_big_quiet_step (fail)|quiet_step (fail)))
  refine wpQuiet_nil ?_
  clear kg
  intro w8 hb8
  obtain ⟨hc8,hf8⟩:=Zaf hb8
  have hz8:=hb8.size
  have HB:=hid (HB.out.below hb8)
  have HTT:=hid (HTT.out.trans (.quiet hb8))
  clear hb8 hc8 hf8 d1 d2 dl
  go_wp2_with fail
  refine (HREM.out _ _ HB.out.fil).mono ?_
  rintro e w9 ⟨rfl,hf9,hT9⟩
  obtain ⟨hB9,hT9'⟩:=HB.out.fil_step hf9 hT9 (Zi0 _ _)
  have hz9:=hT9.size
  go_wp2
  go_end0
  refine ⟨rfl,?_⟩
  rw [hte]
  refine Zdq.end0 HK0.out ⟨lo,hi,f,u,hB9⟩ (Zas HTT.out (fun g hg => ?_) hT9') fun g hg => ?_
  ·rcases hg with h | h
   ·exact .inl h
   ·exact .inr (by have:=h.1;omega)
  ·rcases hg with h | h
   ·exact .inl h
   ·exact .inr ⟨by have:=h.1;omega,by have:=h.2;omega⟩
end
end Go.Proofs.YtgfjmgebecmbiaaGreat
