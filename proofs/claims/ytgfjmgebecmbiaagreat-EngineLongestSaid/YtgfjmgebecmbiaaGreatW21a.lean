import Derived.Test.YtgfjmgebecmbiaaGreatSort2
import Derived.Test.YtgfjmgebecmbiaaGreatM20
import Derived.Test.YtgfjmgebecmbiaaGreatW12m
set_option linter.unusedSimpArgs false
set_option linter.unusedVariables false
set_option maxHeartbeats 2000000
namespace Go.Proofs.YtgfjmgebecmbiaaGreat
open Lib(hid)
section
open M
theorem Z2s (V:Lv) (ah al m:Nat) (h:V.n<=(m:Int)):V.key (cutK ah al m).h (cutK ah al m).l=V.key ah al:=by
 unfold Lv.key cutK
 simp only [Zdf]
 rw [show min m V.n.toNat=V.n.toNat by omega,show min (m-64) (V.n.toNat-64)=V.n.toNat-64 by omega]
theorem Zox (ah al m:Nat):∀L:List Lv,(∀V∈L,V.n<=(m:Int))->Zam (cutK ah al m).h (cutK ah al m).l L=Zam ah al L
 | [],_=>rfl
 | V::M,h=>by
  have hk:=Z2s V ah al m (h V List.mem_cons_self)
  have hm:V.may (cutK ah al m).h (cutK ah al m).l=V.may ah al:=by unfold Lv.may;rw [hk]
  have hh:V.hit (cutK ah al m).h (cutK ah al m).l=V.hit ah al:=by unfold Lv.hit;rw [hm,hk]
  have ih:=Zox ah al m M fun V' h'=>h V' (List.mem_cons_of_mem _ h')
  unfold Zam
  rw [hm,hh,ih]
theorem Zw4 (f:Nat->Nat):∀n,sumF f n=smF f n
 | 0=>rfl
 | n+1=>by rw [sumF,smF,Zw4 f n]
theorem Zt8 (C:List Int) (m j:Nat):atC (C.take m) j=if j<m then atC C j else 0:=by
 unfold atC
 by_cases h:j<m
 ·rw [if_pos h]
  by_cases h2:j<C.length
  ·rw [List.getD_eq_getElem?_getD,List.getD_eq_getElem?_getD,List.getElem?_take_of_lt h]
  ·rw [List.getD_eq_getElem?_getD,List.getD_eq_getElem?_getD,List.getElem?_take_of_lt h]
 ·rw [if_neg h,List.getD_eq_getElem?_getD,List.getElem?_eq_none (by rw [List.length_take];omega)]
  rfl
theorem Zv7 (C:List Int) (a b:Int) (h0:0<=a) (h1:a<b) (h2:b-a<=20) (h3:b<=128):Zkf (C.take (b.toNat+1)) [b] a=some (sumE C a b):=by
 obtain ⟨m,rfl⟩:=Int.eq_ofNat_of_zero_le h0
 obtain ⟨n,rfl⟩:=Int.eq_ofNat_of_zero_le (show 0<=b by omega)
 have hok:okC (n-m) n m [n]=true:=Zg2.2 ⟨by omega,by omega,Zmj.2 rfl⟩
 have:=Z6v C (C.take (n+1)) (st:=n-m) (wd:=n) (by omega) (by omega) (fun j hj=>by rw [Zt8,if_pos (by omega)]) (fun j hj=>by rw [Zt8,if_neg (by omega)]) [n] m hok
 show Zkf (C.take (n+1)) (toI [n]) (m:Int)=_
 rw [this]
 show some (ptC C m n+0)=some (sumE C (m:Int) (n:Int))
 unfold ptC sumE
 rw [Zw4,Nat.add_zero,show ((n:Int)-(m:Int)).toNat=n-m by omega,Int.toNat_natCast]
 congr 1
 refine Zc6 _ fun j hj => ?_
 rw [show n-(m+1+j)=n-m-1-j by omega]
theorem Zyr {R:List Rt} (h:Sorted R) (k:Ky) (v:Int) (hv:0<=v):lvlM R k v=Zao R ⟨k,v⟩:=by
 unfold lvlM
 rw [if_pos hv]
 have hs:=Zav k h
 refine Zbt (Zaq _ hs) (Zaq _ h) fun q => ?_
 rw [Zcy hs,Zcy h,Zay]
 constructor
 ·rintro (e | ⟨⟨e1,e2⟩,e3⟩)
  ·exact .inl e
  ·exact .inr ⟨e1,e3⟩
 ·rintro (e | ⟨e1,e2⟩)
  ·exact .inl e
  ·exact .inr ⟨⟨e1,e2⟩,e2⟩
theorem Zyt (R:List Rt) (k:Ky):lvlM R k (-1)=outS R k:=by
 unfold lvlM
 rw [if_neg (by omega)]
def atL (a:Int) (L:List Lv) (i:Nat):Int:=if i=0 then a else (L.map Lv.n).getD (i-1) 0
theorem Zna (a:Int) (L:List Lv) (i:Nat) (h:i<L.length):atL a L (i+1)=L[i].n:=by
 unfold atL
 rw [if_neg (by omega),Nat.add_sub_cancel,List.getD_eq_getElem?_getD,List.getElem?_map,List.getElem?_eq_getElem h]
 rfl
theorem Zt7 (a:Int) (V:Lv) (L:List Lv) (i:Nat) (h:i<=L.length):atL a (V::L) (i+1)=atL V.n L i:=by
 rw [Zna _ _ _ (by simp;omega)]
 cases i with
 | zero=>rfl
 | succ i=>
  rw [Zna _ _ _ (by omega)]
  simp
theorem Znl (R R':List Rt):∀(L:List Lv) (a:Int) (i:Nat) (h:i<L.length),(Zd2 R R' a L)[i]? = some (L[i].turns (ofS (setS R (atL a L i) L[i].n) (setS R' (atL a L i) L[i].n)))
 | V::L,a,0,_=>rfl
 | V::L,a,i+1,h=>by
  have hi:i<L.length:=by simpa using h
  have:=Znl R R' L V.n i hi
  unfold Zd2
  rw [List.getElem?_cons_succ,this,Zt7 _ _ _ _ (by omega)]
  rfl
theorem Zmq {R:List Rt}:∀(L:List Lv) (a:Int),EgLv R a L->∀(i:Nat) (h:i<L.length),(0<=atL a L i/\atL a L i<L[i].n/\L[i].n-atL a L i<=8/\L[i].n<=128)/\LvOk L[i] (setS R (atL a L i) L[i].n)
 | V::L,a,⟨h1,_⟩,0,_=>h1
 | V::L,a,⟨_,h2⟩,i+1,h=>by
  have hi:i<L.length:=by simpa using h
  have:=Zmq L V.n h2 i hi
  rw [Zt7 _ _ _ _ (by omega)]
  exact this
theorem Zmr {R:List Rt}:∀(L:List Lv) (a:Int),a<=128->EgLv R a L->(L.length:Int)<=128-a
 | [],a,h,_=>by simp;omega
 | V::L,a,h,⟨⟨h1,_⟩,h2⟩=>by
  have:=Zmr L V.n h1.2.2.2 h2
  rw [List.length_cons]
  omega
def midE (R R':List Rt) (a:Int) (L:List Lv) (i:Nat):List Lv:=(Zd2 R R' a L).take i++L.drop i
theorem Zyn (R R':List Rt) (a:Int) (L:List Lv):midE R R' a L 0=L:=by simp [midE]
theorem Z2d (R R':List Rt) (a:Int) (L:List Lv):midE R R' a L L.length=Zd2 R R' a L:=by
 unfold midE
 rw [List.take_of_length_le (by rw [Zei];omega),List.drop_length,List.append_nil]
theorem Z2c (R R':List Rt) (a:Int) (L:List Lv) (i:Nat) (h:i<=L.length):(midE R R' a L i).length=L.length:=by
 unfold midE
 rw [List.length_append,List.length_take,Zei,List.length_drop]
 omega
theorem Z52 (R R':List Rt) (a:Int) (L:List Lv) (i:Nat) (h:i<L.length):(midE R R' a L i)[i]? = some L[i]:=by
 unfold midE
 rw [List.getElem?_append_right (by rw [List.length_take];omega),List.length_take,Zei,Nat.min_eq_left (by omega),Nat.sub_self,List.getElem?_drop,Nat.add_zero,List.getElem?_eq_getElem h]
theorem Z2b (R R':List Rt) (a:Int) (L:List Lv) (i:Nat) (h:i<L.length):(midE R R' a L i).set i (L[i].turns (ofS (setS R (atL a L i) L[i].n) (setS R' (atL a L i) L[i].n)))=midE R R' a L (i+1):=by
 have hg:=Znl R R' L a i h
 have hl:=Zei R R' L a
 unfold midE
 rw [List.set_append_right _ _ (by rw [List.length_take];omega),List.length_take,hl,Nat.min_eq_left (by omega),Nat.sub_self,List.drop_eq_getElem_cons h,List.set_cons_zero,List.take_add_one,hg,List.append_assoc]
 rfl
theorem Z8l {R:List Rt} (h:Sorted R) (ah al d:Nat):hopK (upS R (d:Int)) (-1) (cutK ah al d)=hopK R (-1) (cutK ah al d):=by rw [Zto h,Zre h]
theorem Zwq {R:List Rt} (h:Sorted R) (r:Rt) (d:Int) (hd:d<r.k.n):upS (Zao R r) d=upS R d:=by
 refine Zbt (List.Pairwise.filter _ (Zaq r h)) (List.Pairwise.filter _ h) fun q => ?_
 unfold upS
 simp only [List.mem_filter,decide_eq_true_eq,Zcy h]
 constructor
 ·rintro ⟨rfl | ⟨h1,-⟩,h2⟩
  ·omega
  ·exact ⟨h1,h2⟩
 ·rintro ⟨h1,h2⟩
  exact ⟨.inr ⟨h1,fun e=>by rw [e] at h2;omega⟩,h2⟩
theorem Z07 {R:List Rt} (h:Sorted R) (k:Ky) (d:Int) (hd:d<k.n):upS (outS R k) d=upS R d:=by
 refine Zbt (List.Pairwise.filter _ (Zav k h)) (List.Pairwise.filter _ h) fun q => ?_
 unfold upS
 simp only [List.mem_filter,decide_eq_true_eq,Zay]
 constructor
 ·rintro ⟨⟨h1,-⟩,h2⟩
  exact ⟨h1,h2⟩
 ·rintro ⟨h1,h2⟩
  exact ⟨⟨h1,fun e=>by rw [e] at h2;omega⟩,h2⟩
end
section
open Go.RowKit Go.Sort M
theorem Zsp:∀(L:List Rt) (k:Ky),(Zad L).Nodup->(outS L k).length+(if k∈Zad L then 1 else 0)=L.length
 | [],k,_=>by simp [outS,Zad]
 | a::L,k,h=>by
  have h1:a.k∉Zad L/\(Zad L).Nodup:=by
   unfold Zad at *
   rw [List.map_cons,List.nodup_cons] at h
   exact h
  have ih:=Zsp L k h1.2
  by_cases e:a.k=k
  ·have e1:outS (a::L) k=outS L k:=by unfold outS;rw [List.filter_cons,if_neg (by simp [e])]
   have e2:k∈Zad (a::L):=by unfold Zad;simp [e]
   have e3:k∉Zad L:=by rw [<-e];exact h1.1
   rw [e1,if_pos e2,List.length_cons]
   rw [if_neg e3] at ih
   omega
  ·have e1:outS (a::L) k=a::outS L k:=by unfold outS;rw [List.filter_cons,if_pos (by simp [e])]
   have e2:k∈Zad (a::L)↔k∈Zad L:=by unfold Zad;simp [Ne.symm e]
   rw [e1,List.length_cons,List.length_cons]
   by_cases hm:k∈Zad L
   ·rw [if_pos (e2.2 hm)]
    rw [if_pos hm] at ih
    omega
   ·rw [if_neg (fun x=>hm (e2.1 x))]
    rw [if_neg hm] at ih
    omega
theorem Kept.nodup {T:Tab} {N:List Rt} (H:Kept T N):(Zad (Zae T)).Nodup:=(Za6 H.all).nodup_iff.2 H.sort.nodup
theorem Kept.del_len {T:Tab} {N:List Rt} (H:Kept T N) (k:Ky):(if (delT T k).2=true then ((Zae T).length:Int)-1 else ((Zae T).length:Int))=((Zae (delT T k).1).length:Int):=by
 have h:=Zrs H.inv k
 have h1:=h.2.1.length_eq
 have h2:=Zsp (Zae T) k H.nodup
 by_cases e:(delT T k).2=true
 ·rw [if_pos e]
  rw [if_pos (h.2.2.1 e)] at h2
  omega
 ·rw [if_neg e]
  rw [if_neg (fun x=>e (h.2.2.2 x))] at h2
  omega
theorem Seat.del {P:Nat->Prop} (t:Nat) (T:Tab) {N:List Rt} (k:Ky) (w:World) (H:Seat P w t T) (HK:Kept T N) (hk:k.good) (hfew:(Zae T).length<262144) (hP:∀k,w.heap.size<=k->P k) :
 Calls Tryz.prog 100 #[.pointer (some ⟨t,0,none⟩),kyV k] w fun e w'=>e = .returned (.bool (delT T k).2)/\Seat P w' t (delT T k).1/\Touch P w w':=by
 obtain ⟨g,v,h,hp⟩:=H
 have hst:=Zw7 T
 refine (Zpj t g v T _ k w h HK.inv.num hk (by omega) (by omega) HK.inv.sort (by omega)).mono ?_
 rintro e w' ⟨rfl,g',v',h',ht,hs⟩
 rw [HK.del_len] at h'
 refine ⟨rfl,⟨g',v',h',fun k hk' => ?_⟩,ht.mono fun k _ hk=>hp k hk⟩
 by_cases e:k<w.heap.size
 ·exact hp k (hs k hk' e)
 ·exact hP k (by omega)
theorem Seat.all {P:Nat->Prop} (t:Nat) (T:Tab) {N:List Rt} (w:World) (H:Seat P w t T) (HK:Kept T N) (hfew:(Zae T).length<262144) :
 Calls Tryz.prog 72 #[.pointer (some ⟨t,0,none⟩)] w fun e w'=>∃p c,e = .returned (.slice p N.length c)/\Row w' p (rcs N)/\Below w.heap.size w w':=by
 obtain ⟨g,v,h,hp⟩:=H
 have hst:=Zw7 T
 refine (Z0q t g v T _ w h HK.inv.num (by omega) HK.nodup).mono ?_
 rintro e w' ⟨p,c,M,rfl,hr,m1,m2,hb⟩
 have:=HK.sorted m2 m1
 subst this
 exact ⟨p,c,rfl,hr,hb⟩
structure Ze6 (w wr:World) (t:Nat) (T:Tab) (N:List Rt) (vn:Value):Prop where
 seat:Seat (fun k=>w.heap.size<=k/\vn.ownBlock≠some k) wr t T
 own:wr.ownsRow w.heap.size 41 4 vn N.length (rcs N)
 below:Below w.heap.size w wr
theorem Ze6.quiet {w wr wx:World} {t:Nat} {T:Tab} {N:List Rt} {vn:Value} (H:Ze6 w wr t T N vn) (hb:Below wr.heap.size wr wx):Ze6 w wx t T N vn:=⟨H.seat.below hb,own_below H.own hb,H.below.trans (hb.mono H.below.size)⟩
theorem Ze6.turn {w wr wx:World} {t:Nat} {T T':Tab} {N:List Rt} {vn:Value} (H:Ze6 w wr t T N vn) (hs:Seat (fun k=>w.heap.size<=k/\vn.ownBlock≠some k) wx t T') (ht:Touch (fun k=>w.heap.size<=k/\vn.ownBlock≠some k) wr wx):Ze6 w wx t T' N vn:=
 ⟨hs,Touch.own H.own ht (fun j e hj=>hj.2 e),H.below.trans (ht.below H.below.size fun k hk=>hk.1)⟩
theorem Ze6.row {w wr wx:World} {t:Nat} {T:Tab} {N M:List Rt} {vn:Value} {p:Option Addr} {c:Nat} (H:Ze6 w wr t T N vn) (ho:wx.ownsRow wr.heap.size 41 4 (.slice p M.length c) M.length (rcs M)) (hb:Below wr.heap.size wr wx):Ze6 w wx t T M (.slice p M.length c):=by
 refine ⟨(H.seat.mono (Q:=fun k=>w.heap.size<=k/\(Value.slice p M.length c).ownBlock≠some k) fun k hk hp=>⟨hp.1,fun e => ?_⟩).below hb,Za4 ho H.below.size,H.below.trans (hb.mono H.below.size)⟩
 have:=(ho.lt k e).1
 omega
theorem Ze6.new {w wr:World} {t:Nat} {T:Tab} {N:List Rt} {vn:Value} (H:Ze6 w wr t T N vn):∀k,wr.heap.size<=k->w.heap.size<=k/\vn.ownBlock≠some k:=by
 intro k hk
 exact ⟨Nat.le_trans H.below.size hk,fun e=>by have:=(H.own.lt k e).2;omega⟩
end
section
open Go Go.RowKit Go.Sort M
theorem Zif.touched {w w':World} {K S:Nat->Prop} {t:Nat} {V:Lv} {lo hi f g u b:Nat} {v:Value} (H:Zif w K t V lo hi f g u b v) (ht:Touch S w w') (hn:∀j,K j->¬S j):Zif w' K t V lo hi f g u b v:=
 ⟨Nat.lt_of_lt_of_le H.lt ht.size,ht.cell H.c0 (hn _ H.kt),ht.cell H.c1 (hn _ H.kt),ht.cell H.c2 (hn _ H.kt),H.fil.touched ht (fun j h1 h2=>hn _ (H.kf j ⟨h1,h2⟩)),H.tab.touched Zt3 ht (fun j hj=>hn _ (H.kb j hj)),H.kt,H.kf,H.kb,H.tf,H.tb,H.fb⟩
theorem Zif.below {w w':World} {K:Nat->Prop} {t:Nat} {V:Lv} {lo hi f g u b:Nat} {v:Value} (H:Zif w K t V lo hi f g u b v) (hb:Below w.heap.size w w'):Zif w' K t V lo hi f g u b v:=H.touched (S:=fun _=>False) (Touch.quiet hb) (fun _ _ x=>x)
theorem Zif.mono {w:World} {K K':Nat->Prop} {t:Nat} {V:Lv} {lo hi f g u b:Nat} {v:Value} (H:Zif w K t V lo hi f g u b v) (h:∀j,K j->K' j):Zif w K' t V lo hi f g u b v:=
 ⟨H.lt,H.c0,H.c1,H.c2,H.fil,H.tab,h _ H.kt,fun j hj=>h _ (H.kf j hj),fun j hj=>h _ (H.kb j hj),H.tf,H.tb,H.fb⟩
theorem Zif.fil_step {w w':World} {K:Nat->Prop} {t:Nat} {V:Lv} {lo hi f g u b:Nat} {v:Value} {C':List Nat} (H:Zif w K t V lo hi f g u b v) (hf:RFil w' lo hi f g V.s V.k C') (ht:Touch (In lo hi) w w') :
 Zif w' K t { V with C:=C' } lo hi f g u b v/\Touch K w w':=
 ⟨⟨Nat.lt_of_lt_of_le H.lt ht.size,ht.cell H.c0 H.tf,ht.cell H.c1 H.tf,ht.cell H.c2 H.tf,hf,H.tab.touched Zt3 ht (fun j hj hn=>H.fb j hj hn),H.kt,H.kf,H.kb,H.tf,H.tb,H.fb⟩,ht.mono fun k _ hk=>H.kf k hk⟩
def Z0u (w wr:World) (K:Nat->Prop) (t:Nat) (V:Lv) (N:List Rt):Prop:=LvOk V N/\∃K',RLev wr K' t V/\Touch K w wr/\∀g,K' g->K g\/In w.heap.size wr.heap.size g
theorem Z0u.below {w wr w':World} {K:Nat->Prop} {t:Nat} {V:Lv} {N:List Rt} (h:Z0u w wr K t V N) (hb:Below wr.heap.size wr w'):Z0u w w' K t V N:=by
 obtain ⟨h1,K',h2,h3,h4⟩:=h
 refine ⟨h1,K',h2.below hb,h3.trans (.quiet hb),fun g hg => ?_⟩
 rcases h4 g hg with h | h
 ·exact .inl h
 ·exact .inr ⟨h.1,Nat.lt_of_lt_of_le h.2 hb.size⟩
theorem Zas {a b c:World} {K K1:Nat->Prop} (h:Touch K a b) (hs:∀g,K1 g->K g\/a.heap.size<=g) (k:Touch K1 b c):Touch K a c:=
 ⟨k.os.trans h.os,k.tape.trans h.tape,k.output.trans h.output,Nat.le_trans h.size k.size,fun i hi hn=>(k.block i (Nat.lt_of_lt_of_le hi h.size) (fun x=>by
  rcases hs i x with h | h
  ·exact hn h
  ·omega)).trans (h.block i hi hn)⟩
structure LevB (w:World) (K:Nat->Prop) (t:Nat) (V:Lv) (lo hi f u:Nat):Prop where
 lt:t<w.heap.size
 c0:w.cell? ⟨t,0,none⟩=some (.int .i64 V.n)
 c1:w.cell? ⟨t,1,none⟩=some (.pointer (some ⟨f,0,none⟩))
 c2:w.cell? ⟨t,2,none⟩=some (.pointer (some ⟨u,0,none⟩))
 fil:Fil w lo hi f V.s V.k V.C
 tab:Seat (fun j=>K j/\¬In lo hi j/\j≠t) w u V.T
 kt:K t
 kf:∀j,In lo hi j->K j
 tf:¬In lo hi t
 pos:1<=V.C.length
def LevP (w:World) (K:Nat->Prop) (t:Nat) (V:Lv):Prop:=∃lo hi f u,LevB w K t V lo hi f u
section
variable {w w':World} {K S:Nat->Prop} {t:Nat} {V:Lv} {lo hi f u:Nat}
theorem LevB.top (H:LevB w K t V lo hi f u):hi<=w.heap.size:=by
 obtain ⟨_,_,_,_,h⟩:=H.fil
 exact h.top
theorem LevB.touched (H:LevB w K t V lo hi f u) (ht:Touch S w w') (hn:∀j,K j->¬S j):LevB w' K t V lo hi f u:=
 ⟨Nat.lt_of_lt_of_le H.lt ht.size,ht.cell H.c0 (hn _ H.kt),ht.cell H.c1 (hn _ H.kt),ht.cell H.c2 (hn _ H.kt),H.fil.touched ht (fun j h1 h2=>hn _ (H.kf j ⟨h1,h2⟩)),H.tab.touched ht (fun j hj=>hn _ hj.1),H.kt,H.kf,H.tf,H.pos⟩
theorem LevB.below (H:LevB w K t V lo hi f u) (hb:Below w.heap.size w w'):LevB w' K t V lo hi f u:=H.touched (S:=fun _=>False) (Touch.quiet hb) (fun _ _ x=>x)
theorem LevB.old (H:LevB w K t V lo hi f u):LevB w (fun j=>K j/\j<w.heap.size) t V lo hi f u:=
 ⟨H.lt,H.c0,H.c1,H.c2,H.fil,H.tab.mono fun _ hj h=>⟨⟨h.1,hj⟩,h.2⟩,⟨H.kt,H.lt⟩,fun j hj=>⟨H.kf j hj,Nat.lt_of_lt_of_le hj.2 H.top⟩,H.tf,H.pos⟩
def Zub (w:World) (K:Nat->Prop) (t lo hi:Nat) (j:Nat):Prop:=(K j\/w.heap.size<=j)/\¬In lo hi j/\j≠t
theorem LevB.seat (H:LevB w K t V lo hi f u):Seat (Zub w K t lo hi) w u V.T:=H.tab.mono fun _ _ h=>⟨.inl h.1,h.2⟩
theorem LevB.fresh (H:LevB w K t V lo hi f u):∀j,w.heap.size<=j->Zub w K t lo hi j:=fun j hj=>⟨.inr hj,fun h=>by
 have:=h.2
 have:=H.top
 omega,fun h=>by
 have:=H.lt
 omega⟩
theorem LevB.tab_step {T':Tab} (H:LevB w K t V lo hi f u) (hs:Seat (Zub w K t lo hi) w' u T') (ht:Touch (Zub w K t lo hi) w w') :
 LevB w' (fun j=>K j\/In w.heap.size w'.heap.size j) t { V with T:=T' } lo hi f u/\Touch K w w':=by
 refine ⟨⟨Nat.lt_of_lt_of_le H.lt ht.size,ht.cell H.c0 (fun h=>h.2.2 rfl),ht.cell H.c1 (fun h=>h.2.2 rfl),ht.cell H.c2 (fun h=>h.2.2 rfl),H.fil.touched ht (fun j h1 h2 h=>h.2.1 ⟨h1,h2⟩),hs.mono fun j hj h=>⟨?_,h.2⟩,.inl H.kt,fun j hj => .inl (H.kf j hj),H.tf,H.pos⟩,ht.mono fun j hj h => ?_⟩
 ·rcases h.1 with h | h
  ·exact .inl h
  ·exact .inr ⟨h,hj⟩
 ·rcases h.1 with h | h
  ·exact h
  ·omega
theorem LevB.fil_step {C':List Nat} (H:LevB w K t V lo hi f u) (hf:Fil w' lo hi f V.s V.k C') (ht:Touch (In lo hi) w w') (hl:C'.length=V.C.length) :
 LevB w' K t { V with C:=C' } lo hi f u/\Touch K w w':=
 ⟨⟨Nat.lt_of_lt_of_le H.lt ht.size,ht.cell H.c0 H.tf,ht.cell H.c1 H.tf,ht.cell H.c2 H.tf,hf,H.tab.touched ht (fun j hj hn=>hj.2.1 hn),H.kt,H.kf,H.tf,by show 1<=C'.length;have:=H.pos;omega⟩,ht.mono fun k _ hk=>H.kf k hk⟩
end
theorem LevP.touched {w w':World} {K S:Nat->Prop} {t:Nat} {V:Lv} (H:LevP w K t V) (ht:Touch S w w') (hn:∀j,K j->¬S j):LevP w' K t V:=by
 obtain ⟨lo,hi,f,u,H⟩:=H
 exact ⟨lo,hi,f,u,H.touched ht hn⟩
theorem LevP.below {w w':World} {K:Nat->Prop} {t:Nat} {V:Lv} (H:LevP w K t V) (hb:Below w.heap.size w w'):LevP w' K t V:=H.touched (S:=fun _=>False) (Touch.quiet hb) (fun _ _ x=>x)
set_option maxRecDepth 100000 in
theorem Zu4 (n k m b:Int) (s:Nat) (w:World) (ws:W64 s) (h:badV n k m b) :
 Calls Tryz.prog 26 #[.int .i64 n,.int .u64 (s:Int),.int .i64 k,.int .i64 m,.int .i64 b] w fun e w'=>e = .returned (.tuple #[.pointer none,.int .i64 1])/\Below w.heap.size w w':=by
 unfold badV at h
 by_cases h1:n<1
 ·go_enter Tryz.func26,Tryz.ntmps26
  go_wp2
  go_ret2
  exact ⟨rfl,by go_grown⟩
 ·by_cases h2:128<n
  ·go_enter Tryz.func26,Tryz.ntmps26
   go_wp2
   go_ret2
   exact ⟨rfl,by go_grown⟩
  ·by_cases hf:1<=k/\k<=16/\1<=m/\m<=65536
   ·have hF:=hid (Ztl s k m ws hf.1 hf.2.1 hf.2.2.1 hf.2.2.2 w)
    have hX:=hid (Zmf s ws)
    have hB:=hid (fun W=>Z5y (mixN s) b W (by omega))
    clear h hf
    go_enter Tryz.func26,Tryz.ntmps26
    go_wp2_with fail
    refine hF.out.mono ?_
    rintro e w1 ⟨f,rfl,-,hb1⟩
    clear hF
    go_wp2_with fail
    refine (hX.out _).mono ?_
    rintro e w2 ⟨rfl,hb2⟩
    have hw2:=hb1.trans (hb2.mono hb1.size)
    clear hX hb1 hb2
    go_wp2_with fail
    refine (hB.out _).mono ?_
    rintro e w3 ⟨rfl,hb3⟩
    have hw3:=hw2.trans (hb3.mono hw2.size)
    clear hB hb3 hw2
    go_wp2
    go_ret2
    exact ⟨rfl,hw3⟩
   ·have hF:=hid (Z3b s k m hf w)
    clear h hf
    go_enter Tryz.func26,Tryz.ntmps26
    go_wp2_with fail
    refine hF.out.mono ?_
    rintro e w1 ⟨rfl,hb1⟩
    clear hF
    go_wp2
    go_ret2
    exact ⟨rfl,hb1⟩
set_option maxRecDepth 100000 in
theorem Zu3 (n k:Int) (s m b:Nat) (w:World) (ws:W64 s) (h:¬badV n k m b) :
 Calls Tryz.prog 26 #[.int .i64 n,.int .u64 (s:Int),.int .i64 k,.int .i64 (m:Int),.int .i64 (b:Int)] w fun e w'=>
  ∃t,e = .returned (.tuple #[.pointer (some ⟨t,0,none⟩),.int .i64 0])/\LevP w' (In w.heap.size w'.heap.size) t (newV n s k m b)/\Below w.heap.size w w':=by
 unfold badV at h
 obtain ⟨h1,h2,hf,h3,h4⟩:=Classical.not_not.1 h
 have hF:=hid (Ztl s k m ws hf.1 hf.2.1 (by omega) (by omega) w)
 have hX:=hid (Zmf s ws)
 have hB:=hid (fun W=>Seat.new (mixN s) b W (by omega) (by omega))
 have HM:Hid (1<=m):=hid (by omega)
 have n1:¬n<1:=by omega
 have n2:¬128<n:=by omega
 clear h hf h1 h2 h3 h4
 go_enter Tryz.func26,Tryz.ntmps26
 go_wp2_with fail
 refine hF.out.mono ?_
 rintro e w1 ⟨f,rfl,hfil,hb1⟩
 have HF:=hid hfil
 clear hF hfil
 go_wp2_with fail
 refine (hX.out _).mono ?_
 rintro e w2 ⟨rfl,hb2⟩
 have hw2:=hb1.trans (hb2.mono hb1.size)
 have HF2:=hid (HF.out.below hb2)
 clear hX HF
 go_wp2_with fail
 refine (hB.out _).mono ?_
 rintro e w3 ⟨u,rfl,htb,hb3⟩
 have hw3:=hw2.trans (hb3.mono hw2.size)
 have HF3:=hid (HF2.out.below hb3)
 have HT:=hid htb
 have hz1:=hb1.size
 have hz2:=hb2.size
 have hz3:=hb3.size
 clear hB hw2 HF2 htb
 go_wp2
 go_ret2
 refine ⟨w3.heap.size,rfl,⟨w.heap.size,w1.heap.size,f,u,?_⟩,by go_grown⟩
 have hbl:Below w3.heap.size w3 (w3.alloc (.cells #[.int .i64 n,.pointer (some ⟨f,0,none⟩),.pointer (some ⟨u,0,none⟩)] 108)):=by go_grown
 have hsz:(w3.alloc (.cells #[.int .i64 n,.pointer (some ⟨f,0,none⟩),.pointer (some ⟨u,0,none⟩)] 108)).heap.size=w3.heap.size+1:=by simp
 have hfl:=HF3.out.below hbl
 rw [Int.toNat_natCast] at hfl
 refine ⟨by simp,by simp [go_sem,newV],by simp [go_sem],by simp [go_sem],hfl,?_,⟨by omega,by omega⟩,fun j hj=>⟨hj.1,by have:=hj.2;omega⟩,fun hj=>by have:=hj.2;omega,by simpa [newV] using HM.out⟩
 refine ((HT.out.mono (Q:=fun j=>w2.heap.size<=j/\j<w3.heap.size) fun j hj h=>⟨h,hj⟩).below hbl).mono fun j hj h=>⟨⟨by omega,by omega⟩,fun x => ?_,?_⟩
 ·have:=x.2
  omega
 ·omega
end
end Go.Proofs.YtgfjmgebecmbiaaGreat
