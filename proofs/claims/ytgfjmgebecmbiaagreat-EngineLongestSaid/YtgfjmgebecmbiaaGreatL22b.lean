import Derived.Test.YtgfjmgebecmbiaaGreatL21c
set_option linter.unusedSimpArgs false
set_option linter.unusedVariables false
set_option maxHeartbeats 4000000
namespace Go.Proofs.YtgfjmgebecmbiaaGreat
open Lib(hid)
open Go Go.RowKit Go.Sort M
theorem Zov (ah al:Nat):∀(M:List Lv),(Zam ah al M).1.isSome=true->0<(Zam ah al M).2.length
 | [],h=>by cases h
 | V::M,h=>by
  have e:Zam ah al (V::M)=if V.may ah al then (match V.hit ah al with
   | some v=>(some v,[V.n])
   | none=>((Zam ah al M).1,V.n::(Zam ah al M).2)) else Zam ah al M:=rfl
  rw [e] at h ⊢
  by_cases hm:V.may ah al=true
  ·rw [if_pos hm]
   cases V.hit ah al with
   | some v=>exact Nat.zero_lt_one
   | none=>exact Nat.succ_pos _
  ·rw [if_neg hm] at h ⊢
   exact Zov ah al M h
def c22:Cf:=⟨8,2,2,4,2,64,8,2,9,4⟩
def r22:Rt:=⟨⟨0,0,5⟩,3⟩
def e22:Eg:=newE c22 1 [6,8] []
theorem Z9a:okE c22 [6,8]=true:=by decide
theorem Zln:e22.ok:=Zye (by decide) (by decide)
theorem Zi3:r22.k.good:=⟨W64.mk (by decide),W64.mk (by decide)⟩
theorem z64:W64 0:=W64.mk (by decide)
theorem Zzw:e22.hop 0 0 = -1:=by
 rw [Zln.longest z64 z64]
 have:Zbi (depV e22.R (e22.cutA 0 0).h (e22.cutA 0 0).l) (-1) e22.wd 129=none:=Zdy.2 fun m _ h=>by
  have h2:=h.2.2
  have e:depV e22.R (e22.cutA 0 0).h (e22.cutA 0 0).l m=none:=rfl
  rw [e] at h2
  cases h2
 rw [this]
 rfl
theorem Z6n:(e22.put r22).R=[r22]:=by
 rw [Z7w]
 rfl
theorem Zv3:(e22.put r22).hop 0 0=3:=by
 rw [(Zln.put r22 Zi3).longest z64 z64,Z6n]
 have h1:(e22.put r22).wd=8:=Z0x _ _
 have h2:(e22.put r22).cutA 0 0=cutK 0 0 8:=by unfold Eg.cutA;rw [h1];rfl
 rw [h1,h2]
 rfl
theorem Zv4:1<=((e22.put r22).probes 0 0).length:=by
 have hok:=Zln.put r22 Zi3
 have h1:(e22.put r22).wd=8:=Z0x _ _
 have h2:(e22.put r22).cutA 0 0=cutK 0 0 8:=by unfold Eg.cutA;rw [h1];rfl
 have h3:(e22.put r22).di=2:=Z7b _ _
 have h:=Zjz hok.rts (ah:=(cutK 0 0 8).h) (al:=(cutK 0 0 8).l) (W64.cut _ z64) (W64.cut _ z64) _ _ hok.lev
 rw [hok.top,Z6n,h1,h3] at h
 unfold Eg.probes
 rw [h2]
 refine Zov _ _ _ ?_
 rw [h]
 rfl
section
variable {P:World->(Nat->Prop)->Nat->Eg->Prop}
set_option maxRecDepth 100000 in
theorem Zr1 (D:EngC P) (w:World):Calls Tryz.prog 6 #[] w fun e w'=>e = .returned (.bool true)/\Below w.heap.size w w':=by
 have h1:Hid (∀W p,IRow W p [6,8]->Calls Tryz.prog 8 #[.agg #[.int .i64 8,.int .i64 2,.int .i64 2,.int .i64 4,.int .i64 2,.int .i64 64,.int .i64 8,.int .i64 2,.int .i64 9,.int .i64 4],.int .u64 1,.slice p 2 2,.slice none 0 0] W fun e w'=>
  ∃t,e = .returned (.tuple #[.pointer (some ⟨t,0,none⟩),.int .i64 0])/\P w' (In W.heap.size w'.heap.size) t e22/\Below W.heap.size W w'):=
  hid fun W p h=>D.new c22 1 [6,8] [] p none 2 0 W (W64.mk (by decide)) h (.inl rfl) (by decide) (by decide) (by decide) (by decide) Z9a
 have h2:Hid (∀W K t,P W K t e22->Calls Tryz.prog 15 #[.pointer (some ⟨t,0,none⟩),.agg #[.int .u64 0,.int .u64 0]] W fun e w'=>∃p n c,e = .returned (.tuple #[.int .i64 (-1),.slice p n c])/\Below W.heap.size W w'):=
  hid fun W K t h=>by
   have:=D.look W K t e22 0 0 h Zln (by decide) z64 z64
   rw [Zzw] at this
   exact this.mono fun e w' ⟨p,c,h1,_,h3⟩=>⟨p,_,c,h1,h3⟩
 have h3:Hid (∀W K t,P W K t e22->Calls Tryz.prog 12 #[.pointer (some ⟨t,0,none⟩),.agg #[.int .u64 0,.int .u64 0,.int .i64 5,.int .i64 3]] W fun e w'=>e = .returned (.tuple #[])/\∃K',P w' K' t (e22.put r22)/\Touch K W w'/\∀g,K' g->K g\/In W.heap.size w'.heap.size g):=
  hid fun W K t h=>D.put W K t e22 r22 h Zln Zi3 (by decide)
 have h4:Hid (∀W K t,P W K t (e22.put r22)->Calls Tryz.prog 15 #[.pointer (some ⟨t,0,none⟩),.agg #[.int .u64 0,.int .u64 0]] W fun e w'=>∃p n c,e = .returned (.tuple #[.int .i64 3,.slice p n c])/\1<=n/\Below W.heap.size W w'):=
  hid fun W K t h=>by
   have:=D.look W K t (e22.put r22) 0 0 h (Zln.put r22 Zi3) (by rw [Z6n];decide) z64 z64
   rw [Zv3] at this
   exact this.mono fun e w' ⟨p,c,h1,_,h3⟩=>⟨p,_,c,h1,Zv4,h3⟩
 have h5:Hid (∀W,Calls Tryz.prog 22 #[.agg #[.int .i64 8,.int .i64 2,.int .i64 2,.int .i64 4,.int .i64 2,.int .i64 64,.int .i64 8,.int .i64 2,.int .i64 9,.int .i64 4]] W fun e w'=>e = .returned (.bool true)/\Below W.heap.size W w'):=
  hid fun W=>by
   have:=D.right c22 W
   rw [show okCf c22=true by decide] at this
   exact this
 have HD:=hid D
 go_enter Tryz.func6,Tryz.ntmps6
 go_wp2_with fail
 generalize hwA:World.alloc (World.alloc w _) _=wA
 have hA:Below w.heap.size w wA:=by rw [<-hwA];go_grown
 have hz:w.heap.size<wA.heap.size:=by rw [<-hwA];simp;omega
 have hrow:IRow wA (some ⟨w.heap.size+1,0,none⟩) [6,8]:=by
  rw [<-hwA]
  refine .inr ⟨w.heap.size+1,0,by simp,by simp,fun j u hu => ?_⟩
  match j,hu with
  | 0,hu=>simp [ics] at hu;subst hu;simp [go_sem]
  | 1,hu=>simp [ics] at hu;subst hu;simp [go_sem]
 have hcell:Hid (∀wx,Below wA.heap.size wA wx->(wx.cell? ⟨w.heap.size,0,none⟩=some (.int .i64 8)/\wx.cell? ⟨w.heap.size,1,none⟩=some (.int .i64 2)/\wx.cell? ⟨w.heap.size,2,none⟩=some (.int .i64 2)/\wx.cell? ⟨w.heap.size,3,none⟩=some (.int .i64 4)/\wx.cell? ⟨w.heap.size,4,none⟩=some (.int .i64 2)) /\
  (wx.cell? ⟨w.heap.size,5,none⟩=some (.int .i64 64)/\wx.cell? ⟨w.heap.size,6,none⟩=some (.int .i64 8)/\wx.cell? ⟨w.heap.size,7,none⟩=some (.int .i64 2)/\wx.cell? ⟨w.heap.size,8,none⟩=some (.int .i64 9)/\wx.cell? ⟨w.heap.size,9,none⟩=some (.int .i64 4))/\w.heap.size<wx.heap.size):=by
  refine hid fun wx h=>⟨⟨(h.cell (p:=⟨w.heap.size,0,none⟩) hz).trans ?_,(h.cell (p:=⟨w.heap.size,1,none⟩) hz).trans ?_,(h.cell (p:=⟨w.heap.size,2,none⟩) hz).trans ?_,(h.cell (p:=⟨w.heap.size,3,none⟩) hz).trans ?_,(h.cell (p:=⟨w.heap.size,4,none⟩) hz).trans ?_⟩,⟨(h.cell (p:=⟨w.heap.size,5,none⟩) hz).trans ?_,(h.cell (p:=⟨w.heap.size,6,none⟩) hz).trans ?_,(h.cell (p:=⟨w.heap.size,7,none⟩) hz).trans ?_,(h.cell (p:=⟨w.heap.size,8,none⟩) hz).trans ?_,(h.cell (p:=⟨w.heap.size,9,none⟩) hz).trans ?_⟩,Nat.lt_of_lt_of_le hz h.size⟩<;>rw [<-hwA]<;>simp [go_sem]
 have hrw:=hid hrow
 clear hwA hrow
 refine (h1.out _ _ hrw.out).mono ?_
 rintro e w1 ⟨t,rfl,hP,hb1⟩
 have HP:=hid hP
 clear hP h1 hrw
 go_wp2_with fail
 refine (Zg3 0 _).mono ?_
 rintro e w2 ⟨rfl,hb2⟩
 have HP2:=hid (HD.out.below HP.out hb2)
 have hw2:=hb1.trans (hb2.mono hb1.size)
 have hz1:=hb1.size
 have hz2:=hb2.size
 clear HP hb2 hb1
 go_wp2_with fail
 refine (h2.out _ _ _ HP2.out).mono ?_
 rintro e w3 ⟨p3,n3,c3,rfl,hb3⟩
 have HP3:=hid (HD.out.below HP2.out hb3)
 have hw3:=hw2.trans (hb3.mono hw2.size)
 have hz3:=hb3.size
 clear HP2 hb3 hw2
 go_wp2_with fail
 refine (h3.out _ _ _ HP3.out).mono ?_
 rintro e w4 ⟨rfl,K',hP4,hT4,-⟩
 have HP4:=hid hP4
 have hw4:Below wA.heap.size wA w4:=hw3.trans (hT4.below (by omega) (fun j hj=>hj.1))
 clear HP3 hP4 hT4 hw3
 go_wp2_with fail
 refine (h4.out _ _ _ HP4.out).mono ?_
 rintro e w5 ⟨p5,n5,c5,rfl,hn5,hb5⟩
 have hw5:=hw4.trans (hb5.mono hw4.size)
 obtain ⟨⟨k0,k1,k2,k3,k4⟩,⟨k5,k6,k7,k8,k9⟩,kl⟩:=hcell.out w5 hw5
 have n1:(1:Int)<=(n5:Int):=by omega
 clear HP4 hb5 hw4
 go_wp2_with fail
 refine (h5.out _).mono ?_
 rintro e w6 ⟨rfl,hb6⟩
 have hw6:=hA.trans ((hw5.trans (hb6.mono hw5.size)).mono hA.size)
 clear k0 k1 k2 k3 k4 k5 k6 k7 k8 k9 hb6
 go_wp2
 go_ret
 exact ⟨rfl,hw6⟩
end
end Go.Proofs.YtgfjmgebecmbiaaGreat
