/-
  What a search by halves hands back; where a key lies in a table's stash. No condition but that the table's cells lie in memory, and that its stash is in order and has fewer than 2^20 keys.
-/
import Derived.Test.YtgfjmgebecmbiaaGreatW6b
import Derived.Test.YtgfjmgebecmbiaaGreatM12f
import Derived.Test.YtgfjmgebecmbiaaGreatM12
import Derived.Test.YtgfjmgebecmbiaaGreatCT
set_option linter.unusedSimpArgs false
set_option linter.unusedVariables false
namespace Go.Proofs.YtgfjmgebecmbiaaGreat
open Go.RowKit Go.Sort M
theorem pmix_at (h:Nat) (w:W64 h):Gives Tryz.prog 27 #[.int .u64 (h:Int)] (.int .u64 (mixN h:Nat)):=by
 have:=mix_any (h:Int)
 rwa [mixZ_nat h w] at this
theorem place_next (h g j:Nat):IntKind.u64.wrap ((((h+j*g)%18446744073709551616:Nat):Int)+(g:Int))=(((h+(j+1)*g)%18446744073709551616:Nat):Int):=by
 rw [IntKind.wrap_u64,Nat.add_mul]
 omega
set_option maxRecDepth 100000 in
set_option maxHeartbeats 1000000 in
theorem places_any (s h l:Nat) (n k m:Int) (hs:W64 s) (hh:W64 h) (hl:W64 l) (hm:m<=9223372036854775807) :
 GivesInts 114 #[.int .u64 s,.agg #[.int .u64 h,.int .u64 l,.int .i64 n],.int .i64 k,.int .i64 m] (placesI (hashN s h l (wordZ n)) k m):=by
 intro w
 by_cases h0:k<1
 ·rw [placesI_few h0]
  go_enter Tryz.func114,Tryz.ntmps114
  go_wp2
  go_ret
  exact ⟨none,0,rfl,World.ownsRow_nil _ _ _ _,by go_grown⟩
 ·by_cases h1:m<1
  ·rw [placesI_none h1]
   go_enter Tryz.func114,Tryz.ntmps114
   go_wp2
   go_ret
   exact ⟨none,0,rfl,World.ownsRow_nil _ _ _ _,by go_grown⟩
  ·rw [placesI_some h1]
   have HH:=Lib.hid (hash_any s h l n hs hh hl)
   have hw:W64 (hashN s h l (wordZ n)):=mixN_w _
   generalize hashN s h l (wordZ n)=v at HH hw ⊢
   have HM:=Lib.hid (pmix_at v hw)
   have HO:=Lib.hid (or_one (mixN v) (mixN_w _))
   have HG:=Lib.hid (or_one_w (mixN v) (mixN_w _))
   obtain ⟨c,hc⟩:∃c,c=min k.toNat 16:=⟨_,rfl⟩
   have hc16:c<=16:=by omega
   have hmk:=make_row (P:=Tryz.prog) (t:=25) Tryz.underlying25 infoI c (by omega) (by unfold maxLen;omega)
   rw [<-hc]
   by_cases hk:k<=16
   ·have he:(c:Int)=k:=by omega
    have hmn:(c:Int)=min k 16:=by omega
    have hmk2:=hmk
    rw [hmn] at hmk2
    clear hc hmn
    rw [he] at hmk
    clear he
    go_enter Tryz.func114,Tryz.ntmps114
    go_wp2_with fail
    refine (HH.out _).mono ?_
    rintro e0 w0 ⟨rfl,hb0⟩
    have hw0:Below w.heap.size w w0:=by
     refine Below.trans ?_ (hb0.mono ?_)
     ·go_grown
     ·go_size
    go_wp2_with fail
    refine (HM.out _).mono ?_
    rintro e w1 ⟨rfl,hb1⟩
    have hw1:=hw0.trans (hb1.mono hw0.size)
    have hz1:=hw1.size
    have hown0:(w1.alloc (.cells (madeCells #[.int .i64 0] c) 3)).ownsRow w.heap.size 3 1 (.slice (some ⟨w1.heap.size,0,none⟩) c c) c (madeCells #[.int .i64 0] c).toList:=
     World.ownsRow_lit _ _ c (by omega) (by unfold maxLen;omega) (by simp [madeCells])
    clear hb0 hb1 hw0
    go_wp2_with (first|rw [HO.out]|fail)
    go_loopw [9,30] (fun at_ i wr=>∃(j:Nat) (xs:List Value),j<=c/\i = .int .i64 j/\at_ = .int .u64 ((v+j*(mixN v ||| 1))%18446744073709551616:Nat)/\wr.ownsRow w.heap.size 3 1 (.slice (some ⟨w1.heap.size,0,none⟩) c c) c xs/\Hid (xs.take j=ics (placesK v m j))/\Below w.heap.size w wr) (fun _ i _=>c-(intOf i).toNat)
    case atStart=>exact ⟨0,_,Nat.zero_le _,rfl,by rw [Nat.zero_mul,Nat.add_zero,Nat.mod_eq_of_lt hw.lt],hown0,Lib.hid (by simp [ics,placesK]),by go_grown⟩
    case round=>
     clear hown0 hw1
     obtain ⟨j,xs,hj,rfl,rfl,hown,hxs,hw1⟩:=hrel
     have hz1:=hw1.size
     by_cases hlt:j<c
     ·have hr:=red_any ((v+j*(mixN v ||| 1))%18446744073709551616) m (W64.mk (Nat.mod_lt _ (by decide))) hm
      have HR:Hid (Gives Tryz.prog 145 #[.int .u64 ((v+j*(mixN v ||| 1))%18446744073709551616:Nat),.int .i64 m] (.int .i64 (placeI v m j))):=Lib.hid hr
      have HN:=Lib.hid (place_next v (mixN v ||| 1) j)
      clear hr
      generalize (v+j*(mixN v ||| 1))%18446744073709551616=y at HR HN ⊢
      go_wp2_with fail
      refine (HR.out _).mono ?_
      rintro e w2 ⟨rfl,hb2⟩
      have hgz:=(hown.lt w1.heap.size rfl).2
      have hgz2:w1.heap.size<w2.heap.size:=Nat.lt_of_lt_of_le hgz hb2.size
      have hown2:=own_below hown hb2
      have hw2:=hw1.trans (hb2.mono hz1)
      have hxl:xs.length=c:=by have:=hown2.1;omega
      obtain ⟨v0,d0⟩:∃v,w2.cell? ⟨w1.heap.size,j,none⟩=some v:=⟨_,(hown2.cellAt j (by omega)).trans (List.getElem?_eq_getElem (by omega))⟩
      have f0:=hown2.frozenAt j
      have HXL:=Lib.hid hxl
      clear hown hb2 hw1 hz1 hxl
      go_wp2
      go_roundw
      case rel=>
       refine ⟨j+1,_,by omega,by go_num,by rw [<-HN.out],(hown2.stored j (.int .i64 (placeI v m j))).1,Lib.hid ?_,by go_grown⟩
       rw [set1_take _ _ _ (by rw [HXL.out];exact hlt),hxs.out,placesK_succ,ics_append]
       rfl
      case measure=>simp [intOf];omega
     ·obtain rfl:j=c:=by omega
      go_wp2
      go_ret
      have hx:=hxs.out
      rw [List.take_of_length_le (by rw [hown.1];omega)] at hx
      subst hx
      refine ⟨some ⟨w1.heap.size,0,none⟩,j,?_,?_,hw1⟩
      ·rw [placesK_len];rfl
      ·rw [placesK_len];exact hown
   ·have he:(c:Int)=16:=by omega
    have hmn:(c:Int)=min k 16:=by omega
    have hmk2:=hmk
    rw [hmn] at hmk2
    clear hc hmn
    rw [he] at hmk
    clear he
    go_enter Tryz.func114,Tryz.ntmps114
    go_wp2_with fail
    refine (HH.out _).mono ?_
    rintro e0 w0 ⟨rfl,hb0⟩
    have hw0:Below w.heap.size w w0:=by
     refine Below.trans ?_ (hb0.mono ?_)
     ·go_grown
     ·go_size
    go_wp2_with fail
    refine (HM.out _).mono ?_
    rintro e w1 ⟨rfl,hb1⟩
    have hw1:=hw0.trans (hb1.mono hw0.size)
    have hz1:=hw1.size
    have hown0:(w1.alloc (.cells (madeCells #[.int .i64 0] c) 3)).ownsRow w.heap.size 3 1 (.slice (some ⟨w1.heap.size,0,none⟩) c c) c (madeCells #[.int .i64 0] c).toList:=
     World.ownsRow_lit _ _ c (by omega) (by unfold maxLen;omega) (by simp [madeCells])
    clear hb0 hb1 hw0
    go_wp2_with (first|rw [HO.out]|fail)
    go_loopw [9,30] (fun at_ i wr=>∃(j:Nat) (xs:List Value),j<=c/\i = .int .i64 j/\at_ = .int .u64 ((v+j*(mixN v ||| 1))%18446744073709551616:Nat)/\wr.ownsRow w.heap.size 3 1 (.slice (some ⟨w1.heap.size,0,none⟩) c c) c xs/\Hid (xs.take j=ics (placesK v m j))/\Below w.heap.size w wr) (fun _ i _=>c-(intOf i).toNat)
    case atStart=>exact ⟨0,_,Nat.zero_le _,rfl,by rw [Nat.zero_mul,Nat.add_zero,Nat.mod_eq_of_lt hw.lt],hown0,Lib.hid (by simp [ics,placesK]),by go_grown⟩
    case round=>
     clear hown0 hw1
     obtain ⟨j,xs,hj,rfl,rfl,hown,hxs,hw1⟩:=hrel
     have hz1:=hw1.size
     by_cases hlt:j<c
     ·have hr:=red_any ((v+j*(mixN v ||| 1))%18446744073709551616) m (W64.mk (Nat.mod_lt _ (by decide))) hm
      have HR:Hid (Gives Tryz.prog 145 #[.int .u64 ((v+j*(mixN v ||| 1))%18446744073709551616:Nat),.int .i64 m] (.int .i64 (placeI v m j))):=Lib.hid hr
      have HN:=Lib.hid (place_next v (mixN v ||| 1) j)
      clear hr
      generalize (v+j*(mixN v ||| 1))%18446744073709551616=y at HR HN ⊢
      go_wp2_with fail
      refine (HR.out _).mono ?_
      rintro e w2 ⟨rfl,hb2⟩
      have hgz:=(hown.lt w1.heap.size rfl).2
      have hgz2:w1.heap.size<w2.heap.size:=Nat.lt_of_lt_of_le hgz hb2.size
      have hown2:=own_below hown hb2
      have hw2:=hw1.trans (hb2.mono hz1)
      have hxl:xs.length=c:=by have:=hown2.1;omega
      obtain ⟨v0,d0⟩:∃v,w2.cell? ⟨w1.heap.size,j,none⟩=some v:=⟨_,(hown2.cellAt j (by omega)).trans (List.getElem?_eq_getElem (by omega))⟩
      have f0:=hown2.frozenAt j
      have HXL:=Lib.hid hxl
      clear hown hb2 hw1 hz1 hxl
      go_wp2
      go_roundw
      case rel=>
       refine ⟨j+1,_,by omega,by go_num,by rw [<-HN.out],(hown2.stored j (.int .i64 (placeI v m j))).1,Lib.hid ?_,by go_grown⟩
       rw [set1_take _ _ _ (by rw [HXL.out];exact hlt),hxs.out,placesK_succ,ics_append]
       rfl
      case measure=>simp [intOf];omega
     ·obtain rfl:j=c:=by omega
      go_wp2
      go_ret
      have hx:=hxs.out
      rw [List.take_of_length_le (by rw [hown.1];omega)] at hx
      subst hx
      refine ⟨some ⟨w1.heap.size,0,none⟩,j,?_,?_,hw1⟩
      ·rw [placesK_len];rfl
      ·rw [placesK_len];exact hown
structure FilB (w:World) (lo hi f g1 h1 g2 h2 s:Nat) (k:Int) (C:List Nat) (D:List Bool):Prop where
 c0:w.cell? ⟨f,0,none⟩=some (.int .u64 (s:Int))
 c1:w.cell? ⟨f,1,none⟩=some (.int .i64 k)
 c2:w.cell? ⟨f,2,none⟩=some (.pointer (some ⟨g1,0,none⟩))
 c3:w.cell? ⟨f,3,none⟩=some (.pointer (some ⟨g2,0,none⟩))
 cs:Nib w lo g1 h1 C
 bs:Bts w lo g2 h2 D
 len:D.length=C.length
 top:hi<=w.heap.size
 fin:lo<=f/\f<hi
 in1:g1<hi/\h1<hi
 in2:g2<hi/\h2<hi
 ap1:f≠h1/\g2≠h1/\h2≠h1
 ap2:f≠h2/\g1≠h2/\h1≠h2
 ws:W64 s
def Fil (w:World) (lo hi f s:Nat) (k:Int) (C:List Nat):Prop:=∃g1 h1 g2 h2,FilB w lo hi f g1 h1 g2 h2 s k C (onsC C)
section
variable {w w':World} {lo hi f g1 h1 g2 h2 s:Nat} {k:Int} {C:List Nat} {D:List Bool} {S:Nat->Prop}
theorem FilB.touched (H:FilB w lo hi f g1 h1 g2 h2 s k C D) (ht:Touch S w w') (hn:∀j,lo<=j->j<hi->¬S j):FilB w' lo hi f g1 h1 g2 h2 s k C D:=
 ⟨ht.cell H.c0 (hn _ H.fin.1 H.fin.2),ht.cell H.c1 (hn _ H.fin.1 H.fin.2),ht.cell H.c2 (hn _ H.fin.1 H.fin.2),ht.cell H.c3 (hn _ H.fin.1 H.fin.2),
  H.cs.touched ht (hn _ H.cs.low H.in1.1) (hn _ H.cs.low2.1 H.in1.2),H.bs.touched ht (hn _ H.bs.low H.in2.1) (hn _ H.bs.low2.1 H.in2.2),H.len,Nat.le_trans H.top ht.size,H.fin,H.in1,H.in2,H.ap1,H.ap2,H.ws⟩
theorem Fil.touched (H:Fil w lo hi f s k C) (ht:Touch S w w') (hn:∀j,lo<=j->j<hi->¬S j):Fil w' lo hi f s k C:=by
 obtain ⟨g1,h1,g2,h2,H⟩:=H
 exact ⟨g1,h1,g2,h2,H.touched ht hn⟩
theorem FilB.below (H:FilB w lo hi f g1 h1 g2 h2 s k C D) (hb:Below w.heap.size w w'):FilB w' lo hi f g1 h1 g2 h2 s k C D:=H.touched (S:=fun _=>False) (Touch.quiet hb) (fun _ _ _ h=>h)
theorem Fil.below (H:Fil w lo hi f s k C) (hb:Below w.heap.size w w'):Fil w' lo hi f s k C:=H.touched (S:=fun _=>False) (Touch.quiet hb) (fun _ _ _ h=>h)
theorem FilB.lt (H:FilB w lo hi f g1 h1 g2 h2 s k C D):f<w.heap.size:=Nat.lt_of_lt_of_le H.fin.2 H.top
theorem FilB.turnC (H:FilB w lo hi f g1 h1 g2 h2 s k C D) {C':List Nat} (hC:Nib w' lo g1 h1 C') (hl:C'.length=C.length) (hg:w.grownBy w' (some h1)):FilB w' lo hi f g1 h1 g2 h2 s k C' D/\Touch (In lo hi) w w':=by
 obtain ⟨a1,a2,a3⟩:=H.ap1
 exact ⟨⟨hg.cell H.c0 (by simpa using a1),hg.cell H.c1 (by simpa using a1),hg.cell H.c2 (by simpa using a1),hg.cell H.c3 (by simpa using a1),hC,H.bs.kept hg (by simpa using a2) (by simpa using a3),H.len.trans hl.symm,Nat.le_trans H.top hg.size,H.fin,H.in1,H.in2,H.ap1,H.ap2,H.ws⟩,
  Touch.of_grown hg (fun j e=>by cases e;exact ⟨H.cs.low2.1,H.in1.2⟩)⟩
theorem FilB.turnD (H:FilB w lo hi f g1 h1 g2 h2 s k C D) {D':List Bool} (hD:Bts w' lo g2 h2 D') (hl:D'.length=D.length) (hg:w.grownBy w' (some h2)):FilB w' lo hi f g1 h1 g2 h2 s k C D'/\Touch (In lo hi) w w':=by
 obtain ⟨a1,a2,a3⟩:=H.ap2
 exact ⟨⟨hg.cell H.c0 (by simpa using a1),hg.cell H.c1 (by simpa using a1),hg.cell H.c2 (by simpa using a1),hg.cell H.c3 (by simpa using a1),H.cs.kept hg (by simpa using a2) (by simpa using a3),hD,hl.trans H.len,Nat.le_trans H.top hg.size,H.fin,H.in1,H.in2,H.ap1,H.ap2,H.ws⟩,
  Touch.of_grown hg (fun j e=>by cases e;exact ⟨H.bs.low2.1,H.in2.2⟩)⟩
end
theorem flen_any (lo hi f s:Nat) (k:Int) (C:List Nat) (w:World) (H:Fil w lo hi f s k C) :
 Calls Tryz.prog 87 #[.pointer (some ⟨f,0,none⟩)] w fun e w'=>e = .returned (.int .i64 (C.length:Int))/\Below w.heap.size w w':=by
 obtain ⟨g1,h1,g2,h2,H⟩:=H
 have c3:=H.c3
 have HL:=Lib.hid (blen_any lo g2 h2 (onsC C) w H.bs)
 rw [onsC_len] at HL
 have hl:=H.lt
 clear H
 go_enter Tryz.func87,Tryz.ntmps87
 go_wp2_with fail
 refine HL.out.mono ?_
 rintro e w0 ⟨rfl,hw0⟩
 go_wp2
 go_ret
 exact ⟨rfl,hw0⟩
def plc (s h l:Nat) (n k:Int) (m:Nat):List Int:=placesI (hashN s h l (wordZ n)) k m
theorem plc_len (s h l:Nat) (n k:Int) (m:Nat):(plc s h l n k m).length<=16:=by
 unfold plc placesI
 split
 ·simp
 ·rw [placesK_len]
  omega
theorem plc_in (s h l:Nat) (n k:Int) (m:Nat) (i:Nat) (hi:i<(plc s h l n k m).length):0<=(plc s h l n k m)[i]/\(plc s h l n k m)[i]<(m:Int):=by
 have hx:=List.getElem_mem hi
 generalize (plc s h l n k m)[i]=x at hx
 unfold plc placesI at hx
 split at hx
 ·simp at hx
 ·unfold placesK at hx
  rw [List.mem_map] at hx
  obtain ⟨j,-,rfl⟩:=hx
  exact ⟨placeI_nonneg _ _ _,placeI_lt _ _ _ (by omega)⟩
set_option maxHeartbeats 1000000 in
theorem fplaces_any (lo hi f s:Nat) (k:Int) (C:List Nat) (h l:Nat) (n:Int) (w:World) (H:Fil w lo hi f s k C) (wh:W64 h) (wl:W64 l) :
 Calls Tryz.prog 88 #[.pointer (some ⟨f,0,none⟩),.agg #[.int .u64 h,.int .u64 l,.int .i64 n]] w fun e w'=>∃p c,e = .returned (.slice p (plc s h l n k C.length).length c) /\
  w'.ownsRow w.heap.size 3 1 (.slice p (plc s h l n k C.length).length c) (plc s h l n k C.length).length (ics (plc s h l n k C.length))/\Below w.heap.size w w':=by
 have hlen:C.length<=65536:=by
  obtain ⟨g1,h1,g2,h2,H⟩:=H
  exact H.cs.len
 have HL:Hid (∀w,Fil w lo hi f s k C->Calls Tryz.prog 87 #[.pointer (some ⟨f,0,none⟩)] w fun e w'=>e = .returned (.int .i64 (C.length:Int))/\Below w.heap.size w w'):=Lib.hid (fun w H=>flen_any lo hi f s k C w H)
 have HC:=Lib.hid H
 obtain ⟨g1,h1,g2,h2,H⟩:=H
 have c0:=H.c0
 have c1:=H.c1
 have hl:=H.lt
 have hP:=places_any s h l n k C.length H.ws wh wl (by omega)
 change GivesInts _ _ (plc s h l n k C.length) at hP
 generalize plc s h l n k C.length=L at *
 have HP:=Lib.hid hP
 clear H hP hlen
 go_enter Tryz.func88,Tryz.ntmps88
 go_wp2_with fail
 have kg:=cell_grow
 refine region_tail 11 (by kernel_rfl) (by kernel_rfl) ?_
 simp only [List.take_succ_cons,List.take_zero,List.drop_succ_cons,List.drop_zero]
 repeat (any_goals (first|go_big_quiet_step ((exact Calls.regrown_of (HL.out _ (HC.out.below (Below.trans (b:=w.alloc _) (by go_grown) ((below_regrown _ _ _).mono (by simp)))))))|quiet_step ((exact Calls.regrown_of (HL.out _ (HC.out.below (Below.trans (b:=w.alloc _) (by go_grown) ((below_regrown _ _ _).mono (by simp)))))))))
 refine wpQuiet_nil ?_
 clear kg
 intro w1 hb1
 obtain ⟨hc1,hf1⟩:=bcell hb1
 have hw1:Below w.heap.size w w1:=by
  refine Below.trans ?_ (hb1.mono ?_)
  ·go_grown
  ·first|omega|go_size
 go_wp2_with fail
 refine (HP.out _).mono ?_
 rintro e w2 ⟨p,c,rfl,hown,hb2⟩
 have hw2:=hw1.trans (hb2.mono hw1.size)
 have hown2:=own_le hown hw1.size
 clear hown hb2 hw1 hb1
 go_wp2
 go_ret
 exact ⟨p,c,rfl,hown2,hw2⟩
structure Num (T:Tab):Prop where
 lo:1<=T.B.length
 hi:T.B.length<=65536
 word:W64 T.s
theorem Inv.num {T:Tab} (H:Inv T):Num T:=⟨H.lo,H.hi,H.word⟩
theorem Num.x1_lt {T:Tab} (H:Num T) (k:Ky):T.x1 k<T.B.length:=b1_lt H.lo
theorem Num.x2_lt {T:Tab} (H:Num T) (k:Ky):T.x2 k<T.B.length:=b2_lt H.lo
theorem Num.set {T:Tab} (H:Num T) (i:Nat) (C:List Pl):Num (T.set i C):=⟨by rw [set_len];exact H.lo,by rw [set_len];exact H.hi,H.word⟩
set_option maxRecDepth 100000 in
set_option maxHeartbeats 1000000 in
theorem none_any (t g:Nat) (v:Value) (T:Tab) (m:Int) (w:World) (H:CT w t g v T m) (h:Num T) :
 Calls Tryz.prog 90 #[.pointer (some ⟨t,0,none⟩)] w fun e w'=>e = .returned (.bool false)/\Below w.heap.size w w':=by
 have c1:=H.tb.c1
 have hl:=H.tb.tlt
 have h1:=h.lo
 generalize T.B.length=n at *
 have hn:((n:Int) == 0)=false:=by simp;omega
 clear H h
 go_enter Tryz.func90,Tryz.ntmps90
 go_wp2
 go_ret
 exact ⟨rfl,by go_grown⟩
set_option maxRecDepth 100000 in
set_option maxHeartbeats 1000000 in
theorem two_any (t g:Nat) (v:Value) (T:Tab) (m:Int) (k:Ky) (w:World) (H:CT w t g v T m) (h:Num T) (hk:k.good) :
 Calls Tryz.prog 91 #[.pointer (some ⟨t,0,none⟩),kyV k] w fun e w'=>e = .returned (.tuple #[.int .i64 (T.x1 k:Int),.int .i64 (T.x2 k:Int)])/\Below w.heap.size w w':=by
 have c0:=H.tb.c0
 have c1:=H.tb.c1
 have hl:=H.tb.tlt
 have hB:=buck_any T.s k.h k.l k.n (T.B.length:Int) h.word hk.1 hk.2 (by have:=h.hi;omega)
 rw [b1_int h.lo,b2_int h.lo] at hB
 change Gives _ _ _ (.tuple #[.int .i64 (T.x1 k:Int),.int .i64 (T.x2 k:Int)]) at hB
 have HB:=Lib.hid hB
 generalize T.x1 k=x1 at *
 generalize T.x2 k=x2 at *
 clear H h hB
 unfold kyV
 go_enter Tryz.func91,Tryz.ntmps91
 go_wp2_with fail
 have kg:=cell_grow
 refine region_whole (by kernel_rfl) (by kernel_rfl) ?_
 repeat (any_goals (first|go_big_quiet_step ((exact HB.out.at _ _ _))|quiet_step ((exact HB.out.at _ _ _))))
 refine wpQuiet_nil ?_
 clear kg
 intro w1 hb1
 obtain ⟨hc1,hf1⟩:=bcell hb1
 have hw1:Below w.heap.size w w1:=by
  refine Below.trans ?_ (hb1.mono ?_)
  ·go_grown
  ·first|omega|go_size
 go_wp2
 go_ret2
 exact ⟨rfl,hw1⟩
set_option maxRecDepth 100000 in
set_option maxHeartbeats 1000000 in
theorem other_any (t g:Nat) (v:Value) (T:Tab) (m:Int) (k:Ky) (b:Nat) (w:World) (H:CT w t g v T m) (h:Num T) (hk:k.good) :
 Calls Tryz.prog 172 #[.pointer (some ⟨t,0,none⟩),kyV k,.int .i64 (b:Int)] w fun e w'=>e = .returned (.int .i64 (T.other k b:Int))/\Below w.heap.size w w':=by
 have HT:=Lib.hid (fun w H=>two_any t g v T m k w H h hk)
 have HH:=Lib.hid H
 have HE:Hid (T.other k b=if b=T.x1 k then T.x2 k else T.x1 k):=rfl
 generalize T.x1 k=x1 at *
 generalize T.x2 k=x2 at *
 generalize T.other k b=o at *
 clear H h
 unfold kyV at *
 by_cases hb:b=x1
 ·subst hb
  have hE:=HE.out
  rw [if_pos rfl] at hE
  subst hE
  clear HE
  go_enter Tryz.func172,Tryz.ntmps172
  go_wp2_with fail
  refine (HT.out _ (HH.out.below (by go_grown))).mono ?_
  rintro e w1 ⟨rfl,hb1⟩
  have hw1:Below w.heap.size w w1:=Below.trans (by go_grown) (hb1.mono (by go_size))
  clear hb1
  go_wp2
  go_ret
  exact ⟨rfl,hw1⟩
 ·have hE:=HE.out
  rw [if_neg hb] at hE
  subst hE
  have hbi:((b:Int) == (o:Int))=false:=by simp;omega
  clear HE hb
  go_enter Tryz.func172,Tryz.ntmps172
  go_wp2_with fail
  refine (HT.out _ (HH.out.below (by go_grown))).mono ?_
  rintro e w1 ⟨rfl,hb1⟩
  have hw1:Below w.heap.size w w1:=Below.trans (by go_grown) (hb1.mono (by go_size))
  clear hb1
  go_wp2
  go_ret
  exact ⟨rfl,hw1⟩
set_option maxRecDepth 100000 in
set_option maxHeartbeats 1000000 in
theorem search_any (F:Nat) (p q:Value) (n b:Nat) (hb:b<=n) (hn:n<4611686018427387904) (w:World) (eg:∀args w,(callFunc F args).run Tryz.prog w = .ok (.enter F args) w)
 (hf:∀wx (i:Nat),Below w.heap.size w wx->i<n->Calls Tryz.prog F #[.int .i64 (i:Int),p,q] wx fun e w'=>e = .returned (.bool (decide (b<=i)))/\Below wx.heap.size wx w') :
 Calls Tryz.prog 54 #[.int .i64 (n:Int),.func (.func F) #[] #[p,q]] w fun e w'=>e = .returned (.int .i64 (b:Int))/\Below w.heap.size w w':=by
 have HF:=Lib.hid hf
 clear hf
 go_enter Tryz.func54,Tryz.ntmps54
 go_wp2
 go_loopw [5,6] (fun s5 s6 wr=>∃(lo hi:Nat),s5 = .int .i64 (lo:Int)/\s6 = .int .i64 (hi:Int)/\lo<=b/\b<=hi/\hi<=n/\Below w.heap.size w wr) (fun s5 s6 _=>(intOf s6).toNat-(intOf s5).toNat)
 case atStart=>exact ⟨0,n,rfl,rfl,Nat.zero_le _,hb,Nat.le_refl _,by go_grown⟩
 case round=>
  obtain ⟨lo,hi,rfl,rfl,h1,h2,h3,hw⟩:=hrel
  by_cases hlt:lo<hi
  ·have hc:=HF.out wr ((lo+hi)/2) hw (by omega)
   rw [show (((lo+hi)/2:Nat):Int)=((lo:Int)+(hi:Int))/2 by omega] at hc
   by_cases ht:b<=(lo+hi)/2
   ·rw [decide_eq_true ht] at hc
    go_wp2_with (go_at_fn F;refine hc.mono ?_;rintro e w1 ⟨rfl,hb1⟩)
    go_roundw
    case rel=>exact ⟨lo,(lo+hi)/2,rfl,by rw [show ((lo:Int)+(hi:Int))/2=(((lo+hi)/2:Nat):Int) by omega],h1,ht,by omega,hw.trans (hb1.mono hw.size)⟩
    case measure=>simp [intOf];omega
   ·rw [decide_eq_false ht] at hc
    go_wp2_with (go_at_fn F;refine hc.mono ?_;rintro e w1 ⟨rfl,hb1⟩)
    go_roundw
    case rel=>exact ⟨(lo+hi)/2+1,hi,by rw [show ((lo:Int)+(hi:Int))/2+1=(((lo+hi)/2+1:Nat):Int) by omega],rfl,by omega,h2,h3,hw.trans (hb1.mono hw.size)⟩
    case measure=>simp [intOf];omega
  ·obtain rfl:lo=b:=by omega
   go_wp2
   go_ret
   exact ⟨rfl,hw⟩
set_option maxRecDepth 100000 in
set_option maxHeartbeats 1000000 in
theorem test_any (t g:Nat) (v:Value) (T:Tab) (m:Int) (k:Ky) (b0 b1 i:Nat) (w:World) (H:CT w t g v T m) (hs:Sorted T.st) (hi:i<T.st.length) (l0:b0<w.heap.size) (l1:b1<w.heap.size)
 (k0:w.cell? ⟨b0,0,none⟩=some (.pointer (some ⟨t,0,none⟩))) (d0:w.cell? ⟨b1,0,none⟩=some (.int .u64 (k.h:Int))) (d1:w.cell? ⟨b1,1,none⟩=some (.int .u64 (k.l:Int))) (d2:w.cell? ⟨b1,2,none⟩=some (.int .i64 k.n)) :
 Calls Tryz.prog 146 #[.int .i64 (i:Int),.pointer (some ⟨b0,0,none⟩),.pointer (some ⟨b1,0,none⟩)] w fun e w'=>e = .returned (.bool (decide (bh T.st k<=i)))/\Below w.heap.size w w':=by
 have hl:=H.tb.tlt
 obtain ⟨p,c,rfl⟩:=own_slice H.tb.own
 have c2:=H.tb.c2
 obtain ⟨gr,o,rfl,hgr,r0,r1,r2,-⟩:=(Row.of_own H.tb.own).rt hi
 have hT:=bh_test T.st k hs i hi
 have HL:=less_any T.st[i].k.h T.st[i].k.l T.st[i].k.n k.h k.l k.n
 change Gives _ _ _ (.bool (lessK T.st[i].k k)) at HL
 have HL:=Lib.hid HL
 have i1:(0:Int)<=(i:Int):=by omega
 have i2:(i:Int)<(T.st.length:Int):=by omega
 generalize lessK T.st[i].k k=ls at *
 generalize decide (bh T.st k<=i)=ds at *
 subst hT
 generalize T.st[i].k=q at *
 generalize T.st.length=n at *
 clear H hs
 go_enter Tryz.func146,Tryz.ntmps146
 go_wp2_with fail
 have kg:=cell_grow
 refine region_whole (by kernel_rfl) (by kernel_rfl) ?_
 repeat (any_goals (first|go_big_quiet_step ((exact HL.out.at _ _ _))|quiet_step ((exact HL.out.at _ _ _))))
 refine wpQuiet_nil ?_
 clear kg
 intro w1 hb1
 obtain ⟨hc1,hf1⟩:=bcell hb1
 have hw1:Below w.heap.size w w1:=by
  refine Below.trans ?_ (hb1.mono ?_)
  ·go_grown
  ·first|omega|go_size
 go_wp2
 go_ret
 exact ⟨rfl,hw1⟩
set_option maxRecDepth 100000 in
set_option maxHeartbeats 1000000 in
theorem behind_any (t g:Nat) (v:Value) (T:Tab) (m:Int) (k:Ky) (w:World) (H:CT w t g v T m) (hs:Sorted T.st) (hf:T.st.length<1048576) :
 Calls Tryz.prog 119 #[.pointer (some ⟨t,0,none⟩),kyV k] w fun e w'=>e = .returned (.int .i64 (bh T.st k:Int))/\Below w.heap.size w w':=by
 have HH:=Lib.hid H
 have hl:=H.tb.tlt
 obtain ⟨p,c,rfl⟩:=own_slice H.tb.own
 have c2:=H.tb.c2
 have eg:=enters_of Tryz.func146 (by kernel_rfl) rfl
 have hS:∀W,Below w.heap.size w W->W.heap.size=w.heap.size+2->W.cell? ⟨w.heap.size,0,none⟩=some (.pointer (some ⟨t,0,none⟩))->W.cell? ⟨w.heap.size+1,0,none⟩=some (.int .u64 (k.h:Int))->W.cell? ⟨w.heap.size+1,1,none⟩=some (.int .u64 (k.l:Int))->W.cell? ⟨w.heap.size+1,2,none⟩=some (.int .i64 k.n) ->
  Calls Tryz.prog 54 #[.int .i64 (T.st.length:Int),.func (.func 146) #[] #[.pointer (some ⟨w.heap.size,0,none⟩),.pointer (some ⟨w.heap.size+1,0,none⟩)]] W fun e w'=>e = .returned (.int .i64 (bh T.st k:Int))/\Below W.heap.size W w':=by
  intro W hW hz e0 e1 e2 e3
  refine search_any _ _ _ _ _ (bh_le T.st k) (by omega) W eg fun wx i hx hi => ?_
  refine test_any t g _ T m k w.heap.size (w.heap.size+1) i wx (HH.out.below (hW.trans (hx.mono hW.size))) hs hi (by have:=hx.size;omega) (by have:=hx.size;omega) ?_ ?_ ?_ ?_
  ·exact (hx.cell (p:=⟨w.heap.size,0,none⟩) (by show w.heap.size<_;omega)).trans e0
  ·exact (hx.cell (p:=⟨w.heap.size+1,0,none⟩) (by show w.heap.size+1<_;omega)).trans e1
  ·exact (hx.cell (p:=⟨w.heap.size+1,1,none⟩) (by show w.heap.size+1<_;omega)).trans e2
  ·exact (hx.cell (p:=⟨w.heap.size+1,2,none⟩) (by show w.heap.size+1<_;omega)).trans e3
 have HS:=Lib.hid hS
 generalize bh T.st k=b at *
 generalize T.st.length=n at *
 clear H hs hS
 unfold kyV
 go_enter Tryz.func119,Tryz.ntmps119
 go_wp2_with fail
 refine (HS.out _ (by go_grown) (by simp) (by simp [go_sem]) (by simp [go_sem]) (by simp [go_sem]) (by simp [go_sem])).mono ?_
 rintro e w1 ⟨rfl,hb1⟩
 have hw1:Below w.heap.size w w1:=Below.trans (by go_grown) (hb1.mono (by go_size))
 clear hb1
 go_wp2
 go_ret
 exact ⟨rfl,hw1⟩
theorem neqK (a b:Nat) (n:Int) (c d:Nat) (m:Int) (w:World):(binOp .neq 39 (.agg #[.int .u64 a,.int .u64 b,.int .i64 n]) (.agg #[.int .u64 c,.int .u64 d,.int .i64 m])).run Tryz.prog w =
 .ok (.bool (!decide (a=c/\b=d/\n=m))) w:=by
 have e1:decide (a=c/\b=d/\n=m)=(decide ((a:Int)=c)&&(decide ((b:Int)=d)&&decide (n=m))):=by
  rw [<-Bool.decide_and,<-Bool.decide_and,decide_eq_decide];omega
 rw [e1]
 by_cases h1:(a:Int)=c<;>by_cases h2:(b:Int)=d<;>by_cases h3:n=m<;>simp [go_sem,h1,h2,h3]
theorem ky_eq (a b:Ky):(a.h=b.h/\a.l=b.l/\a.n=b.n)↔a=b:=by
 cases a;cases b;simp
set_option maxRecDepth 100000 in
set_option maxHeartbeats 1000000 in
theorem stashed_any (t g:Nat) (v:Value) (T:Tab) (m:Int) (k:Ky) (w:World) (H:CT w t g v T m) (hs:Sorted T.st) (hf:T.st.length<1048576) :
 Calls Tryz.prog 93 #[.pointer (some ⟨t,0,none⟩),kyV k] w fun e w'=>e = .returned (.int .i64 (stI T.st k))/\Below w.heap.size w w':=by
 have HH:=Lib.hid H
 have hl:=H.tb.tlt
 obtain ⟨p,c,rfl⟩:=own_slice H.tb.own
 have c2:=H.tb.c2
 have HB:=Lib.hid (fun w (H:CT w t g (.slice p T.st.length c) T m)=>behind_any t g _ T m k w H hs hf)
 have hle:=bh_le T.st k
 have hfd:=findS_bh T.st k hs
 by_cases hb:bh T.st k<T.st.length
 ·obtain ⟨gr,o,rfl,hgr,r0,r1,r2,-⟩:=(Row.of_own H.tb.own).rt hb
  have hN:=neqK T.st[bh T.st k].k.h T.st[bh T.st k].k.l T.st[bh T.st k].k.n k.h k.l k.n
  have hg1:((bh T.st k:Int) == (T.st.length:Int))=false:=by simp;omega
  have i1:(0:Int)<=(bh T.st k:Int):=by omega
  have i2:(bh T.st k:Int)<(T.st.length:Int):=by omega
  by_cases hk:T.st[bh T.st k].k=k
  ·have hE:stI T.st k=(bh T.st k:Int):=by
    cases e:findS T.st k with
    | none=>exact absurd hk (hfd.2 e hb)
    | some i=>rw [stI_some e,(hfd.1 i e).1]
   rw [decide_eq_true ((ky_eq _ _).2 hk)] at hN
   rw [hE]
   clear H hs hfd hk hE hle
   generalize T.st[bh T.st k].k=q at *
   generalize bh T.st k=b at *
   generalize T.st.length=n at *
   clear hb
   unfold kyV at *
   go_enter Tryz.func93,Tryz.ntmps93
   go_wp2_with fail
   refine (HB.out _ (HH.out.below (by go_grown))).mono ?_
   rintro e w1 ⟨rfl,hb1⟩
   have hw1:Below w.heap.size w w1:=Below.trans (by go_grown) (hb1.mono (by go_size))
   have d0:w1.cell? ⟨w.heap.size,0,none⟩=some (.int .u64 (k.h:Int)):=by
    rw [hb1.cell (by simp<;>omega)]
    first|assumption|(simp [go_sem];done)|(simp [go_sem, *];done)
   have d1:w1.cell? ⟨w.heap.size,1,none⟩=some (.int .u64 (k.l:Int)):=by
    rw [hb1.cell (by simp<;>omega)]
    first|assumption|(simp [go_sem];done)|(simp [go_sem, *];done)
   have d2:w1.cell? ⟨w.heap.size,2,none⟩=some (.int .i64 k.n):=by
    rw [hb1.cell (by simp<;>omega)]
    first|assumption|(simp [go_sem];done)|(simp [go_sem, *];done)
   have hz1:w.heap.size<w1.heap.size:=by
    have hs:=hb1.size
    try simp only [World.size_alloc,World.size_setCell] at hs
    omega
   have c2:=(hw1.cell (p:=⟨t,2,none⟩) hl).trans c2
   have r0:=(hw1.cell (p:=⟨gr,o+b*4,none⟩) hgr).trans r0
   have r1:=(hw1.cell (p:=⟨gr,o+b*4+1,none⟩) hgr).trans r1
   have r2:=(hw1.cell (p:=⟨gr,o+b*4+2,none⟩) hgr).trans r2
   have hl1:=Nat.lt_of_lt_of_le hl hw1.size
   have hgr1:=Nat.lt_of_lt_of_le hgr hw1.size
   clear hb1
   go_wp2_with fail
   have kg:=cell_grow
   refine region_whole (by kernel_rfl) (by kernel_rfl) ?_
   repeat (any_goals (first|go_big_quiet_step (fail)|quiet_step (fail)))
   refine wpQuiet_nil ?_
   clear kg
   intro w2 hb2
   obtain ⟨hc2,hf2⟩:=bcell hb2
   have hw2:Below w.heap.size w w2:=by
    refine Below.trans ?_ (hb2.mono ?_)
    ·go_grown
    ·first|omega|go_size
   go_wp2
   go_ret
   exact ⟨rfl,hw1.trans (hb2.mono hw1.size)⟩
  ·have hE:stI T.st k = -1:=by
    cases e:findS T.st k with
    | none=>rw [stI_none e]
    | some i=>
     obtain ⟨e1,h1,h2⟩:=hfd.1 i e
     subst e1
     exact absurd h2 hk
   rw [decide_eq_false (fun h=>hk ((ky_eq _ _).1 h))] at hN
   rw [hE]
   clear H hs hfd hk hE hle
   generalize T.st[bh T.st k].k=q at *
   generalize bh T.st k=b at *
   generalize T.st.length=n at *
   clear hb
   unfold kyV at *
   go_enter Tryz.func93,Tryz.ntmps93
   go_wp2_with fail
   refine (HB.out _ (HH.out.below (by go_grown))).mono ?_
   rintro e w1 ⟨rfl,hb1⟩
   have hw1:Below w.heap.size w w1:=Below.trans (by go_grown) (hb1.mono (by go_size))
   have d0:w1.cell? ⟨w.heap.size,0,none⟩=some (.int .u64 (k.h:Int)):=by
    rw [hb1.cell (by simp<;>omega)]
    first|assumption|(simp [go_sem];done)|(simp [go_sem, *];done)
   have d1:w1.cell? ⟨w.heap.size,1,none⟩=some (.int .u64 (k.l:Int)):=by
    rw [hb1.cell (by simp<;>omega)]
    first|assumption|(simp [go_sem];done)|(simp [go_sem, *];done)
   have d2:w1.cell? ⟨w.heap.size,2,none⟩=some (.int .i64 k.n):=by
    rw [hb1.cell (by simp<;>omega)]
    first|assumption|(simp [go_sem];done)|(simp [go_sem, *];done)
   have hz1:w.heap.size<w1.heap.size:=by
    have hs:=hb1.size
    try simp only [World.size_alloc,World.size_setCell] at hs
    omega
   have c2:=(hw1.cell (p:=⟨t,2,none⟩) hl).trans c2
   have r0:=(hw1.cell (p:=⟨gr,o+b*4,none⟩) hgr).trans r0
   have r1:=(hw1.cell (p:=⟨gr,o+b*4+1,none⟩) hgr).trans r1
   have r2:=(hw1.cell (p:=⟨gr,o+b*4+2,none⟩) hgr).trans r2
   have hl1:=Nat.lt_of_lt_of_le hl hw1.size
   have hgr1:=Nat.lt_of_lt_of_le hgr hw1.size
   clear hb1
   go_wp2_with fail
   have kg:=cell_grow
   refine region_whole (by kernel_rfl) (by kernel_rfl) ?_
   repeat (any_goals (first|go_big_quiet_step (fail)|quiet_step (fail)))
   refine wpQuiet_nil ?_
   clear kg
   intro w2 hb2
   obtain ⟨hc2,hf2⟩:=bcell hb2
   have hw2:Below w.heap.size w w2:=by
    refine Below.trans ?_ (hb2.mono ?_)
    ·go_grown
    ·first|omega|go_size
   go_wp2
   go_ret
   exact ⟨rfl,hw1.trans (hb2.mono hw1.size)⟩
 ·have hbe:bh T.st k=T.st.length:=by omega
  have hE:stI T.st k = -1:=by
   cases e:findS T.st k with
   | none=>rw [stI_none e]
   | some i=>
    obtain ⟨e1,h1,h2⟩:=hfd.1 i e
    omega
  rw [hE]
  rw [hbe] at HB
  clear H hs hfd hE hb hle hbe
  generalize T.st.length=n at *
  have hg1:((n:Int) == (n:Int))=true:=by simp
  unfold kyV at *
  go_enter Tryz.func93,Tryz.ntmps93
  go_wp2_with fail
  refine (HB.out _ (HH.out.below (by go_grown))).mono ?_
  rintro e w1 ⟨rfl,hb1⟩
  have hw1:Below w.heap.size w w1:=Below.trans (by go_grown) (hb1.mono (by go_size))
  have c2:=(hw1.cell (p:=⟨t,2,none⟩) hl).trans c2
  have hl1:=Nat.lt_of_lt_of_le hl hw1.size
  have hz1:=hw1.size
  clear hb1
  go_wp2_with fail
  have kg:=cell_grow
  refine region_whole (by kernel_rfl) (by kernel_rfl) ?_
  repeat (any_goals (first|go_big_quiet_step (fail)|quiet_step (fail)))
  refine wpQuiet_nil ?_
  clear kg
  intro w2 hb2
  obtain ⟨hc2,hf2⟩:=bcell hb2
  have hw2:Below w.heap.size w w2:=by
   refine Below.trans ?_ (hb2.mono ?_)
   ·go_grown
   ·first|omega|go_size
  go_wp2
  go_ret
  exact ⟨rfl,hw1.trans (hb2.mono hw1.size)⟩
end Go.Proofs.YtgfjmgebecmbiaaGreat
