import Derived.Test.YtgfjmgebecmbiaaGreatL18
import Derived.Test.YtgfjmgebecmbiaaGreatW22
set_option linter.unusedSimpArgs false
set_option linter.unusedVariables false
namespace Go.Proofs.YtgfjmgebecmbiaaGreat
open Go.ChangeShapes Go.WideShapes Go.ChangeAt Go.RowKit Go.Joins M
namespace lawEngineHolds
set_option maxRecDepth 100000 in
theorem lifted (os:Os) (started:os.Started) (H:Type) (enc:TypeId×Value->H) :
 ReturnsInHanded {} Tryz.checked os 4 .any (Rows.engineHoldsSpec.pre6 enc Tryz.prog Tryz.f4 Rows.engineHoldsRow.domain false) (Rows.engineHoldsSpec.post enc Tryz.prog Tryz.f4 false true false false):=by
 refine returnsInHanded_of_change (C:=Tryz.checked) (show ownKnob Tryz.prog.godebug=none by kernel_rfl) started (by kernel_rfl) Tryz.func4
  (ChangeSpec.witness6 (enc:=enc) (C:=Tryz.checked) false ⟨#[],#[.agg #[.int .i64 0,.int .i64 0,.int .i64 0,.int .i64 0,.int .i64 0,.int .i64 0,.int .i64 0,.int .i64 0,.int .i64 0,.int .i64 0],.int .u64 0,.slice none 0 0,.slice none 0 0,.slice none 0 0],[]⟩ 8 (by kernel_rfl) (by kernel_rfl) (by kernel_rfl) (by kernel_rfl)) ?_
 intro W base args ds gs before hval0 hW hcnd _
 have hval:∀(j:Nat) t v,Tryz.f4.params[j]? = some t->args[j]? = some v->Value.okWide Tryz.prog W .any base t v:=hval0
 have hW':=hW
 obtain ⟨p,q,hA0,hV,-,-,-⟩:=hW
 have hA:DataW.TrodAll enc Tryz.prog W 0 (fun _=>true) true Tryz.f4.params.toList args.toList ds p:=hA0
 rw [Tryz.params4] at hA hval
 obtain ⟨v0,vs0,d0,ds0,p0,q0,hargs,rfl,rfl,t0,r0⟩:=trodAll_cons hA
 obtain ⟨v1,vs1,d1,ds1,p1,q1,rfl,rfl,rfl,t1,r1⟩:=trodAll_cons r0
 obtain ⟨v2,vs2,d2,ds2,p2,q2,rfl,rfl,rfl,t2,r2⟩:=trodAll_cons r1
 obtain ⟨v3,vs3,d3,ds3,p3,q3,rfl,rfl,rfl,t3,r3⟩:=trodAll_cons r2
 obtain ⟨v4,vs4,d4,ds4,p4,q4,rfl,rfl,rfl,t4,r4⟩:=trodAll_cons r3
 obtain ⟨rfl,rfl,rfl⟩:=trodAll_nil r4
 obtain rfl:args = #[v0,v1,v2,v3,v4]:=by cases args;simp_all
 obtain ⟨n0,rfl⟩:=Z12 (hval 0 23 v0 rfl rfl) t0
 obtain ⟨m1,rfl,-,-,w1⟩:=open_int Tryz.underlying24 (hval 1 24 v1 rfl rfl) t1;obtain ⟨n1,rfl,a1⟩:=wf_u64 w1
 obtain ⟨s2,k2,n2,rfl,a2,b2,w2⟩:=open_ints (hval 2 25 v2 rfl rfl) t2
 obtain ⟨s3,k3,n3,rfl,a3,b3,w3⟩:=open_ints (hval 3 25 v3 rfl rfl) t3
 obtain ⟨s4,k4,n4,rfl,a4,b4,w4⟩:=Zq0 (hval 4 26 v4 rfl rfl) t4
 obtain ⟨rfl,-⟩:=trodVars_none hV
 refine (Z6m Z8i n0 n1 s2 s3 s4 k2 k3 k4 n2 n3 n4 W a1 a2 a3 a4 b4 (Zwf Tryz.underlying25 (hval 2 25 _ rfl rfl) t2) (Zwf Tryz.underlying25 (hval 3 25 _ rfl rfl) t3) w2 w3 w4 (fun x hx=>(bounds_i64 (b2 x hx)).2)).mono fun e W' ⟨he,hg⟩ => ?_
 subst he
 exact ⟨_,rfl,law_post (by kernel_rfl) (by kernel_rfl) rfl Tryz.underlying4 rfl hW' rfl hg⟩
theorem holds:Rows.EngineHoldsSaid:=
 OpenClaim.holds_of_wide 4 Tryz.f4 rfl rfl rfl rfl rfl rfl rfl ⟨rfl,rfl,rfl,rfl,rfl⟩ rfl rfl rfl rfl rfl (by kernel_rfl) Tryz.func4 (by kernel_rfl)
  (of_decide_eq_true (by kernel_rfl)) (by unfold Func.isWrapper;first|(rw [if_pos (by decide +kernel)];kernel_rfl)|(rw [if_neg (by decide +kernel)];exact ⟨rfl,rfl⟩))
  (fun os started H enc _=>lifted os started H enc)
#print axioms holds
end lawEngineHolds
end Go.Proofs.YtgfjmgebecmbiaaGreat
