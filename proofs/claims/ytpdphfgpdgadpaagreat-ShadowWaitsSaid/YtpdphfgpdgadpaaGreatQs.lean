/-
  Proofs by one word; some of the library's lemmas by short names. No condition but those that stand in each.
-/
import Derived.Handy
import Derived.KernelRfl
import Derived.Test.YtpdphfgpdgadpaaGreatProg
theorem Go.RowKit.Hid.o{p:Prop}(h:Go.RowKit.Hid p):p:=h
namespace Go.Proofs.YtpdphfgpdgadpaaGreat
theorem Qa{p:Prop}(h:p:=by omega):p:=h
theorem Qb{p:Prop}(h:p:=by kernel_rfl):p:=h
theorem Qc{p:Prop}(h:p:=by simp<;>omega):p:=h
theorem Qd{p:Prop}(h:p:=by decide):p:=h
theorem Qe{p:Prop}(h:p:=by simp;omega):p:=h
theorem Qf{p:Prop}(h:p:=by simp):p:=h
theorem Qg{p:Prop}(h:p:=by go_grown):p:=h
theorem Qh{p:Prop}(h:p:=by go_size):p:=h
theorem Qi{p:Prop}(h:p:=by simp [go_sem]):p:=h
theorem Qj{p:Prop}(h:p:=by go_num):p:=h
theorem Qk{p:Prop}(h:p:=by unfold maxLen;omega):p:=h
theorem Ql{p:Prop}(h:p:=by first|assumption|(simp [go_sem];done)|(simp [go_sem, *];done)):p:=h
theorem Qm{n m k:Nat}(h:n<m)(g:m<=k):n<k:=Nat.lt_of_lt_of_le h g
theorem Qn(n:Nat):n<=n:=Nat.le_refl n
theorem Qo.{u}{α:Type u}{p q:List α}:(p++q).length=p.length+q.length:=List.length_append
theorem Qp.{u}{α:Type u}{l:List α}{n:Nat}(h:n<l.length):l[n]∈l:=List.getElem_mem h
theorem Qq(a b:Bool):((a&&b)=true)=(a=true/\b=true):=Bool.and_eq_true a b
theorem Qr.{u}{α:Type u}{l:List α}{i:Nat}(h:i<l.length):l[i]? = some l[i]:=List.getElem?_eq_getElem h
theorem Qs.{u}{α:Type u}{i:Nat}{l:List α}:(l.take i).length=min i l.length:=List.length_take
theorem Qt.{u}{α:Type u}{a:α}{p:List α}:(a::p).length=p.length+1:=List.length_cons
theorem Qu.{u}{α:Type u}(p q r:List α):p++q++r=p++(q++r):=List.append_assoc p q r
theorem Qv{a:Int}(h:0<=a):∃n:Nat,a=n:=Int.eq_ofNat_of_zero_le h
theorem Qw{n m k:Nat}(h:n<=m)(g:m<=k):n<=k:=Nat.le_trans h g
theorem Q'.{u}{α:Sort u}(a:α):∃x,x=a:=⟨_,rfl⟩
end Go.Proofs.YtpdphfgpdgadpaaGreat