import Derived.Test.YtpdphfgpdgadpaaGreatL23c
set_option linter.unusedSimpArgs false
set_option linter.unusedVariables false
set_option maxHeartbeats 16000000
set_option maxRecDepth 100000
open Go.Proofs.Tryz
namespace Go.Proofs.YtpdphfgpdgadpaaGreat
open Lib(hid)
open Go Go.RowKit Go.Sort M
theorem Zqn {Q:World->(Nat->Prop)->Nat->Eg->Prop} {P:World->(Nat->Prop)->Nat->Sh->Prop} (DE:EngC Q) (D:ShdC Q P) (c:Cf) (s:Nat) (n sl E:Int) (w:World) (ws:W64 s) :
 Calls prog 3 #[cfgA c,.int .u64 (s:Int),.int .i64 n,.int .i64 sl,.int .i64 E] w λe w'=>e = .returned (.bool true)/\Below w.heap.size w w':=by
 by_cases F:H7 c=true/\okCf c=true/\8<=c.wd/\0<=n/\n<=30/\1<=sl/\sl<=10/\0<=E/\E<=10
 ·obtain ⟨a1,a2,a3,a4,a5,a6,a7,a8,a9⟩:=F;obtain ⟨N,rfl⟩:=Qv a4;obtain ⟨SL,rfl⟩:=Qv (show 0<=sl by omega);obtain ⟨T,rfl⟩:=Qv a8;exact Zqo DE D c s N SL T w ws a1 a2 a3 Qa Qa Qa Qa
 have U:=hid (λw=>X6 D w);have X:=X4 c;have Y:=Xq c;obtain ⟨oe,aa⟩:=Q' (okCf c);obtain ⟨sb,Z⟩:=Q' (H7 c);rw [<-aa] at Y F;rw [<-Z] at X F;obtain ⟨wd,S,L,st,O,bt,le,bk,rt,R⟩:=c;unfold cfgA at *
 simp only at *
 have I:=hid X;have J:=hid Y;clear X Y Z aa;cases sb with
 | false=>
  clear F;go_enter func3,ntmps3;go_wp2_with fail;refine (U.o _).mono ?_;rintro e w1 ⟨rfl,a⟩;have l:Below w.heap.size w w1:=Below.trans Qg (a.mono Qf);have A:w1.cell? ⟨w.heap.size,0,none⟩=some (.int .i64 wd):=by rw [a.cell Qc];exact Ql
  have z:w1.cell? ⟨w.heap.size,1,none⟩=some (.int .i64 S):=by rw [a.cell Qc];exact Ql
  have y:w1.cell? ⟨w.heap.size,2,none⟩=some (.int .i64 L):=by rw [a.cell Qc];exact Ql
  have x:w1.cell? ⟨w.heap.size,3,none⟩=some (.int .i64 st):=by rw [a.cell Qc];exact Ql
  have u:w1.cell? ⟨w.heap.size,4,none⟩=some (.int .i64 O):=by rw [a.cell Qc];exact Ql
  have t:w1.cell? ⟨w.heap.size,5,none⟩=some (.int .i64 bt):=by rw [a.cell Qc];exact Ql
  have r:w1.cell? ⟨w.heap.size,6,none⟩=some (.int .i64 le):=by rw [a.cell Qc];exact Ql
  have q:w1.cell? ⟨w.heap.size,7,none⟩=some (.int .i64 bk):=by rw [a.cell Qc];exact Ql
  have p:w1.cell? ⟨w.heap.size,8,none⟩=some (.int .i64 rt):=by rw [a.cell Qc];exact Ql
  have o:w1.cell? ⟨w.heap.size,9,none⟩=some (.int .i64 R):=by rw [a.cell Qc];exact Ql
  have b:w.heap.size<w1.heap.size:=by have:=a.size;simp at this;omega
  clear a;go_wp2_with fail;refine (I.o _).mono ?_;rintro e w2 ⟨rfl,j⟩;have m:=l.trans (j.mono l.size);clear j A z y x u t r q p o;go_wp2;go_ret;exact ⟨rfl,m⟩
 | true=>
  cases oe with
  | false=>
   clear F;go_enter func3,ntmps3;go_wp2_with fail;refine (U.o _).mono ?_;rintro e w1 ⟨rfl,a⟩;have l:Below w.heap.size w w1:=Below.trans Qg (a.mono Qf);have A:w1.cell? ⟨w.heap.size,0,none⟩=some (.int .i64 wd):=by rw [a.cell Qc];exact Ql
   have z:w1.cell? ⟨w.heap.size,1,none⟩=some (.int .i64 S):=by rw [a.cell Qc];exact Ql
   have y:w1.cell? ⟨w.heap.size,2,none⟩=some (.int .i64 L):=by rw [a.cell Qc];exact Ql
   have x:w1.cell? ⟨w.heap.size,3,none⟩=some (.int .i64 st):=by rw [a.cell Qc];exact Ql
   have u:w1.cell? ⟨w.heap.size,4,none⟩=some (.int .i64 O):=by rw [a.cell Qc];exact Ql
   have t:w1.cell? ⟨w.heap.size,5,none⟩=some (.int .i64 bt):=by rw [a.cell Qc];exact Ql
   have r:w1.cell? ⟨w.heap.size,6,none⟩=some (.int .i64 le):=by rw [a.cell Qc];exact Ql
   have q:w1.cell? ⟨w.heap.size,7,none⟩=some (.int .i64 bk):=by rw [a.cell Qc];exact Ql
   have p:w1.cell? ⟨w.heap.size,8,none⟩=some (.int .i64 rt):=by rw [a.cell Qc];exact Ql
   have o:w1.cell? ⟨w.heap.size,9,none⟩=some (.int .i64 R):=by rw [a.cell Qc];exact Ql
   have b:w.heap.size<w1.heap.size:=by have:=a.size;simp at this;omega
   clear a;go_wp2_with fail;refine (I.o _).mono ?_;rintro e w2 ⟨rfl,j⟩;have m:=l.trans (j.mono l.size);obtain ⟨i,-⟩:=Ac j;have A:=(i _ 0 b).trans A;have z:=(i _ 1 b).trans z;have y:=(i _ 2 b).trans y;have x:=(i _ 3 b).trans x;have u:=(i _ 4 b).trans u;have t:=(i _ 5 b).trans t;have r:=(i _ 6 b).trans r;have q:=(i _ 7 b).trans q;have p:=(i _ 8 b).trans p;have o:=(i _ 9 b).trans o;have d:=Qm b j.size;clear j i;go_wp2_with fail;refine (J.o _).mono ?_;rintro e w3 ⟨rfl,k⟩;have C:=m.trans (k.mono m.size);obtain ⟨f,-⟩:=Ac k;have A:=(f _ 0 d).trans A;have z:=(f _ 1 d).trans z;have y:=(f _ 2 d).trans y;have x:=(f _ 3 d).trans x;have u:=(f _ 4 d).trans u;have t:=(f _ 5 d).trans t;have r:=(f _ 6 d).trans r;have q:=(f _ 7 d).trans q;have p:=(f _ 8 d).trans p;have o:=(f _ 9 d).trans o;have K:=Qm d k.size;clear k f;go_wp2;go_ret;exact ⟨rfl,C⟩
  | true=>
   have B:¬(8<=wd/\0<=n/\n<=30/\1<=sl/\sl<=10/\0<=E/\E<=10):=λh=>F ⟨rfl,rfl,h⟩;clear F;by_cases g1:wd<8
   ·clear B;go_enter func3,ntmps3;go_wp2_with fail;refine (U.o _).mono ?_;rintro e w1 ⟨rfl,a⟩;have l:Below w.heap.size w w1:=Below.trans Qg (a.mono Qf);have A:w1.cell? ⟨w.heap.size,0,none⟩=some (.int .i64 wd):=by rw [a.cell Qc];exact Ql
    have z:w1.cell? ⟨w.heap.size,1,none⟩=some (.int .i64 S):=by rw [a.cell Qc];exact Ql
    have y:w1.cell? ⟨w.heap.size,2,none⟩=some (.int .i64 L):=by rw [a.cell Qc];exact Ql
    have x:w1.cell? ⟨w.heap.size,3,none⟩=some (.int .i64 st):=by rw [a.cell Qc];exact Ql
    have u:w1.cell? ⟨w.heap.size,4,none⟩=some (.int .i64 O):=by rw [a.cell Qc];exact Ql
    have t:w1.cell? ⟨w.heap.size,5,none⟩=some (.int .i64 bt):=by rw [a.cell Qc];exact Ql
    have r:w1.cell? ⟨w.heap.size,6,none⟩=some (.int .i64 le):=by rw [a.cell Qc];exact Ql
    have q:w1.cell? ⟨w.heap.size,7,none⟩=some (.int .i64 bk):=by rw [a.cell Qc];exact Ql
    have p:w1.cell? ⟨w.heap.size,8,none⟩=some (.int .i64 rt):=by rw [a.cell Qc];exact Ql
    have o:w1.cell? ⟨w.heap.size,9,none⟩=some (.int .i64 R):=by rw [a.cell Qc];exact Ql
    have b:w.heap.size<w1.heap.size:=by have:=a.size;simp at this;omega
    clear a;go_wp2_with fail;refine (I.o _).mono ?_;rintro e w2 ⟨rfl,j⟩;have m:=l.trans (j.mono l.size);obtain ⟨i,-⟩:=Ac j;have A:=(i _ 0 b).trans A;have z:=(i _ 1 b).trans z;have y:=(i _ 2 b).trans y;have x:=(i _ 3 b).trans x;have u:=(i _ 4 b).trans u;have t:=(i _ 5 b).trans t;have r:=(i _ 6 b).trans r;have q:=(i _ 7 b).trans q;have p:=(i _ 8 b).trans p;have o:=(i _ 9 b).trans o;have d:=Qm b j.size;clear j i;go_wp2_with fail;refine (J.o _).mono ?_;rintro e w3 ⟨rfl,k⟩;have C:=m.trans (k.mono m.size);obtain ⟨f,-⟩:=Ac k;have A:=(f _ 0 d).trans A;have z:=(f _ 1 d).trans z;have y:=(f _ 2 d).trans y;have x:=(f _ 3 d).trans x;have u:=(f _ 4 d).trans u;have t:=(f _ 5 d).trans t;have r:=(f _ 6 d).trans r;have q:=(f _ 7 d).trans q;have p:=(f _ 8 d).trans p;have o:=(f _ 9 d).trans o;have K:=Qm d k.size;clear k f;go_wp2;go_ret;exact ⟨rfl,C⟩
   by_cases g2:n<0
   ·clear B;go_enter func3,ntmps3;go_wp2_with fail;refine (U.o _).mono ?_;rintro e w1 ⟨rfl,a⟩;have l:Below w.heap.size w w1:=Below.trans Qg (a.mono Qf);have A:w1.cell? ⟨w.heap.size,0,none⟩=some (.int .i64 wd):=by rw [a.cell Qc];exact Ql
    have z:w1.cell? ⟨w.heap.size,1,none⟩=some (.int .i64 S):=by rw [a.cell Qc];exact Ql
    have y:w1.cell? ⟨w.heap.size,2,none⟩=some (.int .i64 L):=by rw [a.cell Qc];exact Ql
    have x:w1.cell? ⟨w.heap.size,3,none⟩=some (.int .i64 st):=by rw [a.cell Qc];exact Ql
    have u:w1.cell? ⟨w.heap.size,4,none⟩=some (.int .i64 O):=by rw [a.cell Qc];exact Ql
    have t:w1.cell? ⟨w.heap.size,5,none⟩=some (.int .i64 bt):=by rw [a.cell Qc];exact Ql
    have r:w1.cell? ⟨w.heap.size,6,none⟩=some (.int .i64 le):=by rw [a.cell Qc];exact Ql
    have q:w1.cell? ⟨w.heap.size,7,none⟩=some (.int .i64 bk):=by rw [a.cell Qc];exact Ql
    have p:w1.cell? ⟨w.heap.size,8,none⟩=some (.int .i64 rt):=by rw [a.cell Qc];exact Ql
    have o:w1.cell? ⟨w.heap.size,9,none⟩=some (.int .i64 R):=by rw [a.cell Qc];exact Ql
    have b:w.heap.size<w1.heap.size:=by have:=a.size;simp at this;omega
    clear a;go_wp2_with fail;refine (I.o _).mono ?_;rintro e w2 ⟨rfl,j⟩;have m:=l.trans (j.mono l.size);obtain ⟨i,-⟩:=Ac j;have A:=(i _ 0 b).trans A;have z:=(i _ 1 b).trans z;have y:=(i _ 2 b).trans y;have x:=(i _ 3 b).trans x;have u:=(i _ 4 b).trans u;have t:=(i _ 5 b).trans t;have r:=(i _ 6 b).trans r;have q:=(i _ 7 b).trans q;have p:=(i _ 8 b).trans p;have o:=(i _ 9 b).trans o;have d:=Qm b j.size;clear j i;go_wp2_with fail;refine (J.o _).mono ?_;rintro e w3 ⟨rfl,k⟩;have C:=m.trans (k.mono m.size);obtain ⟨f,-⟩:=Ac k;have A:=(f _ 0 d).trans A;have z:=(f _ 1 d).trans z;have y:=(f _ 2 d).trans y;have x:=(f _ 3 d).trans x;have u:=(f _ 4 d).trans u;have t:=(f _ 5 d).trans t;have r:=(f _ 6 d).trans r;have q:=(f _ 7 d).trans q;have p:=(f _ 8 d).trans p;have o:=(f _ 9 d).trans o;have K:=Qm d k.size;clear k f;go_wp2;go_ret;exact ⟨rfl,C⟩
   by_cases g3:30<n
   ·clear B;go_enter func3,ntmps3;go_wp2_with fail;refine (U.o _).mono ?_;rintro e w1 ⟨rfl,a⟩;have l:Below w.heap.size w w1:=Below.trans Qg (a.mono Qf);have A:w1.cell? ⟨w.heap.size,0,none⟩=some (.int .i64 wd):=by rw [a.cell Qc];exact Ql
    have z:w1.cell? ⟨w.heap.size,1,none⟩=some (.int .i64 S):=by rw [a.cell Qc];exact Ql
    have y:w1.cell? ⟨w.heap.size,2,none⟩=some (.int .i64 L):=by rw [a.cell Qc];exact Ql
    have x:w1.cell? ⟨w.heap.size,3,none⟩=some (.int .i64 st):=by rw [a.cell Qc];exact Ql
    have u:w1.cell? ⟨w.heap.size,4,none⟩=some (.int .i64 O):=by rw [a.cell Qc];exact Ql
    have t:w1.cell? ⟨w.heap.size,5,none⟩=some (.int .i64 bt):=by rw [a.cell Qc];exact Ql
    have r:w1.cell? ⟨w.heap.size,6,none⟩=some (.int .i64 le):=by rw [a.cell Qc];exact Ql
    have q:w1.cell? ⟨w.heap.size,7,none⟩=some (.int .i64 bk):=by rw [a.cell Qc];exact Ql
    have p:w1.cell? ⟨w.heap.size,8,none⟩=some (.int .i64 rt):=by rw [a.cell Qc];exact Ql
    have o:w1.cell? ⟨w.heap.size,9,none⟩=some (.int .i64 R):=by rw [a.cell Qc];exact Ql
    have b:w.heap.size<w1.heap.size:=by have:=a.size;simp at this;omega
    clear a;go_wp2_with fail;refine (I.o _).mono ?_;rintro e w2 ⟨rfl,j⟩;have m:=l.trans (j.mono l.size);obtain ⟨i,-⟩:=Ac j;have A:=(i _ 0 b).trans A;have z:=(i _ 1 b).trans z;have y:=(i _ 2 b).trans y;have x:=(i _ 3 b).trans x;have u:=(i _ 4 b).trans u;have t:=(i _ 5 b).trans t;have r:=(i _ 6 b).trans r;have q:=(i _ 7 b).trans q;have p:=(i _ 8 b).trans p;have o:=(i _ 9 b).trans o;have d:=Qm b j.size;clear j i;go_wp2_with fail;refine (J.o _).mono ?_;rintro e w3 ⟨rfl,k⟩;have C:=m.trans (k.mono m.size);obtain ⟨f,-⟩:=Ac k;have A:=(f _ 0 d).trans A;have z:=(f _ 1 d).trans z;have y:=(f _ 2 d).trans y;have x:=(f _ 3 d).trans x;have u:=(f _ 4 d).trans u;have t:=(f _ 5 d).trans t;have r:=(f _ 6 d).trans r;have q:=(f _ 7 d).trans q;have p:=(f _ 8 d).trans p;have o:=(f _ 9 d).trans o;have K:=Qm d k.size;clear k f;go_wp2;go_ret;exact ⟨rfl,C⟩
   by_cases g4:sl<1
   ·clear B;go_enter func3,ntmps3;go_wp2_with fail;refine (U.o _).mono ?_;rintro e w1 ⟨rfl,a⟩;have l:Below w.heap.size w w1:=Below.trans Qg (a.mono Qf);have A:w1.cell? ⟨w.heap.size,0,none⟩=some (.int .i64 wd):=by rw [a.cell Qc];exact Ql
    have z:w1.cell? ⟨w.heap.size,1,none⟩=some (.int .i64 S):=by rw [a.cell Qc];exact Ql
    have y:w1.cell? ⟨w.heap.size,2,none⟩=some (.int .i64 L):=by rw [a.cell Qc];exact Ql
    have x:w1.cell? ⟨w.heap.size,3,none⟩=some (.int .i64 st):=by rw [a.cell Qc];exact Ql
    have u:w1.cell? ⟨w.heap.size,4,none⟩=some (.int .i64 O):=by rw [a.cell Qc];exact Ql
    have t:w1.cell? ⟨w.heap.size,5,none⟩=some (.int .i64 bt):=by rw [a.cell Qc];exact Ql
    have r:w1.cell? ⟨w.heap.size,6,none⟩=some (.int .i64 le):=by rw [a.cell Qc];exact Ql
    have q:w1.cell? ⟨w.heap.size,7,none⟩=some (.int .i64 bk):=by rw [a.cell Qc];exact Ql
    have p:w1.cell? ⟨w.heap.size,8,none⟩=some (.int .i64 rt):=by rw [a.cell Qc];exact Ql
    have o:w1.cell? ⟨w.heap.size,9,none⟩=some (.int .i64 R):=by rw [a.cell Qc];exact Ql
    have b:w.heap.size<w1.heap.size:=by have:=a.size;simp at this;omega
    clear a;go_wp2_with fail;refine (I.o _).mono ?_;rintro e w2 ⟨rfl,j⟩;have m:=l.trans (j.mono l.size);obtain ⟨i,-⟩:=Ac j;have A:=(i _ 0 b).trans A;have z:=(i _ 1 b).trans z;have y:=(i _ 2 b).trans y;have x:=(i _ 3 b).trans x;have u:=(i _ 4 b).trans u;have t:=(i _ 5 b).trans t;have r:=(i _ 6 b).trans r;have q:=(i _ 7 b).trans q;have p:=(i _ 8 b).trans p;have o:=(i _ 9 b).trans o;have d:=Qm b j.size;clear j i;go_wp2_with fail;refine (J.o _).mono ?_;rintro e w3 ⟨rfl,k⟩;have C:=m.trans (k.mono m.size);obtain ⟨f,-⟩:=Ac k;have A:=(f _ 0 d).trans A;have z:=(f _ 1 d).trans z;have y:=(f _ 2 d).trans y;have x:=(f _ 3 d).trans x;have u:=(f _ 4 d).trans u;have t:=(f _ 5 d).trans t;have r:=(f _ 6 d).trans r;have q:=(f _ 7 d).trans q;have p:=(f _ 8 d).trans p;have o:=(f _ 9 d).trans o;have K:=Qm d k.size;clear k f;go_wp2;go_ret;exact ⟨rfl,C⟩
   by_cases g5:10<sl
   ·clear B;go_enter func3,ntmps3;go_wp2_with fail;refine (U.o _).mono ?_;rintro e w1 ⟨rfl,a⟩;have l:Below w.heap.size w w1:=Below.trans Qg (a.mono Qf);have A:w1.cell? ⟨w.heap.size,0,none⟩=some (.int .i64 wd):=by rw [a.cell Qc];exact Ql
    have z:w1.cell? ⟨w.heap.size,1,none⟩=some (.int .i64 S):=by rw [a.cell Qc];exact Ql
    have y:w1.cell? ⟨w.heap.size,2,none⟩=some (.int .i64 L):=by rw [a.cell Qc];exact Ql
    have x:w1.cell? ⟨w.heap.size,3,none⟩=some (.int .i64 st):=by rw [a.cell Qc];exact Ql
    have u:w1.cell? ⟨w.heap.size,4,none⟩=some (.int .i64 O):=by rw [a.cell Qc];exact Ql
    have t:w1.cell? ⟨w.heap.size,5,none⟩=some (.int .i64 bt):=by rw [a.cell Qc];exact Ql
    have r:w1.cell? ⟨w.heap.size,6,none⟩=some (.int .i64 le):=by rw [a.cell Qc];exact Ql
    have q:w1.cell? ⟨w.heap.size,7,none⟩=some (.int .i64 bk):=by rw [a.cell Qc];exact Ql
    have p:w1.cell? ⟨w.heap.size,8,none⟩=some (.int .i64 rt):=by rw [a.cell Qc];exact Ql
    have o:w1.cell? ⟨w.heap.size,9,none⟩=some (.int .i64 R):=by rw [a.cell Qc];exact Ql
    have b:w.heap.size<w1.heap.size:=by have:=a.size;simp at this;omega
    clear a;go_wp2_with fail;refine (I.o _).mono ?_;rintro e w2 ⟨rfl,j⟩;have m:=l.trans (j.mono l.size);obtain ⟨i,-⟩:=Ac j;have A:=(i _ 0 b).trans A;have z:=(i _ 1 b).trans z;have y:=(i _ 2 b).trans y;have x:=(i _ 3 b).trans x;have u:=(i _ 4 b).trans u;have t:=(i _ 5 b).trans t;have r:=(i _ 6 b).trans r;have q:=(i _ 7 b).trans q;have p:=(i _ 8 b).trans p;have o:=(i _ 9 b).trans o;have d:=Qm b j.size;clear j i;go_wp2_with fail;refine (J.o _).mono ?_;rintro e w3 ⟨rfl,k⟩;have C:=m.trans (k.mono m.size);obtain ⟨f,-⟩:=Ac k;have A:=(f _ 0 d).trans A;have z:=(f _ 1 d).trans z;have y:=(f _ 2 d).trans y;have x:=(f _ 3 d).trans x;have u:=(f _ 4 d).trans u;have t:=(f _ 5 d).trans t;have r:=(f _ 6 d).trans r;have q:=(f _ 7 d).trans q;have p:=(f _ 8 d).trans p;have o:=(f _ 9 d).trans o;have K:=Qm d k.size;clear k f;go_wp2;go_ret;exact ⟨rfl,C⟩
   by_cases g6:E<0
   ·clear B;go_enter func3,ntmps3;go_wp2_with fail;refine (U.o _).mono ?_;rintro e w1 ⟨rfl,a⟩;have l:Below w.heap.size w w1:=Below.trans Qg (a.mono Qf);have A:w1.cell? ⟨w.heap.size,0,none⟩=some (.int .i64 wd):=by rw [a.cell Qc];exact Ql
    have z:w1.cell? ⟨w.heap.size,1,none⟩=some (.int .i64 S):=by rw [a.cell Qc];exact Ql
    have y:w1.cell? ⟨w.heap.size,2,none⟩=some (.int .i64 L):=by rw [a.cell Qc];exact Ql
    have x:w1.cell? ⟨w.heap.size,3,none⟩=some (.int .i64 st):=by rw [a.cell Qc];exact Ql
    have u:w1.cell? ⟨w.heap.size,4,none⟩=some (.int .i64 O):=by rw [a.cell Qc];exact Ql
    have t:w1.cell? ⟨w.heap.size,5,none⟩=some (.int .i64 bt):=by rw [a.cell Qc];exact Ql
    have r:w1.cell? ⟨w.heap.size,6,none⟩=some (.int .i64 le):=by rw [a.cell Qc];exact Ql
    have q:w1.cell? ⟨w.heap.size,7,none⟩=some (.int .i64 bk):=by rw [a.cell Qc];exact Ql
    have p:w1.cell? ⟨w.heap.size,8,none⟩=some (.int .i64 rt):=by rw [a.cell Qc];exact Ql
    have o:w1.cell? ⟨w.heap.size,9,none⟩=some (.int .i64 R):=by rw [a.cell Qc];exact Ql
    have b:w.heap.size<w1.heap.size:=by have:=a.size;simp at this;omega
    clear a;go_wp2_with fail;refine (I.o _).mono ?_;rintro e w2 ⟨rfl,j⟩;have m:=l.trans (j.mono l.size);obtain ⟨i,-⟩:=Ac j;have A:=(i _ 0 b).trans A;have z:=(i _ 1 b).trans z;have y:=(i _ 2 b).trans y;have x:=(i _ 3 b).trans x;have u:=(i _ 4 b).trans u;have t:=(i _ 5 b).trans t;have r:=(i _ 6 b).trans r;have q:=(i _ 7 b).trans q;have p:=(i _ 8 b).trans p;have o:=(i _ 9 b).trans o;have d:=Qm b j.size;clear j i;go_wp2_with fail;refine (J.o _).mono ?_;rintro e w3 ⟨rfl,k⟩;have C:=m.trans (k.mono m.size);obtain ⟨f,-⟩:=Ac k;have A:=(f _ 0 d).trans A;have z:=(f _ 1 d).trans z;have y:=(f _ 2 d).trans y;have x:=(f _ 3 d).trans x;have u:=(f _ 4 d).trans u;have t:=(f _ 5 d).trans t;have r:=(f _ 6 d).trans r;have q:=(f _ 7 d).trans q;have p:=(f _ 8 d).trans p;have o:=(f _ 9 d).trans o;have K:=Qm d k.size;clear k f;go_wp2;go_ret;exact ⟨rfl,C⟩
   by_cases g7:10<E
   ·clear B;go_enter func3,ntmps3;go_wp2_with fail;refine (U.o _).mono ?_;rintro e w1 ⟨rfl,a⟩;have l:Below w.heap.size w w1:=Below.trans Qg (a.mono Qf);have A:w1.cell? ⟨w.heap.size,0,none⟩=some (.int .i64 wd):=by rw [a.cell Qc];exact Ql
    have z:w1.cell? ⟨w.heap.size,1,none⟩=some (.int .i64 S):=by rw [a.cell Qc];exact Ql
    have y:w1.cell? ⟨w.heap.size,2,none⟩=some (.int .i64 L):=by rw [a.cell Qc];exact Ql
    have x:w1.cell? ⟨w.heap.size,3,none⟩=some (.int .i64 st):=by rw [a.cell Qc];exact Ql
    have u:w1.cell? ⟨w.heap.size,4,none⟩=some (.int .i64 O):=by rw [a.cell Qc];exact Ql
    have t:w1.cell? ⟨w.heap.size,5,none⟩=some (.int .i64 bt):=by rw [a.cell Qc];exact Ql
    have r:w1.cell? ⟨w.heap.size,6,none⟩=some (.int .i64 le):=by rw [a.cell Qc];exact Ql
    have q:w1.cell? ⟨w.heap.size,7,none⟩=some (.int .i64 bk):=by rw [a.cell Qc];exact Ql
    have p:w1.cell? ⟨w.heap.size,8,none⟩=some (.int .i64 rt):=by rw [a.cell Qc];exact Ql
    have o:w1.cell? ⟨w.heap.size,9,none⟩=some (.int .i64 R):=by rw [a.cell Qc];exact Ql
    have b:w.heap.size<w1.heap.size:=by have:=a.size;simp at this;omega
    clear a;go_wp2_with fail;refine (I.o _).mono ?_;rintro e w2 ⟨rfl,j⟩;have m:=l.trans (j.mono l.size);obtain ⟨i,-⟩:=Ac j;have A:=(i _ 0 b).trans A;have z:=(i _ 1 b).trans z;have y:=(i _ 2 b).trans y;have x:=(i _ 3 b).trans x;have u:=(i _ 4 b).trans u;have t:=(i _ 5 b).trans t;have r:=(i _ 6 b).trans r;have q:=(i _ 7 b).trans q;have p:=(i _ 8 b).trans p;have o:=(i _ 9 b).trans o;have d:=Qm b j.size;clear j i;go_wp2_with fail;refine (J.o _).mono ?_;rintro e w3 ⟨rfl,k⟩;have C:=m.trans (k.mono m.size);obtain ⟨f,-⟩:=Ac k;have A:=(f _ 0 d).trans A;have z:=(f _ 1 d).trans z;have y:=(f _ 2 d).trans y;have x:=(f _ 3 d).trans x;have u:=(f _ 4 d).trans u;have t:=(f _ 5 d).trans t;have r:=(f _ 6 d).trans r;have q:=(f _ 7 d).trans q;have p:=(f _ 8 d).trans p;have o:=(f _ 9 d).trans o;have K:=Qm d k.size;clear k f;go_wp2;go_ret;exact ⟨rfl,C⟩
   exact absurd ⟨Qa,Qa,Qa,Qa,Qa,Qa,Qa⟩ B
def SetC:Prop:=∀(p:Option Addr) (c:Nat) (L:List Rt) (low high:Int) (W:World),Row W p (rcs L)->(∀x∈L,x.k.good)->(p=none->c=0)->L.length<=c->L.length<=4000 ->
 Calls prog 90 #[.slice p L.length c,.int .i64 low,.int .i64 high] W λe w'=>Cw W w' e (setS (Af L) low high)
theorem C6 {w:World} {B n m d k:Nat} {e:TypeId} {q:Option Addr} {xs:List Value} (h:w.ownsRow B e k (.slice q n d) m xs):n<=d:=by
 rcases h.2 with ⟨a,_⟩ | ⟨g,cap,f,a,_,_,i,_⟩
 ·injection a with _ c b;omega
 ·injection a with _ c b;omega
end Go.Proofs.YtpdphfgpdgadpaaGreat
