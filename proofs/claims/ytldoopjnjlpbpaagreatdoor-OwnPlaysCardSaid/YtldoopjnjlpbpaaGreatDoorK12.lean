/- What a run shows holds: of states, of calls. No condition. -/
import Derived.Test.YtldoopjnjlpbpaaGreatDoorK8e
import Derived.Test.YtldoopjnjlpbpaaGreatDoorK11
set_option linter.unusedVariables false
set_option linter.unusedSimpArgs false
namespace Go.Proofs.YtldoopjnjlpbpaaGreatDoor
theorem Ai {E:Env} (hE:bf E):∀ n,xP E (run E n)
 | 0=>fun _ _ _ _ _ _ _ _ _ _ _ _ _ _ _ h=>h.elim
 | n+1=>P0 hE (Ai hE n) (Q4 hE (Ai hE n))
def Good (P:Program) (A:SV→aj→Prop) (base:Nat) (fs:List av) (m:aj):Prop :=
 ∀ (n0:Nat) (F:Nat→Prop) (w0 ws w:World) (Rs R:aX) (fr:Frame) (dm:List Frame),aK (eA R) fs (fr :: dm)→Rel n0 F w0 R m w→b_ ws w base m.next Rs R→(∀ i g,Rs i=some g→i<base) →
  ig P (jk fs) fr dm w fun v w'=>∃ s m' R',A s m'∧b_ ws w' base m'.next Rs R'∧Rel n0 F w0 R' m' w'∧s.ok R' v
theorem Q5 {E:Env} {r:Nat→List av→aj→Tree} (hr:xP E r) {A:SV→aj→Prop} {base:Nat} {fs:List av} {m:aj} (h:(r base fs m).sat A (Good E.P A base)):Good E.P A base fs m :=
 fun n0 F w0 ws w Rs R fr dm hf hR hX hs=>hr base fs m n0 F w0 ws w Rs R fr dm A (Good E.P A base) _ h hf hR hX hs
  (fun s m' R' _ _ h1 h2 h3 h4=>⟨s,m',R',h1,h2,h3,h4⟩)
  (fun fs' m' R' w' fr' kJ h1 h2 h3 h4 h5=>by
   have:=h1 n0 F w0 ws w' Rs R' fr' kJ h5 h4 h3 hs
   rw [h2] at this
   exact this)
theorem N9 {E:Env} (hE:bf E) {A:SV→aj→Prop} {base:Nat} {fs:List av} {m:aj} (n:Nat) (h:(run E n base fs m).sat A (Good E.P A base)):Good E.P A base fs m:=Q5 (Ai hE n) h
def Env.go (E:Env):Env:={ E with halt:=fun _ _ _=>false }
theorem bf.go {E:Env} (h:bf E):bf E.go:=⟨h.fns,h.mh,h.mixed⟩
theorem W9 {E:Env} (hE:bf E) {A:SV→aj→Prop} {base:Nat} {fs:List av} {m:aj} (n:Nat) (h:(stepT E.go (run E n) base fs m).sat A (Good E.P A base)):Good E.P A base fs m :=
 Q5 (E:=E.go) (r:=stepT E.go (run E n)) (P0 hE.go (r:=run E n) (Ai hE n) (Q4 hE.go (Ai hE n))) h
theorem Good.mono {P:Program} {A B:SV→aj→Prop} {base:Nat} {fs:List av} {m:aj} (h:Good P A base fs m) (hm:∀ s m',A s m'→B s m'):Good P B base fs m :=
 fun n0 F w0 ws w Rs R fr dm h1 h2 h3 h4=>(h n0 F w0 ws w Rs R fr dm h1 h2 h3 h4).mono fun _ _ ⟨s,m',R',k1,k2⟩=>⟨s,m',R',hm _ _ k1,k2⟩
theorem rI {P:Program} {A:SV→aj→Prop} {g:FuncId} {fn:Func} {c:Code} {l:List SV} {m:aj} (hg:P.funcs[g]?=some fn) (hc:fn.body=some c)
  (h:Good P A m.next [a_ g fn.ntmps l c] m) {n0:Nat} {F:Nat→Prop} {w0 w:World} {R:aX} {args:Array Value} (hl:aK (SV.ok R) l args.toList) (hR:Rel n0 F w0 R m w) :
  lT P g args w fun v w'=>∃ s m' R',A s m'∧b_ w w' m.next m'.next R R'∧Rel n0 F w0 R' m' w'∧s.ok R' v :=
 lT.P1 hg hc (h n0 F w0 w w R R _ [] ⟨⟨rfl,dY.pad fn.ntmps hl,⟨rfl,trivial⟩,trivial,rfl,rfl,rfl⟩,trivial⟩ hR (b_.refl _ _ _) hR.nx)
def isTrue:SV→Bool
 | .s (.c (.f (.bool (.l b))))=>b
 | _=>false
def Tree.wN:Tree→Bool
 | .ret v _=>isTrue v
 | .br _ t e=>t.wN&&e.wN
 | _=>false
theorem Tree.Ht {B:List av→aj→Prop}:∀ {t:Tree},t.wN=true→t.sat (fun s _=>isTrue s=true) B
 | .ret _ _,h=>h
 | .br _ _ _,h=>by
  simp only [Tree.wN,Bool.and_eq_true] at h
  exact ⟨fun _=>Tree.Ht h.1,fun _=>Tree.Ht h.2⟩
end Go.Proofs.YtldoopjnjlpbpaaGreatDoor
