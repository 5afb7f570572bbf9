/- Runs to propositions; loops' heads; contracts. No condition. -/
import Derived.Test.YtldoopjnjlpbpaaGreatDoorK13
set_option linter.unusedVariables false
set_option linter.unusedSimpArgs false
namespace Go.Proofs.YtldoopjnjlpbpaaGreatDoor
noncomputable section
def i64 (n:SI):SV:=.s (.c (.f (.int .i64 n)))
def sB (b:SB):SV:=.s (.c (.f (.bool b)))
def ptr (i:Nat) (o:SN):SV:=.s (.c (.f (.ptr i o)))
def agg (cs:Array Value):SV:=.s (.agg (.op cs))
section
variable {E:Env} (hE:bf E) {A A':SV→aj→Prop} {B:List av→aj→Prop} {base:Nat} {fs:List av} {m:aj} (n:Nat) {p:List Bool} {V:Prop}
include hE
theorem bA (e:(run E n base fs m).vc A B=V) (h:V) (hA:∀ s m,A s m→A' s m) (hB:∀ f m,B f m→Good E.P A' base f m):Good E.P A' base fs m :=
 N9 hE n (Tree.zo hA hB (e ▸ h))
theorem bD (e:(stepT E.go (run E n) base fs m).vc A B=V) (h:V) (hA:∀ s m,A s m→A' s m) (hB:∀ f m,B f m→Good E.P A' base f m):Good E.P A' base fs m :=
 W9 hE n (Tree.zo hA hB (e ▸ h))
end
section
variable {E:Env} (hE:bf E) {A A':SV→aj→Prop} {B:List av→aj→Prop} {base:Nat} {fs:List av} {m:aj} (n:Nat) {V:Prop}
include hE
end
theorem Xd {s:SV} (h:isTrue s=true):s=sB (.l true):=by
 unfold isTrue at h
 split at h
 ·subst h;rfl
 ·cases h
theorem Xe {E:Env} (hE:bf E) {base n:Nat} {fs:List av} {m:aj} (h:(run E n base fs m).wN=true):Good E.P (fun s _=>s=sB (.l true)) base fs m :=
 (N9 hE n (Tree.Ht h)).mono fun _ _ h=>Xd h
def aq (E:Env) (g:FuncId) (l:List SV) (m:aj) (t:Tree):Prop :=
 ∀ A,t.sat A (fun _ _=>False)→∃ fn,E.fn g=some fn∧fn.body.isSome=true∧∀ (n0:Nat) (F:Nat→Prop) (w0 w:World) (R:aX) (args:Array Value),aK (SV.ok R) l args.toList→Rel n0 F w0 R m w →
  lT E.P g args w fun u w'=>∃ s m' R',A s m'∧b_ w w' m.next m'.next R R'∧Rel n0 F w0 R' m' w'∧s.ok R' u
theorem bf.with {E:Env} (hE:bf E) (mh:FuncId→List SV→aj→Option Tree) (halt:Nat→FuncId→bh→Bool) (h:∀ g l m t,mh g l m=some t→aq E g l m t):bf ⟨E.P,E.fn,mh,halt⟩ :=
 ⟨hE.fns,fun f l m t A hc hs=>h f l m t hc A hs,hE.mixed⟩
def xe (s:SV):Bool:=s.lt 0
theorem wX {s:SV} {R R':aX} {v:Value} (h:xe s=true) (hv:s.ok R v):s.ok R' v:=by
 have:=SV.cut (n:=0) h hv
 exact SV.mono (fun i g hi=>by unfold iN at hi;simp at hi) this
theorem mw {R R':aX}:∀ {l:List SV} {vs:List Value},gm xe l=true→aK (SV.ok R) l vs→aK (SV.ok R') l vs
 | [],[],_,_=>trivial
 | a :: l,v :: vs,h,hv=>by
  simp only [wA,Bool.and_eq_true] at h
  exact ⟨wX h.1 hv.1,mw h.2 hv.2⟩
 | [],_ :: _,_,h=>h.elim
 | _ :: _,[],_,h=>h.elim
theorem Rel.none {n0:Nat} {F:Nat→Prop} {w0 w:World} {R:aX} {m:aj} (hR:Rel n0 F w0 R m w):Rel w.heap.size (fun _=>False) w (fun _=>none) ⟨0,.nil,[]⟩ w:=by
 refine ⟨fun i j g h b c h1=>(by cases h1),fun i g h=>(by cases h),fun i g h=>(by cases h),fun i b hb=>?_,Nat.le_refl _,iz.refl _ _ _,fun i x hx=>(by cases hx),fun i j g h x y h1=>(by cases h1),fun g cs hg=>?_⟩
 ·have hb:(Tr.nil:Tr bN).get i=some b:=hb
  rw [Tr.get_nil] at hb
  cases hb
 ·obtain ⟨g1,g2,cs',ty,fz,g3,g4⟩:=hR.gl g cs hg
  exact ⟨Nat.lt_of_lt_of_le g1 hR.base,fun h=>h,cs',ty,fz,(hR.fr.block g g1 g2).trans g3,g4⟩
theorem aq.pure {E:Env} (hE:bf E) {g:FuncId} {l:List SV} {m:aj} {q:List Prop} {s0:SV} {fn:Func} {c:Code} (h1:E.fn g=some fn) (h2:fn.body=some c) (oh:gm xe l=true) (hs0:xe s0=true)
  (h:(∀ p∈q,p)→Good E.P (fun s _=>s=s0) 0 [a_ g fn.ntmps l c] ⟨0,.nil,[]⟩):aq E g l m (bu q (.ret s0 m)):=by
 intro A hs
 obtain ⟨hq,hA⟩:=Tree.nG hs
 refine ⟨fn,h1,by rw [h2];rfl,fun n0 F w0 w R args hl hR=>?_⟩
 refine (rI (m:=⟨0,.nil,[]⟩) (hE.fns _ _ h1).1 h2 (h hq) (mw oh hl) hR.none).mono ?_
 rintro v w' ⟨s,m',R',rfl,hX,fq,hv⟩
 exact ⟨s,m,R,hA,⟨fun _ _ h=>h,fun _ _ h=>.inl h,hX.2.2.1,Nat.le_refl _⟩,hR.step fq.fr.to,wX hs0 hv⟩
end
end Go.Proofs.YtldoopjnjlpbpaaGreatDoor
