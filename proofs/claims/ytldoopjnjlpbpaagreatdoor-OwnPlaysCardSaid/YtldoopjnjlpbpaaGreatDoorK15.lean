/- A function's contract, told of its own blocks alone, within any memory. No condition. -/
import Derived.Test.YtldoopjnjlpbpaaGreatDoorK14
set_option linter.unusedVariables false
set_option linter.unusedSimpArgs false
namespace Go.Proofs.YtldoopjnjlpbpaaGreatDoor
noncomputable section
section
variable {f:Nat→Nat} {R R':aX} (h:∀ i g,R i=some g→R' (f i)=some g)
include h
end
def pull (ι:Nat→Nat) (k:Nat) (R:aX):aX:=fun i=>if i<k then R (ι i) else none
theorem Yx {P:Program} {g:FuncId} {fn:Func} {c:Code} {l:List SV} {ms:aj} {A:SV→aj→Prop} (hg:P.funcs[g]?=some fn) (hc:fn.body=some c)
  (good:Good P A ms.next [a_ g fn.ntmps l c] ms) (hxs:ms.xs=[]) {ι:Nat→Nat} {m:aj}
  (hm:∀ i b,aH ms.bl i=some b→i<ms.next∧b.wr=false∧∃ d,aH m.bl (ι i)=some d∧b.ty=d.ty∧∀ R cs,d.arr.cH R cs→b.arr.cH (pull ι ms.next R) cs)
  {n0:Nat} {F:Nat→Prop} {w0 w:World} {R:aX} {args:Array Value} (hl:aK (SV.ok (pull ι ms.next R)) l args.toList) (hR:Rel n0 F w0 R m w) :
  lT P g args w fun v w'=>Rel n0 F w0 R m w'∧w.heap.size≤w'.heap.size∧∃ s m' R',A s m'∧s.ok R' v:=by
 have zp:∀ {i x},pull ι ms.next R i=some x→i<ms.next∧R (ι i)=some x:=by
  intro i x h
  unfold pull at h
  split at h
  ·rename_i h1;exact ⟨h1,h⟩
  ·cases h
 have hRs:Rel w.heap.size (fun _=>False) w (pull ι ms.next R) ms w:=by
  refine ⟨fun i j x y b d h1 h2 h3 h4 h5 h6=>?_,fun i x h=>hR.lt _ _ (zp h).2,fun i x h=>(zp h).1,fun i b hb=>?_,Nat.le_refl _,iz.refl _ _ _,fun i x hx=>(by rw [hxs] at hx;cases hx),fun i j g h x y _ _ _ hx=>(by rw [hxs] at hx;cases hx),fun g cs hg=>?_⟩
  rotate_right
  ·obtain ⟨g1,g2,cs',ty,fz,g3,g4⟩:=hR.gl g cs hg
   exact ⟨Nat.lt_of_lt_of_le g1 hR.base,fun h=>h,cs',ty,fz,(hR.fr.block g g1 g2).trans g3,g4⟩
  ·have e1:=(hm i b h4).2.1
   have e2:=(hm j d h5).2.1
   rw [e1,e2] at h6
   simp at h6
  ·obtain ⟨e0,ew,d,e1,e2,e3⟩:=hm i b hb
   obtain ⟨x,cs,fz,k1,k2,k3,k4,_⟩:=hR.dS _ d e1
   refine ⟨x,cs,fz,?_,by rw [e2];exact k2,k3,e3 R cs k4,fun hw=>by rw [ew] at hw;cases hw⟩
   unfold pull
   rw [if_pos e0]
   exact k1
 refine (rI hg hc good hl hRs).mono ?_
 rintro v w' ⟨s,m',R',hA,hX,fq,hv⟩
 exact ⟨hR.step fq.fr.to,hX.2.2.1,s,m',R',hA,hv⟩
end
end Go.Proofs.YtldoopjnjlpbpaaGreatDoor
