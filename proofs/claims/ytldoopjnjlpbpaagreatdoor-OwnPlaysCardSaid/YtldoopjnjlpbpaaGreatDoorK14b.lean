/- Contracts of functions of numbers that make a row of their own. No condition. -/
import Derived.Test.YtldoopjnjlpbpaaGreatDoorK14
set_option linter.unusedVariables false
set_option linter.unusedSimpArgs false
namespace Go.Proofs.YtldoopjnjlpbpaaGreatDoor
def K8:SA→Bool
 | .pop _ | .op _=>true
 | _=>false
theorem I7 {R R':aX} {a:SA} {cs:Array Value} (h:K8 a=true) (ha:a.cH R cs):a.ok R' cs:=by
 cases a <;> first | exact ha | cases h
theorem aq.fresh {E:Env} (hE:bf E) {g:FuncId} {l:List SV} {m:aj} {q:List Prop} {k:SN} {cap:SK} {a:SA} {ty:TypeId} {fn:Func} {c:Code} (h1:E.fn g=some fn) (h2:fn.body=some c) (oh:gm xe l=true) (ha:K8 a=true)
  (h:(∀ p∈q,p)→Good E.P (fun s m'=>s=.s (.c (.f (.slice 0 (.l 0) k cap)))∧m'=⟨1,Tr.nil.set 0 (some ⟨a,ty,true⟩),[]⟩) 0 [a_ g fn.ntmps l c] ⟨0,.nil,[]⟩) :
  aq E g l m (bu q (.ret (.s (.c (.f (.slice m.next (.l 0) k cap)))) (m.new a ty))):=by
 intro A hs
 obtain ⟨hq,hA⟩:=Tree.nG hs
 refine ⟨fn,h1,by rw [h2];rfl,fun n0 F w0 w R args hl hR=>?_⟩
 refine (rI (m:=⟨0,.nil,[]⟩) (hE.fns _ _ h1).1 h2 (h hq) (mw oh hl) hR.none).mono ?_
 rintro v w' ⟨s,m',R',⟨rfl,rfl⟩,hX,fq,hv⟩
 have hb0:aH (Tr.nil.set 0 (some ⟨a,ty,true⟩)) 0=some ⟨a,ty,true⟩:=rfl
 obtain ⟨gl,cs,fz,e1,e2,e3,e4,e5⟩:=fq.dS 0 _ hb0
 obtain ⟨e6,ez⟩:=e5 rfl
 have e7:w.heap.size≤gl.b:=e6.resolve_right fun x=>x
 obtain ⟨R2,k1,k2,k3⟩:=hR.grow fq.fr.to e7 (fq.lt 0 gl e1) e2 e3 (I7 (R':=R) ha e4) ez
 obtain ⟨g,cp,f1,rfl,f2,f3⟩:=hv
 rw [e1] at f1
 cases f1
 exact ⟨_,_,R2,hA,k1,k3,gl,cp,k2,rfl,f2,f3⟩
theorem Good.ni {P:Program} {base:Nat} {fs:List av} {m pL:aj} {s0:SV} (hg:Good P (fun s m'=>∃ π,bM base π s0 pL s m') base fs m):Good P (fun s m'=>s=s0∧m'=pL) base fs m:=by
 intro n0 F w0 ws w Rs R fr dm hf hR hX hs
 refine (hg n0 F w0 ws w Rs R fr dm hf hR hX hs).mono ?_
 rintro v w' ⟨s,m',R',⟨π,hA⟩,mU,fq,hv⟩
 unfold bM at hA
 split at hA
 case isFalse=>exact hA.elim
 rename_i hc
 simp only [Bool.and_eq_true] at hc
 obtain ⟨hb,hk⟩:=hc
 have hb:=Nat.le_of_ble_eq_true hb
 split at hA
 case h_2=>exact hA.elim
 rename_i q hq
 obtain ⟨x,y,hx,hy,rfl⟩:=ju hq
 have hA:=zH hA
 obtain ⟨h1,h2⟩:=Rel.sub hb hk hy (fun p hp=>hA p (List.mem_append_right _ hp)) fq mU hs
 exact ⟨s0,pL,_,⟨rfl,rfl⟩,h2,h1,SV.fk (fun i j e=>Ds e) hx (fun p hp=>hA p (List.mem_append_left _ hp)) hv⟩
end Go.Proofs.YtldoopjnjlpbpaaGreatDoor
