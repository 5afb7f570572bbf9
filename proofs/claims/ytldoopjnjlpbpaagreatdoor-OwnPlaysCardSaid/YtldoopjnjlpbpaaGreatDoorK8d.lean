/- An item is met; a frame is left; the machine's steps. No condition. -/
import Derived.Test.YtldoopjnjlpbpaaGreatDoorK8c
set_option linter.unusedVariables false
set_option linter.unusedSimpArgs false
namespace Go.Proofs.YtldoopjnjlpbpaaGreatDoor
section
variable {E:Env} (hE:bf E) {r:List av→aj→Tree} {A:SV→aj→Prop} {B:List av→aj→Prop} {n0:Nat} {F:Nat→Prop} {w0 ws:World} {Rs:aX} {base:Nat} {f0:FuncId} {Φ:Value→World→Prop}
variable {f:av} {cs:List av} {m:aj} {w:World} {R:aX} {fn:FuncId} {tmps:Array Value} {ds:List Deferred} {kind:CallKind} {ro:Option Nat} {dm:List Frame} {todo ys:List Item} {mode:FrameMode}
theorem IQ (on:On E r A B n0 F w0 ws Rs base f0 Φ) (hf:eA R f ⟨fn,tmps,todo,ds,.run,kind,ro⟩) (hcs:aK (eA R) cs dm) (hl:jk (f :: cs)=f0) (hR:Rel n0 F w0 R m w) (hX:b_ ws w base m.next Rs R) {jump:Option Code} {ends:Bool} (h:(Ao r f cs m jump ends).sat A B)
  (hj:(todo=[]∧jump=none∧ends=true)∨(∃ k,todo=.code .ret :: k∧jump=some .ret∧ends=true)∨∃ id k,todo=.code (.exit id) :: k∧exitTo id k=none∧jump=some (.exit id)∧ends=false):ig E.P f0 ⟨fn,tmps,todo,ds,.run,kind,ro⟩ dm w Φ:=by
 obtain ⟨h1,h2,h3,h4,h5,h6,h7⟩:=hf
 dsimp only at h1 h2 h3 h4 h5 h6 h7
 unfold Ao at h
 split at h
 ·rename_i hrnd
  rw [hrnd] at h7
  obtain rfl:ro=_:=h7
  split at h
  ·refine (on h (by rw [← hl];exact lM (by rfl) cs) (fr':=⟨fn,tmps,todo,ds,.returning,kind,none⟩) ⟨⟨h1,h2,h3,h4,rfl,h6,by rw [hrnd];rfl⟩,hcs⟩ hR hX).one fun dd=>?_
   rcases hj with ⟨rfl,_⟩ | ⟨k,rfl,_⟩ | ⟨_,_,_,_,_,h0⟩
   ·exact abM
   ·exact abL
   ·cases h0
  ·exact h.elim
 ·rename_i l hrnd
  rw [hrnd] at h7
  obtain ⟨g,hg,rfl⟩:=h7
  cases hx:bR m.xs l with
  | none=>rw [hx] at h;exact h.elim
  | some xo =>
   rw [hx] at h
   cases cs with
   | nil=>cases xo <;> exact h.elim
   | cons c cs' =>
    cases xo with
    | gZ=>exact h.elim
    | map _ _=>exact h.elim
    | kH _ _=>exact h.elim
    | kI _ _ _ _=>exact h.elim
    | sL _ _=>exact h.elim
    | iter _ _ _ _=>exact h.elim
    | loop st j9 y_ tm ps as bd dl =>
     dsimp only at h
     split at h
     ·rename_i ac7
      rw [ac7] at h6
      obtain rfl:kind=_:=h6
      cases dm with
      | nil=>exact hcs.elim
      | cons fc tv =>
       obtain ⟨hc,hcs⟩:=hcs
       obtain ⟨g',o,k1,k2,⟨za,gd,k3,k4,rfl⟩,MH,_⟩:=hR.Ge hx rfl
       rw [hg] at k1
       cases k1
       have fq:=MH (.loop (if jump.isNone then .ready else .done) jump y_ tm ps as bd dl) _ ⟨za,gd,k3,k4,rfl⟩
       refine (on.finish h hl hc hcs rfl fq (hX.trans (b_.same _ R (by simp)))).one fun dd=>?_
       exact YN k2 (by
        rcases hj with ⟨a1,a2,_⟩ | ⟨k,a1,a2,_⟩ | ⟨id,k,a1,a2,a3,_⟩
        ·exact .inl ⟨a1,a2⟩
        ·exact .inr (.inl ⟨k,a1,a2⟩)
        ·exact .inr (.inr ⟨id,k,a1,a2,a3⟩))
     ·exact h.elim
theorem ZZ (on:On E r A B n0 F w0 ws Rs base f0 Φ) {l:Nat} {k:List bh} {g:Loc} (hf:eA R f ⟨fn,tmps,.endRangeFunc g.b :: ys,ds,.run,kind,ro⟩) (hys:aK (jA R) k ys) (hg:R l=some g) (hcs:aK (eA R) cs dm) (hl:jk (f :: cs)=f0) (hR:Rel n0 F w0 R m w) (hX:b_ ws w base m.next Rs R)
  (h:(MD r f l k cs m).sat A B):ig E.P f0 ⟨fn,tmps,.endRangeFunc g.b :: ys,ds,.run,kind,ro⟩ dm w Φ:=by
 obtain ⟨h1,h2,h3,h4,h5,h6,h7⟩:=hf
 dsimp only at h1 h2 h3 h4 h5 h6 h7
 unfold MD at h
 split at h
 ·rename_i st j9 y_ tm ps as bd dl hx
  obtain ⟨g',o,k1,k2,⟨za,gd,k3,k4,rfl⟩,_,Lg⟩:=hR.Ge hx rfl
  rw [hg] at k1
  cases k1
  have fin:st≠.busy→(r ({ f with todo:=Tl j9 k } :: cs) ⟨m.next,m.bl,qH m.xs l⟩).sat A B →
    ig E.P f0 ⟨fn,tmps,.endRangeFunc g.b :: ys,ds,.run,kind,ro⟩ dm w Φ:=by
   intro hst h
   refine (on (fr':=⟨fn,tmps,(j9.map Item.code).toList++ys,ds,.run,kind,ro⟩) h (by rw [← hl];exact lM (by rfl) cs) ⟨⟨h1,h2,?_,h4,h5,h6,h7⟩,hcs⟩ (Lg _) (hX.trans (b_.same _ R (by simp)))).one fun dd=>Wx k2 hst
   cases j9 with
   | none=>exact hys
   | some c=>exact ⟨rfl,hys⟩
  cases st with
  | busy=>exact h.elim
  | ready=>exact fin (by simp) h
  | done=>exact fin (by simp) h
  | exhausted=>exact fin (by simp) h
 ·exact h.elim
include hE in
theorem Xs (on:On E r A B n0 F w0 ws Rs base f0 Φ) (hA:∀ s m' R' w' v,A s m'→b_ ws w' base m'.next Rs R'→Rel n0 F w0 R' m' w'→s.ok R' v→Φ v w') (hf:eA R f ⟨fn,tmps,todo,ds,mode,kind,ro⟩) (mm:f.md≠.run) (hcs:aK (eA R) cs dm) (hl:jk (f :: cs)=f0) (hR:Rel n0 F w0 R m w)
  (hX:b_ ws w base m.next Rs R) (h:(Jj E r f cs m).sat A B):ig E.P f0 ⟨fn,tmps,todo,ds,mode,kind,ro⟩ dm w Φ:=by
 obtain ⟨h1,h2,h3,h4,h5,h6,h7⟩:=hf
 dsimp only at h1 h2 h3 h4 h5 h6 h7
 have ac8:mode≠.run:=by
  cases hm:f.md with
  | run=>exact (mm hm).elim
  | ret=>rw [hm] at h5;obtain rfl:mode=_:=h5;simp
  | y7 l=>rw [hm] at h5;obtain ⟨_,rfl,_⟩:=h5;simp
 unfold Jj at h
 split at h
 ·rename_i id gN hdf
  rw [hdf] at h4
  cases ds with
  | nil=>exact h4.elim
  | cons d ds =>
   obtain ⟨⟨g,hg,rfl⟩,h4⟩:=h4
   split at h
   ·rename_i hx
    obtain ⟨g',o,k1,k2,k3,_,Lg⟩:=hR.Ge hx rfl
    rw [hg] at k1
    cases k1
    obtain rfl:o=_:=k3
    exact (on (fr':=⟨fn,tmps,todo,ds,mode,kind,ro⟩) h (by rw [← hl];exact lM (by rfl) cs) ⟨⟨h1,h2,h3,h4,h5,h6,h7⟩,hcs⟩ (Lg _) (hX.trans (b_.same _ R (by simp)))).one fun dd=>ZX ac8 k2
   ·exact h.elim
 ·exact h.elim
 ·rename_i hdf
  rw [hdf] at h4
  cases ds with
  | cons _ _=>exact h4.elim
  | nil =>
   split at h
   ·exact h.elim
   ·rename_i gf G_
    have hp:E.P.funcs[fn]?=some gf:=by rw [h1];exact (hE.fns _ _ G_).1
    split at h
    ·exact h.elim
    ·exact h.elim
    ·rename_i hml
     rw [hml] at h5
     obtain rfl:mode=_:=h5
     split at h
     ·rename_i q l hrnd v_
      obtain ⟨hq,h⟩:=Tree.nG h
      have hT:dY R f.tm ⟨tmps,[]⟩:=h2
      obtain ⟨v,k1,k2⟩:=Wz (fn:=gf) hT hR v_ hq
      rw [hrnd] at h7
      obtain rfl:ro=_:=h7
      generalize hkk:f.kind=kk at h h6
      subst h6
      cases cs with
      | nil =>
       cases dm with
       | cons _ _=>exact hcs.elim
       | nil =>
        cases kind with
        | normal=>exact fun dd=>⟨v,w,⟨fn,tmps,todo,[],.returning,.normal,none⟩,hA _ m R w v h hX hR k1,Steps.refl _ _,h1.trans hl,rfl,rfl,rfl,gf,hp,k2⟩
        | _=>exact h.elim
      | cons c cs' =>
       cases dm with
       | nil=>exact hcs.elim
       | cons fc tv =>
        obtain ⟨hc,hcs⟩:=hcs
        cases kind with
        | normal=>exact (on.finish h hl hc hcs k1 hR hX).one fun dd=>ZY hp k2
        | _=>exact h.elim
     ·exact h.elim
end
end Go.Proofs.YtldoopjnjlpbpaaGreatDoor
