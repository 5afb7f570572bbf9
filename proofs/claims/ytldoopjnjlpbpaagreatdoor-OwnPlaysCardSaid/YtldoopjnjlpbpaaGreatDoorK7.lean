/- Each operation of the symbolic machine, memory and all. No condition. -/
import Derived.Test.YtldoopjnjlpbpaaGreatDoorK6
import Derived.Great.BuildSlice
set_option linter.unusedVariables false
set_option linter.unusedSimpArgs false
namespace Go.Proofs.YtldoopjnjlpbpaaGreatDoor
section
variable {P:Program} {n0:Nat} {F:Nat→Prop} {w0 w:World} {R:aX} {m:aj}
def sU (n0:Nat) (F:Nat→Prop) (w0:World) (w:World) (m:aj) (R:aX) (m':aj) (s:SV) (r:World→Value→Prop):Prop :=
 ∃ R' w' v,b_ w w' m.next m'.next R R'∧Rel n0 F w0 R' m' w'∧s.ok R' v∧r w' v
omit n0 F w0 w R m in
theorem O4:∀ {l:List (Nat × List Value)} {g:Nat} {cs:List Value},Fp l g=some cs→(g,cs)∈l
 | [],_,_,h=>by cases h
 |(k,c) :: l,g,cs,h=>by
  simp only [Fp] at h
  split at h
  ·rename_i e
   have e':k=g:=by simpa using e
   cases h
   subst e'
   exact List.mem_cons_self ..
  ·exact List.mem_cons_of_mem _ (O4 h)
omit n0 F w0 w R m in
theorem nQ.abI {P:Program} {t:TypeId} {cs:List Value} {cs':Array Value} {k:Nat} {v:Value} (h:nQ P t cs.toArray k v) (hc:∀ i:Nat,i<cs.length→cs'[i]?=cs[i]?):nQ P t cs' k v:=by
 obtain ⟨d,i,h1,h2,h3⟩:=h
 refine ⟨d,i,h1,h2,?_⟩
 rcases h3 with ⟨h3,h4,rfl⟩ | ⟨h3,h4⟩
 ·have h4:k+i.size≤cs.length:=by simpa using h4
  have hsz:cs.length≤cs'.size:=by
   rcases Nat.lt_or_ge cs'.size cs.length with h | h
   ·have:=hc _ h
    rw [Array.getElem?_eq_none (Nat.le_refl _),List.getElem?_eq_getElem h] at this
    cases this
   ·exact h
  refine .inl ⟨h3,by omega,?_⟩
  congr 1
  apply Array.ext_getElem?
  intro j
  rw [Array.getElem?_extract,Array.getElem?_extract]
  by_cases hj:j<i.size
  ·rw [if_pos (by simp;omega),if_pos (by omega),hc _ (by omega),List.getElem?_toArray]
  ·rw [if_neg (by simp;omega),if_neg (by omega)]
 ·refine .inr ⟨h3,?_⟩
  rw [List.getElem?_toArray] at h4
  rw [hc _ (List.getElem?_eq_some_iff.1 h4).1]
  exact h4
theorem Qf {t:TypeId} {x s:SV} {q:List Prop} {m':aj} {u:Value} (h:Fq P t x m=.ok q s m') (hq:∀ p∈q,p) (hx:x.ok R u) (hR:Rel n0 F w0 R m w) :
  m'=m∧∃ v,s.ok R v∧(Instr.loadAt t u).run P w=.ok v w∧∃ g k,u=.pointer (some ⟨g,k,none⟩)∧(loadVar t ⟨g,k,none⟩).run P w=.ok v w:=by
 unfold Fq at h
 split at h
 ·rename_i id off
  split at h
  ·rename_i b hb
   rw [J1] at h
   unfold XR.of at h
   split at h
   ·rename_i q' v' hp
    cases h
    simp only [Option.map_eq_some_iff,Prod.mk.injEq] at hp
    obtain ⟨⟨q',s'⟩,h1,rfl,rfl⟩:=hp
    obtain ⟨g,hg,rfl⟩:=hx
    obtain ⟨g',cs,fz,k1,k2,_,k3,_⟩:=hR.dS id b hb
    obtain rfl:g'=g:=by rw [k1] at hg;exact Option.some.inj hg
    obtain ⟨v,hv,hs⟩:=YC h1 hq k3
    rw [IP] at hv
    have hl:=N_ k2 hv
    exact ⟨rfl,v,hs,by simp [Instr.loadAt,Instr.sureAddr,hl],_,_,rfl,hl⟩
   ·cases h
  ·cases h
 ·rename_i g off
  split at h
  ·rename_i cs hl
   split at h
   ·rename_i a ha
    unfold XR.of at h
    split at h
    ·rename_i q' v' hp
     cases h
     simp only [Option.map_eq_some_iff,Prod.mk.injEq] at hp
     obtain ⟨⟨q',s'⟩,h1,rfl,rfl⟩:=hp
     obtain rfl:u=_:=hx
     obtain ⟨g1,g2,cs',ty,fz,g3,g4⟩:=hR.gl g cs (O4 hl)
     have k2:w.heap[g]?=some (.cells cs' ty fz):=(hR.fr.block g g1 g2).trans g3
     obtain ⟨v,hv,hs⟩:=oI h1 hq (SA.oU (HX R ha))
     have hl:=N_ k2 (hv.abI g4.2)
     exact ⟨rfl,v,hs,by simp [Instr.loadAt,Instr.sureAddr,hl],_,_,rfl,hl⟩
    ·cases h
   ·cases h
  ·cases h
 ·cases h
theorem Xn {t:TypeId} {x y s:SV} {q:List Prop} {m':aj} {u v:Value} (h:J4 P t x y m=.ok q s m') (hq:∀ p∈q,p) (hx:x.ok R u) (hy:y.ok R v) (hR:Rel n0 F w0 R m w) :
  s=.bW []∧m'.next=m.next∧∃ w',Rel n0 F w0 R m' w'∧(Instr.storeAt t u v).run P w=.ok () w'∧w.heap.size≤w'.heap.size:=by
 unfold J4 at h
 split at h
 ·rename_i id off a hc
  split at h
  ·rename_i b q1 hb hf
   split at h
   ·rename_i q2 r hw hp
    rw [J1] at hp
    cases h
    obtain ⟨g,hg,rfl⟩:=hx
    have ha:=C8 hc hy
    obtain ⟨i,hi,hsz⟩:=ZE hf (fun p hp=>hq p (List.mem_append_left _ hp)) ha
    obtain ⟨g',cs,fz,k1,k2,hz,_,k3,k4⟩:=hR.set hb hw
    obtain rfl:g'=g:=by rw [k1] at hg;exact Option.some.inj hg
    obtain ⟨hk,hr⟩:=ZG hp (fun p hp=>hq p (List.mem_append_right _ hp)) k3 ha
    rw [IP] at hk hr
    have hst:=V0 (P:=P) (t:=t) (v:=v) k2 hz hi hsz hk (SA.one ha)
    exact ⟨rfl,rfl,_,k4 _ _ hr (HD (by simpa using hk)),by simp [Instr.storeAt,Instr.sureAddr,hst],by simp⟩
   ·cases h
  ·cases h
 ·cases h
theorem Rk {t:TypeId} {a:Option SA} {s:SV} {q:List Prop} {m':aj} (h:newS t a m=.ok q s m') {cs:Array Value} (ha:∀ a',a=some a'→a'.ok R cs) (hR:Rel n0 F w0 R m w) :
  sU n0 F w0 w m R m' s fun w' v=>(newRow t cs).run P w=.ok ⟨w.heap.size,0,none⟩ w'∧v=.pointer (some ⟨w.heap.size,0,none⟩):=by
 unfold newS at h
 split at h
 ·rename_i a'
  cases h
  obtain ⟨R',hx,h1,h2⟩:=hR.new (ha _ rfl) t
  exact ⟨R',_,_,hx,h2,⟨_,h1,rfl⟩,by simp [newRow,newObj,Sem.run],rfl⟩
 ·cases h
theorem C9 {t:TypeId} {a:SA} (h:sE P t=some a):∃ i z,P.info? t=some i∧i.zero=some z∧a.ok R z.cells:=by
 unfold sE at h
 split at h
 ·rename_i i hi
  split at h
  ·rename_i z hz
   split at h
   ·split at h
    ·rename_i ho
     cases h
     have e:Mp P t=z.cells:=by unfold Mp;rw [hi];dsimp only;rw [hz]
     exact ⟨i,z,hi,hz,by rw [e];exact ⟨rfl,HC ho⟩⟩
    ·cases h
   ·exact ⟨i,z,hi,hz,by simpa using HX R h⟩
  ·cases h
 ·cases h
theorem foldl_set:∀ (ys:List Value) (off:Nat) (j:Nat) (cs:Array Value),off+j+ys.length≤cs.size →
  ((ys.zipIdx j).foldl (fun cs (p:Value × Nat)=>cs.setIfInBounds (off+p.2) p.1) cs).toList=cs.toList.take (off+j)++ys++cs.toList.drop (off+j+ys.length)
 | [],off,j,cs,_=>by simp
 | y :: ys,off,j,cs,h=>by
  simp only [List.length_cons] at h
  simp only [List.zipIdx_cons,List.foldl_cons]
  rw [foldl_set ys off (j+1) _ (by simp;omega)]
  simp only [Array.toList_setIfInBounds]
  rw [List.set_eq_take_append_cons_drop,if_pos (by simp;omega)]
  have e1:(cs.toList.take (off+j)++y :: cs.toList.drop (off+j+1)).take (off+(j+1))=cs.toList.take (off+j)++[y]:=by
   rw [List.take_append]
   have:(cs.toList.take (off+j)).length=off+j:=by simp;omega
   rw [this,List.take_of_length_le (by omega)]
   have e:off+(j+1) - (off+j)=1:=by omega
   rw [e];rfl
  have e2:(cs.toList.take (off+j)++y :: cs.toList.drop (off+j+1)).drop (off+(j+1)+ys.length)=cs.toList.drop (off+j+(ys.length+1)):=by
   rw [List.drop_append]
   have:(cs.toList.take (off+j)).length=off+j:=by simp;omega
   rw [this,List.drop_of_length_le (by omega)]
   have e:off+(j+1)+ys.length - (off+j)=ys.length+1:=by omega
   rw [e]
   simp only [List.nil_append,List.drop_succ_cons,List.drop_drop]
   congr 1
   omega
  rw [e1,e2]
  simp
theorem H7 {t:TypeId} {T:Tm} {a:Act} (hT:dY R T a) {place:Nat→Option (Nat × Nat)} (hp:∀ i off n,Dt P t i=some (off,n)→place i=some (off,n)) :
  ∀ {ps:List (Nat × Operand)} {l r:List SC} {cs:Array Value},w6 P t T ps l=some r→aK (SC.ok R) l cs.toList →
   ∃ cs',Instr.fill place cs (ps.map fun p=>(p.1,a.eval p.2))=some cs'∧aK (SC.ok R) r cs'.toList
 | [],l,r,cs,h,hl=>by
  simp only [w6,Option.some.injEq] at h
  subst h
  exact ⟨cs,rfl,hl⟩
 |(i,x) :: ps,l,r,cs,h,hl=>by
  simp only [w6] at h
  split at h
  ·rename_i off n v hpl hv
   split at h
   ·rename_i y hy
    split at h
    ·rename_i hn
     split at h
     ·rename_i l' hl'
      have Cr:=C8 hy (eJ hT hv)
      have e1:=aK.len_eq Cr
      have e2:=hl.len_eq
      simp only [Array.length_toList] at e1 e2
      rw [len_eq] at hn
      obtain ⟨_,h2,h3⟩:=Dx (cur:=cs.toList) (ys:=(a.eval x).cells.toList) hl' (by rw [List.take_of_length_le (by rw [Array.length_toList];omega)];exact hl) Cr
      simp only [Array.length_toList] at h2
      have Bu:=foldl_set (a.eval x).cells.toList off 0 cs (by simp;omega)
      simp only [Nat.add_zero] at Bu
      obtain ⟨cs',h4,h5⟩:=H7 hT hp (cs:=(((a.eval x).cells.toList.zipIdx 0).foldl (fun cs (p:Value × Nat)=>cs.setIfInBounds (off+p.2) p.1) cs)) h (by
       rw [Bu]
       rw [List.take_of_length_le (by simp;omega)] at h3
       exact h3)
      refine ⟨cs',?_,h5⟩
      simp only [List.map_cons,Instr.fill,hp _ _ _ hpl]
      rw [if_neg (by simp;omega)]
      rw [← h4]
      congr 1
      rw [← Array.foldl_toList]
      simp
     ·cases h
    ·cases h
   ·cases h
  ·cases h
theorem YF {t:TypeId} {T:Tm} {a:Act} {ps:List (Nat × Operand)} {l r:List SC} (hT:dY R T a) (hz:sE P t=some (.ls l)) (hw:La P t=true) (h:w6 P t T ps l=some r) :
  ∃ cs,P.built t (ps.map fun p=>(p.1,a.eval p.2))=some cs∧aK (SC.ok R) r cs.toList:=by
 obtain ⟨it,z,hi,jD,pU⟩:=C9 (R:=R) hz
 unfold La at hw
 split at hw
 ·rename_i fs hu
  have sz:∀ (fl:List Field),sized P fl=true→∃ pl,fl.mapM (fun f=>(P.info? f.type).map fun i=>(f.offset,i.size))=some pl∧∀ i off n,(match nth fl i with | some f=>(gP P f.type).map fun n=>(f.offset,n) | none=>none)=some (off,n)→pl[i]?=some (off,n):=by
   intro fl
   induction fl with
   | nil=>intro _;exact ⟨[],rfl,fun i off n h=>by simp [Zx] at h⟩
   | cons f fl ih =>
    intro hs
    simp only [sized,Bool.and_eq_true] at hs
    obtain ⟨pl,h1,h2⟩:=ih hs.2
    obtain ⟨s,hs1⟩:=Option.isSome_iff_exists.1 hs.1
    obtain ⟨_,j,hj,Cs⟩:=iY (w:=default) hs1
    refine ⟨(f.offset,j.size) :: pl,by simp [List.mapM_cons,hj,h1],?_⟩
    intro i off n h
    cases i with
    | zero =>
     simp only [PS,hs1,Option.map_some,Option.some.injEq,Prod.mk.injEq] at h
     simp [h.1,Cs,h.2]
    | succ i=>simpa using h2 i off n h
  obtain ⟨pl,h1,h2⟩:=sz fs.toList hw
  obtain ⟨cs,h3,h4⟩:=H7 (P:=P) (t:=t) hT (place:=(pl.toArray[·]?)) (fun i off n h=>by
   unfold Dt at h
   simp only [hu] at h
   simpa using h2 i off n h) h pU
  exact ⟨cs,by simp only [Program.built,hi,hu,jD,h1];exact h3,h4⟩
 ·rename_i k e hu
  obtain ⟨s,hs1⟩:=Option.isSome_iff_exists.1 hw
  obtain ⟨_,j,hj,Cs⟩:=iY (w:=default) hs1
  obtain ⟨cs,h3,h4⟩:=H7 (P:=P) (t:=t) hT (place:=fun i=>some (i*j.size,j.size)) (fun i off n h=>by
   unfold Dt at h
   simp only [hu,hs1,Option.map_some,Option.some.injEq,Prod.mk.injEq] at h
   rw [Cs,← h.1,← h.2]) h pU
  exact ⟨cs,by simp only [Program.built,hi,hu,jD,hj];exact h3,h4⟩
 ·cases hw
theorem V1 {sz:Nat} {T:Tm} {a:Act} (hT:dY R T a) :
  ∀ {ps:List (Nat × Operand)} {l r:List SC} {cs:Array Value},zq sz T ps l=some r→aK (SC.ok R) l cs.toList →
   ∃ cs',Instr.fill (fun i=>some (i*sz,sz)) cs (ps.map fun p=>(p.1,a.eval p.2))=some cs'∧aK (SC.ok R) r cs'.toList:=by
 intro ps
 induction ps with
 | nil =>
  intro l r cs h hl
  simp only [zq,Option.some.injEq] at h
  subst h
  exact ⟨cs,rfl,hl⟩
 | cons p ps ih =>
  obtain ⟨i,x⟩:=p
  intro l r cs h hl
  simp only [zq] at h
  split at h
  ·rename_i v hv
   split at h
   ·rename_i y hy
    split at h
    ·rename_i hn
     split at h
     ·rename_i l' hl'
      have Cr:=C8 hy (eJ hT hv)
      have e1:=aK.len_eq Cr
      have e2:=hl.len_eq
      simp only [Array.length_toList] at e1 e2
      rw [len_eq] at hn
      obtain ⟨_,h2,h3⟩:=Dx (cur:=cs.toList) (ys:=(a.eval x).cells.toList) hl' (by rw [List.take_of_length_le (by rw [Array.length_toList];omega)];exact hl) Cr
      simp only [Array.length_toList] at h2
      have Bu:=foldl_set (a.eval x).cells.toList (i*sz) 0 cs (by simp;omega)
      simp only [Nat.add_zero] at Bu
      obtain ⟨cs',h4,h5⟩:=ih (cs:=(((a.eval x).cells.toList.zipIdx 0).foldl (fun cs (p:Value × Nat)=>cs.setIfInBounds (i*sz+p.2) p.1) cs)) h (by
       rw [Bu]
       rw [List.take_of_length_le (by simp;omega)] at h3
       exact h3)
      refine ⟨cs',?_,h5⟩
      simp only [List.map_cons,Instr.fill]
      rw [if_neg (by simp;omega)]
      rw [← h4]
      congr 1
      rw [← Array.foldl_toList]
      simp
     ·cases h
    ·cases h
   ·cases h
  ·cases h
theorem Rl {r:SC→Value→Prop} {z:List SC} {zs:Array Value} (h:aK r z zs.toList) (hz:0<zs.size):∀ n,aK r (F9 n z) ((Array.range (n*zs.size)).map (zs[· % zs.size]!)).toList
 | 0=>by simp [F9,aK]
 | n+1=>by
  have e:((Array.range ((n+1)*zs.size)).map (zs[· % zs.size]!)).toList=zs.toList++((Array.range (n*zs.size)).map (zs[· % zs.size]!)).toList:=by
   apply List.ext_getElem?
   intro j
   rw [List.getElem?_append]
   simp only [Array.getElem?_toList,Array.getElem?_map,Array.getElem?_range,Array.length_toList]
   by_cases hj:j<zs.size
   ·have:j<(n+1)*zs.size:=by rw [Nat.add_mul];omega
    rw [if_pos this,if_pos hj]
    simp only [Option.map_some,Nat.mod_eq_of_lt hj]
    rw [getElem!_pos zs j hj,Array.getElem?_eq_getElem hj]
   ·rw [if_neg hj]
    by_cases hk:j<(n+1)*zs.size
    ·have:j - zs.size<n*zs.size:=by rw [Nat.add_mul] at hk;omega
     rw [if_pos hk,if_pos this]
     have e2:j % zs.size=(j - zs.size) % zs.size:=by rw [← Nat.mod_eq_sub_mod (by omega)]
     simp only [Option.map_some,e2]
    ·have:¬ j - zs.size<n*zs.size:=by rw [Nat.add_mul] at hk;omega
     rw [if_neg hk,if_neg this]
  rw [e]
  exact h.append (Rl h hz n)
theorem VT {t:TypeId} {n:Nat} {T:Tm} {a:Act} {ps:Array (Nat × Operand)} {q:List Prop} {s:SV} {m':aj} (h:Hu P t n T ps.toList m=.ok q s m') (hT:dY R T a) (hR:Rel n0 F w0 R m w) :
  sU n0 F w0 w m R m' s fun w' v=>(Instr.buildSlice t n (ps.map fun p=>(p.1,a.eval p.2))).run P w=.ok v w':=by
 unfold Hu at h
 split at h
 ·rename_i e hu
  split at h
  ·rename_i z sz hz hs
   split at h
   ·rename_i hc
    split at h
    ·rename_i r hr
     cases h
     obtain ⟨ie,zv,hi,jD,pU⟩:=C9 (R:=R) hz
     obtain ⟨_,j,hj,Cs⟩:=iY (w:=w) hs
     rw [hi] at hj
     cases hj
     have hzl:=aK.len_eq pU
     simp only [Array.length_toList] at hzl
     rw [len_eq] at hc
     have Vs:zv.cells.size=sz+1:=by omega
     have MF:ie.size=sz+1:=Cs
     obtain ⟨cs,h1,h2⟩:=V1 hT (cs:=(Array.range (n*zv.cells.size)).map (zv.cells[· % zv.cells.size]!)) hr (Rl pU (by omega) n)
     have hrun:=run_buildSlice (P:=P) w t e n (ps.map fun p=>(p.1,a.eval p.2)) cs ie zv hu hi jD (by rw [MF];omega) (by rw [MF];have:=Nat.mul_pos hc.2.2 (show 0<sz+1 by omega);omega) (by
      rw [MF,← Vs]
      simpa [Vs] using h1)
     obtain ⟨R',k1,k2,k3⟩:=hR.new (a:=.ls r) (cs:=cs) h2 e
     exact ⟨R',_,_,k1,k3,⟨_,n,k2,rfl,rfl,Nat.le_refl _⟩,hrun⟩
    ·cases h
   ·cases h
  ·cases h
 ·cases h
theorem V9 {cs:Array Value} {k n:Nat} {g:Nat} {ty:TypeId} {fz:Nat × Nat} (hg:w.heap[g]?=some (.cells cs ty fz)):∀ j v,(cs.extract k (k+n)).toList[j]?=some v→w.cell? ((⟨g,k,none⟩:Addr).add j)=some v:=by
 intro j v hv
 rw [oJ,cell_of_row w g (k+j) cs ty fz hg]
 rw [Array.getElem?_toList,Array.getElem?_extract] at hv
 split at hv
 ·exact hv
 ·cases hv
theorem abJ {T:Tm} {a:Act} {o:Oper} {q:List Prop} {s:SV} {m':aj} (h:NL P T m o.op=.ok q s m') (hq:∀ p∈q,p) (hT:dY R T a) (hR:Rel n0 F w0 R m w) :
  sU n0 F w0 w m R m' s fun w' v=>Ends P a o w w' v:=by
 have pE:∀ {s':SV} {q':List Prop} {v:Value},XR.ok q' s' m=.ok q s m'→s'.ok R v→(execOp a.eval o).run P w=.ok (.value v) w→sU n0 F w0 w m R m' s fun w' v=>Ends P a o w w' v:=by
  intro s' q' v e hs hrun
  cases e
  exact ⟨R,w,v,b_.refl _ _ R,hR,hs,.inl hrun⟩
 have we:∀ {r:Option (List Prop × SV)},XR.of m r=.ok q s m'→r=some (q,s)∧m'=m:=by
  intro r e
  unfold XR.of at e
  split at e
  ·cases e;exact ⟨rfl,rfl⟩
  ·cases e
 have sV:∀ {r:Option SV},XR.one m r=.ok q s m'→r=some s∧q=[]∧m'=m:=by
  intro r e
  unfold XR.one at e
  split at e
  ·cases e;exact ⟨rfl,rfl,rfl⟩
  ·cases e
 generalize ho:o.op=op at h
 unfold NL at h
 dsimp only [Sk,Sl,Sm,Sn,So,Sp,Sq,Q6,Q7,Q8,Q9,Q_,Ra,Rb,Rc,Rd,Re,Rf] at h
 split at h
 case h_1 x =>
  obtain ⟨h1,rfl,rfl⟩:=sV h
  exact ⟨R,w,_,b_.refl _ _ R,hR,eJ hT h1,.inl (by simp [execOp,ho])⟩
 case h_2 x =>
  obtain ⟨h1,rfl,rfl⟩:=sV h
  exact ⟨R,w,_,b_.refl _ _ R,hR,eJ hT h1,.inl (by simp [execOp,ho])⟩
 case h_3 c x y =>
  split at h
  ·rename_i hc
   obtain ⟨h1,rfl,rfl⟩:=sV h
   have e:a.eval c=.bool true:=eJ hT hc
   exact ⟨R,w,_,b_.refl _ _ R,hR,eJ hT h1,.inl (by simp [execOp,ho,e,asBool])⟩
  ·rename_i hc
   obtain ⟨h1,rfl,rfl⟩:=sV h
   have e:a.eval c=.bool false:=eJ hT hc
   exact ⟨R,w,_,b_.refl _ _ R,hR,eJ hT h1,.inl (by simp [execOp,ho,e,asBool])⟩
  ·cases h
 case h_4 t =>
  cases hz:sE P t with
  | none=>rw [hz] at h;cases h
  | some z =>
   obtain ⟨i,zv,hi,jD,pU⟩:=C9 (R:=R) hz
   rw [hz] at h
   obtain ⟨R',w',v,h1,h2,h3,h4,rfl⟩:=Rk (P:=P) h (cs:=zv.cells) (fun _ e=>by cases e;exact pU) hR
   exact ⟨R',w',_,h1,h2,h3,.inl (by simp [execOp,ho,Instr.alloc,zeroValue,typeInfo,hi,jD,newVar,h4])⟩
 case h_5 t x =>
  cases hv:(ev T x).bind SV.cells with
  | none=>rw [hv] at h;cases h
  | some z =>
   obtain ⟨y,hy,hz⟩:=Option.bind_eq_some_iff.1 hv
   rw [hv] at h
   obtain ⟨R',w',v,h1,h2,h3,h4,rfl⟩:=Rk (P:=P) h (cs:=(a.eval x).cells) (fun _ e=>by cases e;exact C8 hz (eJ hT hy)) hR
   exact ⟨R',w',_,h1,h2,h3,.inl (by simp [execOp,ho,Instr.box,newVar,h4])⟩
 case h_6 t ps =>
  split at h
  ·rename_i l hz hw
   split at h
   ·rename_i r hr
    obtain ⟨cs,h1,h2⟩:=YF hT hz hw hr
    refine pE (v:=.agg cs) h ⟨cs,rfl,h2⟩ ?_
    have:=run_build (P:=P) w t (ps.map fun p=>(p.1,a.eval p.2)) cs (by simpa using h1)
    simp [execOp,ho,this]
   ·cases h
  ·cases h
 case h_7 t x =>
  split at h
  ·rename_i y hy
   obtain ⟨rfl,v,h1,h2,_⟩:=Qf h hq (eJ hT hy) hR
   exact ⟨R,w,v,b_.refl _ _ R,hR,h1,.inl (by simp [execOp,ho,h2])⟩
  ·cases h
 case h_8 t x y =>
  split at h
  ·rename_i u v hu hv
   obtain ⟨rfl,hn,w',h1,h2,h3⟩:=Xn h hq (eJ hT hu) (eJ hT hv) hR
   exact ⟨R,w',undef,by rw [hn];exact b_.same _ R h3,h1,⟨#[],rfl,trivial⟩,.inr ⟨by simp [execOp,ho,h2],rfl⟩⟩
  ·cases h
 case h_9 x =>
  split at h
  ·rename_i id off hx
   have:=eJ hT hx
   obtain ⟨g,hg,e⟩:=this
   refine pE (v:=a.eval x) h ⟨g,hg,e⟩ ?_
   simp [execOp,ho,e]
  ·rename_i g off hx
   have e:a.eval x=_:=eJ hT hx
   refine pE (v:=a.eval x) h e ?_
   simp [execOp,ho,e]
  ·rename_i g fa fb hx
   obtain ⟨u,v,e,k1,k2⟩:=eJ hT hx
   refine pE (v:=a.eval x) h ⟨u,v,e,k1,k2⟩ ?_
   simp [execOp,ho,e]
  ·rename_i i hx
   obtain ⟨g,hg,e⟩:=eJ hT hx
   refine pE (v:=a.eval x) h ⟨g,hg,e⟩ ?_
   simp [execOp,ho,e]
  ·cases h
 case h_10 op t x y yt =>
  split at h
  ·rename_i u v hu hv
   obtain ⟨h1,rfl⟩:=we h
   obtain ⟨r,h2,h3,h4⟩:=ZJ (w:=w) h1 hq (eJ hT hu) (eJ hT hv) x y
   exact ⟨R,w,r,b_.refl _ _ R,hR,h2,.inl (by simp [execOp,ho,h3,h4])⟩
  ·cases h
 case h_11 op t x =>
  split at h
  ·rename_i u hu
   obtain ⟨h1,rfl,rfl⟩:=sV h
   obtain ⟨r,h2,h3⟩:=abH (P:=P) (w:=w) h1 (eJ hT hu)
   exact ⟨R,w,r,b_.refl _ _ R,hR,h2,.inl (by simp [execOp,ho,h3])⟩
  ·cases h
 case h_12 sr d x =>
  split at h
  ·rename_i u hu
   obtain ⟨h1,rfl,rfl⟩:=sV h
   obtain ⟨r,h2,h3⟩:=YD (w:=w) h1 (eJ hT hu)
   exact ⟨R,w,r,b_.refl _ _ R,hR,h2,.inl (by simp [execOp,ho,h3])⟩
  ·cases h
 case h_13 f x y =>
  split at h
  ·rename_i xs ys hx hy
   split at h
   ·rename_i xf yf hxf hyf
    refine pE (v:=.func f (x.map a.eval) (y.map a.eval)) h ⟨_,_,rfl,?_,?_⟩ (by simp [execOp,ho,Instr.makeFunc])
    ·simpa using IJ hxf (oX hT hx)
    ·simpa using IJ hyf (oX hT hy)
   ·cases h
  ·cases h
 case h_14 sr x f =>
  split at h
  ·rename_i u hu
   obtain ⟨h1,rfl,rfl⟩:=sV h
   obtain ⟨r,h2,h3⟩:=V7 (w:=w) h1 (eJ hT hu)
   exact ⟨R,w,r,b_.refl _ _ R,hR,h2,.inl (by simp [execOp,ho,h3])⟩
  ·cases h
 case h_15 t x f =>
  split at h
  ·rename_i u hu
   obtain ⟨h1,rfl⟩:=we h
   obtain ⟨r,h2,h3⟩:=Xi (w:=w) h1 hq (eJ hT hu)
   exact ⟨R,w,r,b_.refl _ _ R,hR,h2,.inl (by simp [execOp,ho,h3])⟩
  ·cases h
 case h_16 t x i =>
  split at h
  ·rename_i u v hu hv
   obtain ⟨h1,rfl⟩:=we h
   obtain ⟨r,h2,h3⟩:=V8 (w:=w) h1 hq (eJ hT hu) (eJ hT hv)
   exact ⟨R,w,r,b_.refl _ _ R,hR,h2,.inl (by simp [execOp,ho,h3])⟩
  ·cases h
 case h_17 t x i =>
  split at h
  ·rename_i u v hu hv
   obtain ⟨h1,rfl⟩:=we h
   obtain ⟨r,h2,h3⟩:=Xj (w:=w) h1 hq (eJ hT hu) (eJ hT hv)
   exact ⟨R,w,r,b_.refl _ _ R,hR,h2,.inl (by simp [execOp,ho,h3])⟩
  ·cases h
 case h_18 x i =>
  split at h
  ·rename_i l hl
   split at h
   ·rename_i y hy
    obtain ⟨vs,e,hv⟩:=eJ hT hl
    obtain ⟨v,h1,h2⟩:=hv.nth hy
    refine pE (v:=v) h h2 ?_
    simp only [Array.getElem?_toList] at h1
    simp [execOp,ho,e,Instr.extract,h1]
   ·cases h
  ·cases h
 case h_19 args ts =>
  split at h
  ·rename_i t x ht hx
   obtain ⟨h1,rfl,rfl⟩:=sV h
   have hv:=oX hT hx
   rw [m5,Array.getElem?_toList] at ht
   have hargs:∃ u,args.map a.eval=#[u]∧x.ok R u:=by
    have e:=hv.len_eq
    match hl:args.toList.map a.eval,hv with
    | [u],hu =>
     refine ⟨u,?_,hu.1⟩
     apply Array.ext'
     simpa using hl
    | [],hu=>exact hu.elim
    | _ :: _ :: _,hu=>exact hu.2.elim
   obtain ⟨u,e,hu⟩:=hargs
   obtain ⟨r,h2,h3⟩:=ZM (w:=w) h1 hu o.type ts ht
   exact ⟨R,w,r,b_.refl _ _ R,hR,h2,.inl (by simp [execOp,ho,resolve,invoke,builtin,e,h3])⟩
  ·cases h
 case h_20 t x lo hi =>
  split at h
  ·rename_i u l hv hu hl hh
   obtain ⟨h1,rfl⟩:=we h
   have opt:∀ {y:Option Operand} {s},G8 T y=some s→xT R s (y.map a.eval):=by
    intro y s hy
    cases y with
    | none=>cases hy;trivial
    | some y =>
     obtain ⟨z,hz,rfl⟩:=Option.map_eq_some_iff.1 hy
     exact eJ hT hz
   obtain ⟨r,h2,h3⟩:=Xm (w:=w) h1 hq (eJ hT hu) (opt hl) (opt hh)
   exact ⟨R,w,r,b_.refl _ _ R,hR,h2,.inl (by simp [execOp,ho,h3])⟩
  ·cases h
 case h_21 t n ps =>
  obtain ⟨R',w',v,h1,h2,h3,h4⟩:=VT h hT hR
  exact ⟨R',w',v,h1,h2,h3,.inl (by simp [execOp,ho,h4])⟩
 case h_22 args ts =>
  split at h
  ·rename_i l hl
   split at h
   ·rename_i k x r hr
    cases h
    have hv:=O3 hr (oX hT hl)
    cases hm:args.toList.map a.eval with
    | nil=>rw [hm] at hv;exact hv.elim
    | cons v vs =>
     rw [hm] at hv
     have e:v=.int k x.den:=hv.1
     have hf:=Qd (P:=P) (w:=w) Mt Builtin.max2 (fun k x k' y=>by simp [Builtin.max2,Mt]) k (xR r) x vs (Qe hv.2)
     refine ⟨R,w,_,b_.refl _ _ R,hR,rfl,.inl ?_⟩
     have e2:(args.map a.eval).toList=v :: vs:=by simpa using hm
     have e3:args.map a.eval=(v :: vs).toArray:=by rw [← e2]
     simp [execOp,ho,resolve,invoke,builtin,e3,Builtin.max_,e,hf]
   ·cases h
  ·cases h
 case h_23 args ts =>
  split at h
  ·rename_i l hl
   split at h
   ·rename_i k x r hr
    cases h
    have hv:=O3 hr (oX hT hl)
    cases hm:args.toList.map a.eval with
    | nil=>rw [hm] at hv;exact hv.elim
    | cons v vs =>
     rw [hm] at hv
     have e:v=.int k x.den:=hv.1
     have hf:=Qd (P:=P) (w:=w) Mu Builtin.min2 (fun k x k' y=>by simp [Builtin.min2,Mu]) k (xR r) x vs (Qe hv.2)
     refine ⟨R,w,_,b_.refl _ _ R,hR,rfl,.inl ?_⟩
     have e2:(args.map a.eval).toList=v :: vs:=by simpa using hm
     have e3:args.map a.eval=(v :: vs).toArray:=by rw [← e2]
     simp [execOp,ho,resolve,invoke,builtin,e3,Builtin.min_,e,hf]
   ·cases h
  ·cases h
 case h_24=>cases h
end
end Go.Proofs.YtldoopjnjlpbpaaGreatDoor
