/- A region that draws its order: the proof's end; what is run is so. No condition. -/
import Derived.Test.YtldoopjnjlpbpaaGreatDoorK21
set_option linter.unusedVariables false
set_option linter.unusedSimpArgs false
namespace Go.Proofs.YtldoopjnjlpbpaaGreatDoor
section
variable (gN:List Deferred) (ds:List iF) (T:Tm) (m:aj) (ms:Nat→aj) (n0:Nat) (F:Nat→Prop) (w0:World) (R:aX) (w:World)
def nq (len:Nat) (i t:Nat):Option (Option SV):=match ds[i]? with
 | some d=>if d.dst=some t∧t<len then some (some d.v) else none
 | none=>none
noncomputable def gK (i id:Nat):Option (Option bN):=match ds[i]? with
 | some d=>match gQ d.bl id with
  | some b=>some (some b)
  | none=>if fW d.del id=true then some none else none
 | none=>none
def j_ (i id:Nat):Option (Option XO):=match ds[i]? with
 | some d=>(bR d.xs id).map some
 | none=>none
structure sO (base:Nat) (D:Nat→Bool) (R1:aX) (a:Act) (w1:World):Prop where
 defers:a.defers=gN
 size:a.tmps.size=T.n
 ext:Ext R R1
 new:∀ i g,R1 i=some g→R i=some g∨(m.next≤i∧(w.heap.size≤g.b∨∃ p,base≤p∧R p=some g))
 K1:w.heap.size≤w1.heap.size
 tm:∀ t s,stat T.get (nq ds T.n) D ds.length t=some s→∃ v,a.tmps[t]?=some v∧s.ok R1 v
 inj:∀ i j g h b c,R1 i=some g→R1 j=some h→g.b=h.b→stat (aH m.bl) (gK ds) D ds.length i=some b→stat (aH m.bl) (gK ds) D ds.length j=some c→b.wr=true∨c.wr=true→i=j
 lt:∀ i g,R1 i=some g→g.b<w1.heap.size
 dom:∀ i g,R1 i=some g→i<m.next∨∃ k,k<ds.length∧D k=true∧(ms k).next≤i∧i<(ms (k+1)).next
 dS:∀ i b,stat (aH m.bl) (gK ds) D ds.length i=some b→∃ g cs fz,R1 i=some g∧w1.heap[g.b]?=some (.cells cs b.ty fz)∧cs.size=g.n∧b.arr.cH R1 cs∧(b.wr=true→(n0≤g.b∨F g.b)∧mQ fz cs.size)
 base:n0≤w1.heap.size
 fr:iz n0 F w0 w1
 xo:∀ i x,stat (bR m.xs) (j_ ds) D ds.length i=some x→∃ g o,R1 i=some g∧w1.heap[g.b]?=some o∧x.ok R1 o∧(x.own=true→n0≤g.b∨F g.b)
 xi:∀ i j g h x y,R1 i=some g→R1 j=some h→g.b=h.b→stat (bR m.xs) (j_ ds) D ds.length i=some x→stat (bR m.xs) (j_ ds) D ds.length j=some y→i=j
end
def Mh (b0:Nat) (del:List Nat) (loc:Tr bN) (w w':World) (n n':Nat) (R1 R2:aX):Prop :=
 Ext (iN R1 n) R2∧(∀ i g,R2 i=some g→iN R1 n i=some g∨(n≤i∧(w.heap.size≤g.b∨∃ p b,b0≤p∧fW del p=true∧aH loc p=some b∧b.wr=true∧R1 p=some g)))∧w.heap.size≤w'.heap.size∧n≤n'
theorem b_.yZ {b0:Nat} {del:List Nat} {loc:Tr bN} {w w':World} {n n':Nat} {R1 R2:aX} (h:b_ w w' n n' (iN R1 n) R2):Mh b0 del loc w w' n n' R1 R2 :=
 ⟨h.1,fun i g hi=>(h.2.1 i g hi).imp (fun x=>x) fun h=>⟨h.2,.inl h.1⟩,h.2.2.1,h.2.2.2⟩
section
variable {base:Nat} {gN:List Deferred} {ds:List iF} {T:Tm} {m:aj} {ms:Nat→aj} {n0:Nat} {F:Nat→Prop} {w0:World} {R:aX} {w:World} {D:Nat→Bool} {R1:aX} {a:Act} {w1:World}
theorem sO.after (inv:sO gN ds T m ms n0 F w0 R w base D R1 a w1) {j:Nat} {d:iF} (hj:ds[j]?=some d) (hD:D j=false)
  (aec:(ms 0).next=m.next) (hmono:∀ i,i<ds.length→(ms i).next≤(ms (i+1)).next)
  (hT:∀ t,nq ds T.n j t≠none→∀ i,j<i→i<ds.length→D i=true→nq ds T.n i t=none)
  (hB:∀ id,gK ds j id≠none→∀ i,j<i→i<ds.length→D i=true→gK ds i id=none)
  (hXx:∀ id,j_ ds j id≠none→∀ i,j<i→i<ds.length→D i=true→j_ ds i id=none)
  (hxl:∀ i x,bR d.xs i=some x→(ms j).next≤i)
  (hRn:∀ i g,R i=some g→i<m.next) (Mi:∀ p,fW d.del p=true→gQ d.bl p=none) (Nw:∀ i x p,bR d.xs i=some x→fW d.del p=true→False)
  {loc:Tr bN} (Mj:∀ i b,aH loc i=some b→b.wr=true→(gQ d.bl i).isSome=true∨fW d.del i=true) (sD:∀ i b,aH loc i=some b→∃ c,stat (aH m.bl) (gK ds) D ds.length i=some c∧(b.wr=true→c.wr=true))
  (hsame:∀ i b,gQ d.bl i=some b→i<(ms j).next→∃ c,aH loc i=some c∧c.wr=b.wr)
  {R2:aX} {m1:aj} {w2:World} {u:Value} (hx:Mh base d.del loc w1 w2 (ms j).next m1.next R1 R2) (hn1:m1.next=(ms (j+1)).next)
  (hR:Rel w1.heap.size (fun k=>∃ i b g,aH loc i=some b∧b.wr=true∧R1 i=some g∧g.b=k∧(n0≤k∨F k)) w1 R2 m1 w2) (Nx:∀ i b,gQ d.bl i=some b→aH m1.bl i=some b) (hxs:∀ i x,bR d.xs i=some x→bR m1.xs i=some x) (hu:d.v.ok R2 u) :
  ∃ R3,sO gN ds T m ms n0 F w0 R w base (fun i=>i==j||D i) R3 (a.put d.dst u) w2:=by
 have hjl:j<ds.length:=(List.getElem?_eq_some_iff.1 hj).1
 have mono:∀ i k,i≤k→k≤ds.length→(ms i).next≤(ms k).next:=by
  intro i k hik
  induction k with
  | zero =>
   intro _
   obtain rfl:i=0:=(by omega)
   exact Nat.le_refl _
  | succ k ih =>
   intro hk
   by_cases e:i=k+1
   ·rw [e];exact Nat.le_refl _
   ·exact Nat.le_trans (ih (by omega) (by omega)) (hmono k (by omega))
 have hold:∀ i g,R1 i=some g→¬ ((ms j).next≤i∧i<(ms (j+1)).next):=by
  rintro i g hi ⟨h1,h2⟩
  rcases inv.dom i g hi with h | ⟨k,hk,GX,h3,h4⟩
  ·have:=mono 0 j (by omega) (by omega)
   omega
  ·have hne:k≠j:=by rintro rfl;rw [hD] at GX;cases GX
   rcases Nat.lt_or_ge k j with hlt | hge
   ·have:=mono (k+1) j (by omega) (by omega);omega
   ·have:=mono (j+1) k (by omega) (by omega);omega
 let Al:Loc→Prop:=fun g=>∃ p b,base≤p∧fW d.del p=true∧aH loc p=some b∧b.wr=true∧R1 p=some g
 have hnew:∀ i g,R2 i=some g→(R1 i=some g∧i<(ms j).next)∨((w1.heap.size≤g.b∨Al g)∧(ms j).next≤i∧i<(ms (j+1)).next):=by
  intro i g hi
  have hlt:=hR.nx i g hi
  rw [hn1] at hlt
  rcases hx.2.1 i g hi with h | ⟨h1,h2⟩
  ·unfold iN at h
   split at h
   ·rename_i hlt';exact .inl ⟨h,hlt'⟩
   ·cases h
  ·exact .inr ⟨h2,h1,hlt⟩
 let R3:aX:=fun i=>if (ms j).next≤i∧i<(ms (j+1)).next then R2 i else R1 i
 have e1:Ext R1 R3:=by
  intro i g hi
  show (if _ then _ else _)=_
  rw [if_neg (hold i g hi)]
  exact hi
 have e2:Ext R2 R3:=by
  intro i g hi
  show (if _ then _ else _)=_
  rcases hnew i g hi with ⟨h1,h2⟩ | ⟨_,h2,h3⟩
  ·rw [if_neg (by omega)];exact h1
  ·rw [if_pos ⟨h2,h3⟩];exact hi
 have gJ:∀ i g,R3 i=some g→R1 i=some g∨(R2 i=some g∧(w1.heap.size≤g.b∨Al g)∧(ms j).next≤i∧i<(ms (j+1)).next):=by
  intro i g hi
  replace hi:(if (ms j).next≤i∧i<(ms (j+1)).next then R2 i else R1 i)=some g:=hi
  split at hi
  ·rename_i hr
   rcases hnew i g hi with ⟨_,h2⟩ | ⟨h1,_⟩
   ·omega
   ·exact .inr ⟨hi,h1,hr⟩
  ·exact .inl hi
 have hm0:m.next≤(ms j).next:=aec ▸ mono 0 j (by omega) (by omega)
 have u_:∀ {i x},stat (bR m.xs) (j_ ds) (fun i=>i==j||D i) ds.length i=some x→bR d.xs i=some x∨(bR d.xs i=none∧stat (bR m.xs) (j_ ds) D ds.length i=some x):=by
  intro i x hx'
  rw [zF hjl hD (hXx i)] at hx'
  unfold j_ at hx'
  rw [hj] at hx'
  dsimp only at hx'
  cases hg:bR d.xs i with
  | some c =>
   rw [hg] at hx'
   simp only [Option.map_some,Option.getD_some,Option.some.injEq] at hx'
   exact .inl (congrArg some hx')
  | none =>
   rw [hg] at hx'
   simp only [Option.map_none,Option.getD_none] at hx'
   exact .inr ⟨rfl,hx'⟩
 refine ⟨R3,?_,?_,inv.ext.trans e1,?_,?_,?_,?_,?_,?_,?_,?_,?_,?_,?_⟩
 ·rw [Wp];exact inv.defers
 ·rw [← inv.size]
  cases d.dst <;> simp [Act.put]
 ·intro i g hi
  rcases gJ i g hi with h | ⟨_,h2,h3,_⟩
  ·exact inv.new i g h
  ·rcases h2 with h2 | ⟨p,b,h4,_,_,_,h5⟩
   ·exact .inr ⟨by omega,.inl (Nat.le_trans inv.K1 h2)⟩
   ·rcases inv.new p g h5 with h6 | ⟨_,h6⟩
    ·exact .inr ⟨by omega,.inr ⟨p,h4,h6⟩⟩
    ·exact .inr ⟨by omega,h6⟩
 ·exact Nat.le_trans inv.K1 hx.2.2.1
 ·intro t x ht
  rw [zF hjl hD (hT t)] at ht
  unfold nq at ht
  rw [hj] at ht
  dsimp only at ht
  by_cases hc:d.dst=some t∧t<T.n
  ·rw [if_pos hc,Option.getD_some] at ht
   cases ht
   refine ⟨u,?_,SV.mono e2 hu⟩
   rw [hc.1]
   simp only [Act.put]
   rw [Array.getElem?_setIfInBounds_self_of_lt (by rw [inv.size];exact hc.2)]
  ·rw [if_neg hc,Option.getD_none] at ht
   obtain ⟨v,h1,h2⟩:=inv.tm t x ht
   refine ⟨v,?_,SV.mono e1 h2⟩
   cases hd:d.dst with
   | none=>exact h1
   | some t' =>
    have hne:t'≠t:=by
     rintro rfl
     have hlt:t'<a.tmps.size:=(Array.getElem?_eq_some_iff.1 h1).1
     exact hc ⟨hd,inv.size ▸ hlt⟩
    simp only [Act.put]
    rw [Array.getElem?_setIfInBounds_ne hne]
    exact h1
 ·intro i k g h b c hi hk GY hb hc hw
  have Vf:∀ i b,stat (aH m.bl) (gK ds) (fun i=>i==j||D i) ds.length i=some b→(∃ c,gQ d.bl i=some c∧c=b)∨(gQ d.bl i=none∧stat (aH m.bl) (gK ds) D ds.length i=some b):=by
   intro i b hb
   rw [zF hjl hD (hB i)] at hb
   unfold gK at hb
   rw [hj] at hb
   dsimp only at hb
   cases hg:gQ d.bl i with
   | some c =>
    rw [hg] at hb
    simp only [Option.getD_some,Option.some.injEq] at hb
    exact .inl ⟨c,rfl,hb⟩
   | none =>
    rw [hg] at hb
    dsimp only at hb
    split at hb
    ·cases hb
    ·exact .inr ⟨rfl,hb⟩
  have gone:∀ p b,fW d.del p=true→stat (aH m.bl) (gK ds) (fun i=>i==j||D i) ds.length p=some b→False:=by
   intro p b hp hb
   rw [zF hjl hD (hB p)] at hb
   unfold gK at hb
   rw [hj] at hb
   dsimp only at hb
   rw [Mi p hp] at hb
   dsimp only at hb
   rw [if_pos hp] at hb
   cases hb
  have alias:∀ i k g h b c,R1 i=some g→stat (aH m.bl) (gK ds) (fun i=>i==j||D i) ds.length i=some b→aH m1.bl k=some c→w1.heap.size≤h.b∨Al h→g.b=h.b→(∀ b' ,R1 i=some g→stat (aH m.bl) (gK ds) D ds.length i=some b'→True)→(∃ b',stat (aH m.bl) (gK ds) D ds.length i=some b')→False:=by
   intro i k g h b c h1 hb _ h2 he _ hb'
   rcases h2 with h2 | ⟨p,bp,_,h4,h5,h6,h7⟩
   ·have:=inv.lt i g h1;omega
   ·obtain ⟨cp,h8,h9⟩:=sD p bp h5
    obtain ⟨b',hb'⟩:=hb'
    obtain rfl:i=p:=inv.inj i p g h b' cp h1 h7 he hb' h8 (.inr (h9 h6))
    exact gone i b h4 hb
  have old:∀ i b g,stat (aH m.bl) (gK ds) (fun i=>i==j||D i) ds.length i=some b→R1 i=some g→∃ b',stat (aH m.bl) (gK ds) D ds.length i=some b'∧(b.wr=true→b'.wr=true):=by
   intro i b g hb hg
   rcases Vf i b hb with ⟨c,h1,rfl⟩ | ⟨_,h2⟩
   ·have hlt:i<(ms j).next:=by
     have h2:=hold i g hg
     have h3:=hR.dS i c (Nx i c h1)
     obtain ⟨g',_,_,k1,_⟩:=h3
     have:=hR.nx i g' k1
     rw [hn1] at this
     omega
    obtain ⟨c',k1,k2⟩:=hsame i c h1 hlt
    obtain ⟨c2,k3,k4⟩:=sD i c' k1
    exact ⟨c2,k3,fun hw=>k4 (by rw [k2];exact hw)⟩
   ·exact ⟨b,h2,id⟩
  have new:∀ i b g,stat (aH m.bl) (gK ds) (fun i=>i==j||D i) ds.length i=some b→R2 i=some g→(ms j).next≤i→i<(ms (j+1)).next→aH m1.bl i=some b:=by
   intro i b g hb hg h1 h2
   rcases Vf i b hb with ⟨c,h1,rfl⟩ | ⟨_,h3⟩
   ·exact Nx i c h1
   ·obtain ⟨g',_,_,k1,_⟩:=inv.dS i b h3
    exact (hold i g' k1 ⟨h1,h2⟩).elim
  rcases gJ i g hi with h1 | ⟨h1,h2,h3,h4⟩ <;> rcases gJ k h hk with k1 | ⟨k1,k2,k3,k4⟩
  ·obtain ⟨b',e1,e2⟩:=old i b g hb h1
   obtain ⟨c',e3,e4⟩:=old k c h hc k1
   exact inv.inj i k g h b' c' h1 k1 GY e1 e3 (hw.imp e2 e4)
  ·obtain ⟨b',e1,_⟩:=old i b g hb h1
   exact (alias i k g h b c h1 hb (new k c h hc k1 k3 k4) k2 GY (fun _ _ _=>trivial) ⟨b',e1⟩).elim
  ·obtain ⟨c',e1,_⟩:=old k c h hc k1
   exact (alias k i h g c b k1 hc (new i b g hb h1 h3 h4) h2 GY.symm (fun _ _ _=>trivial) ⟨c',e1⟩).elim
  ·exact hR.inj i k g h b c h1 k1 GY (new i b g hb h1 h3 h4) (new k c h hc k1 k3 k4) hw
 ·intro i g hi
  rcases gJ i g hi with h1 | ⟨h1,_⟩
  ·exact Nat.lt_of_lt_of_le (inv.lt i g h1) hx.2.2.1
  ·exact hR.lt i g h1
 ·intro i g hi
  rcases gJ i g hi with h1 | ⟨_,_,h3,h4⟩
  ·rcases inv.dom i g h1 with h | ⟨k,hk,GX,h5⟩
   ·exact .inl h
   ·exact .inr ⟨k,hk,by simp [GX],h5⟩
  ·exact .inr ⟨j,hjl,by simp,h3,h4⟩
 ·intro i b hb
  rw [zF hjl hD (hB i)] at hb
  unfold gK at hb
  rw [hj] at hb
  dsimp only at hb
  cases hg:gQ d.bl i with
  | some c =>
   rw [hg] at hb
   simp only [Option.getD_some,Option.some.injEq] at hb
   subst hb
   obtain ⟨g,cs,fz,h1,h2,hs,h3,h4⟩:=hR.dS i c (Nx i c hg)
   refine ⟨g,cs,fz,e2 _ _ h1,h2,hs,SA.qG e2 h3,fun hw=>?_⟩
   obtain ⟨h5,h6⟩:=h4 hw
   refine ⟨?_,h6⟩
   rcases h5 with h5 | ⟨_,_,_,_,_,_,_,h5⟩
   ·exact .inl (Nat.le_trans inv.base h5)
   ·exact h5
  | none =>
   rw [hg] at hb
   dsimp only at hb
   split at hb
   ·cases hb
   rename_i hnd
   have hb:stat (aH m.bl) (gK ds) D ds.length i=some b:=hb
   obtain ⟨g,cs,fz,h1,h2,hs,h3,h4⟩:=inv.dS i b hb
   refine ⟨g,cs,fz,e1 _ _ h1,?_,hs,SA.qG e1 h3,h4⟩
   rw [← h2]
   refine hR.fr.block g.b (inv.lt _ _ h1) ?_
   rintro ⟨i',b',g',k1,k2,k3,k4,_⟩
   obtain ⟨c',k5,k6⟩:=sD i' b' k1
   obtain rfl:i'=i:=inv.inj _ _ _ _ _ _ k3 h1 k4 k5 hb (.inl (k6 k2))
   rcases Mj i' b' k1 k2 with this | this
   ·rw [hg] at this
    cases this
   ·exact hnd this
 ·exact Nat.le_trans inv.base hx.2.2.1
 ·refine inv.fr.trans ⟨hR.fr.os,hR.fr.tape,hR.fr.output,hR.fr.size,fun k hk hf=>hR.fr.block k (by have:=inv.base;omega) ?_,fun k cs ty fz hk hc=>hR.fr.sN k cs ty fz (by have:=inv.base;omega) hc⟩
  rintro ⟨_,_,_,_,_,_,_,h | h⟩
  ·omega
  ·exact hf h
 ·intro i x hx'
  rcases u_ hx' with h | ⟨_,h⟩
  ·obtain ⟨g,o,k1,k2,k3,k4⟩:=hR.Ny (fun k hF=>by
    obtain ⟨i',b',g',l1,l2,l3,l4,_⟩:=hF
    obtain ⟨c',l5,l6⟩:=sD i' b' l1
    obtain ⟨g2,cs,fz,q1,q2,_⟩:=inv.dS i' c' l5
    have e:some g'=some g2:=l3.symm.trans q1
    cases e
    exact ⟨cs,_,fz,l4 ▸ q2⟩) i x (hxs i x h)
   exact ⟨g,o,e2 _ _ k1,k2,XO.mono e2 k3,fun hw=>.inl (Nat.le_trans inv.base (k4 hw))⟩
  ·obtain ⟨g,o,k1,k2,k3,k4⟩:=inv.xo i x h
   refine ⟨g,o,e1 _ _ k1,?_,XO.mono e1 k3,k4⟩
   rw [← k2]
   refine hR.fr.block g.b (inv.lt _ _ k1) ?_
   rintro ⟨i',b',g',l1,l2,l3,l4,_⟩
   obtain ⟨c',l5,l6⟩:=sD i' b' l1
   obtain ⟨g2,cs,fz,q1,q2,_⟩:=inv.dS i' c' l5
   have e:some g'=some g2:=l3.symm.trans q1
   cases e
   rw [l4,k2] at q2
   cases q2
   exact XO.zm k3 rfl
 ·intro i k gi gk x y hi hk hg hx' hy'
  have old:∀ {i x},stat (bR m.xs) (j_ ds) D ds.length i=some x→∃ g,R1 i=some g∧g.b<w1.heap.size:=fun h=>by
   obtain ⟨g,o,k1,k2,_⟩:=inv.xo _ _ h
   exact ⟨g,k1,(Array.getElem?_eq_some_iff.1 k2).1⟩
  have new:∀ {i x},bR d.xs i=some x→∃ g,R2 i=some g∧w1.heap.size≤g.b:=fun h=>by
   obtain ⟨g,o,k1,k2,_⟩:=hR.xo _ _ (hxs _ _ h)
   rcases hnew _ _ k1 with ⟨_,h3⟩ | ⟨h3 | ⟨p,_,_,h4,_⟩,_⟩
   ·have:=hxl _ _ h;omega
   ·exact ⟨g,k1,h3⟩
   ·exact (Nw _ _ p h h4).elim
  rcases u_ hx' with h1 | ⟨_,h1⟩ <;> rcases u_ hy' with h2 | ⟨_,h2⟩
  ·obtain ⟨g1,p1,_⟩:=new h1
   obtain ⟨g2,p2,_⟩:=new h2
   have q1:some gi=some g1:=hi.symm.trans (e2 _ _ p1)
   have q2:some gk=some g2:=hk.symm.trans (e2 _ _ p2)
   cases q1
   cases q2
   exact hR.xi i k _ _ x y p1 p2 hg (hxs _ _ h1) (hxs _ _ h2)
  ·obtain ⟨g1,p1,p3⟩:=new h1
   obtain ⟨g2,p2,p4⟩:=old h2
   have q1:some gi=some g1:=hi.symm.trans (e2 _ _ p1)
   have q2:some gk=some g2:=hk.symm.trans (e1 _ _ p2)
   cases q1
   cases q2
   omega
  ·obtain ⟨g1,p1,p3⟩:=old h1
   obtain ⟨g2,p2,p4⟩:=new h2
   have q1:some gi=some g1:=hi.symm.trans (e1 _ _ p1)
   have q2:some gk=some g2:=hk.symm.trans (e2 _ _ p2)
   cases q1
   cases q2
   omega
  ·obtain ⟨g1,p1,_⟩:=old h1
   obtain ⟨g2,p2,_⟩:=old h2
   have q1:some gi=some g1:=hi.symm.trans (e1 _ _ p1)
   have q2:some gk=some g2:=hk.symm.trans (e1 _ _ p2)
   cases q1
   cases q2
   exact inv.xi i k _ _ x y p1 p2 hg h1 h2
end
theorem Hz {P:Program} {ops:Array Oper} {Q:Exit→Act→World→Prop} {j:Nat} {o:Oper} {K:Act→World→Prop} {a:Act} {w w':World} {v:Value} (ho:ops[j]?=some o) (hw:Region.wanted o (yielded ops a.tmps)=true)
  (h:Ends P a o w w' v) (hK:K (a.put o.dst v) w'):wpOp P ops Q j K a w:=by
 unfold wpOp
 simp only [ho,hw,if_true]
 refine .inl ?_
 unfold Oper.wp
 rcases h with h | ⟨h,rfl⟩ <;> rw [h] <;> exact hK
theorem HT {P:Program} {ops:Array Oper} {Q:Exit→Act→World→Prop} {j:Nat} {o:Oper} {K:Act→World→Prop} {a:Act} {w w':World} {g:FuncId} {args:Array Value} {Φ:Value→World→Prop} (ho:ops[j]?=some o)
  (hw:Region.wanted o (yielded ops a.tmps)=true) (h:(execOp a.eval o).run P w=.ok (.enter g args) w') (hc:lT P g args w' Φ) (hK:∀ v w2,Φ v w2→K (a.put o.dst v) w2):wpOp P ops Q j K a w:=by
 unfold wpOp
 simp only [ho,hw,if_true]
 refine .inl ?_
 unfold Oper.wp
 rw [h]
 refine Calls.mono hc ?_
 rintro e w2 ⟨v,rfl,hv⟩
 exact hK v w2 hv
section
variable {E:Env} (hE:bf E) {r:Nat→List av→aj→Tree} (hr:xP E r)
include hE hr
theorem abz {ops:Array Oper} {o:Oper} {j:Nat} {b0:Nat} {T:Tm} {m:aj} {d:iF} {n1:Nat} (h:m7 E r ops o b0 T m d n1) (ho:ops[j]?=some o) {R1:aX} {a:Act} {w1:World} {X:Nat→Prop}
  (hT:dY (iN R1 m.next) T a)
  (hR:∀ wr,Rel w1.heap.size (fun k=>∃ i b g,aH (bV m.next wr m.bl d.aZ) i=some b∧b.wr=true∧R1 i=some g∧g.b=k∧X k) w1 (iN R1 m.next) ⟨m.next,bV m.next wr m.bl d.aZ,kE m.xs m.next d.aZ⟩ w1) :
  d.dst=o.dst∧d.looks=o.looksAt ops∧(∀ i x,bR d.xs i=some x→m.next≤i)∧(∀ p,fW d.del p=true→gQ d.bl p=none)∧(∀ i x p,bR d.xs i=some x→fW d.del p=true→False) ∧
   ∃ loc:Tr bN,(∀ i b,aH loc i=some b→b.wr=true→(gQ d.bl i).isSome=true∨fW d.del i=true) ∧
   (∀ i b,gQ d.bl i=some b→i<m.next→∃ c,aH loc i=some c∧c.wr=b.wr)∧(∀ i b,aH loc i=some b→i∈d.aZ∧∃ c,aH m.bl i=some c∧(b.wr=true→c.wr=true)) ∧
   ∀ (K:Act→World→Prop) (Q:Exit→Act→World→Prop),(∀ R2 m1 w2 u,Mh b0 d.del loc w1 w2 m.next m1.next R1 R2→m1.next=n1 →
    Rel w1.heap.size (fun k=>∃ i b g,aH loc i=some b∧b.wr=true∧R1 i=some g∧g.b=k∧X k) w1 R2 m1 w2→(∀ i b,gQ d.bl i=some b→aH m1.bl i=some b)→(∀ i x,bR d.xs i=some x→bR m1.xs i=some x)→d.v.ok R2 u →
    K (a.put d.dst u) w2)→wpOp E.P ops Q j K a w1:=by
 have below:∀ (wr:Bool) (aZ:List Nat) i b,aH (bV m.next wr m.bl aZ) i=some b→i∈aZ∧∃ c,aH m.bl i=some c∧(b.wr=true→c.wr=true):=by
  intro wr aZ i b hb
  obtain ⟨h1,c,h2,_,rfl⟩:=kT hb
  refine ⟨h1,c,h2,fun hw=>?_⟩
  simp only [Bool.and_eq_true] at hw
  exact hw.1
 have nh:∀ {p:Nat},fW [] p=true→False:=fun h=>by cases h
 have GZ:∀ (aZ:List Nat) i b,aH (bV m.next false m.bl aZ) i=some b→b.wr=true→False:=by
  intro aZ i b hb hw
  obtain ⟨_,c,_,_,rfl⟩:=kT hb
  simp at hw
 have keep:∀ {x y:Tr bN} {aZ up:List Nat},sA x y aZ=true→∀ i b,i∈aZ→aH x i=some b→(gQ (collect y (aZ++up)) i).isSome=true:=by
  intro x y aZ up hk i b hi hb
  obtain ⟨c,hc⟩:=HU hk hi hb
  rw [CB hc (List.mem_append_left _ hi)]
  rfl
 have same:∀ {n k:Nat} {x y:Tr bN} {aZ:List Nat},sC x y aZ=true→∀ i b,gQ (collect y (aZ++m8 k n)) i=some b→i<n→∃ c,aH x i=some c∧c.wr=b.wr:=by
  intro n k x y aZ hk i b hb hi
  obtain ⟨h1,h2⟩:=lK hb
  rcases List.mem_append.1 h1 with h1 | h1
  ·exact HV hk h1 h2
  ·have:=oA h1
   omega
 have G0:∀ {bl:Tr bN} {xs:List XB} {n0:Nat} {F:Nat→Prop} {w0 w:World} {R:aX},Rel n0 F w0 R ⟨m.next,bl,xs⟩ w→Rel n0 F w0 R ⟨m.next,bl,[]⟩ w:=fun h =>
  ⟨h.inj,h.lt,h.nx,h.dS,h.base,h.fr,fun _ _ hx=>(by cases hx),fun _ _ _ _ _ _ _ _ _ hx=>(by cases hx),h.gl⟩
 cases h with
 | skip hw hb =>
  have jP:=tO hw hT
  rw [hb] at jP
  refine ⟨rfl,rfl,fun _ _ h=>(by cases h),fun _ h=>(nh h).elim,fun _ _ _ _ h=>nh h,bV m.next false m.bl [],fun i b h1 h2=>(GZ _ i b h1 h2).elim,fun i b hb=>(by cases hb),below _ _,fun K Q hK=>?_⟩
  unfold wpOp
  simp only [ho,jP,Bool.false_eq_true,if_false]
  exact hK _ ⟨m.next,bV m.next false m.bl [],[]⟩ w1 undef (b_.yZ (b_.refl _ _ _)) rfl (hR false) (fun i b hb=>by cases hb) (fun i x hx=>by cases hx) ⟨#[],rfl,trivial⟩
 | mh hw hb jG BM F2 hk1 hk2 =>
  have jP:=tO hw hT
  rw [hb] at jP
  obtain ⟨fn,hfn,hbd,BN⟩:=hE.mh _ _ _ _ _ BM F2
  obtain ⟨hpf,Cl⟩:=hE.fns _ _ hfn
  obtain ⟨args,mj,tq⟩:=IA (w:=w1) jG hT hpf Cl hbd
  rename_i b1 g1 l1 t1 v1 m1
  generalize hfo:reach m.bl 8 _=aZ at *
  have sub:∀ i b,aH (bV m.next true m.bl (jQ (bV m.next true m.bl aZ) m1.bl aZ)) i=some b→i∈jQ (bV m.next true m.bl aZ) m1.bl aZ∧aH (bV m.next true m.bl aZ) i=some b:=by
   intro i b hb
   obtain ⟨e1,c,e2,e3,rfl⟩:=kT hb
   exact ⟨e1,rL e2 e3 (mZ e1).1⟩
  have sup:∀ i b,aH (bV m.next true m.bl aZ) i=some b→gz (bV m.next true m.bl aZ) m1.bl i=false→aH (bV m.next true m.bl (jQ (bV m.next true m.bl aZ) m1.bl aZ)) i=some b:=by
   intro i b hb hl
   obtain ⟨e1,c,e2,e3,rfl⟩:=kT hb
   exact rL e2 e3 (PY e1 hl)
  have lt:∀ i b,aH (bV m.next true m.bl aZ) i=some b→i<m.next:=by
   intro i b hb
   obtain ⟨_,c,_,e3,_⟩:=kT hb
   simp only [Bool.and_eq_true] at e3
   exact by simpa using e3.1
  refine ⟨rfl,rfl,fun i x h=>(oB h).1,fun _ h=>(nh h).elim,fun _ _ _ _ h=>nh h,bV m.next true m.bl (jQ (bV m.next true m.bl aZ) m1.bl aZ),fun i b h1 _=>.inl ?_,fun i b hb hi=>?_,fun i b hb=>?_,fun K Q hK=>?_⟩
  ·obtain ⟨e1,e2⟩:=sub i b h1
   obtain ⟨c,hc⟩:=HU hk1 (mZ e1).1 e2
   rw [CB hc (List.mem_append_left _ e1)]
   rfl
  ·obtain ⟨e1,e2⟩:=lK hb
   rcases List.mem_append.1 e1 with e1 | e1
   ·obtain ⟨y,hy,hw⟩:=HV hk2 (mZ e1).1 e2
    exact ⟨y,sup i y hy (mZ e1).2,hw⟩
   ·have:=oA e1
    omega
  ·obtain ⟨e1,e2⟩:=sub i b hb
   exact ⟨(mZ e1).1,(below true aZ i b e2).2⟩
  refine HT ho jP tq (BN _ _ _ w1 _ args mj (G0 (hR true))) ?_
  rintro u w2 ⟨s,m2,R2,⟨rfl,rfl⟩,h1,h2,h3⟩
  have un:∀ i,fW (aZ.filter (gz (bV m.next true m.bl aZ) m2.bl)) i=true↔i∈aZ∧gz (bV m.next true m.bl aZ) m2.bl i=true:=by
   intro i
   rw [oF,List.mem_filter]
  have Cm:∀ i x,gz (bV m.next true m.bl aZ) m2.bl i=true→aH (bV m.next true m.bl aZ) i=some x→i∈aZ:=fun i x _ hx=>(kT hx).1
  have hl:=Rel.left (R1:=R1) (fun i g h=>nI i g h) Cm (hR true) h2 h1.1
  have out:∀ {i b},aH (mR (aZ.filter (gz (bV m.next true m.bl aZ) m2.bl)) m2.bl) i=some b→aH m2.bl i=some b∧¬ (i∈aZ∧gz (bV m.next true m.bl aZ) m2.bl i=true):=by
   intro i b hb
   rw [wI] at hb
   split at hb
   ·cases hb
   ·rename_i hn
    exact ⟨hb,fun e=>hn ((un i).2 e)⟩
  have Nz:=h2.Ny (fun k hF=>by
   obtain ⟨i',b',g',l1,l2,l3,l4,_⟩:=hF
   obtain ⟨g2,cs,fz,q1,q2,_⟩:=(hR true).dS i' b' l1
   have e:some g'=some g2:=l3.symm.trans (nI i' g2 q1)
   cases e
   exact ⟨cs,_,fz,l4 ▸ q2⟩)
  refine hK R2 ⟨m2.next,mR (aZ.filter (gz (bV m.next true m.bl aZ) m2.bl)) m2.bl,m2.xs⟩ w2 u h1.yZ rfl ⟨?_,h2.lt,h2.nx,?_,h2.base,?_,(fun i x hx=>(Nz i x hx).imp fun _ h=>h.imp fun _ k=>⟨k.1,k.2.1,k.2.2.1,fun e=>.inl (k.2.2.2 e)⟩),h2.xi,?_⟩ (fun i b hb=>?_) (fun i x hx=>(oB hx).2) h3
  ·intro i j g h b c e1 e2 e3 e4 e5 e6
   exact h2.inj i j g h b c e1 e2 e3 (out e4).1 (out e5).1 e6
  ·intro i b hb
   obtain ⟨e1,e2⟩:=out hb
   obtain ⟨g,cs,fz,a1,a2,a3,a4,a5⟩:=h2.dS i b e1
   refine ⟨g,cs,fz,a1,a2,a3,a4,fun hw=>?_⟩
   obtain ⟨a6,a7⟩:=a5 hw
   refine ⟨a6.imp id ?_,a7⟩
   rintro ⟨j,d,g',q1,q2,q3,q4,q5⟩
   cases hu:gz (bV m.next true m.bl aZ) m2.bl j with
   | false=>exact ⟨j,d,g',sup j d q1 hu,q2,q3,q4,q5⟩
   | true =>
    obtain ⟨x,r1,r2,_⟩:=zG hu
    have hj:R2 j=some g':=h1.1 _ _ (rR q3 (lt j d q1))
    have e:i=j:=h2.inj i j g g' b x a1 hj q4.symm e1 r2 (.inl hw)
    rw [e] at e2
    exact absurd ⟨Cm j d hu q1,hu⟩ e2
  ·refine ⟨h2.fr.os,h2.fr.tape,h2.fr.output,h2.fr.size,fun k hk hf=>?_,h2.fr.sN⟩
   by_cases hF:∃ i b g,aH (bV m.next true m.bl aZ) i=some b∧b.wr=true∧R1 i=some g∧g.b=k∧X k
   ·obtain ⟨j,d,g',q1,q2,q3,q4,q5⟩:=hF
    cases hu:gz (bV m.next true m.bl aZ) m2.bl j with
    | false=>exact absurd ⟨j,d,g',sup j d q1 hu,q2,q3,q4,q5⟩ hf
    | true =>
     have:=hl j d g' hu q1 q2 q3
     rw [q4] at this
     exact this
   ·exact h2.fr.block k hk hF
  ·intro g cs hg
   obtain ⟨a1,a2,a3⟩:=h2.gl g cs hg
   refine ⟨a1,?_,a3⟩
   rintro ⟨j,d,g',q1,q2,q3,q4,q5⟩
   exact a2 ⟨j,d,g',(sub j d q1).2,q2,q3,q4,q5⟩
  ·obtain ⟨e1,e2⟩:=lK hb
   show aH (mR _ _) i=some b
   rw [wI]
   have hn:¬ fW (aZ.filter (gz (bV m.next true m.bl aZ) m2.bl)) i=true:=by
    intro e
    obtain ⟨q1,q2⟩:=(un i).1 e
    rcases List.mem_append.1 e1 with e1 | e1
    ·rw [(mZ e1).2] at q2
     cases q2
    ·obtain ⟨x,r1,_,_⟩:=zG q2
     have:=oA e1
     have:=lt i x r1
     omega
   rw [if_neg hn]
   exact e2
 | call hw hb jG hfn hc F2 hk1 hk2 =>
  rename_i b g l fn c v m1 wf
  have jP:=tO hw hT
  rw [hb] at jP
  obtain ⟨hpf,Cl⟩:=hE.fns _ _ hfn
  obtain ⟨args,mj,tq⟩:=IA (w:=w1) jG hT hpf Cl (by rw [hc];rfl)
  cases wf with
  | false =>
   refine ⟨rfl,rfl,fun i x h=>(oB h).1,fun _ h=>(nh h).elim,fun _ _ _ _ h=>nh h,bV m.next false m.bl _,fun i b h1 h2=>(GZ _ i b h1 h2).elim,fun i b hb hi=>?_,below _ _,fun K Q hK=>?_⟩
   ·have:=oA (lK hb).1
    omega
   ·have BN:=OK hE hr hfn hc mj (G0 (hR false)) F2
    refine HT ho jP tq BN ?_
    rintro u w2 ⟨s,m2,R2,⟨rfl,rfl⟩,h1,h2,h3⟩
    exact hK R2 _ w2 u h1.yZ rfl h2 (fun i b hb=>(lK hb).2) (fun i x hx=>(oB hx).2) h3
  | true =>
   generalize hfo:reach m.bl 8 _=aZ at *
   have sub:∀ i b,aH (bV m.next true m.bl (jQ (bV m.next true m.bl aZ) m1.bl aZ)) i=some b→i∈jQ (bV m.next true m.bl aZ) m1.bl aZ∧aH (bV m.next true m.bl aZ) i=some b:=by
    intro i b hb
    obtain ⟨e1,c,e2,e3,rfl⟩:=kT hb
    exact ⟨e1,rL e2 e3 (mZ e1).1⟩
   have sup:∀ i b,aH (bV m.next true m.bl aZ) i=some b→gz (bV m.next true m.bl aZ) m1.bl i=false→aH (bV m.next true m.bl (jQ (bV m.next true m.bl aZ) m1.bl aZ)) i=some b:=by
    intro i b hb hl
    obtain ⟨e1,c,e2,e3,rfl⟩:=kT hb
    exact rL e2 e3 (PY e1 hl)
   have lt:∀ i b,aH (bV m.next true m.bl aZ) i=some b→i<m.next:=by
    intro i b hb
    obtain ⟨_,c,_,e3,_⟩:=kT hb
    simp only [Bool.and_eq_true] at e3
    exact by simpa using e3.1
   simp only [if_true]
   refine ⟨by first | rfl | trivial,by first | rfl | trivial,fun i x h=>(oB h).1,fun _ h=>(nh h).elim,fun _ _ _ _ h=>nh h,bV m.next true m.bl (jQ (bV m.next true m.bl aZ) m1.bl aZ),fun i b h1 _=>.inl ?_,fun i b hb hi=>?_,fun i b hb=>?_,fun K Q hK=>?_⟩
   ·obtain ⟨e1,e2⟩:=sub i b h1
    obtain ⟨c,hc⟩:=HU hk1 (mZ e1).1 e2
    rw [CB hc (List.mem_append_left _ e1)]
    rfl
   ·obtain ⟨e1,e2⟩:=lK hb
    rcases List.mem_append.1 e1 with e1 | e1
    ·obtain ⟨y,hy,hw⟩:=HV hk2 (mZ e1).1 e2
     exact ⟨y,sup i y hy (mZ e1).2,hw⟩
    ·have:=oA e1
     omega
   ·obtain ⟨e1,e2⟩:=sub i b hb
    exact ⟨(mZ e1).1,(below true aZ i b e2).2⟩
   refine HT ho jP tq (OK hE hr hfn hc mj (G0 (hR true)) F2) ?_
   rintro u w2 ⟨s,m2,R2,⟨rfl,rfl⟩,h1,h2,h3⟩
   have un:∀ i,fW (aZ.filter (gz (bV m.next true m.bl aZ) m2.bl)) i=true↔i∈aZ∧gz (bV m.next true m.bl aZ) m2.bl i=true:=by
    intro i
    rw [oF,List.mem_filter]
   have Cm:∀ i x,gz (bV m.next true m.bl aZ) m2.bl i=true→aH (bV m.next true m.bl aZ) i=some x→i∈aZ:=fun i x _ hx=>(kT hx).1
   have hl:=Rel.left (R1:=R1) (fun i g h=>nI i g h) Cm (hR true) h2 h1.1
   have out:∀ {i b},aH (mR (aZ.filter (gz (bV m.next true m.bl aZ) m2.bl)) m2.bl) i=some b→aH m2.bl i=some b∧¬ (i∈aZ∧gz (bV m.next true m.bl aZ) m2.bl i=true):=by
    intro i b hb
    rw [wI] at hb
    split at hb
    ·cases hb
    ·rename_i hn
     exact ⟨hb,fun e=>hn ((un i).2 e)⟩
   have Nz:=h2.Ny (fun k hF=>by
    obtain ⟨i',b',g',l1,l2,l3,l4,_⟩:=hF
    obtain ⟨g2,cs,fz,q1,q2,_⟩:=(hR true).dS i' b' l1
    have e:some g'=some g2:=l3.symm.trans (nI i' g2 q1)
    cases e
    exact ⟨cs,_,fz,l4 ▸ q2⟩)
   refine hK R2 ⟨m2.next,mR (aZ.filter (gz (bV m.next true m.bl aZ) m2.bl)) m2.bl,m2.xs⟩ w2 u h1.yZ rfl ⟨?_,h2.lt,h2.nx,?_,h2.base,?_,(fun i x hx=>(Nz i x hx).imp fun _ h=>h.imp fun _ k=>⟨k.1,k.2.1,k.2.2.1,fun e=>.inl (k.2.2.2 e)⟩),h2.xi,?_⟩ (fun i b hb=>?_) (fun i x hx=>(oB hx).2) h3
   ·intro i j g h b c e1 e2 e3 e4 e5 e6
    exact h2.inj i j g h b c e1 e2 e3 (out e4).1 (out e5).1 e6
   ·intro i b hb
    obtain ⟨e1,e2⟩:=out hb
    obtain ⟨g,cs,fz,a1,a2,a3,a4,a5⟩:=h2.dS i b e1
    refine ⟨g,cs,fz,a1,a2,a3,a4,fun hw=>?_⟩
    obtain ⟨a6,a7⟩:=a5 hw
    refine ⟨a6.imp id ?_,a7⟩
    rintro ⟨j,d,g',q1,q2,q3,q4,q5⟩
    cases hu:gz (bV m.next true m.bl aZ) m2.bl j with
    | false=>exact ⟨j,d,g',sup j d q1 hu,q2,q3,q4,q5⟩
    | true =>
     obtain ⟨x,r1,r2,_⟩:=zG hu
     have hj:R2 j=some g':=h1.1 _ _ (rR q3 (lt j d q1))
     have e:i=j:=h2.inj i j g g' b x a1 hj q4.symm e1 r2 (.inl hw)
     rw [e] at e2
     exact absurd ⟨Cm j d hu q1,hu⟩ e2
   ·refine ⟨h2.fr.os,h2.fr.tape,h2.fr.output,h2.fr.size,fun k hk hf=>?_,h2.fr.sN⟩
    by_cases hF:∃ i b g,aH (bV m.next true m.bl aZ) i=some b∧b.wr=true∧R1 i=some g∧g.b=k∧X k
    ·obtain ⟨j,d,g',q1,q2,q3,q4,q5⟩:=hF
     cases hu:gz (bV m.next true m.bl aZ) m2.bl j with
     | false=>exact absurd ⟨j,d,g',sup j d q1 hu,q2,q3,q4,q5⟩ hf
     | true =>
      have:=hl j d g' hu q1 q2 q3
      rw [q4] at this
      exact this
    ·exact h2.fr.block k hk hF
   ·intro g cs hg
    obtain ⟨a1,a2,a3⟩:=h2.gl g cs hg
    refine ⟨a1,?_,a3⟩
    rintro ⟨j,d,g',q1,q2,q3,q4,q5⟩
    exact a2 ⟨j,d,g',(sub j d q1).2,q2,q3,q4,q5⟩
   ·obtain ⟨e1,e2⟩:=lK hb
    show aH (mR _ _) i=some b
    rw [wI]
    have hn:¬ fW (aZ.filter (gz (bV m.next true m.bl aZ) m2.bl)) i=true:=by
     intro e
     obtain ⟨q1,q2⟩:=(un i).1 e
     rcases List.mem_append.1 e1 with e1 | e1
     ·rw [(mZ e1).2] at q2
      cases q2
     ·obtain ⟨x,r1,_,_⟩:=zG q2
      have:=oA e1
      have:=lt i x r1
      omega
    rw [if_neg hn]
    exact e2
 | op hw hb hx hq hk1 hk2 =>
  rename_i b q v m1
  have jP:=tO hw hT
  rw [hb] at jP
  refine ⟨rfl,rfl,fun i x h=>(oB h).1,fun _ h=>(nh h).elim,fun _ _ _ _ h=>nh h,bV m.next (oD o.op) m.bl _,fun i b h1 h2=>?_,fun i b hb hi=>?_,below _ _,fun K Q hK=>?_⟩
  ·cases rA:oD o.op with
   | true=>rw [rA] at h1 hk1;simp only [if_true];exact .inl (keep hk1 i b (kT h1).1 h1)
   | false=>rw [rA] at h1;exact (GZ _ i b h1 h2).elim
  ·cases rA:oD o.op with
   | true=>rw [rA] at hk2 hb;exact same hk2 i b hb hi
   | false =>
    rw [rA] at hb
    have:=oA (lK hb).1
    omega
  ·obtain ⟨R2,w2,u,h1,h2,h3,h4⟩:=Q0 hx hq hT (hR (oD o.op))
   refine Hz ho jP h4 (hK R2 m1 w2 u h1.yZ rfl h2 (fun i b hb=>(lK hb).2) (fun i x hx=>(oB hx).2) h3)
 | T3 hw hb ry hx =>
  have jP:=tO hw hT
  rw [hb] at jP
  refine ⟨rfl,rfl,fun _ _ h=>(by cases h),fun _ h=>(nh h).elim,fun _ _ _ _ h=>nh h,bV m.next false m.bl [],fun i b h1 h2=>(GZ _ i b h1 h2).elim,fun i b hb=>(by cases hb),below _ _,fun K Q hK=>?_⟩
  obtain ⟨u,h3,h4⟩:=Yr (w:=w1) hx (ry.ok hT)
  exact Hz ho jP h4 (hK _ ⟨m.next,bV m.next false m.bl [],[]⟩ w1 u (b_.yZ (b_.refl _ _ _)) rfl (G0 (hR false)) (fun i b hb=>by cases hb) (fun i x hx=>by cases hx) h3)
 | app hw hb ry hx hq hk =>
  rename_i b q v m1 T0
  have jP:=tO hw hT
  rw [hb] at jP
  have hk':∀ p,fW (nP T o.op) p=true→p<m.next:=fun p hp=>by
   have:=pX.1 hk p (oF.1 hp)
   simp only [Bool.and_eq_true] at this
   simpa using this.1
  have NA:Rel w1.heap.size (fun k=>∃ i b g,aH (rX m.next m.bl (rQ T o.op) (nP T o.op)) i=some b∧b.wr=true∧R1 i=some g∧g.b=k∧X k) w1 (iN R1 m.next)
    ⟨m.next,rX m.next m.bl (rQ T o.op) (nP T o.op),[]⟩ w1:=by
   have h0:=hR true
   have up:∀ i b,aH (rX m.next m.bl (rQ T o.op) (nP T o.op)) i=some b→∃ c,aH (bV m.next true m.bl (rQ T o.op)) i=some c∧b.arr=c.arr∧b.ty=c.ty∧(b.wr=true→c.wr=true):=by
    intro i b hb
    obtain ⟨h1,c,h2,h3,h4,h5,h6⟩:=CE hb
    exact ⟨_,rL h2 h3 h1,h4,h5,fun hw=>by simp [(h6 hw).1]⟩
   refine ⟨fun i k g h b c h1 h2 h3 h4 h5 h6=>?_,h0.lt,h0.nx,fun i b hb=>?_,Nat.le_refl _,iz.refl _ _ _,fun _ _ hx=>(by cases hx),fun _ _ _ _ _ _ _ _ _ hx=>(by cases hx),fun g cs hg=>?_⟩
   ·obtain ⟨b',p1,_,_,p2⟩:=up i b h4
    obtain ⟨c',p3,_,_,p4⟩:=up k c h5
    exact h0.inj i k g h b' c' h1 h2 h3 p1 p3 (h6.imp p2 p4)
   ·obtain ⟨c,p1,p2,p3,p4⟩:=up i b hb
    obtain ⟨g,cs,fz,k1,k2,k3,k4,k5⟩:=h0.dS i c p1
    refine ⟨g,cs,fz,k1,by rw [p3];exact k2,k3,by rw [p2];exact k4,fun hw=>?_⟩
    obtain ⟨k6,k7⟩:=k5 (p4 hw)
    refine ⟨?_,k7⟩
    rcases k6 with k6 | ⟨_,_,_,_,_,_,_,k8⟩
    ·exact .inl k6
    ·exact .inr ⟨i,b,g,hb,hw,nI _ _ k1,rfl,k8⟩
   ·obtain ⟨g1,g2,g3⟩:=h0.gl g cs hg
    refine ⟨g1,?_,g3⟩
    rintro ⟨i,b,g',q1,q2,q3,q4,q5⟩
    obtain ⟨c,p1,_,_,p4⟩:=up i b q1
    exact g2 ⟨i,c,g',p1,p4 q2,q3,q4,q5⟩
  refine ⟨rfl,rfl,fun i x h=>(by cases h),fun p hp=>?_,fun _ _ _ h=>(by cases h),rX m.next m.bl (rQ T o.op) (nP T o.op),fun i b h1 h2=>?_,fun i b hb hi=>?_,fun i b hb=>?_,fun K Q hK=>?_⟩
  ·cases hg:gQ (collect m1.bl (m8 (m1.next - m.next) m.next)) p with
   | none=>rfl
   | some c =>
    have h1:=oA (lK hg).1
    have h2:=hk' p hp
    omega
  ·obtain ⟨_,c,_,_,_,_,h6⟩:=CE h1
   exact .inr (oF.2 (h6 h2).2)
  ·have:=oA (lK hb).1
   omega
  ·obtain ⟨h1,c,h2,_,_,_,h6⟩:=CE hb
   exact ⟨h1,c,h2,fun hw=>(h6 hw).1⟩
  ·obtain ⟨R2,w2,u,h1,h2,h3,h4,h5⟩:=Q3 hx hq (ry.ok hT) NA
   refine Hz ho jP h5 (hK R2 m1 w2 u ⟨h1.1,fun i g hi=>(h1.2.1 i g hi).imp (fun x=>x) fun ⟨k1,k2⟩=>⟨k1,k2.imp (fun x=>x) fun ⟨p,b,k3,k4,k5,k6⟩=>?_⟩,h1.2.2,by rw [h2];exact Nat.le_succ _⟩ rfl h3 (fun i b hb=>(lK hb).2) (fun i x hx=>(by cases hx)) h4)
   obtain ⟨_,c,_,_,_,_,q6⟩:=CE k5
   exact ⟨p,b,k3,oF.2 (q6 k6).2,k5,k6,nI _ _ k4⟩
omit hE hr in
theorem qb {a b:List Nat} {x:Nat} (h1:x∈a) (h2:x∈b):meet a b=true:=by
 unfold meet
 cases h:gm (fun x=>!fW b x) a with
 | false=>rfl
 | true =>
  have:=pX.1 h x h1
  rw [oF.2 h2] at this
  cases this
omit hE hr in
theorem C5 {d:Option Nat} {t:Nat} (h:d=some t):t∈yu d:=by subst h;simp [yu]
omit hE hr in
theorem Zz {d:iF} {i:Nat} {b:bN} (h:gQ d.bl i=some b):i∈d.dom:=by
 unfold iF.dom
 refine List.mem_append_left _ (List.mem_append_left _ ?_)
 generalize d.bl=l at h
 induction l with
 | nil=>cases h
 | cons c l ih =>
  obtain ⟨k,c⟩:=c
  simp only [gQ] at h
  split at h
  ·rename_i e
   have e':k=i:=by simpa using e
   simp [e']
  ·simp [ih h]
omit hE hr in
theorem Ys {d:iF} {i:Nat} {b:XO} (h:bR d.xs i=some b):i∈d.dom:=by
 unfold iF.dom
 refine List.mem_append_left _ (List.mem_append_right _ ?_)
 generalize d.xs=l at h
 induction l with
 | nil=>cases h
 | cons c l ih =>
  simp only [bR] at h
  split at h
  ·rename_i e
   have e':c.id=i:=by simpa using e
   simp [e']
  ·simp [ih h]
omit hE hr in
theorem Oh {ops:Array Oper} {D:Nat→Bool} (jG:∀ j o,D j=true→ops[j]?=some o→∀ p∈m9 o,D p=true) {i j:Nat} (h:vX ops i j):(∀ o,ops[j]?=some o→∀ p∈m9 o,D p=true)→D i=true:=by
 induction h with
 | one h1 h2=>exact fun hp=>hp _ h1 _ h2
 | more h1 h2 _ ih=>exact fun hp=>ih fun o ho p hpo=>jG _ o (hp _ h1 _ h2) ho p hpo
theorem Q4:JV E r:=by
 intro id tag base ops T m n0 F w0 w R a next A B h hT hR
 unfold K3 at h
 obtain ⟨ds,T',m',h,hlen,Ts,ms,Vg,G1,Vh,G2,htr⟩:=N7 (fun _ _ h=>by cases h) h
 split at h
 case h_2=>exact h.elim
 rename_i aed
 refine ⟨T',_,h,fun b hb k cs=>?_⟩
 clear h
 have hn:ds.length=ops.size:=by rw [hlen,Array.length_toList]
 have ve:∀ j d,ds[j]?=some d→∃ o T0,ops[j]?=some o∧Mf (pB (o.looksAt ops) (ms j).next (Ts j)) T0∧m7 E r ops o base T0 (ms j) d (ms (j+1)).next∧Ts (j+1)=nk (Ts j) d.dst d.v∧(ms (j+1)).bl=yq d.bl (mR d.del (ms j).bl)∧(ms j).next≤(ms (j+1)).next∧(ms (j+1)).xs=d.xs++(ms j).xs:=by
  intro j d hj
  have hjl:j<ds.length:=(List.getElem?_eq_some_iff.1 hj).1
  have ho:ops[j]?=some ops[j]:=Array.getElem?_eq_getElem (by omega)
  obtain ⟨d',T0,h1,h2,h3,h4,h5,h6,h7⟩:=htr j ops[j] (by simp)
  rw [hj] at h1
  cases h1
  exact ⟨_,T0,ho,h2,h3,h4,h5,h6,h7⟩
 have oy:∀ j,j<ds.length→∃ d,ds[j]?=some d:=fun j hj=>⟨_,List.getElem?_eq_getElem hj⟩
 have hmono:∀ i,i<ds.length→(ms i).next≤(ms (i+1)).next:=by
  intro i hi
  obtain ⟨d,hd⟩:=oy i hi
  obtain ⟨_,_,_,_,_,_,_,h,_⟩:=ve i d hd
  exact h
 have K4:∀ j,j≤ds.length→(Ts j).n=T.n:=by
  intro j
  induction j with
  | zero=>intro _;rw [Vg]
  | succ j ih =>
   intro hj
   obtain ⟨d,hd⟩:=oy j (by omega)
   obtain ⟨_,_,_,_,_,h,_⟩:=ve j d hd
   rw [h,← ih (by omega)]
   cases d.dst <;> simp [nk,Tm.Fi]
 have Vi:∀ j,j≤ds.length→∀ t,(Ts j).get t=stat T.get (nq ds T.n) (fun _=>true) j t:=by
  intro j
  induction j with
  | zero=>intro _ t;rw [Vg];rfl
  | succ j ih =>
   intro hj t
   obtain ⟨d,hd⟩:=oy j (by omega)
   obtain ⟨_,_,_,_,_,h,_⟩:=ve j d hd
   have hl:=K4 j (by omega)
   rw [h]
   simp only [stat,if_true,← ih (by omega) t,nq,hd]
   cases G3:d.dst with
   | none=>simp [nk]
   | some t' =>
    simp only [nk,Tm.lS,hl,Option.some.injEq]
    by_cases e:t=t'
    ·subst e
     by_cases hlt:t<T.n
     ·simp [hlt]
     ·simp [hlt]
    ·rw [if_neg (fun h=>e h.1),if_neg (fun h=>e h.1.symm)]
     rfl
 have Vj:∀ j,j≤ds.length→∀ i,aH (ms j).bl i=stat (aH m.bl) (gK ds) (fun _=>true) j i:=by
  intro j
  induction j with
  | zero=>intro _ t;rw [G1];rfl
  | succ j ih =>
   intro hj i
   obtain ⟨d,hd⟩:=oy j (by omega)
   obtain ⟨_,_,_,_,_,_,h,_⟩:=ve j d hd
   rw [h,PZ,wI]
   simp only [stat,if_true,← ih (by omega) i,gK,hd]
   cases gQ d.bl i with
   | some b=>rfl
   | none=>by_cases hm:fW d.del i=true <;> simp [hm]
 have Vk:∀ j,j≤ds.length→∀ i,bR (ms j).xs i=stat (bR m.xs) (j_ ds) (fun _=>true) j i:=by
  intro j
  induction j with
  | zero=>intro _ t;rw [G1];rfl
  | succ j ih =>
   intro hj i
   obtain ⟨d,hd⟩:=oy j (by omega)
   obtain ⟨_,_,_,_,_,_,_,_,h⟩:=ve j d hd
   rw [h,N8]
   simp only [stat,if_true,← ih (by omega) i,j_,hd]
   cases bR d.xs i <;> rfl
 have K5:=OJ (ops:=ops) (all:=ds) (l:=ops.toList) (n:=0) (lI:=[]) rfl (Nat.zero_le _) aed rfl (fun p _ hp=>by omega)
 let Q:Exit→Act→World→Prop:=fun e a' w'=>e=.normal∧∃ D R1,(∀ i,i<ds.length→D i=true)∧sO a.defers ds T m ms n0 F w0 R w base D R1 a' w'
 have step:∀ (D:Nat→Bool) (R1:aX) (a1:Act) (w1:World) (j:Nat) (K:Act→World→Prop),(∀ i,D i=true→i<ds.length)→(∀ j o,D j=true→ops[j]?=some o→∀ p∈m9 o,D p=true)→sO a.defers ds T m ms n0 F w0 R w base D R1 a1 w1 →
   j<ds.length→D j=false→(∀ o,ops[j]?=some o→∀ p∈m9 o,D p=true) →
   (∀ R3 a2 w2,sO a.defers ds T m ms n0 F w0 R w base (fun i=>i==j||D i) R3 a2 w2→K a2 w2)→wpOp E.P ops Q j K a1 w1:=by
  intro D R1 a1 w1 j K hDl jG inv hj hD G4 hK
  obtain ⟨d,hd⟩:=oy j hj
  obtain ⟨o,T0,ho,aee,T5,hTj,hMj,_⟩:=ve j d hd
  obtain ⟨_,aef⟩:=K5 j d o (Nat.zero_le _) hd ho
  have early:∀ i x,i<j→ds[i]?=some x→lZ x d=true→D i=true:=fun i x hi hx hc=>Oh jG (aef i x hi hx hc) G4
  have late:∀ i x,j<i→D i=true→ds[i]?=some x→lZ d x=true→False:=by
   intro i x hi jH hx hc
   obtain ⟨o',_,ho',_⟩:=ve i x hx
   obtain ⟨_,aeg⟩:=K5 i x o' (Nat.zero_le _) hx ho'
   have:=Oh jG (aeg j d hi hd hc) fun o2 ho2 p hp=>jG i o2 jH ho2 p hp
   rw [hD] at this
   cases this
  have F3:∀ {i t},nq ds T.n i t≠none→∃ x,ds[i]?=some x∧x.dst=some t:=by
   intro i t h
   unfold nq at h
   cases hx:ds[i]? with
   | none=>rw [hx] at h;exact (h rfl).elim
   | some x =>
    rw [hx] at h
    dsimp only at h
    split at h
    ·rename_i hc;exact ⟨x,rfl,hc.1⟩
    ·exact (h rfl).elim
  have F4:∀ {i t},gK ds i t≠none→∃ x,ds[i]?=some x∧t∈x.dom:=by
   intro i t h
   unfold gK at h
   cases hx:ds[i]? with
   | none=>rw [hx] at h;exact (h rfl).elim
   | some x =>
    rw [hx] at h
    dsimp only at h
    cases hg:gQ x.bl t with
    | none =>
     rw [hg] at h
     dsimp only at h
     split at h
     ·rename_i hd;exact ⟨x,rfl,List.mem_append_right _ (oF.1 hd)⟩
     ·exact (h rfl).elim
    | some b=>exact ⟨x,rfl,Zz hg⟩
  have F5:∀ {i t},j_ ds i t≠none→∃ x,ds[i]?=some x∧t∈x.dom:=by
   intro i t h
   unfold j_ at h
   cases hx:ds[i]? with
   | none=>rw [hx] at h;exact (h rfl).elim
   | some x =>
    rw [hx] at h
    dsimp only at h
    cases hg:bR x.xs t with
    | none=>rw [hg] at h;exact (h rfl).elim
    | some b=>exact ⟨x,rfl,Ys hg⟩
  have aeh:∀ t,t∈d.looks→stat T.get (nq ds T.n) D ds.length t=(Ts j).get t:=by
   intro t ht
   rw [Vi j (by omega)]
   refine IB (by omega) (fun i hi hr=>?_) (fun i h1 h2 jH=>?_)
   ·obtain ⟨x,hx,jI⟩:=F3 hr
    exact early i x hi hx (by simp [lZ,qb (C5 jI) (List.mem_append_left (yu d.dst) ht)])
   ·rcases Nat.lt_or_ge j i with hlt | hge
    ·refine Classical.byContradiction fun hr=>?_
     obtain ⟨x,hx,jI⟩:=F3 hr
     exact late i x hlt jH hx (by simp [lZ,qb (C5 jI) ht])
    ·obtain rfl:i=j:=by omega
     rw [hD] at jH
     cases jH
  have Mk:∀ i,i∈d.aZ→stat (aH m.bl) (gK ds) D ds.length i=aH (ms j).bl i:=by
   intro t ht
   rw [Vj j (by omega)]
   refine IB (by omega) (fun i hi hr=>?_) (fun i h1 h2 jH=>?_)
   ·obtain ⟨x,hx,jI⟩:=F4 hr
    exact early i x hi hx (by simp [lZ,qb jI (List.mem_append_left d.dom ht)])
   ·rcases Nat.lt_or_ge j i with hlt | hge
    ·refine Classical.byContradiction fun hr=>?_
     obtain ⟨x,hx,jI⟩:=F4 hr
     exact late i x hlt jH hx (by simp [lZ,qb jI ht])
    ·obtain rfl:i=j:=by omega
     rw [hD] at jH
     cases jH
  have u_:∀ i,i∈d.aZ→stat (bR m.xs) (j_ ds) D ds.length i=bR (ms j).xs i:=by
   intro t ht
   rw [Vk j (by omega)]
   refine IB (by omega) (fun i hi hr=>?_) (fun i h1 h2 jH=>?_)
   ·obtain ⟨x,hx,jI⟩:=F5 hr
    exact early i x hi hx (by simp [lZ,qb jI (List.mem_append_left d.dom ht)])
   ·rcases Nat.lt_or_ge j i with hlt | hge
    ·refine Classical.byContradiction fun hr=>?_
     obtain ⟨x,hx,jI⟩:=F5 hr
     exact late i x hlt jH hx (by simp [lZ,qb jI ht])
    ·obtain rfl:i=j:=by omega
     rw [hD] at jH
     cases jH
  have acT:∀ t,nq ds T.n j t≠none→∀ i,j<i→i<ds.length→D i=true→nq ds T.n i t=none:=by
   intro t ht i hi _ jH
   refine Classical.byContradiction fun hr=>?_
   obtain ⟨x,hx,jI⟩:=F3 hr
   obtain ⟨y,hy,Cn⟩:=F3 ht
   rw [hd] at hy
   cases hy
   exact late i x hi jH hx (by simp [lZ,qb (C5 Cn) (List.mem_append_right x.looks (C5 jI))])
  have acU:∀ t,gK ds j t≠none→∀ i,j<i→i<ds.length→D i=true→gK ds i t=none:=by
   intro t ht i hi _ jH
   refine Classical.byContradiction fun hr=>?_
   obtain ⟨x,hx,jI⟩:=F4 hr
   obtain ⟨y,hy,Cn⟩:=F4 ht
   rw [hd] at hy
   cases hy
   exact late i x hi jH hx (by simp [lZ,qb Cn (List.mem_append_right x.aZ jI)])
  have acX:∀ t,j_ ds j t≠none→∀ i,j<i→i<ds.length→D i=true→j_ ds i t=none:=by
   intro t ht i hi _ jH
   refine Classical.byContradiction fun hr=>?_
   obtain ⟨x,hx,jI⟩:=F5 hr
   obtain ⟨y,hy,Cn⟩:=F5 ht
   rw [hd] at hy
   cases hy
   exact late i x hi jH hx (by simp [lZ,qb Cn (List.mem_append_right x.aZ jI)])
  have hTm:dY (iN R1 (ms j).next) (pB d.looks (ms j).next (Ts j)) a1:=by
   refine ⟨inv.size.trans (K4 j (by omega)).symm,fun i s hx=>?_⟩
   obtain ⟨h1,h2,h3⟩:=CK hx
   have hst:=aeh i h1
   rw [h2] at hst
   obtain ⟨v,k1,k2⟩:=inv.tm i _ hst
   exact ⟨v,k1,SV.cut h3 k2⟩
  have sD:∀ wr i b,aH (bV (ms j).next wr (ms j).bl d.aZ) i=some b→∃ c,stat (aH m.bl) (gK ds) D ds.length i=some c∧(b.wr=true→c.wr=true):=by
   intro wr i b hb
   obtain ⟨h1,c,h2,_,rfl⟩:=kT hb
   refine ⟨c,by rw [Mk i h1];exact h2,fun hw=>?_⟩
   simp only [Bool.and_eq_true] at hw
   exact hw.1
  have NA:∀ wr,Rel w1.heap.size (fun k=>∃ i b g,aH (bV (ms j).next wr (ms j).bl d.aZ) i=some b∧b.wr=true∧R1 i=some g∧g.b=k∧(n0≤k∨F k)) w1 (iN R1 (ms j).next) ⟨(ms j).next,bV (ms j).next wr (ms j).bl d.aZ,kE (ms j).xs (ms j).next d.aZ⟩ w1:=by
   intro wr
   refine ⟨fun i k g h b c h1 h2 h3 h4 h5 h6=>?_,fun i g h=>inv.lt i g (nI _ _ h),fun i g h=>?_,fun i b hb=>?_,Nat.le_refl _,iz.refl _ _ _,fun i x hx=>?_,fun i k g h x y hi hk hg hx hy=>?_,fun g cs hg=>?_⟩
   rotate_left 3
   ·obtain ⟨p1,p2,y,rfl,p3,p4,p5⟩:=CL hx
    have hst:=u_ i p1
    rw [p5] at hst
    obtain ⟨g,o,k1,k2,k3,k4⟩:=inv.xo i _ hst
    obtain ⟨r1,r2⟩:=XO.abA p3 p4 k3
    exact ⟨g,o,rR k1 p2,k2,r1,fun h=>by rw [r2] at h;cases h⟩
   ·obtain ⟨p1,p2,y1,_,_,_,p5⟩:=CL hx
    obtain ⟨q1,q2,y2,_,_,_,q5⟩:=CL hy
    have s1:=u_ i p1
    have s2:=u_ k q1
    rw [p5] at s1
    rw [q5] at s2
    exact inv.xi i k g h _ _ (nI _ _ hi) (nI _ _ hk) hg s1 s2
   ·obtain ⟨g1,g2,cs',ty,fz,g3,g4⟩:=hR.gl g cs hg
    refine ⟨Nat.lt_of_lt_of_le g1 inv.base,?_,cs',ty,fz,(inv.fr.block g g1 g2).trans g3,g4⟩
    rintro ⟨_,_,_,_,_,_,_,h | h⟩
    ·omega
    ·exact g2 h
   ·obtain ⟨b',k1,k2⟩:=sD wr i b h4
    obtain ⟨c',k3,k4⟩:=sD wr k c h5
    exact inv.inj i k g h b' c' (nI _ _ h1) (nI _ _ h2) h3 k1 k3 (h6.imp k2 k4)
   ·unfold iN at h
    split at h
    ·assumption
    ·cases h
   ·have hb':=hb
    obtain ⟨h1,c,h2,h3,rfl⟩:=kT hb
    have hst:=Mk i h1
    rw [h2] at hst
    obtain ⟨g,cs,fz,k1,k2,ks,k3,k4⟩:=inv.dS i c hst
    simp only [Bool.and_eq_true] at h3
    have NB:i<(ms j).next:=by simpa using h3.1
    refine ⟨g,cs,fz,rR k1 NB,k2,ks,SA.F6 h3.2 k3,fun hw=>?_⟩
    simp only [Bool.and_eq_true] at hw
    obtain ⟨k5,k6⟩:=k4 hw.1
    exact ⟨.inr ⟨i,_,g,hb',by simp [hw],k1,rfl,k5⟩,k6⟩
  obtain ⟨_,_,hxl,Mi,Nw,loc,Mj,hsame,abB,lH⟩:=abz hE hr T5 ho (aee _ _ (by rw [← T5.looks];exact hTm)) NA
  have abC:∀ i b,aH loc i=some b→∃ c,stat (aH m.bl) (gK ds) D ds.length i=some c∧(b.wr=true→c.wr=true):=by
   intro i b hb
   obtain ⟨h1,c,h2,h3⟩:=abB i b hb
   exact ⟨c,by rw [Mk i h1];exact h2,h3⟩
  exact lH K Q fun R2 m1 w2 u h1 h2 h3 h4 h4x h5 =>
   let ⟨R3,h6⟩:=inv.after hd hD (by rw [G1]) hmono acT acU acX hxl hR.nx Mi Nw Mj abC hsame h1 h2 h3 h4 h4x h5
   hK R3 _ _ h6
 have K6:∀ (listed:Array Bool) (i:Nat),i<listed.size→listed.getD i true=listed.getD i false:=by
  intro listed i hi
  simp [Array.getD,hi]
 have none:∀ (listed:Array Bool),listed.size=ops.size→Region.ready .any ops listed=[]→∀ i,i<ops.size→listed.getD i false=true:=by
  intro listed hsz hrd i
  induction i using Nat.strongRecOn with
  | ind i ih =>
   intro hi
   refine Classical.byContradiction fun hf=>?_
   have ho:ops[i]?=some ops[i]:=Array.getElem?_eq_getElem hi
   obtain ⟨d,hd⟩:=oy i (by omega)
   obtain ⟨acY,_⟩:=K5 i d ops[i] (Nat.zero_le _) hd ho
   have hmem:i∈Region.ready .any ops listed:=by
    unfold Region.ready
    refine List.mem_filter.2 ⟨List.mem_range.2 hi,?_⟩
    rw [K6 listed i (by omega),ho]
    have hf':listed.getD i false=false:=by simpa using hf
    rw [hf']
    simp only [Bool.not_false,Bool.true_and,Option.map_some,Option.getD_some,Array.all_eq_true,Bool.or_eq_true]
    intro k hk
    have he:=acY ops[i].after[k] (Array.getElem_mem_toList hk)
    cases hb:Region.binds .any ops[i].after[k] with
    | false=>exact .inl rfl
    | true=>exact .inr (ih _ (he hb) (by have:=he hb;omega))
   rw [hrd] at hmem
   cases hmem
 have all:∀ (fuel:Nat) (listed:Array Bool) (R1:aX) (a1:Act) (w1:World),listed.size=ops.size→(∀ j o,listed.getD j false=true→ops[j]?=some o→∀ p∈m9 o,listed.getD p false=true) →
   ((List.range ops.size).filter fun i=>!listed.getD i false).length≤fuel→sO a.defers ds T m ms n0 F w0 R w base (fun i=>listed.getD i false) R1 a1 w1→wpAny E.P .any ops Q fuel listed a1 w1:=by
  intro fuel
  induction fuel with
  | zero =>
   intro listed R1 a1 w1 hsz jG hc inv
   have hl:∀ i,i<ops.size→listed.getD i false=true:=by
    intro i hi
    refine Classical.byContradiction fun hf=>?_
    have:i∈(List.range ops.size).filter fun i=>!listed.getD i false:=List.mem_filter.2 ⟨List.mem_range.2 hi,by simpa using hf⟩
    rw [List.eq_nil_of_length_eq_zero (Nat.le_zero.1 hc)] at this
    cases this
   refine ⟨?_,rfl,_,R1,fun i hi=>hl i (by omega),inv⟩
   refine List.filter_eq_nil_iff.2 fun i hi=>?_
   rw [K6 listed i (by rw [hsz];exact List.mem_range.1 hi),hl i (List.mem_range.1 hi)]
   simp
  | succ fuel ih =>
   intro listed R1 a1 w1 hsz jG hc inv
   refine ⟨fun hrd=>⟨rfl,_,R1,fun i hi=>none listed hsz hrd i (by omega),inv⟩,fun j hj=>?_⟩
   unfold Region.ready at hj
   obtain ⟨Vl,hj2⟩:=List.mem_filter.1 hj
   have hjl:j<ops.size:=List.mem_range.1 Vl
   rw [K6 listed j (by omega)] at hj2
   simp only [Bool.and_eq_true] at hj2
   have Vm:listed.getD j false=false:=by simpa using hj2.1
   have G4:∀ o,ops[j]?=some o→∀ p∈m9 o,listed.getD p false=true:=by
    intro o ho p hp
    have h2:=hj2.2
    rw [ho] at h2
    simp only [Option.map_some,Option.getD_some,Array.all_eq_true,Bool.or_eq_true] at h2
    unfold m9 at hp
    obtain ⟨e,he,rfl⟩:=List.mem_map.1 hp
    obtain ⟨Cj,NC⟩:=List.mem_filter.1 he
    obtain ⟨k,hk,hke⟩:=List.getElem_of_mem Cj
    have hk':k<o.after.size:=by simpa using hk
    have:=h2 k hk'
    have aei:o.after[k]=e:=by rw [← hke];simp
    rw [aei,NC] at this
    simpa using this
   have upd:∀ i,(listed.setIfInBounds j true).getD i false=(i==j||listed.getD i false):=by
    intro i
    by_cases e:i=j
    ·subst e
     simp [Array.getD_eq_getD_getElem?,Array.getElem?_setIfInBounds_self_of_lt (show i<listed.size by omega)]
    ·simp [Array.getD_eq_getD_getElem?,Array.getElem?_setIfInBounds_ne (Ne.symm e),e]
   refine step (fun i=>listed.getD i false) R1 a1 w1 j _ (fun i hi=>?_) jG inv (by omega) Vm G4 fun R3 a2 w2 inv2=>?_
   ·rcases Nat.lt_or_ge i listed.size with h | h
    ·omega
    ·simp [Array.getD,Nat.not_lt.2 h] at hi
   ·refine ih (listed.setIfInBounds j true) R3 a2 w2 (by simpa using hsz) ?_ ?_ (by simpa only [upd] using inv2)
    ·intro i o hi ho p hp
     rw [upd] at hi ⊢
     simp only [Bool.or_eq_true,beq_iff_eq] at hi ⊢
     rcases hi with rfl | hi
     ·exact .inr (G4 o ho p hp)
     ·exact .inr (jG i o hi ho p hp)
    ·have hlt:((List.range ops.size).filter fun i=>!(listed.setIfInBounds j true).getD i false).length<((List.range ops.size).filter fun i=>!listed.getD i false).length:=by
      have e:((List.range ops.size).filter fun i=>!(listed.setIfInBounds j true).getD i false)=((List.range ops.size).filter fun i=>!listed.getD i false).filter fun i=>!(i==j):=by
       rw [List.filter_filter]
       refine List.filter_congr fun i _=>?_
       rw [upd]
       cases (i==j) <;> simp
      rw [e]
      refine List.length_filter_lt_length_iff_exists.2 ⟨j,List.mem_filter.2 ⟨Vl,by rw [Vm];rfl⟩,by simp⟩
     omega
 have start:sO a.defers ds T m ms n0 F w0 R w base (fun i=>(Array.replicate ops.size false).getD i false) R a { w with drawn:=w.drawn+1 }:=by
  have hnone:∀ i,(Array.replicate ops.size false).getD i false=false:=by
   intro i
   simp only [Array.getD_eq_getD_getElem?,Array.getElem?_replicate]
   split <;> rfl
  have e0:∀ {K V:Type} {init:K→V} {rec:Nat→K→Option V} (k:K),stat init rec (fun i=>(Array.replicate ops.size false).getD i false) ds.length k=init k:=by
   intro K V init rec k
   exact CM (Nat.zero_le _) fun i _ _ hi=>by rw [hnone] at hi;cases hi
  refine ⟨rfl,hT.1,Ext.refl R,fun i g h=>.inl h,Nat.le_refl _,?_,?_,hR.lt,fun i g h=>.inl (hR.nx i g h),?_,hR.base,⟨hR.fr.os,hR.fr.tape,hR.fr.output,hR.fr.size,hR.fr.block,hR.fr.sN⟩,?_,?_⟩
  ·intro t x ht
   rw [e0] at ht
   exact hT.2 t x ht
  ·intro i j g h b c h1 h2 h3 h4 h5
   rw [e0] at h4 h5
   exact hR.inj i j g h b c h1 h2 h3 h4 h5
  ·intro i b hb
   rw [e0] at hb
   exact hR.dS i b hb
  ·intro i x hx
   rw [e0] at hx
   exact hR.xo i x hx
  ·intro i j g h x y h1 h2 h3 h4 h5
   rw [e0] at h4 h5
   exact hR.xi i j g h x y h1 h2 h3 h4 h5
 have hwp:=all ops.size _ R a _ (by simp) (fun j o hj=>by
   have:(Array.replicate ops.size false).getD j false=false:=by
    simp only [Array.getD_eq_getD_getElem?,Array.getElem?_replicate]
    split <;> rfl
   rw [this] at hj
   cases hj) (by
   refine Nat.le_trans (List.length_filter_le _ _) ?_
   simp) start
 have aej:wpOps E.P ops Q (Region.schedule (E.P.follows .mixedOrders) ops (w.tape w.drawn (.order b.fn id))) a { w with drawn:=w.drawn+1 }:=by
  simp only [Region.schedule,hE.mixed,Bool.true_or,if_true]
  exact wpAny_sound ops.size _ _ a _ hwp
 obtain ⟨a',w',⟨_,D,R1,hD,inv⟩,hst⟩:=OL (fun _ _ _ h=>h.1) b (hb.imp (fun h=>h) Wq) k cs _ _ _ aej
 have aek:Steps E.P (lone (b.atR a (.code (.region id ops true) :: k)) cs w) (lone (b.atR a' k) cs w'):=.head stepR_region_draw hst
 have eT:∀ t,stat T.get (nq ds T.n) D ds.length t=T'.get t:=by
  intro t
  rw [← Vh,← hlen,Vi _ (Nat.le_refl _)]
  exact wz fun i hi _=>hD i hi
 have eB:∀ i,stat (aH m.bl) (gK ds) D ds.length i=aH m'.bl i:=by
  intro i
  rw [← G2,← hlen,Vj _ (Nat.le_refl _)]
  exact wz fun j hj _=>hD j hj
 have eX:∀ i,stat (bR m.xs) (j_ ds) D ds.length i=bR m'.xs i:=by
  intro i
  rw [← G2,← hlen,Vk _ (Nat.le_refl _)]
  exact wz fun j hj _=>hD j hj
 have Sg:∀ i k,i≤k→k≤ds.length→(ms i).next≤(ms k).next:=by
  intro i k hik
  induction k with
  | zero =>
   intro _
   obtain rfl:i=0:=(by omega)
   exact Nat.le_refl _
  | succ k ih =>
   intro hk
   by_cases e:i=k+1
   ·rw [e];exact Nat.le_refl _
   ·exact Nat.le_trans (ih (by omega) (by omega)) (hmono k (by omega))
 have hnext:m.next≤m'.next:=by
  rw [← G1,← G2,← hlen]
  exact Sg 0 _ (by omega) (Nat.le_refl _)
 refine ⟨a',w',R1,⟨⟨inv.ext,inv.new,inv.K1⟩,hnext⟩,?_,inv.defers,?_,aek⟩
 ·have e:T'.n=T.n:=by rw [← Vh,← hlen];exact K4 _ (Nat.le_refl _)
  refine ⟨inv.size.trans e.symm,fun i s hx=>?_⟩
  rw [← eT] at hx
  exact inv.tm i s hx
 ·have ael:Rel n0 F w0 R1 ⟨m'.next,m'.bl,m'.xs⟩ w':=by
   refine ⟨fun i j g h b c h1 h2 h3 h4 h5=>inv.inj i j g h b c h1 h2 h3 (by rw [eB];exact h4) (by rw [eB];exact h5),inv.lt,fun i g h=>?_,fun i b hb=>?_,inv.base,inv.fr,fun i x hx=>inv.xo i x (by rw [eX];exact hx),fun i j g h x y h1 h2 h3 h4 h5=>inv.xi i j g h x y h1 h2 h3 (by rw [eX];exact h4) (by rw [eX];exact h5),hR.gl⟩
   ·show i<m'.next
    rcases inv.dom i g h with h | ⟨k,hk,_,_,h5⟩
    ·omega
    ·have:=Sg (k+1) ds.length (by omega) (Nat.le_refl _)
     rw [hlen,G2] at this
     omega
   ·have hb:aH m'.bl i=some b:=hb
    rw [← eB] at hb
    exact inv.dS i b hb
  exact ael
end
end Go.Proofs.YtldoopjnjlpbpaaGreatDoor
