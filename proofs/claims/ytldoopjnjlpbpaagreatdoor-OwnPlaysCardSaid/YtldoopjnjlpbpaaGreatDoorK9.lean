/- A region that draws its order: each order leads to what the text's own order shows, if operations that clash are ordered. No condition. -/
import Derived.Test.YtldoopjnjlpbpaaGreatDoorK8m
set_option linter.unusedVariables false
set_option linter.unusedSimpArgs false
namespace Go.Proofs.YtldoopjnjlpbpaaGreatDoor
def iN (R:aX) (n:Nat):aX:=fun i=>if i<n then R i else none
theorem pX {α:Type} {p:α→Bool}:∀ {l:List α},gm p l=true↔∀ x∈l,p x=true
 | []=>by simp [Yy]
 | a :: l=>by simp [wA,pX (l:=l)]
section
variable {R:aX} {n:Nat}
theorem nI:Ext (iN R n) R:=by
 intro i g h
 unfold iN at h
 split at h
 ·exact h
 ·cases h
theorem rR {i:Nat} {g:Loc} (h:R i=some g) (hi:i<n):iN R n i=some g:=by
 unfold iN
 rw [if_pos hi]
 exact h
theorem SF.cut {x:SF} {v:Value} (hl:x.lt n=true) (h:x.ok R v):x.ok (iN R n) v:=by
 cases x with
 | ptr id off =>
  obtain ⟨g,h1,h2⟩:=h
  exact ⟨g,rR h1 (by simpa [SF.lt] using hl),h2⟩
 | slice id off len cap =>
  obtain ⟨g,c,h1,h2⟩:=h
  exact ⟨g,c,rR h1 (by simpa [SF.lt] using hl),h2⟩
 | mp id =>
  obtain ⟨g,h1,h2⟩:=h
  exact ⟨g,rR h1 (by simpa [SF.lt] using hl),h2⟩
 | _=>exact h
theorem aK.cut {α:Type} {p:α→Bool} {r s:α→Value→Prop} (v_:∀ a v,p a=true→r a v→s a v):∀ {l:List α} {m:List Value},gm p l=true→aK r l m→aK s l m
 | [],[],_,_=>trivial
 | a :: l,v :: m,hl,h=>by
  simp only [wA,Bool.and_eq_true] at hl
  exact ⟨v_ _ _ hl.1 h.1,aK.cut v_ hl.2 h.2⟩
 | [],_ :: _,_,h=>h.elim
 | _ :: _,[],_,h=>h.elim
theorem SC.cut {x:SC} {v:Value} (hl:x.lt n=true) (h:x.ok R v):x.ok (iN R n) v:=by
 cases x with
 | f x=>exact SF.cut hl h
 | fn g a b =>
  simp only [SC.lt,Bool.and_eq_true] at hl
  obtain ⟨x,y,h1,h2,h3⟩:=h
  exact ⟨x,y,h1,aK.cut (fun _ _=>SF.cut) hl.1 h2,aK.cut (fun _ _=>SF.cut) hl.2 h3⟩
 | yl id =>
  obtain ⟨g,h1,h2⟩:=h
  exact ⟨g,rR h1 (by simpa [SC.lt] using hl),h2⟩
 | kf t a l=>cases a <;> (obtain ⟨x,h1,h2⟩:=h;exact ⟨x,h1,aK.cut (fun _ _=>SF.cut) hl h2⟩)
theorem SA.cut {x:SA} {v:Array Value} (hl:x.lt n=true) (h:x.ok R v):x.ok (iN R n) v:=by
 cases x with
 | ls l=>exact aK.cut (r:=SC.ok R) (fun _ _=>SC.cut) hl h
 | pre l=>exact ⟨aK.cut (r:=SC.ok R) (fun _ _=>SC.cut) hl h.1,h.2⟩
 | op cs=>exact h
 | pop cs=>exact h
 | raw cs=>exact h
theorem SA.F6 {x:SA} {v:Array Value} (hl:x.lt n=true) (h:x.cH R v):x.cH (iN R n) v:=by
 cases x with
 | ls l=>exact SA.cut (x:=.ls l) hl h
 | pre l=>exact SA.cut (x:=.pre l) hl h
 | op cs=>exact h
 | pop cs=>exact h
 | raw cs=>exact h
theorem S1.cut {x:S1} {v:Value} (hl:x.lt n=true) (h:x.ok R v):x.ok (iN R n) v:=by
 cases x with
 | c x=>exact SC.cut hl h
 | agg a=>obtain ⟨cs,h1,h2⟩:=h;exact ⟨cs,h1,SA.cut hl h2⟩
theorem SV.cut {x:SV} {v:Value} (hl:x.lt n=true) (h:x.ok R v):x.ok (iN R n) v:=by
 cases x with
 | s x=>exact S1.cut hl h
 | bW l=>obtain ⟨cs,h1,h2⟩:=h;exact ⟨cs,h1,aK.cut (fun _ _=>S1.cut) hl h2⟩
end
theorem kT {n:Nat} {wr:Bool} {bl:Tr bN}:∀ {l:List Nat} {i:Nat} {b:bN},aH (bV n wr bl l) i=some b→i∈l∧∃ c,aH bl i=some c∧(Nat.blt i n&&c.arr.lt n)=true∧b=⟨c.arr,c.ty,c.wr&&wr⟩
 | [],i,b,h=>by
  have h:(Tr.nil:Tr bN).get i=some b:=h
  rw [Tr.get_nil] at h
  cases h
 | j :: l,i,b,h=>by
  have skip:aH (bV n wr bl l) i=some b→i∈j :: l∧∃ c,aH bl i=some c∧(Nat.blt i n&&c.arr.lt n)=true∧b=⟨c.arr,c.ty,c.wr&&wr⟩:=fun h =>
   let ⟨h1,h2⟩:=kT h
   ⟨List.mem_cons_of_mem _ h1,h2⟩
  simp only [bV] at h
  split at h
  ·rename_i c hc
   split at h
   ·rename_i hlt
    rw [jv] at h
    split at h
    ·rename_i e
     subst e
     cases h
     exact ⟨List.mem_cons_self ..,c,hc,hlt,rfl⟩
    ·exact skip h
   ·exact skip h
  ·exact skip h
theorem rL {n:Nat} {wr:Bool} {bl:Tr bN} {c:bN} {i:Nat} (hc:aH bl i=some c) (hl:(Nat.blt i n&&c.arr.lt n)=true):∀ {l:List Nat},i∈l→aH (bV n wr bl l) i=some ⟨c.arr,c.ty,c.wr&&wr⟩
 | j :: l,h=>by
  simp only [bV]
  have jg:bl.get i=some c:=hc
  by_cases e:j=i
  ·subst e
   rw [jg]
   dsimp only
   rw [hl]
   dsimp only
   rw [jv,if_pos rfl]
  ·have hi:i∈l:=by
    rcases List.mem_cons.1 h with h | h
    ·exact (e h.symm).elim
    ·exact h
   split
   ·split
    ·rw [jv,if_neg (fun h=>e h.symm)]
     exact rL hc hl hi
    ·exact rL hc hl hi
   ·exact rL hc hl hi
theorem CE {n:Nat} {bl:Tr bN} {aZ dst:List Nat} {i:Nat} {b:bN} (h:aH (rX n bl aZ dst) i=some b) :
  i∈aZ∧∃ c,aH bl i=some c∧(Nat.blt i n&&c.arr.lt n)=true∧b.arr=c.arr∧b.ty=c.ty∧(b.wr=true→c.wr=true∧i∈dst):=by
 have ro:∀ {i b},aH (bV n false bl aZ) i=some b→i∈aZ∧∃ c,aH bl i=some c∧(Nat.blt i n&&c.arr.lt n)=true∧b.arr=c.arr∧b.ty=c.ty∧(b.wr=true→c.wr=true∧i∈dst):=by
  intro i b h
  obtain ⟨h1,c,h2,h3,rfl⟩:=kT h
  exact ⟨h1,c,h2,h3,rfl,rfl,fun h=>by simp at h⟩
 unfold rX at h
 split at h
 ·rename_i k l
  split at h
  ·rename_i c hc
   split at h
   ·rename_i hk
    rw [jv] at h
    split at h
    ·rename_i e
     subst e
     cases h
     simp only [Bool.and_eq_true] at hk
     exact ⟨oF.1 hk.2,c,hc,by rw [Bool.and_eq_true];exact hk.1,rfl,rfl,fun h=>⟨h,List.mem_cons_self ..⟩⟩
    ·exact ro h
   ·exact ro h
  ·exact ro h
 ·exact ro h
theorem wI:∀ (l:List Nat) (t:Tr bN) (i:Nat),aH (mR l t) i=if fW l i=true then none else aH t i
 | [],t,i=>by simp [mR,P4]
 | a :: l,t,i=>by
  simp only [mR,jv,OP,wI l t i]
  by_cases e:i=a
  ·subst e;simp
  ·have e':Nat.beq a i=false:=by
    cases h:Nat.beq a i with
    | false=>rfl
    | true=>exact (e (Nat.eq_of_beq_eq_true h).symm).elim
   have e2:(Nat.beq a i||fW l i)=fW l i:=by rw [e',Bool.false_or]
   simp only [if_neg e,e2]
theorem lK {bl:Tr bN}:∀ {l:List Nat} {i:Nat} {b:bN},gQ (collect bl l) i=some b→i∈l∧aH bl i=some b
 | [],_,_,h=>by cases h
 | j :: l,i,b,h=>by
  simp only [collect] at h
  split at h
  ·rename_i c hc
   simp only [gQ] at h
   split at h
   ·rename_i e
    have e':j=i:=by simpa using e
    subst e'
    cases h
    exact ⟨List.mem_cons_self ..,hc⟩
   ·obtain ⟨h1,h2⟩:=lK h
    exact ⟨List.mem_cons_of_mem _ h1,h2⟩
  ·obtain ⟨h1,h2⟩:=lK h
   exact ⟨List.mem_cons_of_mem _ h1,h2⟩
theorem CB {bl:Tr bN} {i:Nat} {b:bN} (hb:aH bl i=some b):∀ {l:List Nat},i∈l→gQ (collect bl l) i=some b
 | [],h=>by cases h
 | j :: l,h=>by
  simp only [collect]
  by_cases e:j=i
  ·subst e
   have hb:bl.get j=some b:=hb
   rw [hb]
   simp [gQ]
  ·have h':i∈l:=by
    rcases List.mem_cons.1 h with h | h
    ·exact (e h.symm).elim
    ·exact h
   have ih:=CB hb h'
   split
   ·simp only [gQ]
    rw [if_neg (by simpa using e)]
    exact ih
   ·exact ih
theorem PZ:∀ (l:List (Nat × bN)) (t:Tr bN) (i:Nat),aH (yq l t) i=match gQ l i with | some x=>some x | none=>aH t i
 | [],_,_=>rfl
 |(j,b) :: l,t,i=>by
  simp only [yq,gQ]
  rw [jv]
  by_cases e:i=j
  ·subst e;simp
  ·rw [if_neg e,if_neg (by simpa using fun h=>e h.symm)]
   exact PZ l t i
theorem oA:∀ {k n i:Nat},i∈m8 k n→n≤i
 | 0,_,_,h=>by cases h
 | k+1,n,i,h=>by
  rcases List.mem_cons.1 h with rfl | h
  ·exact Nat.le_refl _
  ·have:=oA h;omega
theorem HU {a b:Tr bN} {aZ:List Nat} (h:sA a b aZ=true) {i:Nat} {x:bN} (hi:i∈aZ) (hx:aH a i=some x):∃ y,aH b i=some y:=by
 have:=pX.1 h i hi
 have hx:a.get i=some x:=hx
 rw [hx] at this
 exact Option.isSome_iff_exists.1 this
theorem HV {a b:Tr bN} {aZ:List Nat} (h:sC a b aZ=true) {i:Nat} {x:bN} (hi:i∈aZ) (hx:aH b i=some x):∃ y,aH a i=some y∧y.wr=x.wr:=by
 have:=pX.1 h i hi
 have hx:b.get i=some x:=hx
 rw [hx] at this
 dsimp only at this
 split at this
 ·rename_i y hy
  exact ⟨y,hy,by simpa using this⟩
 ·cases this
theorem XO.F6 {R:aX} {n:Nat} {es:List (SF × S1 × Nat)} {c:Nat} {o:Obj} (hl:(XO.map es c).lt n=true) (h:(XO.map es c).ok R o):(XO.kH es c).ok (iN R n) o:=by
 obtain ⟨l,h1,h2⟩:=h
 refine ⟨l,h1,?_⟩
 replace hl:gm (fun (x:SF × S1 × Nat)=>x.1.lt n&&x.2.1.lt n) es=true:=hl
 clear h1
 generalize l.toList=l at h2
 induction es generalizing l with
 | nil=>cases l with
  | nil=>trivial
  | cons _ _=>exact h2.elim
 | cons x es ih=>cases l with
  | nil=>exact h2.elim
  | cons e l =>
   simp only [wA,Bool.and_eq_true] at hl
   obtain ⟨⟨k1,k2,k3⟩,k4⟩:=h2
   exact ⟨⟨SF.cut hl.1.1 k1,S1.cut hl.1.2 k2,k3⟩,ih hl.2 l k4⟩
def XO.zb:XO→XO
 | .map es c=>.kH es c
 | .kI _ kk vk es=>.kI false kk vk es
 | x=>x
def XO.Ct:XO→Bool
 | .map _ _ | .kH _ _ | .kI _ _ _ _=>true
 | _=>false
theorem XO.abA {R:aX} {n:Nat} {x:XO} {o:Obj} (hm:x.Ct=true) (hl:x.lt n=true) (h:x.ok R o):x.zb.ok (iN R n) o∧x.zb.own=false:=by
 cases x with
 | map es c=>exact ⟨XO.F6 hl h,rfl⟩
 | kH es c=>exact ⟨XO.F6 (es:=es) (c:=c) hl h,rfl⟩
 | kI w kk vk es=>exact ⟨h,rfl⟩
 | _=>cases hm
theorem CL {xs:List XB} {n:Nat}:∀ {l:List Nat} {i:Nat} {x:XO},bR (kE xs n l) i=some x→i∈l∧i<n∧∃ y,x=y.zb∧y.Ct=true∧y.lt n=true∧bR xs i=some y
 | [],_,_,h=>by cases h
 | j :: l,i,x,h=>by
  have skip:bR (kE xs n l) i=some x→i∈j :: l∧i<n∧∃ y,x=y.zb∧y.Ct=true∧y.lt n=true∧bR xs i=some y:=fun h =>
   let ⟨k1,k2⟩:=CL h
   ⟨List.mem_cons_of_mem _ k1,k2⟩
  have take:∀ {y},bR xs j=some y→y.Ct=true→bR (if (Nat.blt j n&&y.lt n)=true then ⟨j,y.zb⟩ :: kE xs n l else kE xs n l) i=some x →
    i∈j :: l∧i<n∧∃ y,x=y.zb∧y.Ct=true∧y.lt n=true∧bR xs i=some y:=by
   intro y hj hm h
   split at h
   ·rename_i hc
    simp only [Bool.and_eq_true] at hc
    simp only [bR] at h
    split at h
    ·rename_i e
     have e':j=i:=by simpa using e
     cases h
     subst e'
     exact ⟨List.mem_cons_self ..,by simpa using hc.1,y,rfl,hm,hc.2,hj⟩
    ·exact skip h
   ·exact skip h
  simp only [kE] at h
  split at h
  ·rename_i es c hj
   exact take hj rfl h
  ·rename_i es c hj
   exact take hj rfl h
  ·rename_i w kk vk es hj
   refine take hj rfl ?_
   rw [show (Nat.blt j n&&(XO.kI w kk vk es).lt n)=Nat.blt j n from Bool.and_true _]
   exact h
  ·exact skip h
theorem oB {n:Nat}:∀ {l:List XB} {i:Nat} {x:XO},bR (pC n l) i=some x→n≤i∧bR l i=some x
 | [],_,_,h=>by cases h
 | c :: l,i,b,h=>by
  simp only [pC] at h
  split at h
  ·rename_i hn
   simp only [bR] at h ⊢
   split at h
   ·rename_i e
    cases h
    have e':c.id=i:=by simpa using e
    rw [if_pos e]
    exact ⟨by simpa [e'] using hn,rfl⟩
   ·rename_i e
    rw [if_neg e]
    exact oB h
  ·rename_i hn
   obtain ⟨h1,h2⟩:=oB h
   refine ⟨h1,?_⟩
   have:¬ Nat.beq c.id i=true:=by
    intro e
    have e':c.id=i:=by simpa using e
    subst e'
    exact hn (by simpa using h1)
   simp only [bR]
   rw [if_neg this]
   exact h2
theorem N8:∀ (a b:List XB) (i:Nat),bR (a++b) i=match bR a i with | some x=>some x | none=>bR b i
 | [],b,i=>by simp [bR]
 | c :: a,b,i=>by
  simp only [List.cons_append,bR]
  split
  ·rfl
  ·exact N8 a b i
theorem O7 {T:Tm} {n:Nat}:∀ {l:List Nat} {i:Nat} {x:Option SV},(uW T n l).get i=some x→∃ s,x=some s∧i∈l∧T.get i=some s∧s.lt n=true
 | [],i,x,h=>by
  have h:(Tr.nil:Tr (Option SV)).get i=some x:=h
  rw [Tr.get_nil] at h
  cases h
 | j :: l,i,x,h=>by
  have skip:(uW T n l).get i=some x→∃ s,x=some s∧i∈j :: l∧T.get i=some s∧s.lt n=true:=fun h =>
   let ⟨s,h1,h2,h3⟩:=O7 h
   ⟨s,h1,List.mem_cons_of_mem _ h2,h3⟩
  simp only [uW] at h
  split at h
  ·rename_i v hv
   split at h
   ·rename_i hlt
    rw [Tr.lS] at h
    split at h
    ·rename_i e
     subst e
     cases h
     exact ⟨v,rfl,List.mem_cons_self ..,hv,hlt⟩
    ·exact skip h
   ·exact skip h
  ·exact skip h
theorem CK {keep:List Nat} {n:Nat} {T:Tm} {i:Nat} {s:SV} (h:(pB keep n T).get i=some s):i∈keep∧T.get i=some s∧s.lt n=true:=by
 unfold Tm.get pB at h
 dsimp only at h
 split at h
 ·rename_i x hx
  subst h
  obtain ⟨s',e,h1,h2,h3⟩:=O7 hx
  cases e
  exact ⟨h1,h2,h3⟩
 ·split at h
  ·cases h
  ·cases h
section over
variable {K V:Type} (init:K→V) (rec:Nat→K→Option V)
def stat (D:Nat→Bool):Nat→K→V
 | 0,k=>init k
 | i+1,k=>if D i then (rec i k).getD (stat D i k) else stat D i k
variable {init rec}
theorem CM {D:Nat→Bool} {k:K} {j:Nat}:∀ {n:Nat},j≤n→(∀ i,j≤i→i<n→D i=true→rec i k=none)→stat init rec D n k=stat init rec D j k
 | 0,h,_=>by
  obtain rfl:j=0:=(by omega)
  rfl
 | n+1,h,hn=>by
  by_cases e:j=n+1
  ·rw [e]
  ·rw [stat]
   have ih:=CM (n:=n) (show j≤n by omega) fun i h1 h2=>hn i h1 (by omega)
   split
   ·rename_i hd
    rw [hn n (by omega) (by omega) hd,Option.getD_none,ih]
   ·exact ih
theorem wz {D D':Nat→Bool} {k:K}:∀ {n:Nat},(∀ i,i<n→rec i k≠none→D i=D' i)→stat init rec D n k=stat init rec D' n k
 | 0,_=>rfl
 | n+1,h=>by
  have ih:=wz (n:=n) fun i hi=>h i (by omega)
  simp only [stat,ih]
  cases hr:rec n k with
  | none=>cases D n <;> cases D' n <;> simp
  | some v=>rw [h n (by omega) (by simp [hr])]
theorem IB {D:Nat→Bool} {k:K} {j n:Nat} (hj:j≤n) (h1:∀ i,i<j→rec i k≠none→D i=true) (h2:∀ i,j≤i→i<n→D i=true→rec i k=none) :
  stat init rec D n k=stat init rec (fun _=>true) j k:=by
 rw [CM hj h2]
 exact wz fun i hi hr=>h1 i hi hr
theorem zF {D:Nat→Bool} {k:K} {j n:Nat} (hj:j<n) (hD:D j=false) (h:rec j k≠none→∀ i,j<i→i<n→D i=true→rec i k=none) :
  stat init rec (fun i=>i==j||D i) n k=(rec j k).getD (stat init rec D n k):=by
 cases hr:rec j k with
 | none =>
  rw [Option.getD_none]
  refine wz fun i _ hi=>?_
  by_cases e:i=j
  ·subst e;exact (hi hr).elim
  ·simp [e]
 | some v =>
  have h':=h (by simp [hr])
  rw [Option.getD_some,CM (j:=j+1) (by omega) fun i h1 h2 hd=>h' i (by omega) h2 (by
   have:i≠j:=by omega
   simpa [this] using hd)]
  simp [stat,hr]
end over
end Go.Proofs.YtldoopjnjlpbpaaGreatDoor
